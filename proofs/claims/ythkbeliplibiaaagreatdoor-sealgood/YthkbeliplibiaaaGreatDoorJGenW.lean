/- ValueOf of the statements: what the call returns. -/
import Derived.Test.YthkbeliplibiaaaGreatDoorJGenA
namespace Go.Proofs.YthkbeliplibiaaaGreatDoor
set_option linter.unusedVariables false
set_option linter.unusedSimpArgs false
open Go.RowKit

set_option maxRecDepth 100000 in
set_option maxHeartbeats 4000000 in
theorem gen_step (deep : Nat) (h1 : 1 ≤ deep) (h5 : deep ≤ 5) (ih : 2 ≤ deep → GenOk (deep - 1)) : GenOk deep := by
  intro A n c B w hB hI
  obtain ⟨i0, hi0, _, hz1, _⟩ := info_parts info_int
  -- the first number, and the rest
  obtain ⟨z, A1, n1, c1, hz0, hz9, hI1, hhd⟩ : ∃ (z : Int) (A1 : Option Addr) (n1 c1 : Nat), -9223372036854775808 ≤ z ∧ z ≤ 9223372036854775807 ∧ IntsAt w B A1 n1 c1 ∧
      ((n = 0 ∧ z = 0 ∧ A1 = A ∧ n1 = n ∧ c1 = c) ∨ (0 < n ∧ (∃ b off, A = some ⟨b, off, none⟩ ∧ b < B ∧ w.cell? ⟨b, off, none⟩ = some (.int .i64 z)) ∧ A1 = cutAt A c 1 1 ∧ n1 = n - 1 ∧ c1 = c - 1)) := by
    by_cases hn : 0 < n
    · obtain ⟨b, off, z, e, hb, hc, h1, h2⟩ := hI.head hn
      exact ⟨z, _, _, _, h1, h2, hI.tail hn, .inr ⟨hn, ⟨b, off, e, hb, hc⟩, rfl, rfl, rfl⟩⟩
    · exact ⟨0, A, n, c, by omega, by omega, hI, .inl ⟨by omega, rfl, rfl, rfl, rfl⟩⟩
  have hp9 := Int.emod_nonneg z (show (9 : Int) ≠ 0 by omega)
  have hp9' := Int.emod_lt_of_pos z (show (0 : Int) < 9 by omega)
  have hp5 := Int.emod_nonneg z (show (5 : Int) ≠ 0 by omega)
  have hp5' := Int.emod_lt_of_pos z (show (0 : Int) < 5 by omega)
  -- the kind that is picked
  obtain ⟨k, hk0, hk9, hkd⟩ : ∃ k : Int, 0 ≤ k ∧ k < 9 ∧ k = if deep ≤ 1 then z % 5 else z % 9 := ⟨_, by split <;> omega, by split <;> omega, rfl⟩
  have Hk5 := Lib.hid (show 5 ≤ k → 2 ≤ deep by rw [hkd]; split <;> omega)
  obtain ⟨q, hq⟩ : ∃ q, z.tdiv 9 = q := ⟨_, rfl⟩
  have hqb : -9223372036854775808 ≤ q ∧ q ≤ 9223372036854775807 := by
    have := Int.natAbs_tdiv z 9
    rw [hq] at this
    have h9 : (9 : Int).natAbs = 9 := rfl
    rw [h9] at this
    have h10 := Nat.div_le_self z.natAbs 9
    have h11 : z.natAbs / 9 < 9223372036854775807 := by omega
    have h12 : q.natAbs < 9223372036854775807 := by rw [this]; exact h11
    omega
  have hbox := Blk.new w 25 #[.int .i64 0, .int .i64 0, str [], .slice none 0 0, .slice none 0 0]
  have hbw : Below w.heap.size w (w.alloc (.cells #[.int .i64 0, .int .i64 0, str [], .slice none 0 0, .slice none 0 0] 25)) := (Below.refl _ _).alloc (Nat.le_refl _) _
  clear hp9 hp9' hp5 hp5'
  have hnum : ∀ (m : Int), -9007199254740992 < m → m < 9007199254740992 → OkAt deep (.mk 4 m [] [] []) ∧ count (.mk 4 m [] [] []) ≤ cnt3 deep := fun m h1' h2' =>
    ⟨okAt_of h1 (alone_num m h1' h2') fun d _ => by unfold faults; rfl, by have := cnt3_pos deep h1; simp [count, counts]; omega⟩
  have hwrd : ∀ (m : Int), 1 ≤ m ∧ m ≤ 3 → OkAt deep (.mk m 0 [] [] []) ∧ count (.mk m 0 [] [] []) ≤ cnt3 deep := fun m h1' =>
    ⟨okAt_of h1 (alone_word m h1') fun d _ => by unfold faults; rfl, by have := cnt3_pos deep h1; simp [count, counts]; omega⟩
  have hstr : ∀ (t : List UInt8), OkAt deep (.mk 5 0 t [] []) ∧ count (.mk 5 0 t [] []) ≤ cnt3 deep := fun t =>
    ⟨okAt_of h1 (alone_str t) fun d _ => by unfold faults; rfl, by have := cnt3_pos deep h1; simp [count, counts]; omega⟩
  rcases hhd with ⟨rfl, rfl, rfl, rfl, rfl⟩ | ⟨hn, ⟨b, off, rfl, hb, hcell⟩, hA1, hn1, hc1⟩
  · have Hn0 := Lib.hid (hnum 0 (by omega) (by omega))
    clear hkd hq hnum hwrd hstr Hk5 hk0 hk9
    by_cases hd1 : deep ≤ 1
    all_goals
      go_enter Tryz.func28, Tryz.ntmps28
      go_wp2_with ((go_at_call 27; refine (picked_any _ _ _ (by omega) (by omega)).mono ?_; rintro e y ⟨rfl, rfl⟩))
      refine ret_val (by rfl) (by rfl) (by rfl) (Blk.new w 25 _) (by rfl) ?_
      exact ⟨.mk 4 0 [] [] [], _, A1, 0, c1, rfl, vin_num _ _ 0 (by omega), Hn0.out.1, Hn0.out.2, hI1.below ((Below.refl _ _).alloc (by omega) _), (Below.refl _ _).alloc (Nat.le_refl _) _⟩
  have hcut := fun W => run_cut_l (P := Tryz.prog) W 31 3 i0 Tryz.underlying31 hi0 (some ⟨b, off, none⟩) n c .i64 1 1 rfl (by omega)
  rw [hz1, ← hA1, ← hn1, ← hc1] at hcut
  have hnI : (0 : Int) < (n : Int) := by omega
  have hbsz : b < w.heap.size := by omega
  clear hA1 hn1 hc1
  have pk := fun W => picked_any z 9 W (by omega) (by omega)
  have pk5 := fun W => picked_any z 5 W (by omega) (by omega)
  have hz9' := Int.emod_nonneg z (show (9 : Int) ≠ 0 by omega)
  obtain ⟨_, _, tm1, tm2⟩ := tmod_pick q 1000000 (by omega)
  by_cases hd1 : deep ≤ 1
  · rw [if_pos hd1] at hkd
    have hz5 : z % 5 = k := hkd.symm
    have hk4 : k < 5 := by omega
    rw [hz5] at pk5
    clear hkd hz5
    generalize z % 9 = z9 at *
    by_cases hk2 : k < 2
    · go_enter Tryz.func28, Tryz.ntmps28
      go_wp2_with fail
      refine (pk _).mono ?_
      rintro e y ⟨rfl, rfl⟩
      go_wp2_with fail
      refine (pk5 _).mono ?_
      rintro e y ⟨rfl, rfl⟩
      go_wp2_with fail
      refine ret_val (by rfl) (by rfl) (by rfl) (Blk.new w 25 _) (by rfl) ?_
      exact ⟨.mk 4 (q.tmod 1000000) [] [] [], _, A1, n1, c1, rfl, vin_num _ _ _ (by omega), (hnum _ (by omega) (by omega)).1, (hnum _ (by omega) (by omega)).2, hI1.below ((Below.refl _ _).alloc (by omega) _), (Below.refl _ _).alloc (Nat.le_refl _) _⟩
    by_cases hk3 : k = 2
    · subst hk3
      have pk3 := fun W => picked_any q 3 W (by omega) (by omega)
      rcases (by omega : q % 3 = 0 ∨ q % 3 = 1 ∨ q % 3 = 2) with h | h | h
      all_goals
        rw [h] at pk3
        go_enter Tryz.func28, Tryz.ntmps28
        go_wp2_with fail
        refine (pk _).mono ?_
        rintro e y ⟨rfl, rfl⟩
        go_wp2_with fail
        refine (pk5 _).mono ?_
        rintro e y ⟨rfl, rfl⟩
        go_wp2_with fail
        refine (pk3 _).mono ?_
        rintro e y ⟨rfl, rfl⟩
        go_wp2_with fail
        refine ret_val (by rfl) (by rfl) (by rfl) ((Blk.new w 25 _).alloc _) (by rfl) ?_
        exact ⟨.mk _ 0 [] [] [], _, A1, n1, c1, rfl, vin_word _ _ _ (by omega), (hwrd _ (by omega)).1, (hwrd _ (by omega)).2, hI1.below (((Below.refl _ _).alloc (by omega) _).alloc (by simp; omega) _), ((Below.refl _ _).alloc (Nat.le_refl _) _).alloc (by simp) _⟩
    by_cases hk5 : k < 5
    · have hk3' : (k == 2) = false := by simpa using hk3
      have hk2' : 2 ≤ k := by omega
      have pk7 := fun W => picked_any q 7 W (by omega) (by omega)
      rcases (by omega : q % 7 = 0 ∨ q % 7 = 1 ∨ q % 7 = 2 ∨ q % 7 = 3 ∨ q % 7 = 4 ∨ q % 7 = 5 ∨ q % 7 = 6) with h | h | h | h | h | h | h
      all_goals
        rw [h] at pk7
        go_enter Tryz.func28, Tryz.ntmps28
        go_wp2_with fail
        refine (pk _).mono ?_
        rintro e y ⟨rfl, rfl⟩
        go_wp2_with fail
        refine (pk5 _).mono ?_
        rintro e y ⟨rfl, rfl⟩
        go_wp2_with fail
        refine (pk7 _).mono ?_
        rintro e y ⟨rfl, rfl⟩
        go_wp2_with fail
        refine ret_val (by rfl) (by rfl) (by rfl) ((Blk.new w 25 _).alloc _) (by rfl) ?_
      · exact ⟨.mk 5 0 [] [] [], _, A1, n1, c1, rfl, vin_str _ _ [] (by simp), (hstr _).1, (hstr _).2, hI1.below (((Below.refl _ _).alloc (by omega) _).alloc (by simp; omega) _), ((Below.refl _ _).alloc (Nat.le_refl _) _).alloc (by simp) _⟩
      · exact ⟨.mk 5 0 [120] [] [], _, A1, n1, c1, rfl, vin_str _ _ [120] (by simp), (hstr _).1, (hstr _).2, hI1.below (((Below.refl _ _).alloc (by omega) _).alloc (by simp; omega) _), ((Below.refl _ _).alloc (Nat.le_refl _) _).alloc (by simp) _⟩
      · exact ⟨.mk 5 0 [97, 34, 98] [] [], _, A1, n1, c1, rfl, vin_str _ _ [97, 34, 98] (by simp), (hstr _).1, (hstr _).2, hI1.below (((Below.refl _ _).alloc (by omega) _).alloc (by simp; omega) _), ((Below.refl _ _).alloc (Nat.le_refl _) _).alloc (by simp) _⟩
      · exact ⟨.mk 5 0 [10, 92] [] [], _, A1, n1, c1, rfl, vin_str _ _ [10, 92] (by simp), (hstr _).1, (hstr _).2, hI1.below (((Below.refl _ _).alloc (by omega) _).alloc (by simp; omega) _), ((Below.refl _ _).alloc (Nat.le_refl _) _).alloc (by simp) _⟩
      · exact ⟨.mk 5 0 [1, 31] [] [], _, A1, n1, c1, rfl, vin_str _ _ [1, 31] (by simp), (hstr _).1, (hstr _).2, hI1.below (((Below.refl _ _).alloc (by omega) _).alloc (by simp; omega) _), ((Below.refl _ _).alloc (Nat.le_refl _) _).alloc (by simp) _⟩
      · exact ⟨.mk 5 0 [107, 101, 121] [] [], _, A1, n1, c1, rfl, vin_str _ _ [107, 101, 121] (by simp), (hstr _).1, (hstr _).2, hI1.below (((Below.refl _ _).alloc (by omega) _).alloc (by simp; omega) _), ((Below.refl _ _).alloc (Nat.le_refl _) _).alloc (by simp) _⟩
      · exact ⟨.mk 5 0 [47] [] [], _, A1, n1, c1, rfl, vin_str _ _ [47] (by simp), (hstr _).1, (hstr _).2, hI1.below (((Below.refl _ _).alloc (by omega) _).alloc (by simp; omega) _), ((Below.refl _ _).alloc (Nat.le_refl _) _).alloc (by simp) _⟩
    omega
  · rw [if_neg hd1] at hkd
    have hz99 : z % 9 = k := hkd.symm
    rw [hz99] at pk
    have hd2 : 2 ≤ deep := by omega
    clear hkd hz99 pk5 hz9'
    by_cases hk2 : k < 2
    · go_enter Tryz.func28, Tryz.ntmps28
      go_wp2_with fail
      refine (pk _).mono ?_
      rintro e y ⟨rfl, rfl⟩
      go_wp2_with fail
      refine ret_val (by rfl) (by rfl) (by rfl) (Blk.new w 25 _) (by rfl) ?_
      exact ⟨.mk 4 (q.tmod 1000000) [] [] [], _, A1, n1, c1, rfl, vin_num _ _ _ (by omega), (hnum _ (by omega) (by omega)).1, (hnum _ (by omega) (by omega)).2, hI1.below ((Below.refl _ _).alloc (by omega) _), (Below.refl _ _).alloc (Nat.le_refl _) _⟩
    by_cases hk3 : k = 2
    · subst hk3
      have pk3 := fun W => picked_any q 3 W (by omega) (by omega)
      rcases (by omega : q % 3 = 0 ∨ q % 3 = 1 ∨ q % 3 = 2) with h | h | h
      all_goals
        rw [h] at pk3
        go_enter Tryz.func28, Tryz.ntmps28
        go_wp2_with fail
        refine (pk _).mono ?_
        rintro e y ⟨rfl, rfl⟩
        go_wp2_with fail
        refine (pk3 _).mono ?_
        rintro e y ⟨rfl, rfl⟩
        go_wp2_with fail
        refine ret_val (by rfl) (by rfl) (by rfl) ((Blk.new w 25 _).alloc _) (by rfl) ?_
        exact ⟨.mk _ 0 [] [] [], _, A1, n1, c1, rfl, vin_word _ _ _ (by omega), (hwrd _ (by omega)).1, (hwrd _ (by omega)).2, hI1.below (((Below.refl _ _).alloc (by omega) _).alloc (by simp; omega) _), ((Below.refl _ _).alloc (Nat.le_refl _) _).alloc (by simp) _⟩
    by_cases hk5 : k < 5
    · have hk3' : (k == 2) = false := by simpa using hk3
      have hk2' : 2 ≤ k := by omega
      have pk7 := fun W => picked_any q 7 W (by omega) (by omega)
      rcases (by omega : q % 7 = 0 ∨ q % 7 = 1 ∨ q % 7 = 2 ∨ q % 7 = 3 ∨ q % 7 = 4 ∨ q % 7 = 5 ∨ q % 7 = 6) with h | h | h | h | h | h | h
      all_goals
        rw [h] at pk7
        go_enter Tryz.func28, Tryz.ntmps28
        go_wp2_with fail
        refine (pk _).mono ?_
        rintro e y ⟨rfl, rfl⟩
        go_wp2_with fail
        refine (pk7 _).mono ?_
        rintro e y ⟨rfl, rfl⟩
        go_wp2_with fail
        refine ret_val (by rfl) (by rfl) (by rfl) ((Blk.new w 25 _).alloc _) (by rfl) ?_
      · exact ⟨.mk 5 0 [] [] [], _, A1, n1, c1, rfl, vin_str _ _ [] (by simp), (hstr _).1, (hstr _).2, hI1.below (((Below.refl _ _).alloc (by omega) _).alloc (by simp; omega) _), ((Below.refl _ _).alloc (Nat.le_refl _) _).alloc (by simp) _⟩
      · exact ⟨.mk 5 0 [120] [] [], _, A1, n1, c1, rfl, vin_str _ _ [120] (by simp), (hstr _).1, (hstr _).2, hI1.below (((Below.refl _ _).alloc (by omega) _).alloc (by simp; omega) _), ((Below.refl _ _).alloc (Nat.le_refl _) _).alloc (by simp) _⟩
      · exact ⟨.mk 5 0 [97, 34, 98] [] [], _, A1, n1, c1, rfl, vin_str _ _ [97, 34, 98] (by simp), (hstr _).1, (hstr _).2, hI1.below (((Below.refl _ _).alloc (by omega) _).alloc (by simp; omega) _), ((Below.refl _ _).alloc (Nat.le_refl _) _).alloc (by simp) _⟩
      · exact ⟨.mk 5 0 [10, 92] [] [], _, A1, n1, c1, rfl, vin_str _ _ [10, 92] (by simp), (hstr _).1, (hstr _).2, hI1.below (((Below.refl _ _).alloc (by omega) _).alloc (by simp; omega) _), ((Below.refl _ _).alloc (Nat.le_refl _) _).alloc (by simp) _⟩
      · exact ⟨.mk 5 0 [1, 31] [] [], _, A1, n1, c1, rfl, vin_str _ _ [1, 31] (by simp), (hstr _).1, (hstr _).2, hI1.below (((Below.refl _ _).alloc (by omega) _).alloc (by simp; omega) _), ((Below.refl _ _).alloc (Nat.le_refl _) _).alloc (by simp) _⟩
      · exact ⟨.mk 5 0 [107, 101, 121] [] [], _, A1, n1, c1, rfl, vin_str _ _ [107, 101, 121] (by simp), (hstr _).1, (hstr _).2, hI1.below (((Below.refl _ _).alloc (by omega) _).alloc (by simp; omega) _), ((Below.refl _ _).alloc (Nat.le_refl _) _).alloc (by simp) _⟩
      · exact ⟨.mk 5 0 [47] [] [], _, A1, n1, c1, rfl, vin_str _ _ [47] (by simp), (hstr _).1, (hstr _).2, hI1.below (((Below.refl _ _).alloc (by omega) _).alloc (by simp; omega) _), ((Below.refl _ _).alloc (Nat.le_refl _) _).alloc (by simp) _⟩
    exact gen_arr deep hd2 h5 (ih hd2) b off n c B w hB hb z hcell hn hz0 hz9 A1 n1 c1 hI1 hcut k (by omega) hk9 pk q hq hqb

theorem genOk : ∀ d : Nat, 1 ≤ d → d ≤ 5 → GenOk d
  | 0, h, _ => absurd h (by omega)
  | d + 1, h1, h5 => gen_step (d + 1) h1 h5 fun h => genOk d (by omega) (by omega)
end Go.Proofs.YthkbeliplibiaaaGreatDoor
