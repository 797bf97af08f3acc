/- Proved here: for all numbers, of two writes of so many zero bytes on an empty disk each goes in just if it fits (statement DiskFull). No condition. -/
import Derived.Test.YthkbeliplibiaaaDkMoves
import Derived.Test.YthkbeliplibiaaaRgT
import Derived.Test.YthkbeliplibiaaaOpen
import Derived.Test.YthkbeliplibiaaaRows
import Derived.ChangeSame
namespace Go.Proofs.Ythkbeliplibiaaa
set_option linter.unusedVariables false
set_option linter.unusedSimpArgs false
open Go.RowKit
/-- What two writes come to. -/
theorem dk_two (x y : List UInt8) : ∃ p q : Int, ∃ C : List UInt8, ∃ Y : Nat, plays0 [Mv.mk 1 x 0, Mv.mk 1 y 0] = ([p, q], (C, Y)) ∧ (p = 0 ∨ p = 10) ∧ (q = 0 ∨ q = 10) ∧ (p = 0 ↔ x.length ≤ 1200) ∧
    (q = 0 ↔ (if p = 0 then x.length else 0) + y.length ≤ 1200) ∧ C.length = (if p = 0 then x.length else 0) + (if q = 0 then y.length else 0) := by
  by_cases h1 : 1200 < x.length
  · by_cases h2 : 1200 < y.length
    · refine ⟨10, 10, [], 0, ?_, by simp, by simp, by simp; omega, by simp; omega, by simp⟩
      simp only [plays0, plays]
      rw [mv_write_full (m := Mv.mk 1 x 0) rfl (by simpa [disk0] using h1), mv_write_full (m := Mv.mk 1 y 0) rfl (by simpa [disk0] using h2)]
      rfl
    · refine ⟨10, 0, y, 0, ?_, by simp, by simp, by simp; omega, by simp; omega, by simp⟩
      simp only [plays0, plays]
      rw [mv_write_full (m := Mv.mk 1 x 0) rfl (by simpa [disk0] using h1), mv_write (m := Mv.mk 1 y 0) rfl (by simpa [disk0] using h2)]
      rfl
  · by_cases h2 : 1200 < x.length + y.length
    · refine ⟨0, 10, x, 0, ?_, by simp, by simp, by simp; omega, by simp; omega, by simp⟩
      simp only [plays0, plays]
      rw [mv_write (m := Mv.mk 1 x 0) rfl (by simpa [disk0] using h1), mv_write_full (m := Mv.mk 1 y 0) rfl (by simpa [disk0] using h2)]
      rfl
    · refine ⟨0, 0, x ++ y, 0, ?_, by simp, by simp, by simp; omega, by simp; omega, by simp⟩
      simp only [plays0, plays]
      rw [mv_write (m := Mv.mk 1 x 0) rfl (by simpa [disk0] using h1), mv_write (m := Mv.mk 1 y 0) rfl (by simpa [disk0] using h2)]
      rfl
theorem dk_make (W : World) (n : Nat) (hn : n < 1250) : ∃ w', (Instr.makeSlice 24 (.int .i64 (n : Int)) (.int .i64 (n : Int))).run Try.prog W = .ok (.slice (some ⟨W.heap.size, 0, none⟩) n n) w' ∧
    Holds w' w'.heap.size 1 (some ⟨W.heap.size, 0, none⟩) n ((List.replicate n (0 : UInt8)).map bv) ∧ Below W.heap.size W w' ∧ W.heap.size < w'.heap.size := by
  obtain ⟨i0, hi0, hz0, hz1, hz2⟩ := info_parts info_u8
  obtain ⟨w', h1, h2, h3⟩ := run_make_full (P := Try.prog) W W.heap.size 24 5 i0 _ 1 Try.underlying24 hi0 hz0 hz1 .i64 .i64 n (by rw [hz2]; omega) (by unfold maxLen; omega) (Nat.le_refl _)
  refine ⟨w', h1, ?_, (Below.refl _ _).grown h3 (Nat.le_refl _) (by simp), ?_⟩
  · have := Holds.own h2
    rw [Nat.mul_one, show (Value.int .u8 0).cells = #[Value.int .u8 0] from rfl, toList_madeCells_one] at this
    simpa [bv] using this
  · exact (World.ownsRow.lt h2 W.heap.size rfl).2
/-- The list of the two writes, where it has just been laid. -/
theorem dk_pair {W : World} {x y : List UInt8} {gx gy : Nat} (hx : Holds W W.heap.size 1 (some ⟨gx, 0, none⟩) x.length (x.map bv)) (hy : Holds W W.heap.size 1 (some ⟨gy, 0, none⟩) y.length (y.map bv)) (hxl : x.length ≤ 1048576) (hyl : y.length ≤ 1048576) :
    MvsIn (W.alloc (.cells #[.int .i64 1, .slice (some ⟨gx, 0, none⟩) x.length x.length, .int .i64 0, .int .i64 1, .slice (some ⟨gy, 0, none⟩) y.length y.length, .int .i64 0] 40)) (W.heap.size + 1) (some ⟨W.heap.size, 0, none⟩) 2 2 [Mv.mk 1 x 0, Mv.mk 1 y 0] := by
  have hb : Below W.heap.size W (W.alloc (.cells #[.int .i64 1, .slice (some ⟨gx, 0, none⟩) x.length x.length, .int .i64 0, .int .i64 1, .slice (some ⟨gy, 0, none⟩) y.length y.length, .int .i64 0] 40)) := (Below.refl _ _).alloc (Nat.le_refl _) _
  refine ⟨rfl, Nat.le_refl _, fun h => (by cases h), [.int .i64 1, .slice (some ⟨gx, 0, none⟩) x.length x.length, .int .i64 0, .int .i64 1, .slice (some ⟨gy, 0, none⟩) y.length y.length, .int .i64 0], ⟨rfl, fun _ => ⟨W.heap.size, 0, rfl, by omega, fun j u hu => ?_⟩⟩, ?_⟩
  · rw [Nat.zero_add, (Blk.new W 40 _).cell j]
    simpa using hu
  · unfold MsIn
    refine ⟨[.int .i64 1, .slice (some ⟨gx, 0, none⟩) x.length x.length, .int .i64 0], [.int .i64 1, .slice (some ⟨gy, 0, none⟩) y.length y.length, .int .i64 0], rfl, ⟨_, _, rfl, hxl, Nat.le_refl _, fun h => (by cases h), by constructor <;> simp, by constructor <;> simp, (hx.below hb).wider (by omega)⟩, ?_⟩
    unfold MsIn
    exact ⟨[.int .i64 1, .slice (some ⟨gy, 0, none⟩) y.length y.length, .int .i64 0], [], rfl, ⟨_, _, rfl, hyl, Nat.le_refl _, fun h => (by cases h), by constructor <;> simp, by constructor <;> simp, (hy.below hb).wider (by omega)⟩, by unfold MsIn; rfl⟩
set_option maxRecDepth 100000 in
set_option maxHeartbeats 8000000 in
theorem walkDiskFull (x0 : Int) (x1 : Int) (w : World) (hx0 : -9223372036854775808 ≤ x0 ∧ x0 ≤ 9223372036854775807) (hx1 : -9223372036854775808 ≤ x1 ∧ x1 ≤ 9223372036854775807) :
    Calls Try.prog 9 #[.int .i64 x0, .int .i64 x1] w fun e w' => e = .returned (.bool true) ∧ Below w.heap.size w w' := by
  clear hx0 hx1
  have hk0 := Int.emod_nonneg x0 (show (1250 : Int) ≠ 0 by decide)
  have hk1 := Int.emod_lt_of_pos x0 (show (0 : Int) < 1250 by decide)
  obtain ⟨a, ha⟩ : ∃ a : Nat, x0 % 1250 = (a : Int) := ⟨(x0 % 1250).toNat, by omega⟩
  have Ha := Lib.hid ha
  have haa : a < 1250 := by omega
  clear hk0 hk1 ha
  have hk0 := Int.emod_nonneg x1 (show (1250 : Int) ≠ 0 by decide)
  have hk1 := Int.emod_lt_of_pos x1 (show (0 : Int) < 1250 by decide)
  obtain ⟨b, hb⟩ : ∃ b : Nat, x1 % 1250 = (b : Int) := ⟨(x1 % 1250).toNat, by omega⟩
  have Hb := Lib.hid hb
  have hbb : b < 1250 := by omega
  clear hk0 hk1 hb
  go_enter Try.func9, Try.ntmps9
  go_wp2_with fail
  refine (picked_any x0 1250 _ (by decide) (by decide)).mono ?_
  rintro e w2 ⟨rfl, rfl⟩
  rw [Ha.out]
  go_wp2_with fail
  refine (picked_any x1 1250 _ (by decide) (by decide)).mono ?_
  rintro e w2 ⟨rfl, rfl⟩
  rw [Hb.out]
  -- REGION
  go_wp2_with fail
  refine region_S (fun _ => True) [] (by kernel_rfl) ?_
  refine anyS_take 0 (v := .int .i64 (a : Int)) rfl (by kernel_rfl) (by kernel_rfl) (by kernel_rfl) (by kernel_rfl) (fun _ _ _ h => h) (.inl ⟨by kernel_rfl, fun w' hS' => by kernel_rfl⟩) trivial ?_
  refine anyS_take 3 (v := .int .i64 (b : Int)) rfl (by kernel_rfl) (by kernel_rfl) (by kernel_rfl) (by kernel_rfl) (fun _ _ _ h => h) (.inl ⟨by kernel_rfl, fun w' hS' => by kernel_rfl⟩) trivial ?_
  refine anyS_two 1 4 rfl rfl (by kernel_rfl) rfl rfl ?_ ?_
  · intro K1 hK1
    obtain ⟨w1, hr1, hh1, hb1, hs1⟩ := dk_make w.drew a haa
    go_simp
    refine hK1 _ _ ⟨fun _ => trivial, ?_⟩
    refine anyS_take 2 (v := .agg #[.int .i64 1, .slice (some ⟨w.heap.size, 0, none⟩) a a, .int .i64 0]) rfl (by kernel_rfl) (by kernel_rfl) (by kernel_rfl) (by kernel_rfl) (fun _ _ _ h => h) (.inl ⟨by kernel_rfl, fun w' hS' => by go_simp⟩) trivial ?_
    refine anyS_one 4 rfl (by kernel_rfl) rfl ?_
    intro K2 hK2
    obtain ⟨w2, hr2, hh2, hb2, hs2⟩ := dk_make w1 b hbb
    go_simp
    refine hK2 _ _ ⟨fun _ => trivial, ?_⟩
    refine anyS_take 5 (v := .agg #[.int .i64 1, .slice (some ⟨w1.heap.size, 0, none⟩) b b, .int .i64 0]) rfl (by kernel_rfl) (by kernel_rfl) (by kernel_rfl) (by kernel_rfl) (fun _ _ _ h => h) (.inl ⟨by kernel_rfl, fun w' hS' => by go_simp⟩) trivial ?_
    have hpa : Holds w2 w2.heap.size 1 (some ⟨w.heap.size, 0, none⟩) (List.replicate a (0 : UInt8)).length ((List.replicate a (0 : UInt8)).map bv) := by rw [List.length_replicate]; exact (hh1.below hb2).wider hb2.size
    have hpb : Holds w2 w2.heap.size 1 (some ⟨w1.heap.size, 0, none⟩) (List.replicate b (0 : UInt8)).length ((List.replicate b (0 : UInt8)).map bv) := by rw [List.length_replicate]; exact hh2
    have hpr := dk_pair hpa hpb (by rw [List.length_replicate]; omega) (by rw [List.length_replicate]; omega)
    simp only [List.length_replicate] at hpr
    have hw3 : Below w.heap.size w (w2.alloc (.cells #[.int .i64 1, .slice (some ⟨w.heap.size, 0, none⟩) a a, .int .i64 0, .int .i64 1, .slice (some ⟨w1.heap.size, 0, none⟩) b b, .int .i64 0] 40)) := (((below_drewN (Below.refl w.heap.size w) 1).trans hb1).trans (hb2.mono (Nat.le_of_lt hs1))).alloc (by have h1 : w.heap.size < w1.heap.size := hs1; omega) _
    have HP := Lib.hid (play_any (some ⟨w2.heap.size, 0, none⟩) 2 2 _ _ _ hpr (by simp) (by decide))
    obtain ⟨p, q, C, Y, hpl, hp0, hq0, hpx, hqx, hC⟩ := dk_two (List.replicate a (0 : UInt8)) (List.replicate b (0 : UInt8))
    simp only [List.length_replicate] at hpx hqx hC
    have Hpl := Lib.hid hpl
    have HC := Lib.hid hC
    have Hw3 := Lib.hid hw3
    clear hpa hpb hpr hpl hw3 hC hb1 hb2 hh1 hh2 hr1 hr2
    refine anyS_one 6 rfl (by kernel_rfl) rfl ?_
    intro K3 hK3
    go_simp
    refine hK3 _ _ ⟨fun _ => trivial, ?_⟩
    generalize hw3 : w2.alloc (.cells #[.int .i64 1, .slice (some ⟨w.heap.size, 0, none⟩) a a, .int .i64 0, .int .i64 1, .slice (some ⟨w1.heap.size, 0, none⟩) b b, .int .i64 0] 40) = w3 at *
    refine anyS_one 7 rfl (by kernel_rfl) rfl ?_
    intro K4 hK4
    go_simp
    go_at_call 10
    refine HP.out.mono ?_
    rintro e w4 ⟨A3, c3, A4, c4, rfl, ho3, ho4, hbe4⟩
    rw [Hpl.out] at ho3 ho4 ⊢
    have Hw4 := Lib.hid (Hw3.out.trans (hbe4.mono Hw3.out.size))
    obtain ⟨b3, off3, u3, rfl, hb3, hu3, q0⟩ := (Holds.own ho3).at1 (k := 0) (show 0 < 2 by decide)
    obtain ⟨b3', off3', u4, he4, hb3', hu4, q1⟩ := (Holds.own ho3).at1 (k := 1) (show 1 < 2 by decide)
    injection he4 with he4
    injection he4 with e1 e2 _
    subst e1 e2
    have e3 : u3 = .int .i64 p := by simpa using hu3.symm
    have e4 : u4 = .int .i64 q := by simpa using hu4.symm
    subst e3 e4
    have q0' : w4.cell? ⟨b3, off3, none⟩ = some (.int .i64 p) := q0
    refine hK4 _ _ ⟨fun _ => trivial, ?_⟩
    clear hK1 hK2 hK3 hK4 ho3 ho4 hbe4 hu3 hu4 HP Hpl Hw3 q0
    refine anyS_take 8 (v := .tuple #[.slice (some ⟨b3, off3, none⟩) 2 c3, .slice A4 C.length c4, .int .i64 0]) rfl (by kernel_rfl) (by kernel_rfl) (by kernel_rfl) (by kernel_rfl) (fun _ _ _ h => h) (.inl ⟨by kernel_rfl, fun w' hS' => by kernel_rfl⟩) trivial ?_
    refine anyS_take 9 (v := .slice (some ⟨b3, off3, none⟩) 2 c3) rfl (by kernel_rfl) (by kernel_rfl) (by kernel_rfl) (by kernel_rfl) (fun _ _ _ h => h) (.inl ⟨by kernel_rfl, fun w' hS' => by kernel_rfl⟩) trivial ?_
    refine anyS_take 10 (v := .slice A4 C.length c4) rfl (by kernel_rfl) (by kernel_rfl) (by kernel_rfl) (by kernel_rfl) (fun _ _ _ h => h) (.inl ⟨by kernel_rfl, fun w' hS' => by kernel_rfl⟩) trivial ?_
    refine anyS_take 11 (v := .int .i64 0) rfl (by kernel_rfl) (by kernel_rfl) (by kernel_rfl) (by kernel_rfl) (fun _ _ _ h => h) (.inl ⟨by kernel_rfl, fun w' hS' => by kernel_rfl⟩) trivial ?_
    refine anyS_take 12 (v := .slice (some ⟨b3, off3, none⟩) 2 c3) rfl (by kernel_rfl) (by kernel_rfl) (by kernel_rfl) (by kernel_rfl) (fun _ _ _ h => h) (.inl ⟨by kernel_rfl, fun w' hS' => by kernel_rfl⟩) trivial ?_
    refine anyS_take 13 (v := .slice A4 C.length c4) rfl (by kernel_rfl) (by kernel_rfl) (by kernel_rfl) (by kernel_rfl) (fun _ _ _ h => h) (.inl ⟨by kernel_rfl, fun w' hS' => by kernel_rfl⟩) trivial ?_
    refine anyS_take 14 (v := .int .i64 0) rfl (by kernel_rfl) (by kernel_rfl) (by kernel_rfl) (by kernel_rfl) (fun _ _ _ h => h) (.inl ⟨by kernel_rfl, fun w' hS' => by kernel_rfl⟩) trivial ?_
    refine anyS_done (by kernel_rfl) ?_
    obtain ⟨Lc, hLc⟩ : ∃ Lc, C.length = Lc := ⟨_, rfl⟩
    rw [hLc] at HC ⊢
    clear hLc
    rcases hp0 with rfl | rfl
    · rcases hq0 with rfl | rfl
      · have t1 :  (a : Int) ≤ 1200 := by simp at hpx; omega
        have t2 :  (a : Int) + (b : Int) ≤ 1200 := by simp at hqx; omega
        have hCb : ((Lc : Int) == (a : Int) + (b : Int)) = true := by have := HC.out; simp at this; simp; omega
        clear hpx hqx HC
        go_wp2_with fail
        go_loopg [10, 11] 2 (fun gk al i wr => (gk = 2 ∧ al = .int .i64 0 ∧ i = .int .i64 0 ∧ w4 = wr) ∨ (gk = 1 ∧ al = .int .i64 ((a : Int)) ∧ i = .int .i64 1 ∧ w4 = wr) ∨ (gk = 0 ∧ al = .int .i64 ((a : Int) + (b : Int)) ∧ i = .int .i64 2 ∧ w4 = wr))
        case atStart => exact .inl ⟨rfl, rfl, rfl, rfl⟩
        case round =>
          rcases hrel with ⟨hgk, rfl, rfl, rfl⟩ | ⟨hgk, rfl, rfl, rfl⟩ | ⟨hgk, rfl, rfl, rfl⟩
          · go_wp2_with fail
            go_roundg 1
            case measure => omega
            case rel => exact .inr (.inl ⟨rfl, by go_num, by go_num, rfl⟩)
          · go_wp2_with fail
            go_roundg 0
            case measure => omega
            case rel => exact .inr (.inr ⟨rfl, by go_num, by go_num, rfl⟩)
          · go_wp2_with fail
            go_ret
            exact ⟨rfl, Hw4.out⟩
      · have t1 :  (a : Int) ≤ 1200 := by simp at hpx; omega
        have t2 : ¬ (a : Int) + (b : Int) ≤ 1200 := by simp at hqx; omega
        have hCb : ((Lc : Int) == (a : Int)) = true := by have := HC.out; simp at this; simp; omega
        clear hpx hqx HC
        go_wp2_with fail
        go_loopg [10, 11] 2 (fun gk al i wr => (gk = 2 ∧ al = .int .i64 0 ∧ i = .int .i64 0 ∧ w4 = wr) ∨ (gk = 1 ∧ al = .int .i64 ((a : Int)) ∧ i = .int .i64 1 ∧ w4 = wr) ∨ (gk = 0 ∧ al = .int .i64 ((a : Int)) ∧ i = .int .i64 2 ∧ w4 = wr))
        case atStart => exact .inl ⟨rfl, rfl, rfl, rfl⟩
        case round =>
          rcases hrel with ⟨hgk, rfl, rfl, rfl⟩ | ⟨hgk, rfl, rfl, rfl⟩ | ⟨hgk, rfl, rfl, rfl⟩
          · go_wp2_with fail
            go_roundg 1
            case measure => omega
            case rel => exact .inr (.inl ⟨rfl, by go_num, by go_num, rfl⟩)
          · go_wp2_with fail
            go_roundg 0
            case measure => omega
            case rel => exact .inr (.inr ⟨rfl, by go_num, by go_num, rfl⟩)
          · go_wp2_with fail
            go_ret
            exact ⟨rfl, Hw4.out⟩
    · rcases hq0 with rfl | rfl
      · have t1 : ¬ (a : Int) ≤ 1200 := by simp at hpx; omega
        have t2 :  (b : Int) ≤ 1200 := by simp at hqx; omega
        have hCb : ((Lc : Int) == (b : Int)) = true := by have := HC.out; simp at this; simp; omega
        clear hpx hqx HC
        go_wp2_with fail
        go_loopg [10, 11] 2 (fun gk al i wr => (gk = 2 ∧ al = .int .i64 0 ∧ i = .int .i64 0 ∧ w4 = wr) ∨ (gk = 1 ∧ al = .int .i64 (0) ∧ i = .int .i64 1 ∧ w4 = wr) ∨ (gk = 0 ∧ al = .int .i64 ((b : Int)) ∧ i = .int .i64 2 ∧ w4 = wr))
        case atStart => exact .inl ⟨rfl, rfl, rfl, rfl⟩
        case round =>
          rcases hrel with ⟨hgk, rfl, rfl, rfl⟩ | ⟨hgk, rfl, rfl, rfl⟩ | ⟨hgk, rfl, rfl, rfl⟩
          · go_wp2_with fail
            go_roundg 1
            case measure => omega
            case rel => exact .inr (.inl ⟨rfl, by go_num, by go_num, rfl⟩)
          · go_wp2_with fail
            go_roundg 0
            case measure => omega
            case rel => exact .inr (.inr ⟨rfl, by go_num, by go_num, rfl⟩)
          · go_wp2_with fail
            go_ret
            exact ⟨rfl, Hw4.out⟩
      · have t1 : ¬ (a : Int) ≤ 1200 := by simp at hpx; omega
        have t2 : ¬ (b : Int) ≤ 1200 := by simp at hqx; omega
        have hCb : ((Lc : Int) == 0) = true := by have := HC.out; simp at this; simp; omega
        clear hpx hqx HC
        go_wp2_with fail
        go_loopg [10, 11] 2 (fun gk al i wr => (gk = 2 ∧ al = .int .i64 0 ∧ i = .int .i64 0 ∧ w4 = wr) ∨ (gk = 1 ∧ al = .int .i64 (0) ∧ i = .int .i64 1 ∧ w4 = wr) ∨ (gk = 0 ∧ al = .int .i64 (0) ∧ i = .int .i64 2 ∧ w4 = wr))
        case atStart => exact .inl ⟨rfl, rfl, rfl, rfl⟩
        case round =>
          rcases hrel with ⟨hgk, rfl, rfl, rfl⟩ | ⟨hgk, rfl, rfl, rfl⟩ | ⟨hgk, rfl, rfl, rfl⟩
          · go_wp2_with fail
            go_roundg 1
            case measure => omega
            case rel => exact .inr (.inl ⟨rfl, by go_num, by go_num, rfl⟩)
          · go_wp2_with fail
            go_roundg 0
            case measure => omega
            case rel => exact .inr (.inr ⟨rfl, by go_num, by go_num, rfl⟩)
          · go_wp2_with fail
            go_ret
            exact ⟨rfl, Hw4.out⟩
  · intro K1 hK1
    obtain ⟨w1, hr1, hh1, hb1, hs1⟩ := dk_make w.drew b hbb
    go_simp
    refine hK1 _ _ ⟨fun _ => trivial, ?_⟩
    refine anyS_take 5 (v := .agg #[.int .i64 1, .slice (some ⟨w.heap.size, 0, none⟩) b b, .int .i64 0]) rfl (by kernel_rfl) (by kernel_rfl) (by kernel_rfl) (by kernel_rfl) (fun _ _ _ h => h) (.inl ⟨by kernel_rfl, fun w' hS' => by go_simp⟩) trivial ?_
    refine anyS_one 1 rfl (by kernel_rfl) rfl ?_
    intro K2 hK2
    obtain ⟨w2, hr2, hh2, hb2, hs2⟩ := dk_make w1 a haa
    go_simp
    refine hK2 _ _ ⟨fun _ => trivial, ?_⟩
    refine anyS_take 2 (v := .agg #[.int .i64 1, .slice (some ⟨w1.heap.size, 0, none⟩) a a, .int .i64 0]) rfl (by kernel_rfl) (by kernel_rfl) (by kernel_rfl) (by kernel_rfl) (fun _ _ _ h => h) (.inl ⟨by kernel_rfl, fun w' hS' => by go_simp⟩) trivial ?_
    have hpa : Holds w2 w2.heap.size 1 (some ⟨w1.heap.size, 0, none⟩) (List.replicate a (0 : UInt8)).length ((List.replicate a (0 : UInt8)).map bv) := by rw [List.length_replicate]; exact hh2
    have hpb : Holds w2 w2.heap.size 1 (some ⟨w.heap.size, 0, none⟩) (List.replicate b (0 : UInt8)).length ((List.replicate b (0 : UInt8)).map bv) := by rw [List.length_replicate]; exact (hh1.below hb2).wider hb2.size
    have hpr := dk_pair hpa hpb (by rw [List.length_replicate]; omega) (by rw [List.length_replicate]; omega)
    simp only [List.length_replicate] at hpr
    have hw3 : Below w.heap.size w (w2.alloc (.cells #[.int .i64 1, .slice (some ⟨w1.heap.size, 0, none⟩) a a, .int .i64 0, .int .i64 1, .slice (some ⟨w.heap.size, 0, none⟩) b b, .int .i64 0] 40)) := (((below_drewN (Below.refl w.heap.size w) 1).trans hb1).trans (hb2.mono (Nat.le_of_lt hs1))).alloc (by have h1 : w.heap.size < w1.heap.size := hs1; omega) _
    have HP := Lib.hid (play_any (some ⟨w2.heap.size, 0, none⟩) 2 2 _ _ _ hpr (by simp) (by decide))
    obtain ⟨p, q, C, Y, hpl, hp0, hq0, hpx, hqx, hC⟩ := dk_two (List.replicate a (0 : UInt8)) (List.replicate b (0 : UInt8))
    simp only [List.length_replicate] at hpx hqx hC
    have Hpl := Lib.hid hpl
    have HC := Lib.hid hC
    have Hw3 := Lib.hid hw3
    clear hpa hpb hpr hpl hw3 hC hb1 hb2 hh1 hh2 hr1 hr2
    refine anyS_one 6 rfl (by kernel_rfl) rfl ?_
    intro K3 hK3
    go_simp
    refine hK3 _ _ ⟨fun _ => trivial, ?_⟩
    generalize hw3 : w2.alloc (.cells #[.int .i64 1, .slice (some ⟨w1.heap.size, 0, none⟩) a a, .int .i64 0, .int .i64 1, .slice (some ⟨w.heap.size, 0, none⟩) b b, .int .i64 0] 40) = w3 at *
    refine anyS_one 7 rfl (by kernel_rfl) rfl ?_
    intro K4 hK4
    go_simp
    go_at_call 10
    refine HP.out.mono ?_
    rintro e w4 ⟨A3, c3, A4, c4, rfl, ho3, ho4, hbe4⟩
    rw [Hpl.out] at ho3 ho4 ⊢
    have Hw4 := Lib.hid (Hw3.out.trans (hbe4.mono Hw3.out.size))
    obtain ⟨b3, off3, u3, rfl, hb3, hu3, q0⟩ := (Holds.own ho3).at1 (k := 0) (show 0 < 2 by decide)
    obtain ⟨b3', off3', u4, he4, hb3', hu4, q1⟩ := (Holds.own ho3).at1 (k := 1) (show 1 < 2 by decide)
    injection he4 with he4
    injection he4 with e1 e2 _
    subst e1 e2
    have e3 : u3 = .int .i64 p := by simpa using hu3.symm
    have e4 : u4 = .int .i64 q := by simpa using hu4.symm
    subst e3 e4
    have q0' : w4.cell? ⟨b3, off3, none⟩ = some (.int .i64 p) := q0
    refine hK4 _ _ ⟨fun _ => trivial, ?_⟩
    clear hK1 hK2 hK3 hK4 ho3 ho4 hbe4 hu3 hu4 HP Hpl Hw3 q0
    refine anyS_take 8 (v := .tuple #[.slice (some ⟨b3, off3, none⟩) 2 c3, .slice A4 C.length c4, .int .i64 0]) rfl (by kernel_rfl) (by kernel_rfl) (by kernel_rfl) (by kernel_rfl) (fun _ _ _ h => h) (.inl ⟨by kernel_rfl, fun w' hS' => by kernel_rfl⟩) trivial ?_
    refine anyS_take 9 (v := .slice (some ⟨b3, off3, none⟩) 2 c3) rfl (by kernel_rfl) (by kernel_rfl) (by kernel_rfl) (by kernel_rfl) (fun _ _ _ h => h) (.inl ⟨by kernel_rfl, fun w' hS' => by kernel_rfl⟩) trivial ?_
    refine anyS_take 10 (v := .slice A4 C.length c4) rfl (by kernel_rfl) (by kernel_rfl) (by kernel_rfl) (by kernel_rfl) (fun _ _ _ h => h) (.inl ⟨by kernel_rfl, fun w' hS' => by kernel_rfl⟩) trivial ?_
    refine anyS_take 11 (v := .int .i64 0) rfl (by kernel_rfl) (by kernel_rfl) (by kernel_rfl) (by kernel_rfl) (fun _ _ _ h => h) (.inl ⟨by kernel_rfl, fun w' hS' => by kernel_rfl⟩) trivial ?_
    refine anyS_take 12 (v := .slice (some ⟨b3, off3, none⟩) 2 c3) rfl (by kernel_rfl) (by kernel_rfl) (by kernel_rfl) (by kernel_rfl) (fun _ _ _ h => h) (.inl ⟨by kernel_rfl, fun w' hS' => by kernel_rfl⟩) trivial ?_
    refine anyS_take 13 (v := .slice A4 C.length c4) rfl (by kernel_rfl) (by kernel_rfl) (by kernel_rfl) (by kernel_rfl) (fun _ _ _ h => h) (.inl ⟨by kernel_rfl, fun w' hS' => by kernel_rfl⟩) trivial ?_
    refine anyS_take 14 (v := .int .i64 0) rfl (by kernel_rfl) (by kernel_rfl) (by kernel_rfl) (by kernel_rfl) (fun _ _ _ h => h) (.inl ⟨by kernel_rfl, fun w' hS' => by kernel_rfl⟩) trivial ?_
    refine anyS_done (by kernel_rfl) ?_
    obtain ⟨Lc, hLc⟩ : ∃ Lc, C.length = Lc := ⟨_, rfl⟩
    rw [hLc] at HC ⊢
    clear hLc
    rcases hp0 with rfl | rfl
    · rcases hq0 with rfl | rfl
      · have t1 :  (a : Int) ≤ 1200 := by simp at hpx; omega
        have t2 :  (a : Int) + (b : Int) ≤ 1200 := by simp at hqx; omega
        have hCb : ((Lc : Int) == (a : Int) + (b : Int)) = true := by have := HC.out; simp at this; simp; omega
        clear hpx hqx HC
        go_wp2_with fail
        go_loopg [10, 11] 2 (fun gk al i wr => (gk = 2 ∧ al = .int .i64 0 ∧ i = .int .i64 0 ∧ w4 = wr) ∨ (gk = 1 ∧ al = .int .i64 ((a : Int)) ∧ i = .int .i64 1 ∧ w4 = wr) ∨ (gk = 0 ∧ al = .int .i64 ((a : Int) + (b : Int)) ∧ i = .int .i64 2 ∧ w4 = wr))
        case atStart => exact .inl ⟨rfl, rfl, rfl, rfl⟩
        case round =>
          rcases hrel with ⟨hgk, rfl, rfl, rfl⟩ | ⟨hgk, rfl, rfl, rfl⟩ | ⟨hgk, rfl, rfl, rfl⟩
          · go_wp2_with fail
            go_roundg 1
            case measure => omega
            case rel => exact .inr (.inl ⟨rfl, by go_num, by go_num, rfl⟩)
          · go_wp2_with fail
            go_roundg 0
            case measure => omega
            case rel => exact .inr (.inr ⟨rfl, by go_num, by go_num, rfl⟩)
          · go_wp2_with fail
            go_ret
            exact ⟨rfl, Hw4.out⟩
      · have t1 :  (a : Int) ≤ 1200 := by simp at hpx; omega
        have t2 : ¬ (a : Int) + (b : Int) ≤ 1200 := by simp at hqx; omega
        have hCb : ((Lc : Int) == (a : Int)) = true := by have := HC.out; simp at this; simp; omega
        clear hpx hqx HC
        go_wp2_with fail
        go_loopg [10, 11] 2 (fun gk al i wr => (gk = 2 ∧ al = .int .i64 0 ∧ i = .int .i64 0 ∧ w4 = wr) ∨ (gk = 1 ∧ al = .int .i64 ((a : Int)) ∧ i = .int .i64 1 ∧ w4 = wr) ∨ (gk = 0 ∧ al = .int .i64 ((a : Int)) ∧ i = .int .i64 2 ∧ w4 = wr))
        case atStart => exact .inl ⟨rfl, rfl, rfl, rfl⟩
        case round =>
          rcases hrel with ⟨hgk, rfl, rfl, rfl⟩ | ⟨hgk, rfl, rfl, rfl⟩ | ⟨hgk, rfl, rfl, rfl⟩
          · go_wp2_with fail
            go_roundg 1
            case measure => omega
            case rel => exact .inr (.inl ⟨rfl, by go_num, by go_num, rfl⟩)
          · go_wp2_with fail
            go_roundg 0
            case measure => omega
            case rel => exact .inr (.inr ⟨rfl, by go_num, by go_num, rfl⟩)
          · go_wp2_with fail
            go_ret
            exact ⟨rfl, Hw4.out⟩
    · rcases hq0 with rfl | rfl
      · have t1 : ¬ (a : Int) ≤ 1200 := by simp at hpx; omega
        have t2 :  (b : Int) ≤ 1200 := by simp at hqx; omega
        have hCb : ((Lc : Int) == (b : Int)) = true := by have := HC.out; simp at this; simp; omega
        clear hpx hqx HC
        go_wp2_with fail
        go_loopg [10, 11] 2 (fun gk al i wr => (gk = 2 ∧ al = .int .i64 0 ∧ i = .int .i64 0 ∧ w4 = wr) ∨ (gk = 1 ∧ al = .int .i64 (0) ∧ i = .int .i64 1 ∧ w4 = wr) ∨ (gk = 0 ∧ al = .int .i64 ((b : Int)) ∧ i = .int .i64 2 ∧ w4 = wr))
        case atStart => exact .inl ⟨rfl, rfl, rfl, rfl⟩
        case round =>
          rcases hrel with ⟨hgk, rfl, rfl, rfl⟩ | ⟨hgk, rfl, rfl, rfl⟩ | ⟨hgk, rfl, rfl, rfl⟩
          · go_wp2_with fail
            go_roundg 1
            case measure => omega
            case rel => exact .inr (.inl ⟨rfl, by go_num, by go_num, rfl⟩)
          · go_wp2_with fail
            go_roundg 0
            case measure => omega
            case rel => exact .inr (.inr ⟨rfl, by go_num, by go_num, rfl⟩)
          · go_wp2_with fail
            go_ret
            exact ⟨rfl, Hw4.out⟩
      · have t1 : ¬ (a : Int) ≤ 1200 := by simp at hpx; omega
        have t2 : ¬ (b : Int) ≤ 1200 := by simp at hqx; omega
        have hCb : ((Lc : Int) == 0) = true := by have := HC.out; simp at this; simp; omega
        clear hpx hqx HC
        go_wp2_with fail
        go_loopg [10, 11] 2 (fun gk al i wr => (gk = 2 ∧ al = .int .i64 0 ∧ i = .int .i64 0 ∧ w4 = wr) ∨ (gk = 1 ∧ al = .int .i64 (0) ∧ i = .int .i64 1 ∧ w4 = wr) ∨ (gk = 0 ∧ al = .int .i64 (0) ∧ i = .int .i64 2 ∧ w4 = wr))
        case atStart => exact .inl ⟨rfl, rfl, rfl, rfl⟩
        case round =>
          rcases hrel with ⟨hgk, rfl, rfl, rfl⟩ | ⟨hgk, rfl, rfl, rfl⟩ | ⟨hgk, rfl, rfl, rfl⟩
          · go_wp2_with fail
            go_roundg 1
            case measure => omega
            case rel => exact .inr (.inl ⟨rfl, by go_num, by go_num, rfl⟩)
          · go_wp2_with fail
            go_roundg 0
            case measure => omega
            case rel => exact .inr (.inr ⟨rfl, by go_num, by go_num, rfl⟩)
          · go_wp2_with fail
            go_ret
            exact ⟨rfl, Hw4.out⟩
namespace diskFull
open Go.ChangeShapes Go.WideShapes Go.ChangeAt Go.RowKit
theorem own : ownKnob Try.prog.godebug = none := by kernel_rfl
theorem laidOut : laidOutB Try.prog = true := by kernel_rfl
set_option linter.unusedVariables false
set_option maxRecDepth 100000 in
theorem lifted (os : Os) (started : os.Started) (H : Type) (enc : TypeId × Value → H) :
    ReturnsInHanded {} Try.checked os 9 .any (Rows.diskFullSpec.pre6 enc Try.prog Try.f9 Rows.diskFullRow.domain false) (Rows.diskFullSpec.post enc Try.prog Try.f9 false true false false) := by
  refine returnsInHanded_of_change (C := Try.checked) own started (by kernel_rfl) Try.func9
    (ChangeSpec.witness6 (enc := enc) (C := Try.checked) false ⟨#[], #[.int .i64 0, .int .i64 0], []⟩ 8 (by kernel_rfl) (by kernel_rfl) (by kernel_rfl) (by kernel_rfl)) ?_
  intro W base args ds gs before hval0 hW hcnd _
  have hval : ∀ (j : Nat) t v, Try.f9.params[j]? = some t → args[j]? = some v → Value.okWide Try.prog W .any base t v := hval0
  have hW' := hW
  obtain ⟨p, q, hA0, hV, rfl, hfz, hnd⟩ := hW
  have hA : DataW.TrodAll enc Try.prog W 0 (fun _ => true) true Try.f9.params.toList args.toList ds p := hA0
  rw [Try.params9] at hA hval
  obtain ⟨v0, vs0, d0, ds0, p0, q0, hargs, rfl, rfl, h0, rr0⟩ := trodAll_cons hA
  obtain ⟨v1, vs1, d1, ds1, p1, q1, rfl, rfl, rfl, h1, rr1⟩ := trodAll_cons rr0
  obtain ⟨rfl, rfl, rfl⟩ := trodAll_nil rr1
  obtain rfl : args = #[v0, v1] := by cases args; simp_all
  obtain ⟨rfl, rfl⟩ := trodVars_none hV
  have k0 := h0
  have lt0 : ∀ x ∈ p0, x.block < W.heap.size := by obtain ⟨m, hm⟩ := k0; exact DataW.trod_lt m _ _ _ hm
  obtain ⟨x0, rfl, hx0⟩ := open_i64 Try.underlying3 (hval 0 3 v0 rfl rfl) h0
  have k1 := h1
  have lt1 : ∀ x ∈ p1, x.block < W.heap.size := by obtain ⟨m, hm⟩ := k1; exact DataW.trod_lt m _ _ _ hm
  obtain ⟨x1, rfl, hx1⟩ := open_i64 Try.underlying3 (hval 1 3 v1 rfl rfl) h1
  clear hA0 hval0
  refine (walkDiskFull x0 x1 W hx0 hx1).mono fun e W' ⟨he, bel⟩ => ?_
  subst he
  exact ⟨_, rfl, _, _, _, [], _, [], hW', trodAll_mk1 (shut_bool Try.underlying4 _), (trodAll_cons_mk (Below.trod laidOut (by kernel_rfl) (of_decide_eq_true (by kernel_rfl)) k0 bel lt0) (trodAll_cons_mk (Below.trod laidOut (by kernel_rfl) (of_decide_eq_true (by kernel_rfl)) k1 bel lt1) trodAll_mk0)), rfl, bel.frame _, fun h => by cases h⟩

theorem over : Rows.diskFullRow.holds Try.pinned (OpenSpec.ofChange Rows.diskFullSpec) :=
  OpenClaim.holds_of_wide 9 Try.f9 rfl rfl rfl rfl rfl rfl rfl ⟨rfl, rfl, rfl, rfl, rfl⟩ rfl rfl rfl rfl rfl (by kernel_rfl) Try.func9 (by kernel_rfl)
    (of_decide_eq_true (by kernel_rfl)) (by unfold Func.isWrapper; first | (rw [if_pos (by decide +kernel)]; kernel_rfl) | (rw [if_neg (by decide +kernel)]; exact ⟨rfl, rfl⟩))
    (fun os started H enc _ => lifted os started H enc)

theorem proved : Rows.DiskFullSaid := over
#print axioms proved
end diskFull
end Go.Proofs.Ythkbeliplibiaaa
