/- Proved here: for every list of raw numbers and every number, behind a power failure the disk has a first part of what it had, with all that was synced and as many bytes as it may have (statement DiskSafe). No condition. -/
import Derived.Test.YthkbeliplibiaaaDkFar
import Derived.Test.YthkbeliplibiaaaRows
import Derived.ChangeSame
namespace Go.Proofs.Ythkbeliplibiaaa
set_option linter.unusedVariables false
set_option linter.unusedSimpArgs false
open Go.RowKit
set_option maxRecDepth 100000 in
set_option maxHeartbeats 2000000 in
theorem walkDiskSafe (A0 : Option Addr) (n0 c0 : Nat) (x1 : Int) (w : World) (hx0 : IntsAt w w.heap.size A0 n0 c0) (hx1 : -9223372036854775808 ≤ x1 ∧ x1 ≤ 9223372036854775807) :
    Calls Try.prog 5 #[.slice A0 n0 c0, .int .i64 x1] w fun e w' => e = .returned (.bool true) ∧ Below w.heap.size w w' := by
  have H0 := Lib.hid (moves_any A0 n0 c0 w.heap.size 60 w hx0 (Nat.le_refl _) (by decide))
  clear hx0 hx1
  have hk0 := Int.emod_nonneg x1 (show (20 : Int) ≠ 0 by decide)
  have hk1 := Int.emod_lt_of_pos x1 (show (0 : Int) < 20 by decide)
  obtain ⟨k, hk⟩ : ∃ k : Nat, x1 % 20 = (k : Int) := ⟨(x1 % 20).toNat, by omega⟩
  have Hk := Lib.hid hk
  have hk20 : k < 20 := by omega
  clear hk0 hk1 hk
  obtain ⟨i0, hi0, hz0, hz1, hz2⟩ := info_parts info_u8
  go_enter Try.func5, Try.ntmps5
  go_wp2_with fail
  refine H0.out.mono ?_
  rintro e w1 ⟨ms, Am, cm, rfl, hml, _, hown, hbe1⟩
  obtain ⟨hin1, _⟩ := hown.far.inn
  have Hin1 := Lib.hid hin1
  have Hbe1 := Lib.hid hbe1
  have hs1 := hbe1.size
  clear hown hin1 hbe1 H0
  have H1 := Lib.hid (moved_any Am ms.length cm _ ms w1 Hin1.out (Nat.le_refl _) (by omega))
  go_wp2_with fail
  refine (picked_any x1 20 _ (by decide) (by decide)).mono ?_
  rintro e w2 ⟨rfl, rfl⟩
  rw [Hk.out]
  go_wp2_with fail
  refine H1.out.mono ?_
  rintro e w2 ⟨Aa, ca, rfl, hoa, hbe2⟩
  have Hoa := Lib.hid hoa
  have Hbe2 := Lib.hid hbe2
  have hs2 := hbe2.size
  have Hin2 := Lib.hid (Hin1.out.below hbe2)
  clear hoa hbe2 H1
  have H2 := Lib.hid (held_any Am ms.length cm _ ms w2 Hin2.out hs2 (by omega))
  have hok := plays0_ok ms
  obtain ⟨K, hK, hpl⟩ := dk_fall ms k
  have HK := Lib.hid hK
  have Hpl := Lib.hid hpl
  obtain ⟨L, hL⟩ : ∃ L, (plays0 ms).2.1.length = L := ⟨_, rfl⟩
  obtain ⟨Y, hY⟩ : ∃ Y, (plays0 ms).2.2 = Y := ⟨_, rfl⟩
  obtain ⟨hok1, hok2⟩ := hok
  rw [hL] at hok1 hok2 HK Hoa H2 ⊢
  rw [hY] at hok1 HK H2
  have HL := Lib.hid hL
  clear hK hpl hL hY
  go_wp2_with fail
  refine H2.out.mono ?_
  rintro e w3 ⟨rfl, hbe3⟩
  have Hbe3 := Lib.hid hbe3
  have hs3 := hbe3.size
  have Hin3 := Lib.hid (Hin2.out.below (hbe3.mono hs2))
  have Hoa3 := Lib.hid (own_belowS Hoa.out hbe3)
  clear hbe3 H2 Hin2 Hoa Hin1
  have hl2 : ms.length ≤ 1048576 := by omega
  have hl3 : ms.length + 1 ≤ 1048576 := by omega
  go_wp2_with (first
    | (at_builtin; refine wpList_farCopy (by rfl) _ (by rfl) _ Am ms.length cm ms Hin3.out (by rfl) (Nat.le_trans hs2 hs3) hl2 ?_; clear Hin3; intro A4 c4 w4 hf4 hbe4; have Hf4 := Lib.hid hf4; have hm4 : MIn w4 (fun b => b < w4.heap.size ∧ some b ≠ (Value.slice A4 ms.length c4).ownBlock) ⟨4, [], (k : Int)⟩ [.int .i64 4, .slice none 0 0, .int .i64 (k : Int)] := min_nil _ _ _ _ (by decide) (by omega); have Hm4 := Lib.hid hm4; have Hbe4 := Lib.hid hbe4; have hs4 := hbe4.size; clear hf4 hm4 hbe4)
    | (at_builtin; refine wpList_farPut (by rfl) _ _ (by rfl) w3.heap.size _ ms ⟨4, [], (k : Int)⟩ _ (by rfl) Hf4.out Hm4.out _ (by rfl) _ (by rfl) (by rfl) hl3 hs4 ?_; clear Hf4 Hm4; intro v5 w5 hf5 hbe5 _))
  obtain ⟨A5, c5, rfl⟩ := hf5.form
  have hin5 := hf5.inn.1
  have hl5 : (ms ++ [Mv.mk 4 [] (k : Int)]).length ≤ 100 := by simp; omega
  have hs5 : w3.heap.size ≤ w5.heap.size := Nat.le_trans hs4 hbe5.size
  have hb5 : Below w3.heap.size w3 w5 := Hbe4.out.trans hbe5
  have Hoa5 := Lib.hid (own_belowS Hoa3.out hb5)
  have H5 := Lib.hid (moved_any A5 _ c5 _ _ w5 hin5 (Nat.le_refl _) hl5)
  have hw5 := Hbe1.out.trans ((Hbe2.out.mono hs1).trans ((Hbe3.out.mono (Nat.le_trans hs1 hs2)).trans (hb5.mono (Nat.le_trans hs1 (Nat.le_trans hs2 hs3)))))
  have Hw5 := Lib.hid hw5
  clear hf5 hin5 hbe5 Hbe4 Hoa3 hb5 hw5 Hbe1 Hbe2 Hbe3
  refine H5.out.mono ?_
  rintro e w6 ⟨Ab, cb, rfl, hob, hbe6⟩
  rw [Hpl.out] at hob
  have hKL : K ≤ L := by have := HK.out; omega
  have hlen6 : ((plays0 ms).2.1.take K).length = K := by rw [List.length_take, HL.out]; omega
  rw [Hpl.out]
  simp only [hlen6] at hob ⊢
  have hoa6 := own_belowS Hoa5.out hbe6
  have Hhb := Lib.hid (Holds.own hob)
  have Hha := Lib.hid ((Holds.own hoa6).first hKL)
  have Hw6 := Lib.hid (Hw5.out.trans (hbe6.mono Hw5.out.size))
  have hcap : K ≤ ca := by
    rcases hoa6.2 with ⟨hv, hn⟩ | ⟨g, cap, cur, hv, _, _, hnc, _⟩
    · omega
    · injection hv with _ _ hc; omega
  have hs0 := fun W => run_cut_h (P := Try.prog) W 24 5 i0 Try.underlying24 hi0 Aa L ca .i64 (K : Int) K rfl hcap
  have hLe : L ≤ 1200 := hok2
  have HS := Lib.hid (samekeep_any Ab Aa K K cb ca ((plays0 ms).2.1.take K) ((plays0 ms).2.1.take K) w6 Hhb.out Hha.out (by omega) (by omega))
  clear hob hbe6 hoa6 Hhb Hha Hoa5 H5 Hpl hlen6
  have hYL : ¬ ((L : Int) < (Y : Int)) := by omega
  by_cases hmin : (Y : Int) + (k : Int) < (L : Int)
  · have hKe : (K : Int) = (Y : Int) + (k : Int) := by have := HK.out; omega
    have hKb : ((K : Int) == (Y : Int) + (k : Int)) = true := by simpa using hKe
    have HKe := Lib.hid hKe
    clear hKe
    go_wp2_with fail
    refine HS.out.mono ?_
    rintro e w7 ⟨rfl, kk, rfl⟩
    go_wp2_with fail
    go_ret
    exact ⟨by simp, below_drewN Hw6.out _⟩
  · have hKe : K = L := by have := HK.out; omega
    subst hKe
    clear HK
    go_wp2_with fail
    refine HS.out.mono ?_
    rintro e w7 ⟨rfl, kk, rfl⟩
    go_wp2_with fail
    go_ret
    exact ⟨by simp, below_drewN Hw6.out _⟩
namespace diskSafe
open Go.ChangeShapes Go.WideShapes Go.ChangeAt Go.RowKit
theorem own : ownKnob Try.prog.godebug = none := by kernel_rfl
theorem laidOut : laidOutB Try.prog = true := by kernel_rfl
set_option linter.unusedVariables false
set_option maxRecDepth 100000 in
theorem lifted (os : Os) (started : os.Started) (H : Type) (enc : TypeId × Value → H) :
    ReturnsInHanded {} Try.checked os 5 .any (Rows.diskSafeSpec.pre6 enc Try.prog Try.f5 Rows.diskSafeRow.domain false) (Rows.diskSafeSpec.post enc Try.prog Try.f5 false true false false) := by
  refine returnsInHanded_of_change (C := Try.checked) own started (by kernel_rfl) Try.func5
    (ChangeSpec.witness6 (enc := enc) (C := Try.checked) false ⟨#[], #[.slice none 0 0, .int .i64 0], []⟩ 8 (by kernel_rfl) (by kernel_rfl) (by kernel_rfl) (by kernel_rfl)) ?_
  intro W base args ds gs before hval0 hW hcnd _
  have hval : ∀ (j : Nat) t v, Try.f5.params[j]? = some t → args[j]? = some v → Value.okWide Try.prog W .any base t v := hval0
  have hW' := hW
  obtain ⟨p, q, hA0, hV, rfl, hfz, hnd⟩ := hW
  have hA : DataW.TrodAll enc Try.prog W 0 (fun _ => true) true Try.f5.params.toList args.toList ds p := hA0
  rw [Try.params5] at hA hval
  obtain ⟨v0, vs0, d0, ds0, p0, q0, hargs, rfl, rfl, h0, rr0⟩ := trodAll_cons hA
  obtain ⟨v1, vs1, d1, ds1, p1, q1, rfl, rfl, rfl, h1, rr1⟩ := trodAll_cons rr0
  obtain ⟨rfl, rfl, rfl⟩ := trodAll_nil rr1
  obtain rfl : args = #[v0, v1] := by cases args; simp_all
  obtain ⟨rfl, rfl⟩ := trodVars_none hV
  have k0 := h0
  have lt0 : ∀ x ∈ p0, x.block < W.heap.size := by obtain ⟨m, hm⟩ := k0; exact DataW.trod_lt m _ _ _ hm
  obtain ⟨A0, n0, c0, rfl, hx0⟩ := open_intsl Try.underlying34 Try.underlying3 (by kernel_rfl) (hval 0 34 v0 rfl rfl) h0
  have k1 := h1
  have lt1 : ∀ x ∈ p1, x.block < W.heap.size := by obtain ⟨m, hm⟩ := k1; exact DataW.trod_lt m _ _ _ hm
  obtain ⟨x1, rfl, hx1⟩ := open_i64 Try.underlying3 (hval 1 3 v1 rfl rfl) h1
  clear hA0 hval0
  refine (walkDiskSafe A0 n0 c0 x1 W hx0 hx1).mono fun e W' ⟨he, bel⟩ => ?_
  subst he
  exact ⟨_, rfl, _, _, _, [], _, [], hW', trodAll_mk1 (shut_bool Try.underlying4 _), (trodAll_cons_mk (Below.trod laidOut (by kernel_rfl) (of_decide_eq_true (by kernel_rfl)) k0 bel lt0) (trodAll_cons_mk (Below.trod laidOut (by kernel_rfl) (of_decide_eq_true (by kernel_rfl)) k1 bel lt1) trodAll_mk0)), rfl, bel.frame _, fun h => by cases h⟩

theorem over : Rows.diskSafeRow.holds Try.pinned (OpenSpec.ofChange Rows.diskSafeSpec) :=
  OpenClaim.holds_of_wide 5 Try.f5 rfl rfl rfl rfl rfl rfl rfl ⟨rfl, rfl, rfl, rfl, rfl⟩ rfl rfl rfl rfl rfl (by kernel_rfl) Try.func5 (by kernel_rfl)
    (of_decide_eq_true (by kernel_rfl)) (by unfold Func.isWrapper; first | (rw [if_pos (by decide +kernel)]; kernel_rfl) | (rw [if_neg (by decide +kernel)]; exact ⟨rfl, rfl⟩))
    (fun os started H enc _ => lifted os started H enc)

theorem proved : Rows.DiskSafeSaid := over
#print axioms proved
end diskSafe
end Go.Proofs.Ythkbeliplibiaaa
