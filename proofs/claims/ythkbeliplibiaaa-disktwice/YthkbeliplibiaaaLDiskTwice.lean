/- Proved here: for every list of raw numbers and all numbers, a second power failure behind the first takes nothing more (statement DiskTwice). No condition. -/
import Derived.Test.YthkbeliplibiaaaDkFar
import Derived.Test.YthkbeliplibiaaaRows
import Derived.ChangeSame
namespace Go.Proofs.Ythkbeliplibiaaa
set_option linter.unusedVariables false
set_option linter.unusedSimpArgs false
open Go.RowKit
set_option maxRecDepth 100000 in
set_option maxHeartbeats 2000000 in
theorem walkDiskTwice (A0 : Option Addr) (n0 c0 : Nat) (x1 : Int) (x2 : Int) (w : World) (hx0 : IntsAt w w.heap.size A0 n0 c0) (hx1 : -9223372036854775808 ≤ x1 ∧ x1 ≤ 9223372036854775807) (hx2 : -9223372036854775808 ≤ x2 ∧ x2 ≤ 9223372036854775807) :
    Calls Try.prog 6 #[.slice A0 n0 c0, .int .i64 x1, .int .i64 x2] w fun e w' => e = .returned (.bool true) ∧ Below w.heap.size w w' := by
  have H0 := Lib.hid (moves_any A0 n0 c0 w.heap.size 60 w hx0 (Nat.le_refl _) (by decide))
  clear hx0 hx1 hx2
  have hk0 := Int.emod_nonneg x1 (show (20 : Int) ≠ 0 by decide)
  have hk1 := Int.emod_lt_of_pos x1 (show (0 : Int) < 20 by decide)
  obtain ⟨k, hk⟩ : ∃ k : Nat, x1 % 20 = (k : Int) := ⟨(x1 % 20).toNat, by omega⟩
  have Hk := Lib.hid hk
  have hk20 : k < 20 := by omega
  clear hk0 hk1 hk
  have hk0 := Int.emod_nonneg x2 (show (20 : Int) ≠ 0 by decide)
  have hk1 := Int.emod_lt_of_pos x2 (show (0 : Int) < 20 by decide)
  obtain ⟨j, hj⟩ : ∃ j : Nat, x2 % 20 = (j : Int) := ⟨(x2 % 20).toNat, by omega⟩
  have Hj := Lib.hid hj
  have hj20 : j < 20 := by omega
  clear hk0 hk1 hj
  go_enter Try.func6, Try.ntmps6
  go_wp2_with fail
  refine H0.out.mono ?_
  rintro e w1 ⟨ms, Am, cm, rfl, hml, _, hown, hbe1⟩
  have Hf1 := Lib.hid hown.far
  have Hbe1 := Lib.hid hbe1
  have hs1 := hbe1.size
  clear hown hbe1 H0
  have Hm1 := Lib.hid (show MIn w1 (fun b => b < w1.heap.size ∧ some b ≠ (Value.slice Am ms.length cm).ownBlock) (Mv.mk 4 [] (k : Int)) [.int .i64 4, .slice none 0 0, .int .i64 (k : Int)] from min_nil _ _ _ _ (by decide) (by omega))
  have hl1 : ms.length + 1 ≤ 1048576 := by omega
  go_wp2_with fail
  refine (picked_any x1 20 _ (by decide) (by decide)).mono ?_
  rintro e w2 ⟨rfl, rfl⟩
  rw [Hk.out]
  go_wp2_with (at_builtin; refine wpList_farPut (by rfl) _ _ (by rfl) w.heap.size _ ms (Mv.mk 4 [] (k : Int)) _ (by rfl) Hf1.out Hm1.out _ (by rfl) _ (by rfl) (by rfl) hl1 hs1 ?_; clear Hf1 Hm1; intro v2 w2 hf2 hbe2 _; obtain ⟨M, hM⟩ : ∃ M, ms ++ [Mv.mk 4 [] (k : Int)] = M := ⟨_, rfl⟩; rw [hM] at hf2; obtain ⟨A2, c2, rfl⟩ := hf2.form; have Hf2 := Lib.hid hf2; have Hbe2 := Lib.hid hbe2; have HM := Lib.hid hM; clear hf2 hbe2 hM)
  have hMl : M.length ≤ 61 := by rw [← HM.out]; simp; omega
  have Hw2 := Lib.hid (Hbe1.out.trans Hbe2.out)
  have hsw := Hw2.out.size
  have Hin2 := Lib.hid Hf2.out.inn.1
  obtain ⟨K, hK, hpl⟩ := dk_fall ms k
  rw [HM.out] at hpl
  have hok := plays0_ok ms
  have hlen : ((plays0 ms).2.1.take K).length = K := by rw [List.length_take]; have := hok.1; omega
  have hK2 : K ≤ 1200 := by have := hok.2; omega
  obtain ⟨C, hC⟩ : ∃ C, (plays0 ms).2.1.take K = C := ⟨_, rfl⟩
  rw [hC] at hpl hlen
  obtain ⟨K2, hKK, hpl2⟩ := dk_fall M j
  rw [hpl] at hKK hpl2
  simp only [hlen] at hKK hpl2
  have hKe : K2 = K := by omega
  subst hKe
  rw [List.take_of_length_le (by omega)] at hpl2
  have Hpl := Lib.hid hpl
  have Hpl2 := Lib.hid hpl2
  have Hlen := Lib.hid hlen
  clear hK hpl hok hlen hC hKK hpl2 Hbe1 Hbe2 Hf2 HM
  have H3 := Lib.hid (moved_any A2 M.length c2 _ M w2 Hin2.out (Nat.le_refl _) (by omega))
  refine H3.out.mono ?_
  rintro e w3 ⟨Aa, ca, rfl, hoa, hbe3⟩
  rw [Hpl.out] at hoa ⊢
  simp only [Hlen.out] at hoa ⊢
  have Hoa := Lib.hid hoa
  have Hbe3 := Lib.hid hbe3
  have hs3 := hbe3.size
  have Hin3 := Lib.hid (Hin2.out.below hbe3)
  clear hoa hbe3 H3 Hin2
  have hl2 : M.length ≤ 1048576 := by omega
  have hl3 : M.length + 1 ≤ 1048576 := by omega
  go_wp2_with (at_builtin; refine wpList_farCopy (by rfl) _ (by rfl) _ A2 M.length c2 M Hin3.out (by rfl) hs3 hl2 ?_; intro A4 c4 w4 hf4 hbe4; have Hf4 := Lib.hid hf4; have Hm4 := Lib.hid (show MIn w4 (fun b => b < w4.heap.size ∧ some b ≠ (Value.slice A4 M.length c4).ownBlock) (Mv.mk 4 [] (j : Int)) [.int .i64 4, .slice none 0 0, .int .i64 (j : Int)] from min_nil _ _ _ _ (by decide) (by omega)); have Hbe4 := Lib.hid hbe4; have hs4 := hbe4.size; clear hf4 hbe4)
  refine (picked_any x2 20 _ (by decide) (by decide)).mono ?_
  rintro e wq ⟨rfl, rfl⟩
  rw [Hj.out]
  go_wp2_with (at_builtin; refine wpList_farPut (by rfl) _ _ (by rfl) w3.heap.size _ M (Mv.mk 4 [] (j : Int)) _ (by rfl) Hf4.out Hm4.out _ (by rfl) _ (by rfl) (by rfl) hl3 hs4 ?_; clear Hf4 Hm4; intro v5 w5 hf5 hbe5 _)
  obtain ⟨A5, c5, rfl⟩ := hf5.form
  have hin5 := hf5.inn.1
  have hl5 : (M ++ [Mv.mk 4 [] (j : Int)]).length ≤ 100 := by simp; omega
  have hb5 : Below w3.heap.size w3 w5 := Hbe4.out.trans hbe5
  have Hoa5 := Lib.hid (own_belowS Hoa.out hb5)
  have Hin5 := Lib.hid (Hin3.out.below (hb5.mono hs3))
  have H5 := Lib.hid (moved_any A5 _ c5 _ _ w5 hin5 (Nat.le_refl _) hl5)
  have hw5 := Hw2.out.trans ((Hbe3.out.mono hsw).trans (hb5.mono (Nat.le_trans hsw hs3)))
  have Hw5 := Lib.hid hw5
  have hs5 : w2.heap.size ≤ w5.heap.size := Nat.le_trans hs3 hb5.size
  clear hf5 hin5 hbe5 Hbe4 Hoa hb5 hw5 Hbe3 Hin3
  refine H5.out.mono ?_
  rintro e w6 ⟨Ab, cb, rfl, hob, hbe6⟩
  rw [Hpl2.out] at hob ⊢
  simp only [Hlen.out] at hob ⊢
  have hs6 := hbe6.size
  have Hob := Lib.hid hob
  have Hoa6 := Lib.hid (own_belowS Hoa5.out hbe6)
  have H6 := Lib.hid (held_any A2 M.length c2 _ M w6 (Hin5.out.below (hbe6.mono hs5)) (Nat.le_trans hs5 hs6) (by omega))
  have Hw6 := Lib.hid (Hw5.out.trans (hbe6.mono Hw5.out.size))
  clear hob hbe6 Hoa5 Hin5 H5
  go_wp2_with fail
  refine H6.out.mono ?_
  rintro e w7 ⟨rfl, hbe7⟩
  rw [Hpl.out]
  simp only [Hlen.out]
  have Hhb := Lib.hid (Holds.own (own_belowS Hob.out hbe7))
  have Hha := Lib.hid (Holds.own (own_belowS Hoa6.out hbe7))
  have Hw7 := Lib.hid (Hw6.out.trans (hbe7.mono Hw6.out.size))
  have HS := Lib.hid (samekeep_any Aa Ab _ _ ca cb C C w7 Hha.out Hhb.out (by omega) (by omega))
  clear hbe7 Hhb Hha Hob Hoa6 H6 Hpl Hpl2
  go_wp2_with fail
  refine HS.out.mono ?_
  rintro e w8 ⟨rfl, kk, rfl⟩
  go_wp2_with fail
  go_ret
  exact ⟨by simp, below_drewN Hw7.out _⟩
namespace diskTwice
open Go.ChangeShapes Go.WideShapes Go.ChangeAt Go.RowKit
theorem own : ownKnob Try.prog.godebug = none := by kernel_rfl
theorem laidOut : laidOutB Try.prog = true := by kernel_rfl
set_option linter.unusedVariables false
set_option maxRecDepth 100000 in
theorem lifted (os : Os) (started : os.Started) (H : Type) (enc : TypeId × Value → H) :
    ReturnsInHanded {} Try.checked os 6 .any (Rows.diskTwiceSpec.pre6 enc Try.prog Try.f6 Rows.diskTwiceRow.domain false) (Rows.diskTwiceSpec.post enc Try.prog Try.f6 false true false false) := by
  refine returnsInHanded_of_change (C := Try.checked) own started (by kernel_rfl) Try.func6
    (ChangeSpec.witness6 (enc := enc) (C := Try.checked) false ⟨#[], #[.slice none 0 0, .int .i64 0, .int .i64 0], []⟩ 8 (by kernel_rfl) (by kernel_rfl) (by kernel_rfl) (by kernel_rfl)) ?_
  intro W base args ds gs before hval0 hW hcnd _
  have hval : ∀ (j : Nat) t v, Try.f6.params[j]? = some t → args[j]? = some v → Value.okWide Try.prog W .any base t v := hval0
  have hW' := hW
  obtain ⟨p, q, hA0, hV, rfl, hfz, hnd⟩ := hW
  have hA : DataW.TrodAll enc Try.prog W 0 (fun _ => true) true Try.f6.params.toList args.toList ds p := hA0
  rw [Try.params6] at hA hval
  obtain ⟨v0, vs0, d0, ds0, p0, q0, hargs, rfl, rfl, h0, rr0⟩ := trodAll_cons hA
  obtain ⟨v1, vs1, d1, ds1, p1, q1, rfl, rfl, rfl, h1, rr1⟩ := trodAll_cons rr0
  obtain ⟨v2, vs2, d2, ds2, p2, q2, rfl, rfl, rfl, h2, rr2⟩ := trodAll_cons rr1
  obtain ⟨rfl, rfl, rfl⟩ := trodAll_nil rr2
  obtain rfl : args = #[v0, v1, v2] := by cases args; simp_all
  obtain ⟨rfl, rfl⟩ := trodVars_none hV
  have k0 := h0
  have lt0 : ∀ x ∈ p0, x.block < W.heap.size := by obtain ⟨m, hm⟩ := k0; exact DataW.trod_lt m _ _ _ hm
  obtain ⟨A0, n0, c0, rfl, hx0⟩ := open_intsl Try.underlying34 Try.underlying3 (by kernel_rfl) (hval 0 34 v0 rfl rfl) h0
  have k1 := h1
  have lt1 : ∀ x ∈ p1, x.block < W.heap.size := by obtain ⟨m, hm⟩ := k1; exact DataW.trod_lt m _ _ _ hm
  obtain ⟨x1, rfl, hx1⟩ := open_i64 Try.underlying3 (hval 1 3 v1 rfl rfl) h1
  have k2 := h2
  have lt2 : ∀ x ∈ p2, x.block < W.heap.size := by obtain ⟨m, hm⟩ := k2; exact DataW.trod_lt m _ _ _ hm
  obtain ⟨x2, rfl, hx2⟩ := open_i64 Try.underlying3 (hval 2 3 v2 rfl rfl) h2
  clear hA0 hval0
  refine (walkDiskTwice A0 n0 c0 x1 x2 W hx0 hx1 hx2).mono fun e W' ⟨he, bel⟩ => ?_
  subst he
  exact ⟨_, rfl, _, _, _, [], _, [], hW', trodAll_mk1 (shut_bool Try.underlying4 _), (trodAll_cons_mk (Below.trod laidOut (by kernel_rfl) (of_decide_eq_true (by kernel_rfl)) k0 bel lt0) (trodAll_cons_mk (Below.trod laidOut (by kernel_rfl) (of_decide_eq_true (by kernel_rfl)) k1 bel lt1) (trodAll_cons_mk (Below.trod laidOut (by kernel_rfl) (of_decide_eq_true (by kernel_rfl)) k2 bel lt2) trodAll_mk0))), rfl, bel.frame _, fun h => by cases h⟩

theorem over : Rows.diskTwiceRow.holds Try.pinned (OpenSpec.ofChange Rows.diskTwiceSpec) :=
  OpenClaim.holds_of_wide 6 Try.f6 rfl rfl rfl rfl rfl rfl rfl ⟨rfl, rfl, rfl, rfl, rfl⟩ rfl rfl rfl rfl rfl (by kernel_rfl) Try.func6 (by kernel_rfl)
    (of_decide_eq_true (by kernel_rfl)) (by unfold Func.isWrapper; first | (rw [if_pos (by decide +kernel)]; kernel_rfl) | (rw [if_neg (by decide +kernel)]; exact ⟨rfl, rfl⟩))
    (fun os started H enc _ => lifted os started H enc)

theorem proved : Rows.DiskTwiceSaid := over
#print axioms proved
end diskTwice
end Go.Proofs.Ythkbeliplibiaaa
