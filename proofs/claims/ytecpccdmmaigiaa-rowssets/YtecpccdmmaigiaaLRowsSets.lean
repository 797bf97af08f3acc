/- Proved here: for every two lists of rows, rows.Set answers as the document's own function does (statement RowsSets). No condition. -/
import Derived.Test.YtecpccdmmaigiaaRwSetQ
import Derived.Test.YtecpccdmmaigiaaRwSameL
import Derived.Test.YtecpccdmmaigiaaOpenR
namespace Go.Proofs.Ytecpccdmmaigiaa
set_option linter.unusedVariables false
set_option linter.unusedSimpArgs false
open Go.RowKit
theorem setN_len (l cs : List Rw) : (setN l cs).1.length ≤ 40 := by
  unfold setN
  split
  · simp
  · split
    · simp
    · split
      · simp
      · simp only; omega
theorem walkRowsSets (A0 : Option Addr) (n0 c0 : Nat) (r0 : List Rw) (A1 : Option Addr) (n1 c1 : Nat) (r1 : List Rw) (w : World) (hx0 : RIn w w.heap.size A0 n0 c0 r0 ∧ Short r0 ∧ n0 ≤ 9223372036854775807) (hx1 : RIn w w.heap.size A1 n1 c1 r1 ∧ Short r1 ∧ n1 ≤ 9223372036854775807) :
    Calls Try.prog 4 #[.slice A0 n0 c0, .slice A1 n1 c1] w fun e w' => e = .returned (.bool true) ∧ Below w.heap.size w w' := by
  obtain ⟨hl, hs, hn⟩ := hx0
  obtain ⟨hl', hs', hn'⟩ := hx1
  have H1 := Lib.hid (set_any A0 A1 n0 c0 n1 c1 w.heap.size w.heap.size r0 r1 w hl (Nat.le_refl _) hs hn hl' (Nat.le_refl _) hs' hn')
  have H2 := Lib.hid (show ∀ W1, Below w.heap.size w W1 → _ from fun W1 hb => refSet_any A0 A1 n0 c0 n1 c1 w.heap.size w.heap.size r0 r1 W1 (hl.below hb) hb.size hs hn (hl'.below hb) hb.size hs' hn')
  have hle := setN_len r0 r1
  clear hl hs hl' hs'
  generalize setN r0 r1 = X at *
  obtain ⟨x, y⟩ := X
  simp only at hle
  go_enter Try.func4, Try.ntmps4
  go_wp2_with fail
  refine H1.out.mono ?_
  rintro e w1 ⟨v1, rfl, ho1, hb1⟩
  have Hb1 := Lib.hid hb1
  have Ho1 := Lib.hid ho1
  clear hb1 H1 ho1
  go_wp2_with fail
  refine (H2.out w1 Hb1.out).mono ?_
  rintro e w2 ⟨Ay, cy, rfl, hy, hb2⟩
  obtain ⟨Ax, cx, rfl, hx⟩ := RIn.own (rowR_below Ho1.out hb2)
  have H3 := Lib.hid (sameRowsL_any Ax Ay x.length cx cy _ _ x w2 hx hy (by omega))
  have Hb2 := Lib.hid (Hb1.out.trans (hb2.mono Hb1.out.size))
  clear hb2 H2 Ho1 hx hy
  go_wp2_with fail
  refine H3.out.mono ?_
  rintro e w3 ⟨rfl, q, rfl⟩
  go_wp2_with fail
  go_ret
  exact ⟨by simp, below_drewN Hb2.out q⟩
namespace rowsSets
open Go.ChangeShapes Go.WideShapes Go.ChangeAt Go.RowKit
theorem own : ownKnob Try.prog.godebug = none := by kernel_rfl
theorem laidOut : laidOutB Try.prog = true := by kernel_rfl
set_option linter.unusedVariables false
set_option maxRecDepth 100000 in
theorem lifted (os : Os) (started : os.Started) (H : Type) (enc : TypeId × Value → H) :
    ReturnsInHanded {} Try.checked os 4 .any (Rows.rowsSetsSpec.pre6 enc Try.prog Try.f4 Rows.rowsSetsRow.domain false) (Rows.rowsSetsSpec.post enc Try.prog Try.f4 false true false false) := by
  refine returnsInHanded_of_change (C := Try.checked) own started (by kernel_rfl) Try.func4
    (ChangeSpec.witness6 (enc := enc) (C := Try.checked) false ⟨#[], #[.slice none 0 0, .slice none 0 0], []⟩ 8 (by kernel_rfl) (by kernel_rfl) (by kernel_rfl) (by kernel_rfl)) ?_
  intro W base args ds gs before hval0 hW hcnd _
  have hval : ∀ (j : Nat) t v, Try.f4.params[j]? = some t → args[j]? = some v → Value.okWide Try.prog W .any base t v := hval0
  have hW' := hW
  obtain ⟨p, q, hA0, hV, rfl, hfz, hnd⟩ := hW
  have hA : DataW.TrodAll enc Try.prog W 0 (fun _ => true) true Try.f4.params.toList args.toList ds p := hA0
  rw [Try.params4] at hA hval
  obtain ⟨v0, vs0, d0, ds0, p0, q0, hargs, rfl, rfl, h0, rr0⟩ := trodAll_cons hA
  obtain ⟨v1, vs1, d1, ds1, p1, q1, rfl, rfl, rfl, h1, rr1⟩ := trodAll_cons rr0
  obtain ⟨rfl, rfl, rfl⟩ := trodAll_nil rr1
  obtain rfl : args = #[v0, v1] := by cases args; simp_all
  obtain ⟨rfl, rfl⟩ := trodVars_none hV
  have k0 := h0
  have lt0 : ∀ x ∈ p0, x.block < W.heap.size := by obtain ⟨m, hm⟩ := k0; exact DataW.trod_lt m _ _ _ hm
  obtain ⟨A0, n0, c0, r0, rfl, hx0⟩ := open_rows (hval 0 22 v0 rfl rfl) h0
  have k1 := h1
  have lt1 : ∀ x ∈ p1, x.block < W.heap.size := by obtain ⟨m, hm⟩ := k1; exact DataW.trod_lt m _ _ _ hm
  obtain ⟨A1, n1, c1, r1, rfl, hx1⟩ := open_rows (hval 1 22 v1 rfl rfl) h1
  clear hA0 hval0
  refine (walkRowsSets A0 n0 c0 r0 A1 n1 c1 r1 W hx0 hx1).mono fun e W' ⟨he, bel⟩ => ?_
  subst he
  exact ⟨_, rfl, _, _, _, [], _, [], hW', trodAll_mk1 (shut_bool Try.underlying4 _), (trodAll_cons_mk (Below.trod laidOut (by kernel_rfl) (of_decide_eq_true (by kernel_rfl)) k0 bel lt0) (trodAll_cons_mk (Below.trod laidOut (by kernel_rfl) (of_decide_eq_true (by kernel_rfl)) k1 bel lt1) trodAll_mk0)), rfl, bel.frame _, fun h => by cases h⟩

theorem over : Rows.rowsSetsRow.holds Try.pinned (OpenSpec.ofChange Rows.rowsSetsSpec) :=
  OpenClaim.holds_of_wide 4 Try.f4 rfl rfl rfl rfl rfl rfl rfl ⟨rfl, rfl, rfl, rfl, rfl⟩ rfl rfl rfl rfl rfl (by kernel_rfl) Try.func4 (by kernel_rfl)
    (of_decide_eq_true (by kernel_rfl)) (by unfold Func.isWrapper; first | (rw [if_pos (by decide +kernel)]; kernel_rfl) | (rw [if_neg (by decide +kernel)]; exact ⟨rfl, rfl⟩))
    (fun os started H enc _ => lifted os started H enc)

theorem proved : Rows.RowsSetsSaid := over
#print axioms proved
end rowsSets
end Go.Proofs.Ytecpccdmmaigiaa
