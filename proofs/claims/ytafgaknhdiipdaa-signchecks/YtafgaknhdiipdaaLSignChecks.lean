/- Proved here: for every int, every slice of bytes and every signature, sign.Check answers as the document's own function does (statement SignChecks). No condition. -/
import Derived.Test.YtafgaknhdiipdaaSgP
import Derived.Test.YtafgaknhdiipdaaOpenG
import Derived.Deep.RegionWith
namespace Go.Proofs.Ytafgaknhdiipdaa
set_option linter.unusedVariables false
set_option linter.unusedSimpArgs false
open Go.RowKit
theorem walkSignChecks (x0 : Int) (A1 : Option Addr) (n1 c1 : Nat) (l1 : List UInt8) (r2 s2 : Int) (w : World) (hx0 : -9223372036854775808 ≤ x0 ∧ x0 ≤ 9223372036854775807) (hx1 : BytesIn w A1 n1 c1 l1) (hx2 : (-9223372036854775808 ≤ r2 ∧ r2 ≤ 9223372036854775807) ∧ (-9223372036854775808 ≤ s2 ∧ s2 ≤ 9223372036854775807)) :
    Calls Try.prog 6 #[.int .i64 x0, .slice A1 n1 c1, .agg #[.int .i64 r2, .int .i64 s2]] w fun e w' => e = .returned (.bool true) ∧ Below w.heap.size w w' := by
  have hh := Lib.hid (holds_alloc hx1.1 (.cells #[.int .i64 r2, .int .i64 s2] 30))
  have hb0 := Lib.hid ((Below.refl w.heap.size w).alloc (Nat.le_refl _) (.cells #[.int .i64 r2, .int .i64 s2] 30))
  have hsz : w.heap.size < (w.alloc (.cells #[.int .i64 r2, .int .i64 s2] 30)).heap.size := by simp
  have k0 : (w.alloc (.cells #[.int .i64 r2, .int .i64 s2] 30)).cell? ⟨w.heap.size, 0, none⟩ = some (.int .i64 r2) := by simp [go_sem]
  have k1 : (w.alloc (.cells #[.int .i64 r2, .int .i64 s2] 30)).cell? ⟨w.heap.size, 1, none⟩ = some (.int .i64 s2) := by simp [go_sem]
  clear hx0 hx1 hx2
  go_enter Try.func6, Try.ntmps6
  go_wp2_with fail
  generalize (w.alloc (.cells #[.int .i64 r2, .int .i64 s2] 30)) = y1 at *
  have d0 : y1.drew.cell? ⟨w.heap.size, 0, none⟩ = some (.int .i64 r2) := k0
  have d1 : y1.drew.cell? ⟨w.heap.size, 1, none⟩ = some (.int .i64 s2) := k1
  have hhd := Lib.hid (show Holds y1.drew y1.drew.heap.size 1 A1 n1 (l1.map bv) from hh.out)
  have hbd := Lib.hid (show Below w.heap.size w y1.drew from below_drewN hb0.out 1)
  go_region_with (first
    | (go_at_call 20; refine (check_any x0 A1 n1 c1 l1 r2 s2 _ ?_).mono ?_; exact hhd.out; rintro e y2 ⟨rfl, hb2⟩; have e0 := (hb2.cell (p := ⟨w.heap.size, 0, none⟩) hsz).trans d0; have e1 := (hb2.cell (p := ⟨w.heap.size, 1, none⟩) hsz).trans d1)
    | (go_at_call 21; refine (refCheckS_any x0 A1 n1 c1 l1 r2 s2 _ ?_).mono ?_; exact (hhd.out.below hb2).wider hb2.size; rintro e y3 ⟨rfl, hb3⟩))
  all_goals
    go_wp2_with fail
    go_ret
    have hB2 := hbd.out.trans (hb2.mono hbd.out.size)
    exact ⟨rfl, hB2.trans (hb3.mono hB2.size)⟩
namespace signChecks
open Go.ChangeShapes Go.WideShapes Go.ChangeAt Go.RowKit
theorem own : ownKnob Try.prog.godebug = none := by kernel_rfl
theorem laidOut : laidOutB Try.prog = true := by kernel_rfl
set_option linter.unusedVariables false
set_option maxRecDepth 100000 in
theorem lifted (os : Os) (started : os.Started) (H : Type) (enc : TypeId × Value → H) :
    ReturnsInHanded {} Try.checked os 6 .any (Rows.signChecksSpec.pre6 enc Try.prog Try.f6 Rows.signChecksRow.domain false) (Rows.signChecksSpec.post enc Try.prog Try.f6 false true false false) := by
  refine returnsInHanded_of_change (C := Try.checked) own started (by kernel_rfl) Try.func6
    (ChangeSpec.witness6 (enc := enc) (C := Try.checked) false ⟨#[], #[.int .i64 0, .slice none 0 0, .agg #[.int .i64 0, .int .i64 0]], []⟩ 8 (by kernel_rfl) (by kernel_rfl) (by kernel_rfl) (by kernel_rfl)) ?_
  intro W base args ds gs before hval0 hW hcnd _
  have hval : ∀ (j : Nat) t v, Try.f6.params[j]? = some t → args[j]? = some v → Value.okWide Try.prog W .any base t v := hval0
  have hW' := hW
  obtain ⟨p, q, hA0, hV, rfl, hfz, hnd⟩ := hW
  have hA : DataW.TrodAll enc Try.prog W 0 (fun _ => true) true Try.f6.params.toList args.toList ds p := hA0
  rw [Try.params6] at hA hval
  obtain ⟨v0, vs0, d0, ds0, p0, q0, hargs, rfl, rfl, h0, rr0⟩ := trodAll_cons hA
  obtain ⟨v1, vs1, d1, ds1, p1, q1, rfl, rfl, rfl, h1, rr1⟩ := trodAll_cons rr0
  obtain ⟨v2, vs2, d2, ds2, p2, q2, rfl, rfl, rfl, h2, rr2⟩ := trodAll_cons rr1
  obtain ⟨rfl, rfl, rfl⟩ := trodAll_nil rr2
  obtain rfl : args = #[v0, v1, v2] := by cases args; simp_all
  obtain ⟨rfl, rfl⟩ := trodVars_none hV
  have k0 := h0
  have lt0 : ∀ x ∈ p0, x.block < W.heap.size := by obtain ⟨m, hm⟩ := k0; exact DataW.trod_lt m _ _ _ hm
  obtain ⟨x0, rfl, hx0⟩ := open_i64 Try.underlying3 (hval 0 3 v0 rfl rfl) h0
  have k1 := h1
  have lt1 : ∀ x ∈ p1, x.block < W.heap.size := by obtain ⟨m, hm⟩ := k1; exact DataW.trod_lt m _ _ _ hm
  obtain ⟨A1, n1, c1, l1, rfl, hx1⟩ := open_bytes Try.underlying26 Try.underlying5 (by kernel_rfl) (hval 1 26 v1 rfl rfl) h1
  have k2 := h2
  have lt2 : ∀ x ∈ p2, x.block < W.heap.size := by obtain ⟨m, hm⟩ := k2; exact DataW.trod_lt m _ _ _ hm
  obtain ⟨r2, s2, rfl, hx2⟩ := open_sign h2
  clear hA0 hval0
  refine (walkSignChecks x0 A1 n1 c1 l1 r2 s2 W hx0 hx1 hx2).mono fun e W' ⟨he, bel⟩ => ?_
  subst he
  exact ⟨_, rfl, _, _, _, [], _, [], hW', trodAll_mk1 (shut_bool Try.underlying4 _), (trodAll_cons_mk (Below.trod laidOut (by kernel_rfl) (of_decide_eq_true (by kernel_rfl)) k0 bel lt0) (trodAll_cons_mk (Below.trod laidOut (by kernel_rfl) (of_decide_eq_true (by kernel_rfl)) k1 bel lt1) (trodAll_cons_mk (Below.trod laidOut (by kernel_rfl) (of_decide_eq_true (by kernel_rfl)) k2 bel lt2) trodAll_mk0))), rfl, bel.frame _, fun h => by cases h⟩

theorem over : Rows.signChecksRow.holds Try.pinned (OpenSpec.ofChange Rows.signChecksSpec) :=
  OpenClaim.holds_of_wide 6 Try.f6 rfl rfl rfl rfl rfl rfl rfl ⟨rfl, rfl, rfl, rfl, rfl⟩ rfl rfl rfl rfl rfl (by kernel_rfl) Try.func6 (by kernel_rfl)
    (of_decide_eq_true (by kernel_rfl)) (by unfold Func.isWrapper; first | (rw [if_pos (by decide +kernel)]; kernel_rfl) | (rw [if_neg (by decide +kernel)]; exact ⟨rfl, rfl⟩))
    (fun os started H enc _ => lifted os started H enc)

theorem proved : Rows.SignChecksSaid := over
#print axioms proved
end signChecks
end Go.Proofs.Ytafgaknhdiipdaa
