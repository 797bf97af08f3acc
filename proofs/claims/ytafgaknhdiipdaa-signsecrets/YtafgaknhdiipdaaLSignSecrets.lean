/- Proved here: for all slices of bytes and all signatures, sign.Secret answers as the document's own function does (statement SignSecrets). No condition. -/
import Derived.Test.YtafgaknhdiipdaaSgO
import Derived.Test.YtafgaknhdiipdaaOpenG
namespace Go.Proofs.Ytafgaknhdiipdaa
set_option linter.unusedVariables false
set_option linter.unusedSimpArgs false
open Go.RowKit
set_option maxRecDepth 100000 in
theorem walkSignSecrets (A0 : Option Addr) (n0 c0 : Nat) (l0 : List UInt8) (A1 : Option Addr) (n1 c1 : Nat) (l1 : List UInt8) (r2 s2 : Int) (r3 s3 : Int) (w : World) (hx0 : BytesIn w A0 n0 c0 l0) (hx1 : BytesIn w A1 n1 c1 l1) (hx2 : (-9223372036854775808 ≤ r2 ∧ r2 ≤ 9223372036854775807) ∧ (-9223372036854775808 ≤ s2 ∧ s2 ≤ 9223372036854775807)) (hx3 : (-9223372036854775808 ≤ r3 ∧ r3 ≤ 9223372036854775807) ∧ (-9223372036854775808 ≤ s3 ∧ s3 ≤ 9223372036854775807)) :
    Calls Try.prog 7 #[.slice A0 n0 c0, .slice A1 n1 c1, .agg #[.int .i64 r2, .int .i64 s2], .agg #[.int .i64 r3, .int .i64 s3]] w fun e w' => e = .returned (.bool true) ∧ Below w.heap.size w w' := by
  obtain ⟨a, ev, HM⟩ : ∃ (a : Nat) (ev : Int), Hid (secretR n0 n1 l0 l1 r2 s2 r3 s3 = (a, ev)) := ⟨_, _, Lib.hid rfl⟩
  have hb0 := Lib.hid (((Below.refl w.heap.size w).alloc (Nat.le_refl _) (.cells #[.int .i64 r2, .int .i64 s2] 30)).alloc (size_alloc _ _) (.cells #[.int .i64 r3, .int .i64 s3] 30))
  have hA := Lib.hid (holds_alloc (holds_alloc hx0.1 (.cells #[.int .i64 r2, .int .i64 s2] 30)) (.cells #[.int .i64 r3, .int .i64 s3] 30))
  have hB := Lib.hid (holds_alloc (holds_alloc hx1.1 (.cells #[.int .i64 r2, .int .i64 s2] 30)) (.cells #[.int .i64 r3, .int .i64 s3] 30))
  have hsz : w.heap.size + 1 < ((w.alloc (.cells #[.int .i64 r2, .int .i64 s2] 30)).alloc (.cells #[.int .i64 r3, .int .i64 s3] 30)).heap.size := by simp
  have k0 : ((w.alloc (.cells #[.int .i64 r2, .int .i64 s2] 30)).alloc (.cells #[.int .i64 r3, .int .i64 s3] 30)).cell? ⟨w.heap.size, 0, none⟩ = some (.int .i64 r2) := by simp [go_sem]
  have k1 : ((w.alloc (.cells #[.int .i64 r2, .int .i64 s2] 30)).alloc (.cells #[.int .i64 r3, .int .i64 s3] 30)).cell? ⟨w.heap.size, 1, none⟩ = some (.int .i64 s2) := by simp [go_sem]
  have k2 : ((w.alloc (.cells #[.int .i64 r2, .int .i64 s2] 30)).alloc (.cells #[.int .i64 r3, .int .i64 s3] 30)).cell? ⟨w.heap.size + 1, 0, none⟩ = some (.int .i64 r3) := by simp [go_sem]
  have k3 : ((w.alloc (.cells #[.int .i64 r2, .int .i64 s2] 30)).alloc (.cells #[.int .i64 r3, .int .i64 s3] 30)).cell? ⟨w.heap.size + 1, 1, none⟩ = some (.int .i64 s3) := by simp [go_sem]
  clear hx0 hx1 hx2 hx3
  go_enter Try.func7, Try.ntmps7
  go_wp2_with fail
  refine (secret_any A0 A1 n0 n1 c0 c1 l0 l1 r2 s2 r3 s3 _ hA.out hB.out).mono ?_
  generalize ((w.alloc (.cells #[.int .i64 r2, .int .i64 s2] 30)).alloc (.cells #[.int .i64 r3, .int .i64 s3] 30)) = y1 at *
  rintro e w1 ⟨rfl, hb1⟩
  rw [HM.out]
  simp only [intsV]
  have j0 := (hb1.cell (p := ⟨w.heap.size, 0, none⟩) (by show w.heap.size < _; omega)).trans k0
  have j1 := (hb1.cell (p := ⟨w.heap.size, 1, none⟩) (by show w.heap.size < _; omega)).trans k1
  have j2 := (hb1.cell (p := ⟨w.heap.size + 1, 0, none⟩) hsz).trans k2
  have j3 := (hb1.cell (p := ⟨w.heap.size + 1, 1, none⟩) hsz).trans k3
  have hA1 := Lib.hid ((hA.out.below hb1).wider hb1.size)
  have hB1 := Lib.hid ((hB.out.below hb1).wider hb1.size)
  have hB2 := Lib.hid (hb0.out.trans (hb1.mono hb0.out.size))
  clear hb1 k0 k1 k2 k3 hsz
  go_wp2_with fail
  refine (refSecret_any A0 A1 n0 n1 c0 c1 l0 l1 r2 s2 r3 s3 _ hA1.out hB1.out).mono ?_
  rintro e w2 ⟨rfl, hb2⟩
  rw [HM.out]
  simp only [intsV]
  have hB3 := Lib.hid (hB2.out.trans (hb2.mono hB2.out.size))
  clear hb2
  go_wp2_with fail
  go_ret
  exact ⟨by simp, hB3.out⟩
namespace signSecrets
open Go.ChangeShapes Go.WideShapes Go.ChangeAt Go.RowKit
theorem own : ownKnob Try.prog.godebug = none := by kernel_rfl
theorem laidOut : laidOutB Try.prog = true := by kernel_rfl
set_option linter.unusedVariables false
set_option maxRecDepth 100000 in
theorem lifted (os : Os) (started : os.Started) (H : Type) (enc : TypeId × Value → H) :
    ReturnsInHanded {} Try.checked os 7 .any (Rows.signSecretsSpec.pre6 enc Try.prog Try.f7 Rows.signSecretsRow.domain false) (Rows.signSecretsSpec.post enc Try.prog Try.f7 false true false false) := by
  refine returnsInHanded_of_change (C := Try.checked) own started (by kernel_rfl) Try.func7
    (ChangeSpec.witness6 (enc := enc) (C := Try.checked) false ⟨#[], #[.slice none 0 0, .slice none 0 0, .agg #[.int .i64 0, .int .i64 0], .agg #[.int .i64 0, .int .i64 0]], []⟩ 8 (by kernel_rfl) (by kernel_rfl) (by kernel_rfl) (by kernel_rfl)) ?_
  intro W base args ds gs before hval0 hW hcnd _
  have hval : ∀ (j : Nat) t v, Try.f7.params[j]? = some t → args[j]? = some v → Value.okWide Try.prog W .any base t v := hval0
  have hW' := hW
  obtain ⟨p, q, hA0, hV, rfl, hfz, hnd⟩ := hW
  have hA : DataW.TrodAll enc Try.prog W 0 (fun _ => true) true Try.f7.params.toList args.toList ds p := hA0
  rw [Try.params7] at hA hval
  obtain ⟨v0, vs0, d0, ds0, p0, q0, hargs, rfl, rfl, h0, rr0⟩ := trodAll_cons hA
  obtain ⟨v1, vs1, d1, ds1, p1, q1, rfl, rfl, rfl, h1, rr1⟩ := trodAll_cons rr0
  obtain ⟨v2, vs2, d2, ds2, p2, q2, rfl, rfl, rfl, h2, rr2⟩ := trodAll_cons rr1
  obtain ⟨v3, vs3, d3, ds3, p3, q3, rfl, rfl, rfl, h3, rr3⟩ := trodAll_cons rr2
  obtain ⟨rfl, rfl, rfl⟩ := trodAll_nil rr3
  obtain rfl : args = #[v0, v1, v2, v3] := by cases args; simp_all
  obtain ⟨rfl, rfl⟩ := trodVars_none hV
  have k0 := h0
  have lt0 : ∀ x ∈ p0, x.block < W.heap.size := by obtain ⟨m, hm⟩ := k0; exact DataW.trod_lt m _ _ _ hm
  obtain ⟨A0, n0, c0, l0, rfl, hx0⟩ := open_bytes Try.underlying26 Try.underlying5 (by kernel_rfl) (hval 0 26 v0 rfl rfl) h0
  have k1 := h1
  have lt1 : ∀ x ∈ p1, x.block < W.heap.size := by obtain ⟨m, hm⟩ := k1; exact DataW.trod_lt m _ _ _ hm
  obtain ⟨A1, n1, c1, l1, rfl, hx1⟩ := open_bytes Try.underlying26 Try.underlying5 (by kernel_rfl) (hval 1 26 v1 rfl rfl) h1
  have k2 := h2
  have lt2 : ∀ x ∈ p2, x.block < W.heap.size := by obtain ⟨m, hm⟩ := k2; exact DataW.trod_lt m _ _ _ hm
  obtain ⟨r2, s2, rfl, hx2⟩ := open_sign h2
  have k3 := h3
  have lt3 : ∀ x ∈ p3, x.block < W.heap.size := by obtain ⟨m, hm⟩ := k3; exact DataW.trod_lt m _ _ _ hm
  obtain ⟨r3, s3, rfl, hx3⟩ := open_sign h3
  clear hA0 hval0
  refine (walkSignSecrets A0 n0 c0 l0 A1 n1 c1 l1 r2 s2 r3 s3 W hx0 hx1 hx2 hx3).mono fun e W' ⟨he, bel⟩ => ?_
  subst he
  exact ⟨_, rfl, _, _, _, [], _, [], hW', trodAll_mk1 (shut_bool Try.underlying4 _), (trodAll_cons_mk (Below.trod laidOut (by kernel_rfl) (of_decide_eq_true (by kernel_rfl)) k0 bel lt0) (trodAll_cons_mk (Below.trod laidOut (by kernel_rfl) (of_decide_eq_true (by kernel_rfl)) k1 bel lt1) (trodAll_cons_mk (Below.trod laidOut (by kernel_rfl) (of_decide_eq_true (by kernel_rfl)) k2 bel lt2) (trodAll_cons_mk (Below.trod laidOut (by kernel_rfl) (of_decide_eq_true (by kernel_rfl)) k3 bel lt3) trodAll_mk0)))), rfl, bel.frame _, fun h => by cases h⟩

theorem over : Rows.signSecretsRow.holds Try.pinned (OpenSpec.ofChange Rows.signSecretsSpec) :=
  OpenClaim.holds_of_wide 7 Try.f7 rfl rfl rfl rfl rfl rfl rfl ⟨rfl, rfl, rfl, rfl, rfl⟩ rfl rfl rfl rfl rfl (by kernel_rfl) Try.func7 (by kernel_rfl)
    (of_decide_eq_true (by kernel_rfl)) (by unfold Func.isWrapper; first | (rw [if_pos (by decide +kernel)]; kernel_rfl) | (rw [if_neg (by decide +kernel)]; exact ⟨rfl, rfl⟩))
    (fun os started H enc _ => lifted os started H enc)

theorem proved : Rows.SignSecretsSaid := over
#print axioms proved
end signSecrets
end Go.Proofs.Ytafgaknhdiipdaa
