/- Proved here: devices.Since returns the updates or the error that P13.2 specifies, for all arguments (statement DeviceSinces). No condition. -/
import Derived.Test.YtmlgaedhfannmaaDvRfS
import Derived.Test.YtmlgaedhfannmaaDvSm
import Derived.Test.YtmlgaedhfannmaaOpenD
import Derived.HandedShaped
namespace Go.Proofs.Ytmlgaedhfannmaa
set_option linter.unusedVariables false
set_option linter.unusedSimpArgs false
open Go.RowKit
set_option maxHeartbeats 4000000 in
set_option maxRecDepth 100000 in
theorem walkDeviceSinces (A0 : Option Addr) (n0 c0 : Nat) (u0 : List Uc) (x1 : Int) (w : World) (hx0 : LIn ucL 5 w w.heap.size A0 n0 c0 u0 ∧ (∀ p ∈ u0, UcOk p) ∧ n0 ≤ 9223372036854775807) (hx1 : -9223372036854775808 ≤ x1 ∧ x1 ≤ 9223372036854775807) :
    Calls Try.prog 4 #[.slice A0 n0 c0, .int .i64 x1] w fun e w' => e = .returned (.bool true) ∧ Below w.heap.size w w' := by
  obtain ⟨hl, hok, hn⟩ := hx0
  have H1 := Lib.hid (since_any A0 n0 c0 _ u0 x1 w hl (Nat.le_refl _) hn hok)
  have HR := Lib.hid (fun (W : World) (h : LIn ucL 5 W w.heap.size A0 n0 c0 u0) (hb : w.heap.size ≤ W.heap.size) => refDS_any A0 n0 c0 w.heap.size u0 x1 W h hb hn hok)
  have Hl := Lib.hid hl
  have Hlen := Lib.hid (show (sinceL u0 x1).2.length ≤ 100 by
    unfold sinceL
    split
    · simp
    · split
      · simp
      · have h1 := lastOnes_len ((playL u0).2.1.drop x1.toNat)
        have h2 := playL_len u0
        rw [List.length_drop] at h1
        simp only
        omega)
  unfold SPost at H1 HR
  generalize sinceL u0 x1 = X at *
  obtain ⟨xe, xu⟩ := X
  simp only at H1 HR Hlen
  have he0 : (xe == xe) = true := by simp
  obtain ⟨n, hnn⟩ : ∃ n, xu.length = n := ⟨_, rfl⟩
  rw [hnn] at H1 HR Hlen
  clear hl hok hn hnn
  go_enter Try.func4, Try.ntmps4
  go_wp2_with fail
  refine H1.out.mono ?_
  rintro e w1 ⟨A1, c1, rfl, h1, b1⟩
  have H2 := Lib.hid (HR.out w1 (Hl.out.below b1) b1.size)
  have Hin1 := Lib.hid h1
  have B1 := Lib.hid b1
  clear h1 b1 HR H1
  go_wp2_with fail
  refine H2.out.mono ?_
  rintro e w2 ⟨A3, c3, rfl, h3, b2⟩
  have HS1 := Lib.hid (refSameU_any A1 A3 n c1 c3 _ _ xu w2 (Hin1.out.below b2) h3 (by have := Hlen.out; omega))
  have B2 := Lib.hid (B1.out.trans (b2.mono B1.out.size))
  clear h3 b2 H2 Hin1
  go_wp2_with fail
  refine HS1.out.mono ?_
  rintro e w3 ⟨rfl, q1, rfl⟩
  go_wp2_with fail
  go_ret
  exact ⟨rfl, below_drewN B2.out _⟩
namespace deviceSinces
open Go.ChangeShapes Go.WideShapes Go.ChangeAt Go.RowKit
theorem own : ownKnob Try.prog.godebug = none := by kernel_rfl
theorem laidOut : laidOutB Try.prog = true := by kernel_rfl
set_option linter.unusedVariables false
set_option maxRecDepth 100000 in
theorem lifted (os : Os) (started : os.Started) (H : Type) (enc : TypeId × Value → H) :
    ReturnsInHanded {} Try.checked os 4 .any (Rows.deviceSincesSpec.pre6 enc Try.prog Try.f4 Rows.deviceSincesRow.domain false) (Rows.deviceSincesSpec.post enc Try.prog Try.f4 false true false false) := by
  refine returnsInHanded_of_change (C := Try.checked) own started (by kernel_rfl) Try.func4
    (ChangeSpec.witness6 (enc := enc) (C := Try.checked) false ⟨#[], #[.slice none 0 0, .int .i64 0], []⟩ 8 (by kernel_rfl) (by kernel_rfl) (by kernel_rfl) (by kernel_rfl)) ?_
  intro W base args ds gs before hval0 hW hcnd _
  have hval : ∀ (j : Nat) t v, Try.f4.params[j]? = some t → args[j]? = some v → Value.okWide Try.prog W .any base t v := hval0
  have hW' := hW
  obtain ⟨p, q, hA0, hV, rfl, hfz, hnd⟩ := hW
  have hA : DataW.TrodAll enc Try.prog W 0 (fun _ => true) true Try.f4.params.toList args.toList ds p := hA0
  rw [Try.params4] at hA hval
  obtain ⟨v0, vs0, d0, ds0, p0, q0, hargs, rfl, rfl, h0, rr0⟩ := trodAll_cons hA
  obtain ⟨v1, vs1, d1, ds1, p1, q1, rfl, rfl, rfl, h1, rr1⟩ := trodAll_cons rr0
  obtain ⟨rfl, rfl, rfl⟩ := trodAll_nil rr1
  obtain rfl : args = #[v0, v1] := by cases args; simp_all
  obtain ⟨rfl, rfl⟩ := trodVars_none hV
  have k0 := h0
  have lt0 : ∀ x ∈ p0, x.block < W.heap.size := by obtain ⟨m, hm⟩ := k0; exact DataW.trod_lt m _ _ _ hm
  obtain ⟨A0, n0, c0, u0, rfl, hx0⟩ := open_upds (hval 0 22 v0 rfl rfl) h0
  have k1 := h1
  have lt1 : ∀ x ∈ p1, x.block < W.heap.size := by obtain ⟨m, hm⟩ := k1; exact DataW.trod_lt m _ _ _ hm
  obtain ⟨x1, rfl, hx1⟩ := open_i64 Try.underlying3 (hval 1 3 v1 rfl rfl) h1
  clear hA0 hval0
  refine (walkDeviceSinces A0 n0 c0 u0 x1 W hx0 hx1).mono fun e W' ⟨he, bel⟩ => ?_
  subst he
  exact ⟨_, rfl, _, _, _, [], _, [], hW', trodAll_mk1 (shut_bool Try.underlying4 _), (trodAll_cons_mk (Below.trod laidOut (by kernel_rfl) (of_decide_eq_true (by kernel_rfl)) k0 bel lt0) (trodAll_cons_mk (Below.trod laidOut (by kernel_rfl) (of_decide_eq_true (by kernel_rfl)) k1 bel lt1) trodAll_mk0)), rfl, bel.frame _, fun h => by cases h⟩

theorem over : Rows.deviceSincesRow.holds Try.pinned (OpenSpec.ofChange Rows.deviceSincesSpec) :=
  OpenClaim.holds_of_wide 4 Try.f4 rfl rfl rfl rfl rfl rfl rfl ⟨rfl, rfl, rfl, rfl, rfl⟩ rfl rfl rfl rfl rfl (by kernel_rfl) Try.func4 (by kernel_rfl)
    (of_decide_eq_true (by kernel_rfl)) (by unfold Func.isWrapper; first | (rw [if_pos (by decide +kernel)]; kernel_rfl) | (rw [if_neg (by decide +kernel)]; exact ⟨rfl, rfl⟩))
    (fun os started H enc _ => lifted os started H enc)

theorem proved : Rows.DeviceSincesSaid := over
#print axioms proved
end deviceSinces
end Go.Proofs.Ytmlgaedhfannmaa
