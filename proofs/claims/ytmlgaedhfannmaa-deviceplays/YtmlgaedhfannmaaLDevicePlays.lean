/- Proved here: devices.Play returns the updates, the list and the error that P13.1 specifies, for all arguments (statement DevicePlays). No condition. -/
import Derived.Test.YtmlgaedhfannmaaDvRfP
import Derived.Test.YtmlgaedhfannmaaDvSm
import Derived.Test.YtmlgaedhfannmaaOpenD
import Derived.HandedShaped
namespace Go.Proofs.Ytmlgaedhfannmaa
set_option linter.unusedVariables false
set_option linter.unusedSimpArgs false
open Go.RowKit
set_option maxHeartbeats 4000000 in
set_option maxRecDepth 100000 in
theorem walkDevicePlays (A0 : Option Addr) (n0 c0 : Nat) (u0 : List Uc) (w : World) (hx0 : LIn ucL 5 w w.heap.size A0 n0 c0 u0 ∧ (∀ p ∈ u0, UcOk p) ∧ n0 ≤ 9223372036854775807) :
    Calls Try.prog 3 #[.slice A0 n0 c0] w fun e w' => e = .returned (.bool true) ∧ Below w.heap.size w w' := by
  obtain ⟨hl, hok, hn⟩ := hx0
  have H1 := Lib.hid (dplay_any A0 n0 c0 _ u0 w hl (Nat.le_refl _) hn hok)
  have HR := Lib.hid (fun (W : World) (h : LIn ucL 5 W w.heap.size A0 n0 c0 u0) (hb : w.heap.size ≤ W.heap.size) => refD_any A0 n0 c0 w.heap.size u0 W h hb hn hok)
  have Hl := Lib.hid hl
  have Hlen := Lib.hid (playL_len u0)
  have H6 := Lib.hid (playL_ok u0).2.few
  unfold DPost at H1
  unfold RpPost at HR
  generalize playL u0 = X at *
  obtain ⟨xe, xu, xd⟩ := X
  simp only at H1 HR Hlen H6
  have he0 : (xe == xe) = true := by simp
  obtain ⟨n, hnn⟩ : ∃ n, xu.length = n := ⟨_, rfl⟩
  obtain ⟨m, hmm⟩ : ∃ m, xd.length = m := ⟨_, rfl⟩
  rw [hnn, hmm] at H1 HR
  rw [hnn] at Hlen
  rw [hmm] at H6
  have hnn2 : ((n : Int) == (n : Int)) = true := by simp
  clear hl hok hn hnn hmm
  go_enter Try.func3, Try.ntmps3
  go_wp2_with fail
  refine H1.out.mono ?_
  rintro e w1 ⟨A1, c1, A2, c2, rfl, h1, h2, b1⟩
  obtain ⟨V, hV⟩ : ∃ V, w1.alloc (.cells #[.int .i64 (n : Int), .bool false, .slice A2 m c2] 25) = V := ⟨_, rfl⟩
  have hVB := Blk.new w1 25 #[.int .i64 (n : Int), .bool false, .slice A2 m c2]
  have hVb : Below w1.heap.size w1 V := by rw [← hV]; exact (Below.refl _ _).alloc (Nat.le_refl _) _
  rw [hV] at hVB
  have hbV := b1.trans (hVb.mono b1.size)
  have H2 := Lib.hid (HR.out V (Hl.out.below hbV) hbV.size)
  have Hin1 := Lib.hid ((h1.below hVb).wider hVb.size)
  have Hin2 := Lib.hid ((h2.below hVb).wider hVb.size)
  have B1 := Lib.hid hbV
  have HVB := Lib.hid hVB
  clear h1 h2 b1 HR H1 hVb hbV hVB
  go_wp2_with fail
  refine H2.out.mono ?_
  rintro e w2 ⟨A3, c3, A4, c4, rfl, h3, h4, b2⟩
  have hB2 := HVB.out.below b2 HVB.out.lt
  have z0 : w2.cell? ⟨w1.heap.size, 0, none⟩ = some (.int .i64 (n : Int)) := hB2.cell 0
  have z1 : w2.cell? ⟨w1.heap.size, 1, none⟩ = some (.bool false) := hB2.cell 1
  have z2 : w2.cell? ⟨w1.heap.size, 2, none⟩ = some (.slice A2 m c2) := hB2.cell 2
  have HS1 := Lib.hid (refSameU_any A1 A3 n c1 c3 _ _ xu w2 (Hin1.out.below b2) h3 (by have := Hlen.out; omega))
  have HS2 := Lib.hid (fun q => refSameD_any A2 A4 m c2 c4 _ _ xd (w2.drewN q) ((Hin2.out.below b2).below (below_drewN (Below.refl _ _) q)) (h4.below (below_drewN (Below.refl _ _) q)) (by have := H6.out; omega))
  have Hzq := Lib.hid (show ∀ q, (w2.drewN q).cell? ⟨w1.heap.size, 2, none⟩ = some (.slice A2 m c2) from fun q => z2)
  have B2 := Lib.hid (B1.out.trans (b2.mono B1.out.size))
  clear h3 h4 b2 hB2 H2 Hin1 Hin2
  go_wp2_with fail
  refine HS1.out.mono ?_
  rintro e w3 ⟨rfl, q1, rfl⟩
  have y0 : (w2.drewN q1).cell? ⟨w1.heap.size, 0, none⟩ = some (.int .i64 (n : Int)) := z0
  have y1 : (w2.drewN q1).cell? ⟨w1.heap.size, 1, none⟩ = some (.bool false) := z1
  have y2 : (w2.drewN q1).cell? ⟨w1.heap.size, 2, none⟩ = some (.slice A2 m c2) := z2
  go_wp2_with fail
  refine (HS2.out q1).mono ?_
  rintro e w4 ⟨rfl, q2, rfl⟩
  have x0 : ((w2.drewN q1).drewN q2).cell? ⟨w1.heap.size, 0, none⟩ = some (.int .i64 (n : Int)) := z0
  have x1 : ((w2.drewN q1).drewN q2).cell? ⟨w1.heap.size, 1, none⟩ = some (.bool false) := z1
  go_wp2_with fail
  go_ret
  exact ⟨rfl, below_drewN B2.out _⟩
namespace devicePlays
open Go.ChangeShapes Go.WideShapes Go.ChangeAt Go.RowKit
theorem own : ownKnob Try.prog.godebug = none := by kernel_rfl
theorem laidOut : laidOutB Try.prog = true := by kernel_rfl
set_option linter.unusedVariables false
set_option maxRecDepth 100000 in
theorem lifted (os : Os) (started : os.Started) (H : Type) (enc : TypeId × Value → H) :
    ReturnsInHanded {} Try.checked os 3 .any (Rows.devicePlaysSpec.pre6 enc Try.prog Try.f3 Rows.devicePlaysRow.domain false) (Rows.devicePlaysSpec.post enc Try.prog Try.f3 false true false false) := by
  refine returnsInHanded_of_change (C := Try.checked) own started (by kernel_rfl) Try.func3
    (ChangeSpec.witness6 (enc := enc) (C := Try.checked) false ⟨#[], #[.slice none 0 0], []⟩ 8 (by kernel_rfl) (by kernel_rfl) (by kernel_rfl) (by kernel_rfl)) ?_
  intro W base args ds gs before hval0 hW hcnd _
  have hval : ∀ (j : Nat) t v, Try.f3.params[j]? = some t → args[j]? = some v → Value.okWide Try.prog W .any base t v := hval0
  have hW' := hW
  obtain ⟨p, q, hA0, hV, rfl, hfz, hnd⟩ := hW
  have hA : DataW.TrodAll enc Try.prog W 0 (fun _ => true) true Try.f3.params.toList args.toList ds p := hA0
  rw [Try.params3] at hA hval
  obtain ⟨v0, vs0, d0, ds0, p0, q0, hargs, rfl, rfl, h0, rr0⟩ := trodAll_cons hA
  obtain ⟨rfl, rfl, rfl⟩ := trodAll_nil rr0
  obtain rfl : args = #[v0] := by cases args; simp_all
  obtain ⟨rfl, rfl⟩ := trodVars_none hV
  have k0 := h0
  have lt0 : ∀ x ∈ p0, x.block < W.heap.size := by obtain ⟨m, hm⟩ := k0; exact DataW.trod_lt m _ _ _ hm
  obtain ⟨A0, n0, c0, u0, rfl, hx0⟩ := open_upds (hval 0 22 v0 rfl rfl) h0
  clear hA0 hval0
  refine (walkDevicePlays A0 n0 c0 u0 W hx0).mono fun e W' ⟨he, bel⟩ => ?_
  subst he
  exact ⟨_, rfl, _, _, _, [], _, [], hW', trodAll_mk1 (shut_bool Try.underlying4 _), (trodAll_cons_mk (Below.trod laidOut (by kernel_rfl) (of_decide_eq_true (by kernel_rfl)) k0 bel lt0) trodAll_mk0), rfl, bel.frame _, fun h => by cases h⟩

theorem over : Rows.devicePlaysRow.holds Try.pinned (OpenSpec.ofChange Rows.devicePlaysSpec) :=
  OpenClaim.holds_of_wide 3 Try.f3 rfl rfl rfl rfl rfl rfl rfl ⟨rfl, rfl, rfl, rfl, rfl⟩ rfl rfl rfl rfl rfl (by kernel_rfl) Try.func3 (by kernel_rfl)
    (of_decide_eq_true (by kernel_rfl)) (by unfold Func.isWrapper; first | (rw [if_pos (by decide +kernel)]; kernel_rfl) | (rw [if_neg (by decide +kernel)]; exact ⟨rfl, rfl⟩))
    (fun os started H enc _ => lifted os started H enc)

theorem proved : Rows.DevicePlaysSaid := over
#print axioms proved
end devicePlays
end Go.Proofs.Ytmlgaedhfannmaa
