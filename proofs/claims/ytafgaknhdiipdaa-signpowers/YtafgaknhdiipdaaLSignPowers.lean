/- Proved here: for all ints, of the secrets that they stand for, the product of the public keys is the public key of the sum, or 1 where the sum is a multiple of Order (statement SignPowers). No condition. -/
import Derived.Test.YtafgaknhdiipdaaSgL
import Derived.Test.YtafgaknhdiipdaaOpen
namespace Go.Proofs.Ytafgaknhdiipdaa
set_option linter.unusedVariables false
set_option linter.unusedSimpArgs false
open Go.RowKit
theorem walkSignPowers (x0 : Int) (x1 : Int) (w : World) (hx0 : -9223372036854775808 ≤ x0 ∧ x0 ≤ 9223372036854775807) (hx1 : -9223372036854775808 ≤ x1 ∧ x1 ≤ 9223372036854775807) :
    Calls Try.prog 11 #[.int .i64 x0, .int .i64 x1] w fun e w' => e = .returned (.bool true) ∧ Below w.heap.size w w' := by
  clear hx0 hx1
  obtain ⟨ha1, ha2⟩ := secOf_lt x0
  obtain ⟨hb1, hb2⟩ := secOf_lt x1
  obtain ⟨a, Ha⟩ : ∃ a, Hid (secOf x0 = a) := ⟨_, Lib.hid rfl⟩
  obtain ⟨b, Hb⟩ : ∃ b, Hid (secOf x1 = b) := ⟨_, Lib.hid rfl⟩
  rw [Ha.out] at ha1 ha2
  rw [Hb.out] at hb1 hb2
  have hpa := publicR_nat ha1 ha2
  have hpb := publicR_nat hb1 hb2
  have hprod := four_times a b
  have la := Nat.mod_lt (pw 4 a) (show 0 < 7823 by decide)
  have lb := Nat.mod_lt (pw 4 b) (show 0 < 7823 by decide)
  generalize pw 4 a % 7823 = p at *
  generalize pw 4 b % 7823 = q at *
  have hpl := prod_lt la lb
  have Hpa := Lib.hid hpa
  have Hpb := Lib.hid hpb
  clear hpa hpb
  by_cases hz : (a + b) % 3911 = 0
  · have he : ((p : Int) * (q : Int) % 7823 == 1) = true := by
      have : p * q % 7823 = 1 := by rw [hprod, ← four_mod, hz, pw_zero]
      rw [beq_iff_eq]; omega
    have hze : (((a : Int) + (b : Int)) % 3911 == 0) = true := by rw [beq_iff_eq]; omega
    clear hprod hz
    go_enter Try.func11, Try.ntmps11
    go_wp2_with fail
    refine (secretOf_any x0 _).mono ?_
    rintro e w1 ⟨rfl, rfl⟩
    rw [Ha.out]
    go_wp2_with fail
    refine (secretOf_any x1 _).mono ?_
    rintro e w1 ⟨rfl, rfl⟩
    rw [Hb.out]
    go_wp2_with fail
    refine (public_any a _).mono ?_
    rintro e w1 ⟨rfl, rfl⟩
    rw [Hpa.out]
    simp only [intsV]
    go_wp2_with fail
    refine (public_any b _).mono ?_
    rintro e w1 ⟨rfl, rfl⟩
    rw [Hpb.out]
    simp only [intsV]
    go_wp2_with fail
    refine (signSure_any _).mono ?_
    rintro e w1 ⟨rfl, hb1⟩
    go_wp2_with fail
    go_ret
    exact ⟨rfl, hb1⟩
  · have hr := publicR_nat (a := (a + b) % 3911) (by omega) (Nat.mod_lt _ (by decide))
    rw [four_mod, ← hprod] at hr
    obtain ⟨c, hc⟩ : ∃ c : Nat, c = (a + b) % 3911 := ⟨_, rfl⟩
    rw [← hc] at hr hz
    have hci : ((a : Int) + (b : Int)) % 3911 = (c : Int) := by omega
    have Hr := Lib.hid hr
    have hze : ((c : Int) == 0) = false := by rw [beq_eq_false_iff_ne]; omega
    have hme : (p : Int) * (q : Int) % 7823 = ((p * q % 7823 : Nat) : Int) := by simp
    generalize p * q % 7823 = u at *
    clear hprod hz hr hc
    go_enter Try.func11, Try.ntmps11
    go_wp2_with fail
    refine (secretOf_any x0 _).mono ?_
    rintro e w1 ⟨rfl, rfl⟩
    rw [Ha.out]
    go_wp2_with fail
    refine (secretOf_any x1 _).mono ?_
    rintro e w1 ⟨rfl, rfl⟩
    rw [Hb.out]
    go_wp2_with fail
    refine (public_any a _).mono ?_
    rintro e w1 ⟨rfl, rfl⟩
    rw [Hpa.out]
    simp only [intsV]
    go_wp2_with fail
    refine (public_any b _).mono ?_
    rintro e w1 ⟨rfl, rfl⟩
    rw [Hpb.out]
    simp only [intsV]
    go_wp2_with fail
    refine (signSure_any _).mono ?_
    rintro e w1 ⟨rfl, hb1⟩
    go_wp2_with fail
    refine (public_any c _).mono ?_
    rintro e w1 ⟨rfl, rfl⟩
    rw [Hr.out]
    simp only [intsV]
    go_wp2_with fail
    go_ret
    exact ⟨by simp, hb1⟩
namespace signPowers
open Go.ChangeShapes Go.WideShapes Go.ChangeAt Go.RowKit
theorem own : ownKnob Try.prog.godebug = none := by kernel_rfl
theorem laidOut : laidOutB Try.prog = true := by kernel_rfl
set_option linter.unusedVariables false
set_option maxRecDepth 100000 in
theorem lifted (os : Os) (started : os.Started) (H : Type) (enc : TypeId × Value → H) :
    ReturnsInHanded {} Try.checked os 11 .any (Rows.signPowersSpec.pre6 enc Try.prog Try.f11 Rows.signPowersRow.domain false) (Rows.signPowersSpec.post enc Try.prog Try.f11 false true false false) := by
  refine returnsInHanded_of_change (C := Try.checked) own started (by kernel_rfl) Try.func11
    (ChangeSpec.witness6 (enc := enc) (C := Try.checked) false ⟨#[], #[.int .i64 0, .int .i64 0], []⟩ 8 (by kernel_rfl) (by kernel_rfl) (by kernel_rfl) (by kernel_rfl)) ?_
  intro W base args ds gs before hval0 hW hcnd _
  have hval : ∀ (j : Nat) t v, Try.f11.params[j]? = some t → args[j]? = some v → Value.okWide Try.prog W .any base t v := hval0
  have hW' := hW
  obtain ⟨p, q, hA0, hV, rfl, hfz, hnd⟩ := hW
  have hA : DataW.TrodAll enc Try.prog W 0 (fun _ => true) true Try.f11.params.toList args.toList ds p := hA0
  rw [Try.params11] at hA hval
  obtain ⟨v0, vs0, d0, ds0, p0, q0, hargs, rfl, rfl, h0, rr0⟩ := trodAll_cons hA
  obtain ⟨v1, vs1, d1, ds1, p1, q1, rfl, rfl, rfl, h1, rr1⟩ := trodAll_cons rr0
  obtain ⟨rfl, rfl, rfl⟩ := trodAll_nil rr1
  obtain rfl : args = #[v0, v1] := by cases args; simp_all
  obtain ⟨rfl, rfl⟩ := trodVars_none hV
  have k0 := h0
  have lt0 : ∀ x ∈ p0, x.block < W.heap.size := by obtain ⟨m, hm⟩ := k0; exact DataW.trod_lt m _ _ _ hm
  obtain ⟨x0, rfl, hx0⟩ := open_i64 Try.underlying3 (hval 0 3 v0 rfl rfl) h0
  have k1 := h1
  have lt1 : ∀ x ∈ p1, x.block < W.heap.size := by obtain ⟨m, hm⟩ := k1; exact DataW.trod_lt m _ _ _ hm
  obtain ⟨x1, rfl, hx1⟩ := open_i64 Try.underlying3 (hval 1 3 v1 rfl rfl) h1
  clear hA0 hval0
  refine (walkSignPowers x0 x1 W hx0 hx1).mono fun e W' ⟨he, bel⟩ => ?_
  subst he
  exact ⟨_, rfl, _, _, _, [], _, [], hW', trodAll_mk1 (shut_bool Try.underlying4 _), (trodAll_cons_mk (Below.trod laidOut (by kernel_rfl) (of_decide_eq_true (by kernel_rfl)) k0 bel lt0) (trodAll_cons_mk (Below.trod laidOut (by kernel_rfl) (of_decide_eq_true (by kernel_rfl)) k1 bel lt1) trodAll_mk0)), rfl, bel.frame _, fun h => by cases h⟩

theorem over : Rows.signPowersRow.holds Try.pinned (OpenSpec.ofChange Rows.signPowersSpec) :=
  OpenClaim.holds_of_wide 11 Try.f11 rfl rfl rfl rfl rfl rfl rfl ⟨rfl, rfl, rfl, rfl, rfl⟩ rfl rfl rfl rfl rfl (by kernel_rfl) Try.func11 (by kernel_rfl)
    (of_decide_eq_true (by kernel_rfl)) (by unfold Func.isWrapper; first | (rw [if_pos (by decide +kernel)]; kernel_rfl) | (rw [if_neg (by decide +kernel)]; exact ⟨rfl, rfl⟩))
    (fun os started H enc _ => lifted os started H enc)

theorem proved : Rows.SignPowersSaid := over
#print axioms proved
end signPowers
end Go.Proofs.Ytafgaknhdiipdaa
