/- Proved here: the updates that drawn changes produce, played again, produce themselves and the same list, and they are numbered in order (statement DevicesSum). No condition. -/
import Derived.Test.YtmlgaedhfannmaaDvLt
import Derived.Test.YtmlgaedhfannmaaOpenI
import Derived.HandedShaped
namespace Go.Proofs.Ytmlgaedhfannmaa
set_option linter.unusedVariables false
set_option linter.unusedSimpArgs false
open Go.RowKit
set_option maxHeartbeats 4000000 in
set_option maxRecDepth 100000 in
theorem walkDevicesSum (A0 : Option Addr) (n0 c0 : Nat) (w : World) (hx0 : IntsAt w w.heap.size A0 n0 c0) :
    Calls Try.prog 5 #[.slice A0 n0 c0] w fun e w' => e = .returned (.bool true) ∧ Below w.heap.size w w' := by
  have H1 := Lib.hid (updates_any A0 n0 c0 w.heap.size 60 w hx0 (Nat.le_refl _) (by decide))
  clear hx0
  go_enter Try.func5, Try.ntmps5
  go_wp2_with fail
  refine H1.out.mono ?_
  rintro e w1 ⟨v1, cs, rfl, ho1, hlen, hok, b1⟩
  obtain ⟨A1, c1, rfl, hin1⟩ := LIn.own ucL_len ho1
  have hn60 : cs.length ≤ 60 := by omega
  have h6 : ∀ p ∈ cs, Six p := fun p hp => (hok p hp).1
  have hun := upsD_len cs
  have hm6 := tabD_len h6 (by omega)
  have hu6 := upsD_six h6
  have hua := upsD_again h6
  have huo := upsD_ok cs
  obtain ⟨n, hn⟩ : ∃ n, cs.length = n := ⟨_, rfl⟩
  rw [hn] at hin1 hun hn60 ⊢
  have H2 := Lib.hid (listed_any A1 n c1 w1.heap.size cs w1 hin1 (Nat.le_refl _) (by omega) h6 (fun p hp => dru_ok (hok p hp)))
  unfold LdPost at H2
  generalize upsD cs = U at *
  generalize tabD cs = T at *
  obtain ⟨u, hu⟩ : ∃ u, U.length = u := ⟨_, rfl⟩
  obtain ⟨m, hm⟩ : ∃ m, T.length = m := ⟨_, rfl⟩
  have H3 := Lib.hid (fun (W : World) (A : Option Addr) (c : Nat) (h : LIn ucL 5 W W.heap.size A u c U) => listed_any A u c W.heap.size U W h (Nat.le_refl _) (by omega) hu6 (ups_ok huo))
  unfold LdPost at H3
  rw [hua.1, hua.2, hu, hm] at H3
  rw [hu, hm] at H2
  rw [hu] at hun
  rw [hm] at hm6
  have Hnum := Lib.hid (show ∀ i, i < u → ∃ h : i < U.length, U[i].st = (i : Int) + 1 ∧ U[i].pv = i from fun i hi => ⟨by omega, huo.num i (by omega)⟩)
  have B1 := Lib.hid b1
  have Hm6 := Lib.hid hm6
  have huu : ((u : Int) != (u : Int)) = false := by simp
  have hgt : ¬ (n : Int) < (u : Int) := by omega
  have hu60 : u ≤ 60 := by omega
  clear hlen hok b1 ho1 hin1 h6 hun hu6 hua huo hn hu hm hm6 hn60 H1
  go_wp2_with fail
  refine H2.out.mono ?_
  rintro e w2 ⟨A2, c2, A3, c3, rfl, hi2, hi3, b2⟩
  have B2 := Lib.hid (B1.out.trans (b2.mono B1.out.size))
  have H4 := Lib.hid (H3.out w2 A2 c2 hi2)
  have Hi2 := Lib.hid hi2
  have Hi3 := Lib.hid hi3
  clear hi2 hi3 b2 H3 H2
  go_wp2_with fail
  refine H4.out.mono ?_
  rintro e w3 ⟨A4, c4, A5, c5, rfl, hi4, hi5, b3⟩
  have B3 := Lib.hid (B2.out.trans (b3.mono B2.out.size))
  have Hi2b := Lib.hid (Hi2.out.below b3)
  have HS := Lib.hid (sameDev_any A3 A5 m c3 c5 _ _ T w3 (Hi3.out.below b3) hi5 (by have := Hm6.out; omega))
  have Hi4 := Lib.hid hi4
  clear hi4 hi5 b3 H4 Hi2 Hi3
  go_wp2_with fail
  refine HS.out.mono ?_
  rintro e w4 ⟨rfl, q0, rfl⟩
  clear HS
  go_wp2_with fail
  go_loopg [10] u (SmR w3 u)
  case atStart => exact ⟨0, q0, rfl, by omega, by omega, rfl⟩
  case round =>
    obtain ⟨k, q, rfl, hk, hg, rfl⟩ := hrel
    have Hg := Lib.hid hg
    clear hg
    by_cases hlt : k < u
    · obtain ⟨hkl, hst, hpv⟩ := Hnum.out k hlt
      obtain ⟨b, off, hA, hb, c0, c1, c2, c3, c4⟩ := uc_at Hi2b.out hkl
      obtain ⟨b', off', hA', hb', d0, d1, d2, d3, d4⟩ := uc_at Hi4.out hkl
      subst hA hA'
      generalize U[k] = r at *
      obtain ⟨rs, rp, rk, rv, rg⟩ := r
      simp only at c0 c1 c2 c3 c4 d0 d1 d2 d3 d4 hst hpv
      subst hst hpv
      have hki : (k : Int) < (u : Int) := by omega
      have hw1 : IntKind.i64.wrap ((k : Int) + 1) = (k : Int) + 1 := IntWalk.i64_in _ (by omega)
      have hk1 : (((k : Int) + 1) != ((k : Int) + 1)) = false := by simp
      have hk2 : ((k : Int) != (k : Int)) = false := by simp
      have heq := fun W => eq_upd ((k : Int) + 1) (k : Int) rk rv rg W
      have hgd := fun x y W => gd_upd BinOp.neq x y ((k : Int) + 1) (k : Int) rk rv rg W
      go_wp2_with fail
      go_quiet (fail)
      go_wp2
      go_roundg (u - (k + 1))
      case measure => have := Hg.out; omega
      case rel => exact ⟨k + 1, _, by go_num, by omega, rfl, rfl⟩
    · have hki : ¬ (k : Int) < (u : Int) := by omega
      go_wp2
      go_ret
      exact ⟨rfl, below_drewN B3.out _⟩
namespace devicesSum
open Go.ChangeShapes Go.WideShapes Go.ChangeAt Go.RowKit
theorem own : ownKnob Try.prog.godebug = none := by kernel_rfl
theorem laidOut : laidOutB Try.prog = true := by kernel_rfl
set_option linter.unusedVariables false
set_option maxRecDepth 100000 in
theorem lifted (os : Os) (started : os.Started) (H : Type) (enc : TypeId × Value → H) :
    ReturnsInHanded {} Try.checked os 5 .any (Rows.devicesSumSpec.pre6 enc Try.prog Try.f5 Rows.devicesSumRow.domain false) (Rows.devicesSumSpec.post enc Try.prog Try.f5 false true false false) := by
  refine returnsInHanded_of_change (C := Try.checked) own started (by kernel_rfl) Try.func5
    (ChangeSpec.witness6 (enc := enc) (C := Try.checked) false ⟨#[], #[.slice none 0 0], []⟩ 8 (by kernel_rfl) (by kernel_rfl) (by kernel_rfl) (by kernel_rfl)) ?_
  intro W base args ds gs before hval0 hW hcnd _
  have hval : ∀ (j : Nat) t v, Try.f5.params[j]? = some t → args[j]? = some v → Value.okWide Try.prog W .any base t v := hval0
  have hW' := hW
  obtain ⟨p, q, hA0, hV, rfl, hfz, hnd⟩ := hW
  have hA : DataW.TrodAll enc Try.prog W 0 (fun _ => true) true Try.f5.params.toList args.toList ds p := hA0
  rw [Try.params5] at hA hval
  obtain ⟨v0, vs0, d0, ds0, p0, q0, hargs, rfl, rfl, h0, rr0⟩ := trodAll_cons hA
  obtain ⟨rfl, rfl, rfl⟩ := trodAll_nil rr0
  obtain rfl : args = #[v0] := by cases args; simp_all
  obtain ⟨rfl, rfl⟩ := trodVars_none hV
  have k0 := h0
  have lt0 : ∀ x ∈ p0, x.block < W.heap.size := by obtain ⟨m, hm⟩ := k0; exact DataW.trod_lt m _ _ _ hm
  obtain ⟨A0, n0, c0, rfl, hx0⟩ := open_intsl Try.underlying37 Try.underlying3 (by kernel_rfl) (hval 0 37 v0 rfl rfl) h0
  clear hA0 hval0
  refine (walkDevicesSum A0 n0 c0 W hx0).mono fun e W' ⟨he, bel⟩ => ?_
  subst he
  exact ⟨_, rfl, _, _, _, [], _, [], hW', trodAll_mk1 (shut_bool Try.underlying4 _), (trodAll_cons_mk (Below.trod laidOut (by kernel_rfl) (of_decide_eq_true (by kernel_rfl)) k0 bel lt0) trodAll_mk0), rfl, bel.frame _, fun h => by cases h⟩

theorem over : Rows.devicesSumRow.holds Try.pinned (OpenSpec.ofChange Rows.devicesSumSpec) :=
  OpenClaim.holds_of_wide 5 Try.f5 rfl rfl rfl rfl rfl rfl rfl ⟨rfl, rfl, rfl, rfl, rfl⟩ rfl rfl rfl rfl rfl (by kernel_rfl) Try.func5 (by kernel_rfl)
    (of_decide_eq_true (by kernel_rfl)) (by unfold Func.isWrapper; first | (rw [if_pos (by decide +kernel)]; kernel_rfl) | (rw [if_neg (by decide +kernel)]; exact ⟨rfl, rfl⟩))
    (fun os started H enc _ => lifted os started H enc)

theorem proved : Rows.DevicesSumSaid := over
#print axioms proved
end devicesSum
end Go.Proofs.Ytmlgaedhfannmaa
