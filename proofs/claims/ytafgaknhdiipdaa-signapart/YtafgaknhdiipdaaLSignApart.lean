/- Proved here: for all ints and every slice of bytes (up to 200 bytes of it), the public keys of two secrets are equal exactly if the secrets are, and a signature by the one is valid for the other's key exactly if the keys are equal or its hash is 0 (statement SignApart). No condition. -/
import Derived.Test.YtafgaknhdiipdaaSgL
import Derived.Test.YtafgaknhdiipdaaOpen
import Derived.Deep.RegionHeld3
import Derived.Deep.RegionHeld
import Derived.Outline
namespace Go.Proofs.Ytafgaknhdiipdaa
set_option linter.unusedVariables false
set_option linter.unusedSimpArgs false
open Go.RowKit
/-- What the statement compares, in the three ways that there are. -/
theorem apart_cases {a b k h : Nat} (ha2 : a < 3911) (hb2 : b < 3911) (hh : h < 3911) :
    (pw 4 a % 7823 = pw 4 b % 7823 ↔ a = b) ∧ ((k + a * h) % 3911 = (k + b * h) % 3911 ↔ a = b ∨ h = 0) := by
  constructor
  · rw [four_eq, Nat.mod_eq_of_lt ha2, Nat.mod_eq_of_lt hb2]
  · constructor
    · intro h1
      by_cases h0 : h = 0
      · exact .inr h0
      · left
        have h2 : a * h % 3911 = b * h % 3911 := by
          generalize a * h = u at *
          generalize b * h = v at *
          omega
        have := mul_cancel (h := h) (by rw [Nat.mod_eq_of_lt hh]; omega) h2
        rwa [Nat.mod_eq_of_lt ha2, Nat.mod_eq_of_lt hb2] at this
    · rintro (rfl | rfl)
      · rfl
      · rw [Nat.mul_zero, Nat.mul_zero]
set_option maxRecDepth 100000 in
set_option maxHeartbeats 2000000 in
theorem walkSignApart (x0 : Int) (x1 : Int) (x2 : Int) (A3 : Option Addr) (n3 c3 : Nat) (l3 : List UInt8) (w : World) (hx0 : -9223372036854775808 ≤ x0 ∧ x0 ≤ 9223372036854775807) (hx1 : -9223372036854775808 ≤ x1 ∧ x1 ≤ 9223372036854775807) (hx2 : -9223372036854775808 ≤ x2 ∧ x2 ≤ 9223372036854775807) (hx3 : BytesIn w A3 n3 c3 l3) :
    Calls Try.prog 10 #[.int .i64 x0, .int .i64 x1, .int .i64 x2, .slice A3 n3 c3] w fun e w' => e = .returned (.bool true) ∧ Below w.heap.size w w' := by
  obtain ⟨hr3, hn3, _, hA3⟩ := hx3
  clear hx0 hx1 hx2
  obtain ⟨ha1, ha2⟩ := secOf_lt x0
  obtain ⟨hb1, hb2⟩ := secOf_lt x1
  obtain ⟨hk1, hk2⟩ := secOf_lt x2
  obtain ⟨a, Ha⟩ : ∃ a, Hid (secOf x0 = a) := ⟨_, Lib.hid rfl⟩
  obtain ⟨b, Hb⟩ : ∃ b, Hid (secOf x1 = b) := ⟨_, Lib.hid rfl⟩
  obtain ⟨k, Hk⟩ : ∃ k, Hid (secOf x2 = k) := ⟨_, Lib.hid rfl⟩
  rw [Ha.out] at ha1 ha2
  rw [Hb.out] at hb1 hb2
  rw [Hk.out] at hk1 hk2
  have hly : (l3.take 200).length ≤ 200 := by rw [List.length_take]; omega
  have HC3 := Lib.hid (fun W h => cut_any A3 n3 c3 l3 W h hn3 hA3)
  generalize l3.take 200 = y at *
  have hpa := publicR_nat ha1 ha2
  have hpb := publicR_nat hb1 hb2
  have hmk := makeR_nat (l := y) ha1 ha2 hk1 hk2 (show y.length ≤ 600 by omega)
  have hck := checkR_nat (l := y) hb1 hb2 hk1 hk2 (s := (k + a * hsh (pw 4 k % 7823) y) % 3911) (Nat.mod_lt _ (by decide)) (show y.length ≤ 600 by omega)
  have hrl := Nat.mod_lt (pw 4 k) (show 0 < 7823 by decide)
  have hcs := apart_cases (a := a) (b := b) (k := k) (h := hsh (pw 4 k % 7823) y) ha2 hb2 (hsh_lt _ _)
  generalize pw 4 a % 7823 = p at *
  generalize pw 4 b % 7823 = q at *
  generalize pw 4 k % 7823 = r at *
  generalize (k + a * hsh r y) % 3911 = s at *
  generalize (k + b * hsh r y) % 3911 = t at *
  have hH := hashR_nat (l := y) (n := y.length) hrl (by omega)
  generalize hsh r y = h at *
  obtain ⟨cv, hcv⟩ : ∃ cv : Int, cv = if s = t then 0 else 9 := ⟨_, rfl⟩
  rw [← hcv] at hck
  have f1 : (((p : Int) == (q : Int)) != ((a : Int) == (b : Int))) = false := by
    by_cases hab : a = b
    · rw [hcs.1.2 hab, hab]; simp
    · have hpq : p ≠ q := fun h => hab (hcs.1.1 h)
      have e1 : ((p : Int) == (q : Int)) = false := by rw [beq_eq_false_iff_ne]; omega
      have e2 : ((a : Int) == (b : Int)) = false := by rw [beq_eq_false_iff_ne]; omega
      rw [e1, e2]; rfl
  have f2 : ((cv == 0) == (((p : Int) == (q : Int)) || ((h : Int) == 0))) = true := by
    by_cases hst : s = t
    · rw [hcv, if_pos hst]
      rcases hcs.2.1 hst with hab | h0
      · rw [hcs.1.2 hab]; simp
      · rw [h0]; simp
    · rw [hcv, if_neg hst]
      have hpq : p ≠ q := fun h => hst (hcs.2.2 (.inl (hcs.1.1 h)))
      have h0 : h ≠ 0 := fun h => hst (hcs.2.2 (.inr h))
      have e1 : ((p : Int) == (q : Int)) = false := by rw [beq_eq_false_iff_ne]; omega
      have e2 : ((h : Int) == 0) = false := by rw [beq_eq_false_iff_ne]; omega
      rw [e1, e2]; rfl
  have F1 := Lib.hid f1
  have F2 := Lib.hid f2
  have Hpa := Lib.hid hpa
  have Hpb := Lib.hid hpb
  have Hmk := Lib.hid hmk
  have Hck := Lib.hid hck
  have HH := Lib.hid hH
  have Hr3 := Lib.hid hr3
  clear hpa hpb hmk hck hcs hH hr3 hn3 hA3 f1 f2 hcv
  have hpq : ∃ u : Bool, ((p : Int) == (q : Int)) = u := ⟨_, rfl⟩
  have hab : ∃ u : Bool, ((a : Int) == (b : Int)) = u := ⟨_, rfl⟩
  have hc0 : ∃ u : Bool, (cv == 0) = u := ⟨_, rfl⟩
  have hh0 : ∃ u : Bool, ((h : Int) == 0) = u := ⟨_, rfl⟩
  obtain ⟨upq, hpq⟩ := hpq
  obtain ⟨uab, hab⟩ := hab
  obtain ⟨uc, hc0⟩ := hc0
  obtain ⟨uh, hh0⟩ := hh0
  have F1' := Lib.hid (show (upq != uab) = false by have := F1.out; rwa [hpq, hab] at this)
  have F2' := Lib.hid (show (uc == (upq || uh)) = true by have := F2.out; rwa [hpq, hc0, hh0] at this)
  clear F1 F2
  go_enter Try.func10, Try.ntmps10
  go_wp2_with fail
  refine (secretOf_any x0 _).mono ?_
  rintro e w1 ⟨rfl, rfl⟩
  rw [Ha.out]
  go_wp2_with fail
  refine (public_any a _).mono ?_
  rintro e w1 ⟨rfl, rfl⟩
  rw [Hpa.out]
  simp only [intsV]
  go_wp2_with fail
  refine (secretOf_any x1 _).mono ?_
  rintro e w1 ⟨rfl, rfl⟩
  rw [Hb.out]
  go_wp2_with fail
  refine (public_any b _).mono ?_
  rintro e w1 ⟨rfl, rfl⟩
  rw [Hpb.out]
  simp only [intsV]
  go_wp2_with fail
  refine (secretOf_any x0 _).mono ?_
  rintro e w1 ⟨rfl, rfl⟩
  rw [Ha.out]
  go_wp2_with fail
  refine (secretOf_any x2 _).mono ?_
  rintro e w1 ⟨rfl, rfl⟩
  rw [Hk.out]
  go_wp2_with fail
  refine (HC3.out _ Hr3.out).mono ?_
  rintro e w1 ⟨_, rfl, B1, d1, rfl, hh1, _, _, _, hb1⟩
  have Hh1 := Lib.hid hh1
  have Hb1 := Lib.hid hb1
  clear hh1 hb1
  go_wp2_with fail
  refine (make_any a k B1 y.length d1 y _ Hh1.out).mono ?_
  rintro e w4 ⟨rfl, hb4⟩
  rw [Hmk.out]
  simp only [makeV, signV]
  have hb5 := hb4.alloc hb4.size (.cells #[.int .i64 r, .int .i64 s] 30)
  have hB := Bx.new w4 r s
  have Hb5 := Lib.hid (Hb1.out.trans (hb5.mono Hb1.out.size))
  clear hb4 hb5 Hb1 Hh1
  go_wp2_with fail
  generalize (w4.alloc (.cells #[.int .i64 r, .int .i64 s] 30)) = w5 at *
  generalize w4.heap.size = g at *
  have hBd := hB.drewN 1
  have Hb5d := Lib.hid (show Below w.heap.size w w5.drew from below_drewN Hb5.out 1)
  have Hr5 := Lib.hid ((Hr3.out.below Hb5d.out).wider Hb5d.out.size)
  obtain ⟨f0, f1, f2⟩ := hB
  go_region_held3 (fun w' => w'.cell? ⟨g, 0, none⟩ = some (.int .i64 r)) (first | exact f0 | exact hB9.1)
    (first
      | (go_at_call 25; refine (HC3.out _ ?_).mono ?_; exact Hr5.out; rintro e w9 ⟨_, rfl, B9, d9, rfl, hh9, _, _, _, hb9⟩; have hB9 := hBd.below hb9)
      | (go_at_call 16; refine (hashP_any r B9 y.length d9 y _ ?_).mono ?_; exact hh9; rintro e _ ⟨rfl, q10, rfl⟩; rw [HH.out]; simp only [intsV]))
  have hB10 := hB9.drewN q10
  have Hb10 := Lib.hid (below_drewN (Hb5d.out.trans (hb9.mono Hb5d.out.size)) q10)
  clear hb9 hh9 hB9 hBd f0 f1 f2 Hb5 Hb5d Hr5
  generalize w9.drewN q10 = w10 at *
  go_wp2_with fail
  refine (signSure_any _).mono ?_
  rintro e w11 ⟨rfl, hb11⟩
  have hB11 := hB10.below hb11
  have Hb11 := Lib.hid (Hb10.out.trans (hb11.mono Hb10.out.size))
  clear hB10 hb11 Hb10
  go_wp2_with fail
  refine (secretOf_any x0 _).mono ?_
  rintro e w12 ⟨rfl, rfl⟩
  rw [Ha.out]
  go_wp2_with fail
  refine (secretOf_any x1 _).mono ?_
  rintro e w12 ⟨rfl, rfl⟩
  rw [Hb.out]
  have hBd := hB11.drewN 1
  have Hb11d := Lib.hid (show Below w.heap.size w w11.drew from below_drewN Hb11.out 1)
  have Hr11 := Lib.hid ((Hr3.out.below Hb11d.out).wider Hb11d.out.size)
  have Hcomb := Lib.hid (show (upq = true ∧ uab = true ∧ uc = true) ∨ (upq = false ∧ uab = false ∧ uc = uh) by
    have h1 := F1'.out
    have h2 := F2'.out
    clear hpq hab hc0 hh0
    cases upq <;> cases uab <;> cases uc <;> cases uh <;> simp_all)
  obtain ⟨f0, f1, f2⟩ := hB11
  rcases Hcomb.out with ⟨rfl, rfl, rfl⟩ | ⟨rfl, rfl, rfl⟩
  · obtain rfl : q = p := by have := beq_iff_eq.mp hpq; omega
    obtain rfl : b = a := by have := beq_iff_eq.mp hab; omega
    clear hpq hab
    go_wp2_with fail
    first | (go_region_held (fun w' => w'.cell? ⟨g, 0, none⟩ = some (.int .i64 r) ∧ w'.cell? ⟨g, 1, none⟩ = some (.int .i64 s)) (first | exact ⟨f0, f1⟩ | exact ⟨hB13.1, hB13.2.1⟩ | exact ⟨hB14.1, hB14.2.1⟩)
        (first
          | (go_at_call 25; refine (HC3.out _ ?_).mono ?_; exact Hr11.out; rintro e w13 ⟨_, rfl, B13, d13, rfl, hh13, _, _, _, hb13⟩; have hB13 := hBd.below hb13)
          | (go_at_call 20; refine (check_any q B13 y.length d13 y r s _ ?_).mono ?_; exact hh13; rintro e w14 ⟨rfl, hb14⟩; rw [Hck.out]; have hB14 := hB13.below hb14))) | fail
    all_goals
      have hB2 := Hb11d.out.trans (hb13.mono Hb11d.out.size)
      have Hb14 := Lib.hid (hB2.trans (hb14.mono hB2.size))
      go_wp2_with fail
      go_ret
      exact ⟨by first | rfl | simp, Hb14.out⟩
  · cases uc
    · go_wp2_with fail
      go_region_held3 (fun w' => w'.cell? ⟨g, 0, none⟩ = some (.int .i64 r) ∧ w'.cell? ⟨g, 1, none⟩ = some (.int .i64 s)) (first | exact ⟨f0, f1⟩ | exact ⟨hB13.1, hB13.2.1⟩ | exact ⟨hB14.1, hB14.2.1⟩)
        (first
          | (go_at_call 25; refine (HC3.out _ ?_).mono ?_; exact Hr11.out; rintro e w13 ⟨_, rfl, B13, d13, rfl, hh13, _, _, _, hb13⟩; have hB13 := hBd.below hb13)
          | (go_at_call 20; refine (check_any q B13 y.length d13 y r s _ ?_).mono ?_; exact hh13; rintro e w14 ⟨rfl, hb14⟩; rw [Hck.out]; have hB14 := hB13.below hb14))
      all_goals
        have hB2 := Hb11d.out.trans (hb13.mono Hb11d.out.size)
        have Hb14 := Lib.hid (hB2.trans (hb14.mono hB2.size))
        go_wp2_with fail
        go_ret
        exact ⟨by first | rfl | simp, Hb14.out⟩
    · go_wp2_with fail
      go_region_held3 (fun w' => w'.cell? ⟨g, 0, none⟩ = some (.int .i64 r) ∧ w'.cell? ⟨g, 1, none⟩ = some (.int .i64 s)) (first | exact ⟨f0, f1⟩ | exact ⟨hB13.1, hB13.2.1⟩ | exact ⟨hB14.1, hB14.2.1⟩)
        (first
          | (go_at_call 25; refine (HC3.out _ ?_).mono ?_; exact Hr11.out; rintro e w13 ⟨_, rfl, B13, d13, rfl, hh13, _, _, _, hb13⟩; have hB13 := hBd.below hb13)
          | (go_at_call 20; refine (check_any q B13 y.length d13 y r s _ ?_).mono ?_; exact hh13; rintro e w14 ⟨rfl, hb14⟩; rw [Hck.out]; have hB14 := hB13.below hb14))
      all_goals
        have hB2 := Hb11d.out.trans (hb13.mono Hb11d.out.size)
        have Hb14 := Lib.hid (hB2.trans (hb14.mono hB2.size))
        go_wp2_with fail
        go_ret
        exact ⟨by first | rfl | simp, Hb14.out⟩
namespace signApart
open Go.ChangeShapes Go.WideShapes Go.ChangeAt Go.RowKit
theorem own : ownKnob Try.prog.godebug = none := by kernel_rfl
theorem laidOut : laidOutB Try.prog = true := by kernel_rfl
set_option linter.unusedVariables false
set_option maxRecDepth 100000 in
theorem lifted (os : Os) (started : os.Started) (H : Type) (enc : TypeId × Value → H) :
    ReturnsInHanded {} Try.checked os 10 .any (Rows.signApartSpec.pre6 enc Try.prog Try.f10 Rows.signApartRow.domain false) (Rows.signApartSpec.post enc Try.prog Try.f10 false true false false) := by
  refine returnsInHanded_of_change (C := Try.checked) own started (by kernel_rfl) Try.func10
    (ChangeSpec.witness6 (enc := enc) (C := Try.checked) false ⟨#[], #[.int .i64 0, .int .i64 0, .int .i64 0, .slice none 0 0], []⟩ 8 (by kernel_rfl) (by kernel_rfl) (by kernel_rfl) (by kernel_rfl)) ?_
  intro W base args ds gs before hval0 hW hcnd _
  have hval : ∀ (j : Nat) t v, Try.f10.params[j]? = some t → args[j]? = some v → Value.okWide Try.prog W .any base t v := hval0
  have hW' := hW
  obtain ⟨p, q, hA0, hV, rfl, hfz, hnd⟩ := hW
  have hA : DataW.TrodAll enc Try.prog W 0 (fun _ => true) true Try.f10.params.toList args.toList ds p := hA0
  rw [Try.params10] at hA hval
  obtain ⟨v0, vs0, d0, ds0, p0, q0, hargs, rfl, rfl, h0, rr0⟩ := trodAll_cons hA
  obtain ⟨v1, vs1, d1, ds1, p1, q1, rfl, rfl, rfl, h1, rr1⟩ := trodAll_cons rr0
  obtain ⟨v2, vs2, d2, ds2, p2, q2, rfl, rfl, rfl, h2, rr2⟩ := trodAll_cons rr1
  obtain ⟨v3, vs3, d3, ds3, p3, q3, rfl, rfl, rfl, h3, rr3⟩ := trodAll_cons rr2
  obtain ⟨rfl, rfl, rfl⟩ := trodAll_nil rr3
  obtain rfl : args = #[v0, v1, v2, v3] := by cases args; simp_all
  obtain ⟨rfl, rfl⟩ := trodVars_none hV
  have k0 := h0
  have lt0 : ∀ x ∈ p0, x.block < W.heap.size := by obtain ⟨m, hm⟩ := k0; exact DataW.trod_lt m _ _ _ hm
  obtain ⟨x0, rfl, hx0⟩ := open_i64 Try.underlying3 (hval 0 3 v0 rfl rfl) h0
  have k1 := h1
  have lt1 : ∀ x ∈ p1, x.block < W.heap.size := by obtain ⟨m, hm⟩ := k1; exact DataW.trod_lt m _ _ _ hm
  obtain ⟨x1, rfl, hx1⟩ := open_i64 Try.underlying3 (hval 1 3 v1 rfl rfl) h1
  have k2 := h2
  have lt2 : ∀ x ∈ p2, x.block < W.heap.size := by obtain ⟨m, hm⟩ := k2; exact DataW.trod_lt m _ _ _ hm
  obtain ⟨x2, rfl, hx2⟩ := open_i64 Try.underlying3 (hval 2 3 v2 rfl rfl) h2
  have k3 := h3
  have lt3 : ∀ x ∈ p3, x.block < W.heap.size := by obtain ⟨m, hm⟩ := k3; exact DataW.trod_lt m _ _ _ hm
  obtain ⟨A3, n3, c3, l3, rfl, hx3⟩ := open_bytes Try.underlying26 Try.underlying5 (by kernel_rfl) (hval 3 26 v3 rfl rfl) h3
  clear hA0 hval0
  refine (walkSignApart x0 x1 x2 A3 n3 c3 l3 W hx0 hx1 hx2 hx3).mono fun e W' ⟨he, bel⟩ => ?_
  subst he
  exact ⟨_, rfl, _, _, _, [], _, [], hW', trodAll_mk1 (shut_bool Try.underlying4 _), (trodAll_cons_mk (Below.trod laidOut (by kernel_rfl) (of_decide_eq_true (by kernel_rfl)) k0 bel lt0) (trodAll_cons_mk (Below.trod laidOut (by kernel_rfl) (of_decide_eq_true (by kernel_rfl)) k1 bel lt1) (trodAll_cons_mk (Below.trod laidOut (by kernel_rfl) (of_decide_eq_true (by kernel_rfl)) k2 bel lt2) (trodAll_cons_mk (Below.trod laidOut (by kernel_rfl) (of_decide_eq_true (by kernel_rfl)) k3 bel lt3) trodAll_mk0)))), rfl, bel.frame _, fun h => by cases h⟩

theorem over : Rows.signApartRow.holds Try.pinned (OpenSpec.ofChange Rows.signApartSpec) :=
  OpenClaim.holds_of_wide 10 Try.f10 rfl rfl rfl rfl rfl rfl rfl ⟨rfl, rfl, rfl, rfl, rfl⟩ rfl rfl rfl rfl rfl (by kernel_rfl) Try.func10 (by kernel_rfl)
    (of_decide_eq_true (by kernel_rfl)) (by unfold Func.isWrapper; first | (rw [if_pos (by decide +kernel)]; kernel_rfl) | (rw [if_neg (by decide +kernel)]; exact ⟨rfl, rfl⟩))
    (fun os started H enc _ => lifted os started H enc)

theorem proved : Rows.SignApartSaid := over
#print axioms proved
end signApart
end Go.Proofs.Ytafgaknhdiipdaa
