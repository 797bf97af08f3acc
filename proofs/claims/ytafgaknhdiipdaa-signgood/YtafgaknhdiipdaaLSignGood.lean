/- Proved here: for all ints and every slice of bytes (up to 200 bytes of it), a signature that Make returns is valid, and with any other S from 0 to Order - 1 it is not (statement SignGood). No condition. -/
import Derived.Test.YtafgaknhdiipdaaSgL
import Derived.Test.YtafgaknhdiipdaaOpen
import Derived.Deep.RegionHeld3
import Derived.Outline
import Derived.StillTailTactics
namespace Go.Proofs.Ytafgaknhdiipdaa
set_option linter.unusedVariables false
set_option linter.unusedSimpArgs false
open Go.RowKit
theorem picked_still (a n : Int) (w : World) (hn : 0 < n) (hn2 : n ≤ 1048576) :
    Calls Try.prog 27 #[.int .i64 a, .int .i64 n] w fun e w' => e = .returned (.int .i64 (a % n)) ∧ w' = w :=
  (picked_any a n w hn hn2).mono fun _ _ h => ⟨h.1, h.2.symm⟩
set_option maxRecDepth 100000 in
set_option maxHeartbeats 2000000 in
theorem walkSignGood (x0 : Int) (x1 : Int) (A2 : Option Addr) (n2 c2 : Nat) (l2 : List UInt8) (x3 : Int) (w : World) (hx0 : -9223372036854775808 ≤ x0 ∧ x0 ≤ 9223372036854775807) (hx1 : -9223372036854775808 ≤ x1 ∧ x1 ≤ 9223372036854775807) (hx2 : BytesIn w A2 n2 c2 l2) (hx3 : -9223372036854775808 ≤ x3 ∧ x3 ≤ 9223372036854775807) :
    Calls Try.prog 8 #[.int .i64 x0, .int .i64 x1, .slice A2 n2 c2, .int .i64 x3] w fun e w' => e = .returned (.bool true) ∧ Below w.heap.size w w' := by
  obtain ⟨hr2, hn2, _, hA2⟩ := hx2
  clear hx0 hx1 hx3
  obtain ⟨ha1, ha2⟩ := secOf_lt x0
  obtain ⟨hk1, hk2⟩ := secOf_lt x1
  obtain ⟨a, Ha⟩ : ∃ a, Hid (secOf x0 = a) := ⟨_, Lib.hid rfl⟩
  obtain ⟨k, Hk⟩ : ∃ k, Hid (secOf x1 = k) := ⟨_, Lib.hid rfl⟩
  rw [Ha.out] at ha1 ha2
  rw [Hk.out] at hk1 hk2
  have hlx : (l2.take 200).length ≤ 200 := by rw [List.length_take]; omega
  have HC2 := Lib.hid (fun W h => cut_any A2 n2 c2 l2 W h hn2 hA2)
  generalize l2.take 200 = x at *
  have hd0 := Int.emod_nonneg x3 (show (3910 : Int) ≠ 0 by decide)
  have hd1 := Int.emod_lt_of_pos x3 (show (0 : Int) < 3910 by decide)
  obtain ⟨d, Hd⟩ : ∃ d : Nat, Hid (x3 % 3910 = (d : Int)) := ⟨(x3 % 3910).toNat, Lib.hid (by omega)⟩
  have hd : d < 3910 := by have := Hd.out; omega
  clear hd0 hd1
  have hpa := publicR_nat ha1 ha2
  have hmk := makeR_nat (l := x) ha1 ha2 hk1 hk2 (show x.length ≤ 600 by omega)
  have hck := checkR_nat (l := x) ha1 ha2 hk1 hk2 (s := (k + a * hsh (pw 4 k % 7823) x) % 3911) (Nat.mod_lt _ (by decide)) (show x.length ≤ 600 by omega)
  have hck2 := checkR_nat (l := x) ha1 ha2 hk1 hk2 (s := ((k + a * hsh (pw 4 k % 7823) x) % 3911 + 1 + d) % 3911) (Nat.mod_lt _ (by decide)) (show x.length ≤ 600 by omega)
  have hsl := Nat.mod_lt (k + a * hsh (pw 4 k % 7823) x) (show 0 < 3911 by decide)
  generalize pw 4 a % 7823 = p at *
  generalize pw 4 k % 7823 = r at *
  generalize (k + a * hsh r x) % 3911 = s at *
  rw [if_pos rfl] at hck
  rw [if_neg (by omega)] at hck2
  obtain ⟨t, Ht⟩ : ∃ t : Nat, Hid ((s + 1 + d) % 3911 = t) := ⟨_, Lib.hid rfl⟩
  rw [Ht.out] at hck2
  have Hpa := Lib.hid hpa
  have Hmk := Lib.hid hmk
  have Hck := Lib.hid hck
  have Hck2 := Lib.hid hck2
  have Hr2 := Lib.hid hr2
  clear hpa hmk hck hck2 hr2 hn2 hA2
  go_enter Try.func8, Try.ntmps8
  go_wp2_with fail
  refine (secretOf_any x0 _).mono ?_
  rintro e w1 ⟨rfl, rfl⟩
  rw [Ha.out]
  go_wp2_with fail
  refine (HC2.out _ Hr2.out).mono ?_
  rintro e w1 ⟨_, rfl, B1, d1, rfl, hh1, hc1, hn1, _, hb1⟩
  have HX := Lib.hid (cut_again B1 d1 x hlx hc1 hn1)
  have Hx1 := Lib.hid hh1
  have Hb1 := Lib.hid hb1
  clear hh1 hb1 hc1 hn1 Hr2 HC2
  go_wp2_with fail
  refine (public_any a _).mono ?_
  rintro e w2 ⟨rfl, rfl⟩
  rw [Hpa.out]
  simp only [intsV]
  go_wp2_with fail
  refine (secretOf_any x1 _).mono ?_
  rintro e w2 ⟨rfl, rfl⟩
  rw [Hk.out]
  go_wp2_with fail
  refine (HX.out _ Hx1.out).mono ?_
  rintro e w3 ⟨_, rfl, B3, d3, rfl, hh3, _, _, _, hb3⟩
  have Hb3 := Lib.hid (Hb1.out.trans (hb3.mono Hb1.out.size))
  have Hx3 := Lib.hid ((Hx1.out.below hb3).wider hb3.size)
  have Hh3 := Lib.hid hh3
  clear hh3 hb3 Hb1 Hx1
  go_wp2_with fail
  refine (make_any a k B3 x.length d3 x _ Hh3.out).mono ?_
  rintro e w4 ⟨rfl, hb4⟩
  rw [Hmk.out]
  simp only [makeV, signV]
  have hb5 := hb4.alloc hb4.size (.cells #[.int .i64 r, .int .i64 s] 30)
  have hB := Bx.new w4 r s
  have hF : (w4.alloc (.cells #[.int .i64 r, .int .i64 s] 30)).frozen? ⟨w4.heap.size, 1, none⟩ = false := by simp [go_sem]
  have Hb5 := Lib.hid (Hb3.out.trans (hb5.mono Hb3.out.size))
  have Hx4 := Lib.hid ((Hx3.out.below hb4).wider hb4.size)
  have Hx5 := Lib.hid (Hx4.out.alloc (Nat.le_refl _) (.cells #[.int .i64 r, .int .i64 s] 30))
  have Hg := Lib.hid (show w.heap.size ≤ w4.heap.size from (Hb3.out.trans (hb4.mono Hb3.out.size)).size)
  clear hb4 hb5 Hb3 Hx3 Hx4 Hh3
  go_wp2_with fail
  generalize (w4.alloc (.cells #[.int .i64 r, .int .i64 s] 30)) = w5 at *
  generalize w4.heap.size = g at *
  have hBd := hB.drewN 1
  have Hb5d := Lib.hid (show Below w.heap.size w w5.drew from below_drewN Hb5.out 1)
  have Hx5e := Lib.hid (show Holds w5.drew g 1 B1 x.length (x.map bv) from Hx5.out)
  have Hx5d := Lib.hid (Hx5e.out.wider (Nat.le_of_lt hBd.2.2))
  obtain ⟨f0, f1, f2⟩ := hB
  go_region_held3 (fun w' => w'.cell? ⟨g, 0, none⟩ = some (.int .i64 r) ∧ w'.cell? ⟨g, 1, none⟩ = some (.int .i64 s)) (first | exact ⟨f0, f1⟩ | exact ⟨hB6.1, hB6.2.1⟩ | exact ⟨hB7.1, hB7.2.1⟩ | exact ⟨hB8.1, hB8.2.1⟩)
    (first
      | (go_at_call 25; refine (HX.out _ ?_).mono ?_; exact Hx5d.out; rintro e w6 ⟨_, rfl, B6, d6, rfl, hh6, _, _, _, hb6⟩; have hB6 := hBd.below hb6)
      | (go_at_call 20; refine (check_any p B6 x.length d6 x r s _ ?_).mono ?_; exact hh6; rintro e w7 ⟨rfl, hb7⟩; rw [Hck.out]; have hB7 := hB6.below hb7)
      | (go_at_call 26; refine (signSure_any _).mono ?_; rintro e w8 ⟨rfl, hb8⟩; have hB8 := hB7.below hb8))
  all_goals
    have h1 := Hb5d.out.trans (hb6.mono Hb5d.out.size)
    have h2 := h1.trans (hb7.mono h1.size)
    have Hb8 := Lib.hid (h2.trans (hb8.mono h2.size))
    have Hx8 := Lib.hid (((Hx5e.out.below (hb6.mono (Nat.le_of_lt hBd.2.2))).below (hb7.mono (Nat.le_of_lt hB6.2.2))).below (hb8.mono (Nat.le_of_lt hB7.2.2)))
    have hF6 := (hb6.frozen (p := ⟨g, 1, none⟩) hBd.2.2).trans hF
    have hF7 := (hb7.frozen (p := ⟨g, 1, none⟩) hB6.2.2).trans hF6
    have hF8 := (hb8.frozen (p := ⟨g, 1, none⟩) hB7.2.2).trans hF7
    clear h1 h2 hb6 hb7 hb8 hh6 hB6 hB7 hBd f0 f1 f2 Hb5 Hb5d Hx5 Hx5d Hx5e hF hF6 hF7
    obtain ⟨f0, f1, f2⟩ := hB8
    have hgw : w.heap.size ≤ g := by have := Hg.out; exact this
    go_wp2_with fail
    refine wp_region_still_tail 8 (by kernel_rfl) (by kernel_rfl) ?_
    simp only [List.take_succ_cons, List.take_zero, List.drop_succ_cons, List.drop_zero]
    repeat still_step
    still_call (picked_still x3 3910 _ (by decide) (by decide))
    rw [Hd.out]
    repeat still_step
    refine wpStill_nil ?_
    change wpList _ _ _ _ _ w8.drew
    have y0 : w8.drew.cell? ⟨g, 0, none⟩ = some (.int .i64 r) := f0
    have y1 : w8.drew.cell? ⟨g, 1, none⟩ = some (.int .i64 s) := f1
    have y2 : w8.drew.frozen? ⟨g, 1, none⟩ = false := hF8
    have y3 : g < w8.drew.heap.size := f2
    have Hb9 := Lib.hid (show Below w.heap.size w w8.drew from below_drewN Hb8.out 1)
    have Hx9 := Lib.hid (show Holds w8.drew g 1 B1 x.length (x.map bv) from Hx8.out)
    clear f0 f1 f2 hF8 Hb8 Hx8
    generalize w8.drew = w9 at *
    go_wp2_with fail
    rw [show ((s : Int) + 1 + d) % 3911 = (t : Int) by have := Ht.out; omega]
    have hbs : Below g w9 (w9.setCell ⟨g, 1, none⟩ (.int .i64 (t : Int))) := (Below.refl g w9).setCell (Nat.le_refl _) _
    have hb10 := Hb9.out.trans (hbs.mono hgw)
    refine (check_any p B1 x.length d1 x r t _ ((Hx9.out.below hbs).wider (Nat.le_trans (Nat.le_of_lt y3) hbs.size))).mono ?_
    rintro e w11 ⟨rfl, hb11⟩
    rw [Hck2.out]
    have Hb11 := Lib.hid (hb10.trans (hb11.mono hb10.size))
    clear hb11 hb10 hbs
    go_wp2_with fail
    go_ret
    exact ⟨rfl, Hb11.out⟩
namespace signGood
open Go.ChangeShapes Go.WideShapes Go.ChangeAt Go.RowKit
theorem own : ownKnob Try.prog.godebug = none := by kernel_rfl
theorem laidOut : laidOutB Try.prog = true := by kernel_rfl
set_option linter.unusedVariables false
set_option maxRecDepth 100000 in
theorem lifted (os : Os) (started : os.Started) (H : Type) (enc : TypeId × Value → H) :
    ReturnsInHanded {} Try.checked os 8 .any (Rows.signGoodSpec.pre6 enc Try.prog Try.f8 Rows.signGoodRow.domain false) (Rows.signGoodSpec.post enc Try.prog Try.f8 false true false false) := by
  refine returnsInHanded_of_change (C := Try.checked) own started (by kernel_rfl) Try.func8
    (ChangeSpec.witness6 (enc := enc) (C := Try.checked) false ⟨#[], #[.int .i64 0, .int .i64 0, .slice none 0 0, .int .i64 0], []⟩ 8 (by kernel_rfl) (by kernel_rfl) (by kernel_rfl) (by kernel_rfl)) ?_
  intro W base args ds gs before hval0 hW hcnd _
  have hval : ∀ (j : Nat) t v, Try.f8.params[j]? = some t → args[j]? = some v → Value.okWide Try.prog W .any base t v := hval0
  have hW' := hW
  obtain ⟨p, q, hA0, hV, rfl, hfz, hnd⟩ := hW
  have hA : DataW.TrodAll enc Try.prog W 0 (fun _ => true) true Try.f8.params.toList args.toList ds p := hA0
  rw [Try.params8] at hA hval
  obtain ⟨v0, vs0, d0, ds0, p0, q0, hargs, rfl, rfl, h0, rr0⟩ := trodAll_cons hA
  obtain ⟨v1, vs1, d1, ds1, p1, q1, rfl, rfl, rfl, h1, rr1⟩ := trodAll_cons rr0
  obtain ⟨v2, vs2, d2, ds2, p2, q2, rfl, rfl, rfl, h2, rr2⟩ := trodAll_cons rr1
  obtain ⟨v3, vs3, d3, ds3, p3, q3, rfl, rfl, rfl, h3, rr3⟩ := trodAll_cons rr2
  obtain ⟨rfl, rfl, rfl⟩ := trodAll_nil rr3
  obtain rfl : args = #[v0, v1, v2, v3] := by cases args; simp_all
  obtain ⟨rfl, rfl⟩ := trodVars_none hV
  have k0 := h0
  have lt0 : ∀ x ∈ p0, x.block < W.heap.size := by obtain ⟨m, hm⟩ := k0; exact DataW.trod_lt m _ _ _ hm
  obtain ⟨x0, rfl, hx0⟩ := open_i64 Try.underlying3 (hval 0 3 v0 rfl rfl) h0
  have k1 := h1
  have lt1 : ∀ x ∈ p1, x.block < W.heap.size := by obtain ⟨m, hm⟩ := k1; exact DataW.trod_lt m _ _ _ hm
  obtain ⟨x1, rfl, hx1⟩ := open_i64 Try.underlying3 (hval 1 3 v1 rfl rfl) h1
  have k2 := h2
  have lt2 : ∀ x ∈ p2, x.block < W.heap.size := by obtain ⟨m, hm⟩ := k2; exact DataW.trod_lt m _ _ _ hm
  obtain ⟨A2, n2, c2, l2, rfl, hx2⟩ := open_bytes Try.underlying26 Try.underlying5 (by kernel_rfl) (hval 2 26 v2 rfl rfl) h2
  have k3 := h3
  have lt3 : ∀ x ∈ p3, x.block < W.heap.size := by obtain ⟨m, hm⟩ := k3; exact DataW.trod_lt m _ _ _ hm
  obtain ⟨x3, rfl, hx3⟩ := open_i64 Try.underlying3 (hval 3 3 v3 rfl rfl) h3
  clear hA0 hval0
  refine (walkSignGood x0 x1 A2 n2 c2 l2 x3 W hx0 hx1 hx2 hx3).mono fun e W' ⟨he, bel⟩ => ?_
  subst he
  exact ⟨_, rfl, _, _, _, [], _, [], hW', trodAll_mk1 (shut_bool Try.underlying4 _), (trodAll_cons_mk (Below.trod laidOut (by kernel_rfl) (of_decide_eq_true (by kernel_rfl)) k0 bel lt0) (trodAll_cons_mk (Below.trod laidOut (by kernel_rfl) (of_decide_eq_true (by kernel_rfl)) k1 bel lt1) (trodAll_cons_mk (Below.trod laidOut (by kernel_rfl) (of_decide_eq_true (by kernel_rfl)) k2 bel lt2) (trodAll_cons_mk (Below.trod laidOut (by kernel_rfl) (of_decide_eq_true (by kernel_rfl)) k3 bel lt3) trodAll_mk0)))), rfl, bel.frame _, fun h => by cases h⟩

theorem over : Rows.signGoodRow.holds Try.pinned (OpenSpec.ofChange Rows.signGoodSpec) :=
  OpenClaim.holds_of_wide 8 Try.f8 rfl rfl rfl rfl rfl rfl rfl ⟨rfl, rfl, rfl, rfl, rfl⟩ rfl rfl rfl rfl rfl (by kernel_rfl) Try.func8 (by kernel_rfl)
    (of_decide_eq_true (by kernel_rfl)) (by unfold Func.isWrapper; first | (rw [if_pos (by decide +kernel)]; kernel_rfl) | (rw [if_neg (by decide +kernel)]; exact ⟨rfl, rfl⟩))
    (fun os started H enc _ => lifted os started H enc)

theorem proved : Rows.SignGoodSaid := over
#print axioms proved
end signGood
end Go.Proofs.Ytafgaknhdiipdaa
