/- Proved here: for all ints and all slices of bytes (up to 200 bytes of each), two signatures by one secret with one nonce reveal the secret, unless the two hashes are equal: then the answer is ErrNone (statement SignTwice). No condition. -/
import Derived.Test.YtafgaknhdiipdaaSgL
import Derived.Test.YtafgaknhdiipdaaOpen
import Derived.Deep.RegionHeld3
import Derived.Outline
namespace Go.Proofs.Ytafgaknhdiipdaa
set_option linter.unusedVariables false
set_option linter.unusedSimpArgs false
open Go.RowKit
set_option maxRecDepth 100000 in
set_option maxHeartbeats 2000000 in
theorem walkSignTwice (x0 : Int) (x1 : Int) (A2 : Option Addr) (n2 c2 : Nat) (l2 : List UInt8) (A3 : Option Addr) (n3 c3 : Nat) (l3 : List UInt8) (w : World) (hx0 : -9223372036854775808 ≤ x0 ∧ x0 ≤ 9223372036854775807) (hx1 : -9223372036854775808 ≤ x1 ∧ x1 ≤ 9223372036854775807) (hx2 : BytesIn w A2 n2 c2 l2) (hx3 : BytesIn w A3 n3 c3 l3) :
    Calls Try.prog 9 #[.int .i64 x0, .int .i64 x1, .slice A2 n2 c2, .slice A3 n3 c3] w fun e w' => e = .returned (.bool true) ∧ Below w.heap.size w w' := by
  obtain ⟨hr2, hn2, _, hA2⟩ := hx2
  obtain ⟨hr3, hn3, _, hA3⟩ := hx3
  clear hx0 hx1
  obtain ⟨ha1, ha2⟩ := secOf_lt x0
  obtain ⟨hk1, hk2⟩ := secOf_lt x1
  obtain ⟨a, Ha⟩ : ∃ a, Hid (secOf x0 = a) := ⟨_, Lib.hid rfl⟩
  obtain ⟨k, Hk⟩ : ∃ k, Hid (secOf x1 = k) := ⟨_, Lib.hid rfl⟩
  rw [Ha.out] at ha1 ha2
  rw [Hk.out] at hk1 hk2
  have hlx : (l2.take 200).length ≤ 200 := by rw [List.length_take]; omega
  have hly : (l3.take 200).length ≤ 200 := by rw [List.length_take]; omega
  have HC2 := Lib.hid (fun W h => cut_any A2 n2 c2 l2 W h hn2 hA2)
  have HC3 := Lib.hid (fun W h => cut_any A3 n3 c3 l3 W h hn3 hA3)
  generalize l2.take 200 = x at *
  generalize l3.take 200 = y at *
  have hmk := makeR_nat (l := x) ha1 ha2 hk1 hk2 (show x.length ≤ 600 by omega)
  have hmk2 := makeR_nat (l := y) ha1 ha2 hk1 hk2 (show y.length ≤ 600 by omega)
  have hse := secretR_nat (l1 := x) (l2 := y) ha1 ha2 hk1 hk2 (show x.length ≤ 600 by omega) (show y.length ≤ 600 by omega)
  have hrl := Nat.mod_lt (pw 4 k) (show 0 < 7823 by decide)
  generalize pw 4 k % 7823 = r at *
  generalize (k + a * hsh r x) % 3911 = s at *
  generalize (k + a * hsh r y) % 3911 = t at *
  have hH1 := hashR_nat (l := x) (n := x.length) hrl (by omega)
  have hH2 := hashR_nat (l := y) (n := y.length) hrl (by omega)
  generalize hsh r x = h at *
  generalize hsh r y = j at *
  have Hmk := Lib.hid hmk
  have Hmk2 := Lib.hid hmk2
  have Hse := Lib.hid hse
  have HH1 := Lib.hid hH1
  have HH2 := Lib.hid hH2
  have Hr2 := Lib.hid hr2
  have Hr3 := Lib.hid hr3
  clear hmk hmk2 hse hH1 hH2 hr2 hr3 hn2 hn3 hA2 hA3
  go_enter Try.func9, Try.ntmps9
  go_wp2_with fail
  refine (secretOf_any x0 _).mono ?_
  rintro e w1 ⟨rfl, rfl⟩
  rw [Ha.out]
  go_wp2_with fail
  refine (secretOf_any x1 _).mono ?_
  rintro e w1 ⟨rfl, rfl⟩
  rw [Hk.out]
  go_wp2_with fail
  refine (HC2.out _ Hr2.out).mono ?_
  rintro e w1 ⟨_, rfl, B1, d1, rfl, hh1, hc1, hn1, _, hb1⟩
  have HX := Lib.hid (cut_again B1 d1 x hlx hc1 hn1)
  have Hx1 := Lib.hid hh1
  have Hb1 := Lib.hid hb1
  clear hh1 hb1 hc1 hn1
  go_wp2_with fail
  refine (HC3.out _ ((Hr3.out.below Hb1.out).wider Hb1.out.size)).mono ?_
  rintro e w2 ⟨_, rfl, B2, d2, rfl, hh2, hc2, hn2, _, hb2⟩
  have HY := Lib.hid (cut_again B2 d2 y hly hc2 hn2)
  have Hb2 := Lib.hid (Hb1.out.trans (hb2.mono Hb1.out.size))
  have Hx2 := Lib.hid ((Hx1.out.below hb2).wider hb2.size)
  have Hy2 := Lib.hid hh2
  clear hh2 hb2 hc2 hn2 Hb1 Hx1 Hr2 Hr3 HC2 HC3
  go_wp2_with fail
  refine (HX.out _ Hx2.out).mono ?_
  rintro e w3 ⟨_, rfl, B3, d3, rfl, hh3, _, _, _, hb3⟩
  have Hb3 := Lib.hid (Hb2.out.trans (hb3.mono Hb2.out.size))
  have Hx3 := Lib.hid ((Hx2.out.below hb3).wider hb3.size)
  have Hy3 := Lib.hid ((Hy2.out.below hb3).wider hb3.size)
  have Hh3 := Lib.hid hh3
  clear hh3 hb3 Hb2 Hx2 Hy2
  go_wp2_with fail
  refine (make_any a k B3 x.length d3 x _ Hh3.out).mono ?_
  rintro e w4 ⟨rfl, hb4⟩
  rw [Hmk.out]
  simp only [makeV, signV]
  have hb5 := hb4.alloc hb4.size (.cells #[.int .i64 r, .int .i64 s] 30)
  have hB := Bx.new w4 r s
  have Hb5 := Lib.hid (Hb3.out.trans (hb5.mono Hb3.out.size))
  have Hx5 := Lib.hid ((Hx3.out.below hb5).wider hb5.size)
  have Hy5 := Lib.hid ((Hy3.out.below hb5).wider hb5.size)
  clear hb4 hb5 Hb3 Hx3 Hy3 Hh3
  go_wp2_with fail
  generalize (w4.alloc (.cells #[.int .i64 r, .int .i64 s] 30)) = w5 at *
  generalize w4.heap.size = g at *
  refine (HY.out _ Hy5.out).mono ?_
  rintro e w6 ⟨_, rfl, B6, d6, rfl, hh6, _, _, _, hb6⟩
  have hB6 := hB.below hb6
  have Hb6 := Lib.hid (Hb5.out.trans (hb6.mono Hb5.out.size))
  have Hx6 := Lib.hid ((Hx5.out.below hb6).wider hb6.size)
  have Hy6 := Lib.hid ((Hy5.out.below hb6).wider hb6.size)
  have Hh6 := Lib.hid hh6
  clear hh6 hb6 Hb5 Hx5 Hy5 hB
  go_wp2_with fail
  refine (make_any a k B6 y.length d6 y _ Hh6.out).mono ?_
  rintro e w7 ⟨rfl, hb7⟩
  rw [Hmk2.out]
  simp only [makeV, signV]
  have hb8 := hb7.alloc hb7.size (.cells #[.int .i64 r, .int .i64 t] 30)
  have hB8 := hB6.below hb8
  have hD8 := Bx.new w7 r t
  have Hb8 := Lib.hid (Hb6.out.trans (hb8.mono Hb6.out.size))
  have Hx8 := Lib.hid ((Hx6.out.below hb8).wider hb8.size)
  have Hy8 := Lib.hid ((Hy6.out.below hb8).wider hb8.size)
  clear hb7 hb8 Hb6 Hx6 Hy6 Hh6 hB6
  go_wp2_with fail
  generalize (w7.alloc (.cells #[.int .i64 r, .int .i64 t] 30)) = w8 at *
  generalize w7.heap.size = g2 at *
  have hBd := hB8.drewN 1
  have hDd := hD8.drewN 1
  obtain ⟨f0, f1, f2⟩ := hB8
  have Hx8d := Lib.hid (show Holds w8.drew w8.drew.heap.size 1 B1 x.length (x.map bv) from Hx8.out)
  have Hb8d := Lib.hid (show Below w.heap.size w w8.drew from below_drewN Hb8.out 1)
  go_region_held3 (fun w' => w'.cell? ⟨g, 0, none⟩ = some (.int .i64 r)) (first | exact f0 | exact hB9.1)
    (first
      | (go_at_call 25; refine (HX.out _ ?_).mono ?_; exact Hx8d.out; rintro e w9 ⟨_, rfl, B9, d9, rfl, hh9, _, _, _, hb9⟩; have hB9 := hBd.below hb9)
      | (go_at_call 16; refine (hashP_any r B9 x.length d9 x _ ?_).mono ?_; exact hh9; rintro e _ ⟨rfl, q10, rfl⟩; rw [HH1.out]; simp only [intsV]))
  have hB10 := hB9.drewN q10
  have hD10 := (hDd.below hb9).drewN q10
  have Hb10 := Lib.hid (below_drewN (Hb8d.out.trans (hb9.mono Hb8d.out.size)) q10)
  have Hx10 := Lib.hid (show Holds (w9.drewN q10) (w9.drewN q10).heap.size 1 B1 x.length (x.map bv) from (Hx8d.out.below hb9).wider hb9.size)
  have Hy10 := Lib.hid (show Holds (w9.drewN q10) (w9.drewN q10).heap.size 1 B2 y.length (y.map bv) from (show Holds w8.drew w8.drew.heap.size 1 B2 y.length (y.map bv) from Hy8.out).below hb9 |>.wider hb9.size)
  clear hb9 hh9 hB9 hBd hDd f0 f1 f2 hD8 Hx8 Hy8 Hb8 Hx8d Hb8d
  generalize w9.drewN q10 = w10 at *
  go_wp2_with fail
  have hBd := hB10.drewN 1
  have hDd := hD10.drewN 1
  obtain ⟨f0, f1, f2⟩ := hD10
  have Hy10d := Lib.hid (show Holds w10.drew w10.drew.heap.size 1 B2 y.length (y.map bv) from Hy10.out)
  have Hb10d := Lib.hid (show Below w.heap.size w w10.drew from below_drewN Hb10.out 1)
  go_region_held3 (fun w' => w'.cell? ⟨g2, 0, none⟩ = some (.int .i64 r)) (first | exact f0 | exact hD11.1)
    (first
      | (go_at_call 25; refine (HY.out _ ?_).mono ?_; exact Hy10d.out; rintro e w11 ⟨_, rfl, B11, d11, rfl, hh11, _, _, _, hb11⟩; have hD11 := hDd.below hb11)
      | (go_at_call 16; refine (hashP_any r B11 y.length d11 y _ ?_).mono ?_; exact hh11; rintro e _ ⟨rfl, q12, rfl⟩; rw [HH2.out]; simp only [intsV]))
  have hB12 := (hBd.below hb11).drewN q12
  have hD12 := hD11.drewN q12
  have Hb12 := Lib.hid (below_drewN (Hb10d.out.trans (hb11.mono Hb10d.out.size)) q12)
  have Hx12 := Lib.hid (show Holds (w11.drewN q12) (w11.drewN q12).heap.size 1 B1 x.length (x.map bv) from (show Holds w10.drew w10.drew.heap.size 1 B1 x.length (x.map bv) from Hx10.out).below hb11 |>.wider hb11.size)
  have Hy12 := Lib.hid (show Holds (w11.drewN q12) (w11.drewN q12).heap.size 1 B2 y.length (y.map bv) from (Hy10d.out.below hb11).wider hb11.size)
  clear hb11 hh11 hD11 hBd hDd f0 f1 f2 hB10 Hx10 Hy10 Hb10 Hy10d Hb10d
  generalize w11.drewN q12 = w12 at *
  obtain ⟨u0, u1, u2⟩ := hB12
  obtain ⟨v0, v1, v2⟩ := hD12
  by_cases hhj : h = j
  · have Hsv := Lib.hid (Hse.out.trans (if_pos hhj))
    have hbe : ((h : Int) == (j : Int)) = true := by rw [hhj]; simp
    clear hhj
    go_wp2_with fail
    refine (secret_any B1 B2 x.length y.length d1 d2 x y r s r t _ Hx12.out Hy12.out).mono ?_
    rintro e w13 ⟨rfl, hb13⟩
    rw [Hsv.out]
    simp only [intsV]
    have Hb13 := Lib.hid (Hb12.out.trans (hb13.mono Hb12.out.size))
    clear hb13
    go_wp2_with fail
    refine (signSure_any _).mono ?_
    rintro e w14 ⟨rfl, hb14⟩
    have Hb14 := Lib.hid (Hb13.out.trans (hb14.mono Hb13.out.size))
    clear hb14
    go_wp2_with fail
    go_ret
    exact ⟨by first | rfl | simp, Hb14.out⟩
  · have Hsv := Lib.hid (Hse.out.trans (if_neg hhj))
    have hbe : ((h : Int) == (j : Int)) = false := by rw [beq_eq_false_iff_ne]; omega
    clear hhj
    go_wp2_with fail
    refine (secret_any B1 B2 x.length y.length d1 d2 x y r s r t _ Hx12.out Hy12.out).mono ?_
    rintro e w13 ⟨rfl, hb13⟩
    rw [Hsv.out]
    simp only [intsV]
    have Hb13 := Lib.hid (Hb12.out.trans (hb13.mono Hb12.out.size))
    clear hb13
    go_wp2_with fail
    refine (signSure_any _).mono ?_
    rintro e w14 ⟨rfl, hb14⟩
    have Hb14 := Lib.hid (Hb13.out.trans (hb14.mono Hb13.out.size))
    clear hb14
    go_wp2_with fail
    go_ret
    exact ⟨by first | rfl | simp, Hb14.out⟩
namespace signTwice
open Go.ChangeShapes Go.WideShapes Go.ChangeAt Go.RowKit
theorem own : ownKnob Try.prog.godebug = none := by kernel_rfl
theorem laidOut : laidOutB Try.prog = true := by kernel_rfl
set_option linter.unusedVariables false
set_option maxRecDepth 100000 in
theorem lifted (os : Os) (started : os.Started) (H : Type) (enc : TypeId × Value → H) :
    ReturnsInHanded {} Try.checked os 9 .any (Rows.signTwiceSpec.pre6 enc Try.prog Try.f9 Rows.signTwiceRow.domain false) (Rows.signTwiceSpec.post enc Try.prog Try.f9 false true false false) := by
  refine returnsInHanded_of_change (C := Try.checked) own started (by kernel_rfl) Try.func9
    (ChangeSpec.witness6 (enc := enc) (C := Try.checked) false ⟨#[], #[.int .i64 0, .int .i64 0, .slice none 0 0, .slice none 0 0], []⟩ 8 (by kernel_rfl) (by kernel_rfl) (by kernel_rfl) (by kernel_rfl)) ?_
  intro W base args ds gs before hval0 hW hcnd _
  have hval : ∀ (j : Nat) t v, Try.f9.params[j]? = some t → args[j]? = some v → Value.okWide Try.prog W .any base t v := hval0
  have hW' := hW
  obtain ⟨p, q, hA0, hV, rfl, hfz, hnd⟩ := hW
  have hA : DataW.TrodAll enc Try.prog W 0 (fun _ => true) true Try.f9.params.toList args.toList ds p := hA0
  rw [Try.params9] at hA hval
  obtain ⟨v0, vs0, d0, ds0, p0, q0, hargs, rfl, rfl, h0, rr0⟩ := trodAll_cons hA
  obtain ⟨v1, vs1, d1, ds1, p1, q1, rfl, rfl, rfl, h1, rr1⟩ := trodAll_cons rr0
  obtain ⟨v2, vs2, d2, ds2, p2, q2, rfl, rfl, rfl, h2, rr2⟩ := trodAll_cons rr1
  obtain ⟨v3, vs3, d3, ds3, p3, q3, rfl, rfl, rfl, h3, rr3⟩ := trodAll_cons rr2
  obtain ⟨rfl, rfl, rfl⟩ := trodAll_nil rr3
  obtain rfl : args = #[v0, v1, v2, v3] := by cases args; simp_all
  obtain ⟨rfl, rfl⟩ := trodVars_none hV
  have k0 := h0
  have lt0 : ∀ x ∈ p0, x.block < W.heap.size := by obtain ⟨m, hm⟩ := k0; exact DataW.trod_lt m _ _ _ hm
  obtain ⟨x0, rfl, hx0⟩ := open_i64 Try.underlying3 (hval 0 3 v0 rfl rfl) h0
  have k1 := h1
  have lt1 : ∀ x ∈ p1, x.block < W.heap.size := by obtain ⟨m, hm⟩ := k1; exact DataW.trod_lt m _ _ _ hm
  obtain ⟨x1, rfl, hx1⟩ := open_i64 Try.underlying3 (hval 1 3 v1 rfl rfl) h1
  have k2 := h2
  have lt2 : ∀ x ∈ p2, x.block < W.heap.size := by obtain ⟨m, hm⟩ := k2; exact DataW.trod_lt m _ _ _ hm
  obtain ⟨A2, n2, c2, l2, rfl, hx2⟩ := open_bytes Try.underlying26 Try.underlying5 (by kernel_rfl) (hval 2 26 v2 rfl rfl) h2
  have k3 := h3
  have lt3 : ∀ x ∈ p3, x.block < W.heap.size := by obtain ⟨m, hm⟩ := k3; exact DataW.trod_lt m _ _ _ hm
  obtain ⟨A3, n3, c3, l3, rfl, hx3⟩ := open_bytes Try.underlying26 Try.underlying5 (by kernel_rfl) (hval 3 26 v3 rfl rfl) h3
  clear hA0 hval0
  refine (walkSignTwice x0 x1 A2 n2 c2 l2 A3 n3 c3 l3 W hx0 hx1 hx2 hx3).mono fun e W' ⟨he, bel⟩ => ?_
  subst he
  exact ⟨_, rfl, _, _, _, [], _, [], hW', trodAll_mk1 (shut_bool Try.underlying4 _), (trodAll_cons_mk (Below.trod laidOut (by kernel_rfl) (of_decide_eq_true (by kernel_rfl)) k0 bel lt0) (trodAll_cons_mk (Below.trod laidOut (by kernel_rfl) (of_decide_eq_true (by kernel_rfl)) k1 bel lt1) (trodAll_cons_mk (Below.trod laidOut (by kernel_rfl) (of_decide_eq_true (by kernel_rfl)) k2 bel lt2) (trodAll_cons_mk (Below.trod laidOut (by kernel_rfl) (of_decide_eq_true (by kernel_rfl)) k3 bel lt3) trodAll_mk0)))), rfl, bel.frame _, fun h => by cases h⟩

theorem over : Rows.signTwiceRow.holds Try.pinned (OpenSpec.ofChange Rows.signTwiceSpec) :=
  OpenClaim.holds_of_wide 9 Try.f9 rfl rfl rfl rfl rfl rfl rfl ⟨rfl, rfl, rfl, rfl, rfl⟩ rfl rfl rfl rfl rfl (by kernel_rfl) Try.func9 (by kernel_rfl)
    (of_decide_eq_true (by kernel_rfl)) (by unfold Func.isWrapper; first | (rw [if_pos (by decide +kernel)]; kernel_rfl) | (rw [if_neg (by decide +kernel)]; exact ⟨rfl, rfl⟩))
    (fun os started H enc _ => lifted os started H enc)

theorem proved : Rows.SignTwiceSaid := over
#print axioms proved
end signTwice
end Go.Proofs.Ytafgaknhdiipdaa
