/- Proved here: for all ints and all slices of bytes, the signature of a text (of up to 200 of its bytes) is valid for another text exactly if the two hashes are equal (statement SignTexts). No condition. -/
import Derived.Test.YtafgaknhdiipdaaSgL
import Derived.Test.YtafgaknhdiipdaaOpen
import Derived.Deep.RegionHeld3
import Derived.Outline
namespace Go.Proofs.Ytafgaknhdiipdaa
set_option linter.unusedVariables false
set_option linter.unusedSimpArgs false
open Go.RowKit
set_option maxRecDepth 100000 in
set_option maxHeartbeats 2000000 in
theorem walkSignTexts (x0 : Int) (x1 : Int) (A2 : Option Addr) (n2 c2 : Nat) (l2 : List UInt8) (A3 : Option Addr) (n3 c3 : Nat) (l3 : List UInt8) (w : World) (hx0 : -9223372036854775808 ≤ x0 ∧ x0 ≤ 9223372036854775807) (hx1 : -9223372036854775808 ≤ x1 ∧ x1 ≤ 9223372036854775807) (hx2 : BytesIn w A2 n2 c2 l2) (hx3 : BytesIn w A3 n3 c3 l3) :
    Calls Try.prog 13 #[.int .i64 x0, .int .i64 x1, .slice A2 n2 c2, .slice A3 n3 c3] w fun e w' => e = .returned (.bool true) ∧ Below w.heap.size w w' := by
  obtain ⟨hr2, hn2, _, hA2⟩ := hx2
  obtain ⟨hr3, hn3, _, hA3⟩ := hx3
  clear hx0 hx1
  obtain ⟨ha1, ha2⟩ := secOf_lt x0
  obtain ⟨hk1, hk2⟩ := secOf_lt x1
  obtain ⟨a, Ha⟩ : ∃ a, Hid (secOf x0 = a) := ⟨_, Lib.hid rfl⟩
  obtain ⟨k, Hk⟩ : ∃ k, Hid (secOf x1 = k) := ⟨_, Lib.hid rfl⟩
  rw [Ha.out] at ha1 ha2
  rw [Hk.out] at hk1 hk2
  have hlx : (l2.take 200).length ≤ 200 := by rw [List.length_take]; omega
  have hly : (l3.take 200).length ≤ 200 := by rw [List.length_take]; omega
  have HC2 := Lib.hid (fun W h => cut_any A2 n2 c2 l2 W h hn2 hA2)
  have HC3 := Lib.hid (fun W h => cut_any A3 n3 c3 l3 W h hn3 hA3)
  generalize l2.take 200 = x at *
  generalize l3.take 200 = y at *
  have hpa := publicR_nat ha1 ha2
  have hmk := makeR_nat (l := x) ha1 ha2 hk1 hk2 (show x.length ≤ 600 by omega)
  have hck := checkR_nat (l := y) ha1 ha2 hk1 hk2 (s := (k + a * hsh (pw 4 k % 7823) x) % 3911) (Nat.mod_lt _ (by decide)) (show y.length ≤ 600 by omega)
  have hrl := Nat.mod_lt (pw 4 k) (show 0 < 7823 by decide)
  have hiff : ((k + a * hsh (pw 4 k % 7823) x) % 3911 = (k + a * hsh (pw 4 k % 7823) y) % 3911) ↔ hsh (pw 4 k % 7823) x = hsh (pw 4 k % 7823) y := by
    have l1 := hsh_lt (pw 4 k % 7823) x
    have l2 := hsh_lt (pw 4 k % 7823) y
    generalize hsh (pw 4 k % 7823) x = h at *
    generalize hsh (pw 4 k % 7823) y = j at *
    constructor
    · intro h1
      have h2 : h * a % 3911 = j * a % 3911 := by
        rw [Nat.mul_comm h, Nat.mul_comm j]
        generalize a * h = u at *
        generalize a * j = v at *
        omega
      have := mul_cancel (h := a) (by rw [Nat.mod_eq_of_lt ha2]; omega) h2
      rwa [Nat.mod_eq_of_lt l1, Nat.mod_eq_of_lt l2] at this
    · intro h1; rw [h1]
  generalize pw 4 a % 7823 = p at *
  generalize pw 4 k % 7823 = r at *
  generalize (k + a * hsh r x) % 3911 = s at *
  generalize (k + a * hsh r y) % 3911 = t at *
  have hH1 := hashR_nat (l := x) (n := x.length) hrl (by omega)
  have hH2 := hashR_nat (l := y) (n := y.length) hrl (by omega)
  generalize hsh r x = h at *
  generalize hsh r y = j at *
  have Hpa := Lib.hid hpa
  have Hmk := Lib.hid hmk
  have Hck := Lib.hid hck
  have HH1 := Lib.hid hH1
  have HH2 := Lib.hid hH2
  have Hiff := Lib.hid hiff
  have Hr2 := Lib.hid hr2
  have Hr3 := Lib.hid hr3
  clear hpa hmk hck hH1 hH2 hiff hr2 hr3
  go_enter Try.func13, Try.ntmps13
  go_wp2_with fail
  refine (secretOf_any x0 _).mono ?_
  rintro e w1 ⟨rfl, rfl⟩
  rw [Ha.out]
  go_wp2_with fail
  refine (public_any a _).mono ?_
  rintro e w1 ⟨rfl, rfl⟩
  rw [Hpa.out]
  simp only [intsV]
  go_wp2_with fail
  refine (secretOf_any x1 _).mono ?_
  rintro e w1 ⟨rfl, rfl⟩
  rw [Hk.out]
  go_wp2_with fail
  refine (HC2.out _ Hr2.out).mono ?_
  rintro e w1 ⟨_, rfl, B1, d1, rfl, hh1, _, _, _, hb1⟩
  have Hh1 := Lib.hid hh1
  have Hb1 := Lib.hid hb1
  clear hh1 hb1
  go_wp2_with fail
  refine (make_any a k B1 x.length d1 x _ Hh1.out).mono ?_
  rintro e w2 ⟨rfl, hb2⟩
  rw [Hmk.out]
  simp only [makeV, signV]
  have Hb2 := Lib.hid (Hb1.out.trans (hb2.mono Hb1.out.size))
  clear hb2
  have Hb3 := Lib.hid (Hb2.out.alloc Hb2.out.size (.cells #[.int .i64 r, .int .i64 s] 30))
  have hsz3 : w2.heap.size < (w2.alloc (.cells #[.int .i64 r, .int .i64 s] 30)).heap.size := by simp
  have e0 : (w2.alloc (.cells #[.int .i64 r, .int .i64 s] 30)).cell? ⟨w2.heap.size, 0, none⟩ = some (.int .i64 r) := by simp [go_sem]
  have e1 : (w2.alloc (.cells #[.int .i64 r, .int .i64 s] 30)).cell? ⟨w2.heap.size, 1, none⟩ = some (.int .i64 s) := by simp [go_sem]
  go_wp2_with fail
  generalize (w2.alloc (.cells #[.int .i64 r, .int .i64 s] 30)) = w3 at *
  generalize w2.heap.size = g at *
  clear Hb2
  have d0 : w3.drew.cell? ⟨g, 0, none⟩ = some (.int .i64 r) := e0
  have d1 : w3.drew.cell? ⟨g, 1, none⟩ = some (.int .i64 s) := e1
  have Hr2d := Lib.hid (show Holds w3.drew w3.drew.heap.size 1 A2 n2 (l2.map bv) from (Hr2.out.below Hb3.out).wider Hb3.out.size)
  go_region_held3 (fun w' => w'.cell? ⟨g, 0, none⟩ = some (.int .i64 r) ∧ w'.cell? ⟨g, 1, none⟩ = some (.int .i64 s)) (first | exact ⟨e0, e1⟩ | exact ⟨f0, f1⟩ | exact ⟨f2, f3⟩)
    (first
      | (go_at_call 25; refine (HC2.out _ ?_).mono ?_; exact Hr2d.out; rintro e w4 ⟨_, rfl, B2, d2, rfl, hh4, _, _, _, hb4⟩; have f0 := (hb4.cell (p := ⟨g, 0, none⟩) hsz3).trans d0; have f1 := (hb4.cell (p := ⟨g, 1, none⟩) hsz3).trans d1)
      | (go_at_call 16; refine (hashP_any r B2 x.length d2 x _ ?_).mono ?_; exact hh4; rintro e _ ⟨rfl, q5, rfl⟩; rw [HH1.out]; simp only [intsV]; have f2 : (w4.drewN q5).cell? ⟨g, 0, none⟩ = some (.int .i64 r) := f0; have f3 : (w4.drewN q5).cell? ⟨g, 1, none⟩ = some (.int .i64 s) := f1))
  have Hb5 := Lib.hid (below_drewN (Hb3.out.trans (show Below w.heap.size w3 w4 from ((below_drewN (Below.refl _ w3) 1).trans hb4).mono Hb3.out.size)) q5)
  have hsz5 : g < (w4.drewN q5).heap.size := Nat.lt_of_lt_of_le hsz3 hb4.size
  clear Hb3 hsz3 e0 e1 d0 d1 Hr2d hb4 hh4 f0 f1 Hh1 Hb1 HC2 Hr2 HH1
  generalize w4.drewN q5 = w5 at *
  go_wp2_with fail
  have d0 : w5.drew.cell? ⟨g, 0, none⟩ = some (.int .i64 r) := f2
  have d1 : w5.drew.cell? ⟨g, 1, none⟩ = some (.int .i64 s) := f3
  have Hr3d := Lib.hid (show Holds w5.drew w5.drew.heap.size 1 A3 n3 (l3.map bv) from (Hr3.out.below Hb5.out).wider Hb5.out.size)
  go_region_held3 (fun w' => w'.cell? ⟨g, 0, none⟩ = some (.int .i64 r) ∧ w'.cell? ⟨g, 1, none⟩ = some (.int .i64 s)) (first | exact ⟨f2, f3⟩ | exact ⟨f4, f5⟩ | exact ⟨f6, f7⟩)
    (first
      | (go_at_call 25; refine (HC3.out _ ?_).mono ?_; exact Hr3d.out; rintro e w6 ⟨_, rfl, B3, d3, rfl, hh6, _, _, _, hb6⟩; have f4 := (hb6.cell (p := ⟨g, 0, none⟩) hsz5).trans d0; have f5 := (hb6.cell (p := ⟨g, 1, none⟩) hsz5).trans d1)
      | (go_at_call 16; refine (hashP_any r B3 y.length d3 y _ ?_).mono ?_; exact hh6; rintro e _ ⟨rfl, q7, rfl⟩; rw [HH2.out]; simp only [intsV]; have f6 : (w6.drewN q7).cell? ⟨g, 0, none⟩ = some (.int .i64 r) := f4; have f7 : (w6.drewN q7).cell? ⟨g, 1, none⟩ = some (.int .i64 s) := f5))
  have Hb7 := Lib.hid (below_drewN (Hb5.out.trans (show Below w.heap.size w5 w6 from ((below_drewN (Below.refl _ w5) 1).trans hb6).mono Hb5.out.size)) q7)
  have hsz7 : g < (w6.drewN q7).heap.size := Nat.lt_of_lt_of_le hsz5 hb6.size
  clear Hb5 hsz5 d0 d1 Hr3d hb6 hh6 f2 f3 f4 f5 HH2
  generalize w6.drewN q7 = w7 at *
  go_wp2_with fail
  have z0 : w7.drew.cell? ⟨g, 0, none⟩ = some (.int .i64 r) := f6
  have z1 : w7.drew.cell? ⟨g, 1, none⟩ = some (.int .i64 s) := f7
  have Hb7d := Lib.hid (show Below w.heap.size w w7.drew from below_drewN Hb7.out 1)
  by_cases hst : s = t
  · have hhj : ((h : Int) == (j : Int)) = true := by rw [Hiff.out.1 hst]; simp
    have Hcv := Lib.hid (Hck.out.trans (if_pos hst))
    clear hst
    go_region_held3 (fun w' => w'.cell? ⟨g, 0, none⟩ = some (.int .i64 r) ∧ w'.cell? ⟨g, 1, none⟩ = some (.int .i64 s)) (first | exact ⟨f6, f7⟩ | exact ⟨f8, f9⟩ | exact ⟨f10, f11⟩ | exact ⟨f12, f13⟩)
      (first
        | (go_at_call 26; refine (signSure_any _).mono ?_; rintro e w8 ⟨rfl, hb8⟩; have f8 := (hb8.cell (p := ⟨g, 0, none⟩) hsz7).trans z0; have f9 := (hb8.cell (p := ⟨g, 1, none⟩) hsz7).trans z1; have Hb8 := Lib.hid (Hb7d.out.trans (hb8.mono Hb7d.out.size)); have hsz8 := Nat.lt_of_lt_of_le hsz7 hb8.size)
        | (go_at_call 25; refine (HC3.out _ ?_).mono ?_; exact (Hr3.out.below Hb8.out).wider Hb8.out.size; rintro e w9 ⟨_, rfl, B4, d4, rfl, hh9, _, _, _, hb9⟩; have f10 := (hb9.cell (p := ⟨g, 0, none⟩) hsz8).trans f8; have f11 := (hb9.cell (p := ⟨g, 1, none⟩) hsz8).trans f9; have Hb9 := Lib.hid (Hb8.out.trans (hb9.mono Hb8.out.size)); have hsz9 := Nat.lt_of_lt_of_le hsz8 hb9.size)
        | (go_at_call 20; refine (check_any p B4 y.length d4 y r s _ ?_).mono ?_; exact hh9; rintro e w10 ⟨rfl, hb10⟩; rw [Hcv.out]; have f12 := (hb10.cell (p := ⟨g, 0, none⟩) hsz9).trans f10; have f13 := (hb10.cell (p := ⟨g, 1, none⟩) hsz9).trans f11; have Hb10 := Lib.hid (Hb9.out.trans (hb10.mono Hb9.out.size))))
    all_goals
      go_wp2_with fail
      go_ret
      exact ⟨by first | rfl | simp, Hb10.out⟩
  · have hhj : ((h : Int) == (j : Int)) = false := by rw [beq_eq_false_iff_ne]; intro e; exact hst (Hiff.out.2 (by omega))
    have Hcv := Lib.hid (Hck.out.trans (if_neg hst))
    clear hst
    go_region_held3 (fun w' => w'.cell? ⟨g, 0, none⟩ = some (.int .i64 r) ∧ w'.cell? ⟨g, 1, none⟩ = some (.int .i64 s)) (first | exact ⟨f6, f7⟩ | exact ⟨f8, f9⟩ | exact ⟨f10, f11⟩ | exact ⟨f12, f13⟩)
      (first
        | (go_at_call 26; refine (signSure_any _).mono ?_; rintro e w8 ⟨rfl, hb8⟩; have f8 := (hb8.cell (p := ⟨g, 0, none⟩) hsz7).trans z0; have f9 := (hb8.cell (p := ⟨g, 1, none⟩) hsz7).trans z1; have Hb8 := Lib.hid (Hb7d.out.trans (hb8.mono Hb7d.out.size)); have hsz8 := Nat.lt_of_lt_of_le hsz7 hb8.size)
        | (go_at_call 25; refine (HC3.out _ ?_).mono ?_; exact (Hr3.out.below Hb8.out).wider Hb8.out.size; rintro e w9 ⟨_, rfl, B4, d4, rfl, hh9, _, _, _, hb9⟩; have f10 := (hb9.cell (p := ⟨g, 0, none⟩) hsz8).trans f8; have f11 := (hb9.cell (p := ⟨g, 1, none⟩) hsz8).trans f9; have Hb9 := Lib.hid (Hb8.out.trans (hb9.mono Hb8.out.size)); have hsz9 := Nat.lt_of_lt_of_le hsz8 hb9.size)
        | (go_at_call 20; refine (check_any p B4 y.length d4 y r s _ ?_).mono ?_; exact hh9; rintro e w10 ⟨rfl, hb10⟩; rw [Hcv.out]; have f12 := (hb10.cell (p := ⟨g, 0, none⟩) hsz9).trans f10; have f13 := (hb10.cell (p := ⟨g, 1, none⟩) hsz9).trans f11; have Hb10 := Lib.hid (Hb9.out.trans (hb10.mono Hb9.out.size))))
    all_goals
      go_wp2_with fail
      go_ret
      exact ⟨by first | rfl | simp, Hb10.out⟩
namespace signTexts
open Go.ChangeShapes Go.WideShapes Go.ChangeAt Go.RowKit
theorem own : ownKnob Try.prog.godebug = none := by kernel_rfl
theorem laidOut : laidOutB Try.prog = true := by kernel_rfl
set_option linter.unusedVariables false
set_option maxRecDepth 100000 in
theorem lifted (os : Os) (started : os.Started) (H : Type) (enc : TypeId × Value → H) :
    ReturnsInHanded {} Try.checked os 13 .any (Rows.signTextsSpec.pre6 enc Try.prog Try.f13 Rows.signTextsRow.domain false) (Rows.signTextsSpec.post enc Try.prog Try.f13 false true false false) := by
  refine returnsInHanded_of_change (C := Try.checked) own started (by kernel_rfl) Try.func13
    (ChangeSpec.witness6 (enc := enc) (C := Try.checked) false ⟨#[], #[.int .i64 0, .int .i64 0, .slice none 0 0, .slice none 0 0], []⟩ 8 (by kernel_rfl) (by kernel_rfl) (by kernel_rfl) (by kernel_rfl)) ?_
  intro W base args ds gs before hval0 hW hcnd _
  have hval : ∀ (j : Nat) t v, Try.f13.params[j]? = some t → args[j]? = some v → Value.okWide Try.prog W .any base t v := hval0
  have hW' := hW
  obtain ⟨p, q, hA0, hV, rfl, hfz, hnd⟩ := hW
  have hA : DataW.TrodAll enc Try.prog W 0 (fun _ => true) true Try.f13.params.toList args.toList ds p := hA0
  rw [Try.params13] at hA hval
  obtain ⟨v0, vs0, d0, ds0, p0, q0, hargs, rfl, rfl, h0, rr0⟩ := trodAll_cons hA
  obtain ⟨v1, vs1, d1, ds1, p1, q1, rfl, rfl, rfl, h1, rr1⟩ := trodAll_cons rr0
  obtain ⟨v2, vs2, d2, ds2, p2, q2, rfl, rfl, rfl, h2, rr2⟩ := trodAll_cons rr1
  obtain ⟨v3, vs3, d3, ds3, p3, q3, rfl, rfl, rfl, h3, rr3⟩ := trodAll_cons rr2
  obtain ⟨rfl, rfl, rfl⟩ := trodAll_nil rr3
  obtain rfl : args = #[v0, v1, v2, v3] := by cases args; simp_all
  obtain ⟨rfl, rfl⟩ := trodVars_none hV
  have k0 := h0
  have lt0 : ∀ x ∈ p0, x.block < W.heap.size := by obtain ⟨m, hm⟩ := k0; exact DataW.trod_lt m _ _ _ hm
  obtain ⟨x0, rfl, hx0⟩ := open_i64 Try.underlying3 (hval 0 3 v0 rfl rfl) h0
  have k1 := h1
  have lt1 : ∀ x ∈ p1, x.block < W.heap.size := by obtain ⟨m, hm⟩ := k1; exact DataW.trod_lt m _ _ _ hm
  obtain ⟨x1, rfl, hx1⟩ := open_i64 Try.underlying3 (hval 1 3 v1 rfl rfl) h1
  have k2 := h2
  have lt2 : ∀ x ∈ p2, x.block < W.heap.size := by obtain ⟨m, hm⟩ := k2; exact DataW.trod_lt m _ _ _ hm
  obtain ⟨A2, n2, c2, l2, rfl, hx2⟩ := open_bytes Try.underlying26 Try.underlying5 (by kernel_rfl) (hval 2 26 v2 rfl rfl) h2
  have k3 := h3
  have lt3 : ∀ x ∈ p3, x.block < W.heap.size := by obtain ⟨m, hm⟩ := k3; exact DataW.trod_lt m _ _ _ hm
  obtain ⟨A3, n3, c3, l3, rfl, hx3⟩ := open_bytes Try.underlying26 Try.underlying5 (by kernel_rfl) (hval 3 26 v3 rfl rfl) h3
  clear hA0 hval0
  refine (walkSignTexts x0 x1 A2 n2 c2 l2 A3 n3 c3 l3 W hx0 hx1 hx2 hx3).mono fun e W' ⟨he, bel⟩ => ?_
  subst he
  exact ⟨_, rfl, _, _, _, [], _, [], hW', trodAll_mk1 (shut_bool Try.underlying4 _), (trodAll_cons_mk (Below.trod laidOut (by kernel_rfl) (of_decide_eq_true (by kernel_rfl)) k0 bel lt0) (trodAll_cons_mk (Below.trod laidOut (by kernel_rfl) (of_decide_eq_true (by kernel_rfl)) k1 bel lt1) (trodAll_cons_mk (Below.trod laidOut (by kernel_rfl) (of_decide_eq_true (by kernel_rfl)) k2 bel lt2) (trodAll_cons_mk (Below.trod laidOut (by kernel_rfl) (of_decide_eq_true (by kernel_rfl)) k3 bel lt3) trodAll_mk0)))), rfl, bel.frame _, fun h => by cases h⟩

theorem over : Rows.signTextsRow.holds Try.pinned (OpenSpec.ofChange Rows.signTextsSpec) :=
  OpenClaim.holds_of_wide 13 Try.f13 rfl rfl rfl rfl rfl rfl rfl ⟨rfl, rfl, rfl, rfl, rfl⟩ rfl rfl rfl rfl rfl (by kernel_rfl) Try.func13 (by kernel_rfl)
    (of_decide_eq_true (by kernel_rfl)) (by unfold Func.isWrapper; first | (rw [if_pos (by decide +kernel)]; kernel_rfl) | (rw [if_neg (by decide +kernel)]; exact ⟨rfl, rfl⟩))
    (fun os started H enc _ => lifted os started H enc)

theorem proved : Rows.SignTextsSaid := over
#print axioms proved
end signTexts
end Go.Proofs.Ytafgaknhdiipdaa
