/- Proved here: two neighbouring changes of different devices may change places: the list is the same, and so is the number of updates (statement DevicesTurn). No condition. -/
import Derived.Test.YtmlgaedhfannmaaDvTn
import Derived.Test.YtmlgaedhfannmaaOpenI
import Derived.HandedShaped
namespace Go.Proofs.Ytmlgaedhfannmaa
set_option linter.unusedVariables false
set_option linter.unusedSimpArgs false
open Go.RowKit
set_option maxHeartbeats 4000000 in
set_option maxRecDepth 100000 in
theorem walkDevicesTurn (A0 : Option Addr) (n0 c0 : Nat) (x1 : Int) (w : World) (hx0 : IntsAt w w.heap.size A0 n0 c0) (hx1 : -9223372036854775808 ≤ x1 ∧ x1 ≤ 9223372036854775807) :
    Calls Try.prog 8 #[.slice A0 n0 c0, .int .i64 x1] w fun e w' => e = .returned (.bool true) ∧ Below w.heap.size w w' := by
  have H1 := Lib.hid (updates_any A0 n0 c0 w.heap.size 50 w hx0 (Nat.le_refl _) (by decide))
  clear hx0
  go_enter Try.func8, Try.ntmps8
  go_wp2_with fail
  refine H1.out.mono ?_
  rintro e w1 ⟨v1, cs, rfl, ho1, hlen, hok, b1⟩
  obtain ⟨A1, c1, rfl, hin1⟩ := LIn.own ucL_len ho1
  have hn60 : cs.length ≤ 50 := by omega
  have h6 : ∀ p ∈ cs, Six p := fun p hp => (hok p hp).1
  have hm6 := tabD_len h6 (by omega)
  obtain ⟨n, hn⟩ : ∃ n, cs.length = n := ⟨_, rfl⟩
  rw [hn] at hin1 hn60 ⊢
  have H2 := Lib.hid (fun (W : World) (h : LIn ucL 5 W w1.heap.size A1 n c1 cs) (hb : w1.heap.size ≤ W.heap.size) => listed_any A1 n c1 w1.heap.size cs W h hb (by omega) h6 (fun p hp => dru_ok (hok p hp)))
  unfold LdPost at H2
  have B1 := Lib.hid b1
  have Hin1 := Lib.hid hin1
  have Hn := Lib.hid hn
  have Hok := Lib.hid hok
  have H6 := Lib.hid h6
  have Hm6 := Lib.hid hm6
  clear hlen hok b1 ho1 hin1 h6 hn hm6 H1
  by_cases hn2 : n < 2
  · have hi2 : (n : Int) < 2 := by omega
    have H3 := Lib.hid (H2.out w1 Hin1.out (Nat.le_refl _))
    go_wp2_with fail
    refine H3.out.mono ?_
    rintro e w2 ⟨A2, c2, A3, c3, rfl, hi2, hi3, b2⟩
    go_wp2_with fail
    go_ret
    exact ⟨rfl, B1.out.trans (b2.mono B1.out.size)⟩
  · have hi2 : ¬ (n : Int) < 2 := by omega
    obtain ⟨k, hk, hk2⟩ := pick_nat x1 (n - 1) (by omega)
    have hnw : IntKind.i64.wrap ((n : Int) - 1) = ((n - 1 : Nat) : Int) := by rw [IntWalk.i64_in _ (by omega)]; omega
    have Hk := Lib.hid hk
    have HPk := Lib.hid (fun W => picked_k x1 ((n - 1 : Nat) : Int) W (by omega) (by omega))
    clear hk
    have HC := Lib.hid (copU_any A1 n c1 w1.heap.size cs w1 Hin1.out (by omega))
    go_wp2_with fail
    refine (HPk.out _).mono ?_
    rintro e w2 ⟨rfl, hw2⟩
    obtain rfl : w1 = w2 := hw2.symm
    rw [Hk.out]
    go_wp2_with fail
    refine HC.out.mono ?_
    rintro e w3 ⟨v3, rfl, ho3, b3⟩
    obtain ⟨j, hj⟩ : ∃ j, k + 1 = j := ⟨_, rfl⟩
    have hjn : j < n := by omega
    have hkn : k < n := by omega
    have hwj : IntKind.i64.wrap ((k : Int) + 1) = (j : Int) := by rw [IntWalk.i64_in _ (by omega)]; omega
    have hki : (k : Int) < (n : Int) := by omega
    have hji : (j : Int) < (n : Int) := by omega
    have hk0 : (0 : Int) ≤ (k : Int) := by omega
    have hj0 : (0 : Int) ≤ (j : Int) := by omega
    have hkl : k < cs.length := by have := Hn.out; omega
    have hjl : j < cs.length := by have := Hn.out; omega
    obtain ⟨b, off, hA, hb, p0, p1, p2, p3, p4⟩ := uc_at (Hin1.out.below b3) hkl
    obtain ⟨b', off', hA', hb', q0, q1, q2, q3, q4⟩ := uc_at (Hin1.out.below b3) hjl
    subst hA
    obtain ⟨rfl, rfl⟩ : b = b' ∧ off = off' := by injection hA' with h; injection h with h1 h2; exact ⟨h1, h2⟩
    have Hsw := Lib.hid (show ∀ (x y : Uc), cs[k] = x → cs[j] = y → x.key ≠ y.key → ∃ os, os = (cs.set k y).set j x ∧ (∀ c ∈ os, c ∈ cs) ∧ tabD os = tabD cs ∧ (upsD os).length = (upsD cs).length from fun x y hx hy hne => by
      subst hj
      subst hx hy
      obtain ⟨r1, r2, r3⟩ := swp_all (l := cs) (k := k) hjl H6.out hne
      exact ⟨swp cs k hjl, rfl, r1, r2, r3⟩)
    obtain ⟨x, hx⟩ : ∃ x, cs[k] = x := ⟨_, rfl⟩
    obtain ⟨y, hy⟩ : ∃ y, cs[j] = y := ⟨_, rfl⟩
    have Hsx := Lib.hid (Hsw.out x y hx hy)
    rw [hx] at p0 p1 p2 p3 p4
    rw [hy] at q0 q1 q2 q3 q4
    clear hx hy Hsw hA'
    obtain ⟨xs, xp, xk, xv, xg⟩ := x
    obtain ⟨ys, yp, yk, yv, yg⟩ := y
    simp only at p0 p1 p2 p3 p4 q0 q1 q2 q3 q4
    have hbw3 : b < w3.heap.size := by have := b3.size; omega
    have Ho3 := Lib.hid ho3
    have B3 := Lib.hid b3
    clear ho3 b3 HC hj
    by_cases hne : xk = yk
    · have hbe : (xk == yk) = true := by simp [hne]
      go_wp2_with fail
      go_quiet (fail)
      obtain ⟨W, hW⟩ : ∃ W, w3.drewN nq = W := ⟨_, rfl⟩
      have hWb : Below w1.heap.size w1 W := by rw [← hW]; exact below_drewN B3.out _
      have H3 := Lib.hid (H2.out W (Hin1.out.below hWb) hWb.size)
      have Bw := Lib.hid (B1.out.trans (hWb.mono B1.out.size))
      rw [hW]
      clear hWb hW
      go_wp2_with fail
      refine H3.out.mono ?_
      rintro e w4 ⟨A2, c2, A3, c3, rfl, hi2, hi3, b2⟩
      go_wp2_with fail
      go_ret
      exact ⟨rfl, Bw.out.trans (b2.mono Bw.out.size)⟩
    · have hbe : (xk == yk) = false := by simpa using hne
      obtain ⟨os, hos, hom, hot, hou⟩ := Hsx.out hne
      go_wp2_with fail
      go_quiet (fail)
      obtain ⟨W, hW⟩ : ∃ W, w3.drewN nq = W := ⟨_, rfl⟩
      have hWb3 : Below w3.heap.size w3 W := by rw [← hW]; exact below_drewN (Below.refl _ _) _
      have hWb := B3.out.trans (hWb3.mono B3.out.size)
      rw [hW]
      have how := own_below Ho3.out hWb3
      have p0 := (hWb3.cell hbw3).trans p0
      have p1 := (hWb3.cell hbw3).trans p1
      have p2 := (hWb3.cell hbw3).trans p2
      have p3 := (hWb3.cell hbw3).trans p3
      have p4 := (hWb3.cell hbw3).trans p4
      have q0 := (hWb3.cell hbw3).trans q0
      have q1 := (hWb3.cell hbw3).trans q1
      have q2 := (hWb3.cell hbw3).trans q2
      have q3 := (hWb3.cell hbw3).trans q3
      have q4 := (hWb3.cell hbw3).trans q4
      rw [← Hn.out] at how
      obtain ⟨A3, c3, hv3, hin3⟩ := LIn.own ucL_len how
      subst hv3
      rw [Hn.out] at how hin3 ⊢
      obtain ⟨g, og, hA3, hgW, e0, e1, e2, e3, e4⟩ := uc_at hin3 hkl
      obtain ⟨g', og', hA3', -, f0, f1, f2, f3, f4⟩ := uc_at hin3 hjl
      subst hA3
      obtain ⟨rfl, rfl⟩ : g = g' ∧ og = og' := by injection hA3' with h; injection h with h1 h2; exact ⟨h1, h2⟩
      have hog := own_off how
      subst hog
      have hgl := World.ownsRow.lt how g rfl
      have fr := fun i => own_frozen how i
      have k0 := fr (k * 5)
      have k1 := fr (k * 5 + 1)
      have k2 := fr (k * 5 + 2)
      have k3 := fr (k * 5 + 3)
      have k4 := fr (k * 5 + 4)
      simp only [Nat.zero_add] at e0 e1 e2 e3 e4 f0 f1 f2 f3 f4
      generalize cs[k] = ex at e0 e1 e2 e3 e4
      generalize cs[j] = fx at f0 f1 f2 f3 f4
      have hgb : g ≠ b := by have := hgl.1; omega
      have hw1 := uc_own_set how hkl ⟨ys, yp, yk, yv, yg⟩
      have hl1 : j < (cs.set k ⟨ys, yp, yk, yv, yg⟩).length := by rw [List.length_set]; exact hjl
      have hb1 := uc_below_set (i := k) hWb (show w1.heap.size ≤ g from hgl.1) ⟨ys, yp, yk, yv, yg⟩
      simp only at hw1 hb1
      obtain ⟨V, hV⟩ : ∃ V, (((((W.setCell ⟨g, k * 5, none⟩ (.int .i64 ys)).setCell ⟨g, k * 5 + 1, none⟩ (.int .i64 yp)).setCell ⟨g, k * 5 + 2, none⟩ (str yk)).setCell ⟨g, k * 5 + 3, none⟩ (str yv)).setCell ⟨g, k * 5 + 4, none⟩ (.bool yg)) = V := ⟨_, rfl⟩
      rw [hV] at hw1 hb1
      have hw2 := uc_own_set hw1 hl1 ⟨xs, xp, xk, xv, xg⟩
      have hb2 := uc_below_set (i := j) hb1 (show w1.heap.size ≤ g from hgl.1) ⟨xs, xp, xk, xv, xg⟩
      simp only at hw2 hb2
      rw [← hos] at hw2
      have frV := fun i => own_frozen hw1 i
      have m0 := frV (j * 5)
      have m1 := frV (j * 5 + 1)
      have m2 := frV (j * 5 + 2)
      have m3 := frV (j * 5 + 3)
      have m4 := frV (j * 5 + 4)
      obtain ⟨g2, og2, hA5, -, h0, h1, h2, h3, h4⟩ := uc_at (own_lin ucL_len hw1 (by rw [List.length_set]; exact Hn.out)) hl1
      obtain ⟨rfl, rfl⟩ : g = g2 ∧ 0 = og2 := by injection hA5 with h; injection h with h1 h2; exact ⟨h1, h2⟩
      simp only [Nat.zero_add] at h0 h1 h2 h3 h4
      generalize (cs.set k ⟨ys, yp, yk, yv, yg⟩)[j] = gx at h0 h1 h2 h3 h4
      have hVc : ∀ i, V.cell? ⟨b, i, none⟩ = w1.cell? ⟨b, i, none⟩ := fun i => hb1.cell (by omega)
      have hWc : ∀ i, W.cell? ⟨b, i, none⟩ = w1.cell? ⟨b, i, none⟩ := fun i => hWb.cell (by omega)
      have s0 := (hVc _).trans ((hWc _).symm.trans p0)
      have s1 := (hVc _).trans ((hWc _).symm.trans p1)
      have s2 := (hVc _).trans ((hWc _).symm.trans p2)
      have s3 := (hVc _).trans ((hWc _).symm.trans p3)
      have s4 := (hVc _).trans ((hWc _).symm.trans p4)
      have hV4 : V.heap.size = W.heap.size := by rw [← hV]; simp [World.setCell]
      have hgV : g < V.heap.size := by rw [hV4]; exact hgl.2
      have hbV : b < V.heap.size := by have := hb1.size; omega
      obtain ⟨X, hX⟩ : ∃ X, (((((V.setCell ⟨g, j * 5, none⟩ (.int .i64 xs)).setCell ⟨g, j * 5 + 1, none⟩ (.int .i64 xp)).setCell ⟨g, j * 5 + 2, none⟩ (str xk)).setCell ⟨g, j * 5 + 3, none⟩ (str xv)).setCell ⟨g, j * 5 + 4, none⟩ (.bool xg)) = X := ⟨_, rfl⟩
      rw [hX] at hw2 hb2
      have hin2 := (own_lin ucL_len hw2 (by rw [hos, List.length_set, List.length_set]; exact Hn.out))
      have Hw2 := Lib.hid hin2
      have Hb2 := Lib.hid hb2
      have H3 := Lib.hid (H2.out X (Hin1.out.below hb2) hb2.size)
      have H4 := Lib.hid (fun (Y : World) (h : Below X.heap.size X Y) => listed_any (some ⟨g, 0, none⟩) n c3 X.heap.size os Y (hin2.below h) h.size (by omega) (fun p hp => H6.out p (hom p hp)) (fun p hp => dru_ok (Hok.out p (hom p hp))))
      unfold LdPost at H4
      rw [hot, hou] at H4
      have BX := Lib.hid (B1.out.trans (hb2.mono B1.out.size))
      clear how hw1 hw2 hb1 hb2 hin2 hin3 hWb hWb3 fr frV hVc hWc hV4 hos hom hot hou hA3' hA5 H2 Hsx HPk
      generalize hU : (upsD cs).length = u at *
      generalize hT : tabD cs = T at *
      clear hU hT
      obtain ⟨m, hm⟩ : ∃ m, T.length = m := ⟨_, rfl⟩
      have hm6 := Hm6.out
      rw [hm] at H3 H4 hm6
      have huu : ((u : Int) == (u : Int)) = true := by simp
      clear hm
      go_wp2_with (first | rw [hV] | rw [hX] | fail)
      refine H3.out.mono ?_
      rintro e w4 ⟨A4, c4, A5, c5, rfl, hi4, hi5, b4⟩
      have H5 := Lib.hid (H4.out w4 b4)
      have B4 := Lib.hid (BX.out.trans (b4.mono BX.out.size))
      have Hi5 := Lib.hid hi5
      clear hi4 hi5 b4 H4 H3
      go_wp2_with fail
      refine H5.out.mono ?_
      rintro e w5 ⟨A6, c6, A7, c7, rfl, hi6, hi7, b5⟩
      have B5 := Lib.hid (B4.out.trans (b5.mono B4.out.size))
      have HS := Lib.hid (sameDev_any A5 A7 m c5 c7 _ _ T w5 (Hi5.out.below b5) hi7 (by omega))
      clear hi6 hi7 b5 H5 Hi5
      go_wp2_with fail
      refine HS.out.mono ?_
      rintro e w6 ⟨rfl, q0, rfl⟩
      clear HS
      go_wp2_with fail
      go_ret
      exact ⟨rfl, below_drewN B5.out _⟩
namespace devicesTurn
open Go.ChangeShapes Go.WideShapes Go.ChangeAt Go.RowKit
theorem own : ownKnob Try.prog.godebug = none := by kernel_rfl
theorem laidOut : laidOutB Try.prog = true := by kernel_rfl
set_option linter.unusedVariables false
set_option maxRecDepth 100000 in
theorem lifted (os : Os) (started : os.Started) (H : Type) (enc : TypeId × Value → H) :
    ReturnsInHanded {} Try.checked os 8 .any (Rows.devicesTurnSpec.pre6 enc Try.prog Try.f8 Rows.devicesTurnRow.domain false) (Rows.devicesTurnSpec.post enc Try.prog Try.f8 false true false false) := by
  refine returnsInHanded_of_change (C := Try.checked) own started (by kernel_rfl) Try.func8
    (ChangeSpec.witness6 (enc := enc) (C := Try.checked) false ⟨#[], #[.slice none 0 0, .int .i64 0], []⟩ 8 (by kernel_rfl) (by kernel_rfl) (by kernel_rfl) (by kernel_rfl)) ?_
  intro W base args ds gs before hval0 hW hcnd _
  have hval : ∀ (j : Nat) t v, Try.f8.params[j]? = some t → args[j]? = some v → Value.okWide Try.prog W .any base t v := hval0
  have hW' := hW
  obtain ⟨p, q, hA0, hV, rfl, hfz, hnd⟩ := hW
  have hA : DataW.TrodAll enc Try.prog W 0 (fun _ => true) true Try.f8.params.toList args.toList ds p := hA0
  rw [Try.params8] at hA hval
  obtain ⟨v0, vs0, d0, ds0, p0, q0, hargs, rfl, rfl, h0, rr0⟩ := trodAll_cons hA
  obtain ⟨v1, vs1, d1, ds1, p1, q1, rfl, rfl, rfl, h1, rr1⟩ := trodAll_cons rr0
  obtain ⟨rfl, rfl, rfl⟩ := trodAll_nil rr1
  obtain rfl : args = #[v0, v1] := by cases args; simp_all
  obtain ⟨rfl, rfl⟩ := trodVars_none hV
  have k0 := h0
  have lt0 : ∀ x ∈ p0, x.block < W.heap.size := by obtain ⟨m, hm⟩ := k0; exact DataW.trod_lt m _ _ _ hm
  obtain ⟨A0, n0, c0, rfl, hx0⟩ := open_intsl Try.underlying37 Try.underlying3 (by kernel_rfl) (hval 0 37 v0 rfl rfl) h0
  have k1 := h1
  have lt1 : ∀ x ∈ p1, x.block < W.heap.size := by obtain ⟨m, hm⟩ := k1; exact DataW.trod_lt m _ _ _ hm
  obtain ⟨x1, rfl, hx1⟩ := open_i64 Try.underlying3 (hval 1 3 v1 rfl rfl) h1
  clear hA0 hval0
  refine (walkDevicesTurn A0 n0 c0 x1 W hx0 hx1).mono fun e W' ⟨he, bel⟩ => ?_
  subst he
  exact ⟨_, rfl, _, _, _, [], _, [], hW', trodAll_mk1 (shut_bool Try.underlying4 _), (trodAll_cons_mk (Below.trod laidOut (by kernel_rfl) (of_decide_eq_true (by kernel_rfl)) k0 bel lt0) (trodAll_cons_mk (Below.trod laidOut (by kernel_rfl) (of_decide_eq_true (by kernel_rfl)) k1 bel lt1) trodAll_mk0)), rfl, bel.frame _, fun h => by cases h⟩

theorem over : Rows.devicesTurnRow.holds Try.pinned (OpenSpec.ofChange Rows.devicesTurnSpec) :=
  OpenClaim.holds_of_wide 8 Try.f8 rfl rfl rfl rfl rfl rfl rfl ⟨rfl, rfl, rfl, rfl, rfl⟩ rfl rfl rfl rfl rfl (by kernel_rfl) Try.func8 (by kernel_rfl)
    (of_decide_eq_true (by kernel_rfl)) (by unfold Func.isWrapper; first | (rw [if_pos (by decide +kernel)]; kernel_rfl) | (rw [if_neg (by decide +kernel)]; exact ⟨rfl, rfl⟩))
    (fun os started H enc _ => lifted os started H enc)

theorem proved : Rows.DevicesTurnSaid := over
#print axioms proved
end devicesTurn
end Go.Proofs.Ytmlgaedhfannmaa
