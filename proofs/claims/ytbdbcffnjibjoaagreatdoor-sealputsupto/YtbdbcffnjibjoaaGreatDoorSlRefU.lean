/- SealPut of the reference: what the call returns. -/
import Derived.Test.YtbdbcffnjibjoaaGreatDoorBunI
import Derived.Test.YtbdbcffnjibjoaaGreatDoorBunQ
import Derived.Test.YtbdbcffnjibjoaaGreatDoorBunT
import Derived.Deep.Cut
import Derived.Deep.DeepCutAuto
namespace Go.Proofs.YtbdbcffnjibjoaaGreatDoor
set_option linter.unusedVariables false
set_option linter.unusedSimpArgs false
open Go.RowKit
attribute [local go_sem high] str_mk
def RefPut (v : JV) (u k : List UInt8) (x y : Int) (w : World) (e : Ending) (w' : World) : Prop :=
  ∃ k2 n2 t2 Ak2 nk2 ck2 Ap2 np2 cp2, e = .returned (.tuple #[.agg #[.int .i64 k2, .int .i64 n2, str t2, .slice Ak2 nk2 ck2, .slice Ap2 np2 cp2], .int .i64 (putN v u k x y)]) ∧
    VIn w' w'.heap.size (putV v u k x y) [.int .i64 k2, .int .i64 n2, str t2, .slice Ak2 nk2 ck2, .slice Ap2 np2 cp2] ∧ Below w.heap.size w w'
theorem refPut_err {v : JV} {u k : List UInt8} {x y n : Int} {w w' : World} (hn : putN v u k x y = n) (h0 : n ≠ 0) (hb : Below w.heap.size w w') :
    RefPut v u k x y w (.returned (.tuple #[.agg #[.int .i64 0, .int .i64 0, str [], .slice none 0 0, .slice none 0 0], .int .i64 n])) w' := by
  refine ⟨0, 0, [], none, 0, 0, none, 0, 0, by rw [hn], ?_, hb⟩
  have : putV v u k x y = zeroJ := by unfold putV; rw [hn, if_neg h0]
  rw [this]
  exact zero_in _ _
theorem empty_in (W : World) (B : Nat) : VIn W B (orE none) [.int .i64 7, .int .i64 0, str [], .slice none 0 0, .slice none 0 0] := by
  show VIn W B (.mk 7 0 [] [] []) _
  unfold VIn
  exact ⟨none, 0, none, 0, [], rfl, by omega, by omega, by simp, by simp, by simp, by simp, by simp, by simp, Holds.empty, Holds.empty, by unfold PIn; rfl⟩
def RvPost (J : JV) (w : World) (e : Ending) (w' : World) : Prop :=
  ∃ k n t Ak nk ck Ap np cp, e = .returned (.agg #[.int .i64 k, .int .i64 n, str t, .slice Ak nk ck, .slice Ap np cp]) ∧ VIn w' w'.heap.size J [.int .i64 k, .int .i64 n, str t, .slice Ak nk ck, .slice Ap np cp] ∧ Below w.heap.size w w'
theorem WpPost.vin {J : JV} {B : Nat} {w w' : World} {e : Ending} (hB : B ≤ w.heap.size) (h : WpPost J B w e w') : RvPost J w e w' := by
  obtain ⟨k, n, t, Ak, nk, ck, Ap, np, cp, rfl, hv, hb⟩ := h
  have hs := hb.size
  exact ⟨k, n, t, Ak, nk, ck, Ap, np, cp, rfl, VInS.toB (fun b hb' => by
    rcases hb' with h | h
    · omega
    · exact h.2) _ _ hv, hb⟩
/-- The box of zeros g is filled with the value that is made already. -/
theorem fill_box {v : JV} {u k : List UInt8} {r s : Nat} {Wb W : World} {g : Nat} {k9 n9 : Int} {t9 : List UInt8} {Ak9 : Option Addr} {nk9 ck9 : Nat} {Ap9 : Option Addr} {np9 cp9 : Nat} (hf : Fine v)
    (hz : Blk W g 25 #[.int .i64 0, .int .i64 0, str [], .slice none 0 0, .slice none 0 0])
    (hv : VIn W W.heap.size (out3 v u k r s) [.int .i64 k9, .int .i64 n9, str t9, .slice Ak9 nk9 ck9, .slice Ap9 np9 cp9]) (hb : Below Wb.heap.size Wb W) (hg : Wb.heap.size ≤ g) :
    let W' := (((((W.setCell ⟨g, 0, none⟩ (.int .i64 k9)).setCell ⟨g, 1, none⟩ (.int .i64 n9)).setCell ⟨g, 2, none⟩ (str t9)).setCell ⟨g, 3, none⟩ (.slice Ak9 nk9 ck9)).setCell ⟨g, 4, none⟩ (.slice Ap9 np9 cp9))
    Blk W' g 25 #[.int .i64 k9, .int .i64 n9, str t9, .slice Ak9 nk9 ck9, .slice Ap9 np9 cp9] ∧ VIn W' W'.heap.size (out3 v u k r s) [.int .i64 k9, .int .i64 n9, str t9, .slice Ak9 nk9 ck9, .slice Ap9 np9 cp9] ∧ Below Wb.heap.size Wb W' := by
  have ht : t9 = [] := by rw [← hv.text]; rfl
  subst ht
  refine ⟨sl_set5 hz _ _ _ _ _, ?_, sl_below5 hb hg _ _ _ _ _⟩
  rw [sl_size5]
  exact VIn.filled (filled_set5 hz _ _ _ _) _ _ (out3_nz hf) hv
set_option maxRecDepth 100000 in
set_option maxHeartbeats 4000000 in
theorem refSealPut_any (v : JV) (cs : List Value) (u k : List UInt8) (x y : Int) (w : World) (B : Nat) (hB : B ≤ w.heap.size) (hv : VIn w B v cs) (hcnt : count v ≤ 1048576) (hu : u.length ≤ maxLen) (hk : k.length ≤ maxLen) :
    Calls Tryz.prog 5 #[.agg cs.toArray, str u, str k, .int .i64 x, .int .i64 y] w (RefPut v u k x y w) := by
  obtain ⟨kd, n, t, Ak, nk, ck, Ap, np, cp, rfl⟩ := hv.form
  obtain ⟨W0, hW0⟩ : ∃ W0, (w.alloc (.cells #[.int .i64 kd, .int .i64 n, str t, .slice Ak nk ck, .slice Ap np cp] 25)).alloc (.cells #[.int .i64 0, .int .i64 0, str [], .slice none 0 0, .slice none 0 0] 25) = W0 := ⟨_, rfl⟩
  have hb0 : Below w.heap.size w W0 := by rw [← hW0]; exact ((Below.refl _ _).alloc (Nat.le_refl _) _).alloc (by simp) _
  have b5 : Blk W0 w.heap.size 25 #[.int .i64 kd, .int .i64 n, str t, .slice Ak nk ck, .slice Ap np cp] := by rw [← hW0]; exact (Blk.new w 25 _).alloc _
  have b10 : Blk W0 (w.heap.size + 1) 25 #[.int .i64 0, .int .i64 0, str [], .slice none 0 0, .slice none 0 0] := by
    have := Blk.new (w.alloc (.cells #[.int .i64 kd, .int .i64 n, str t, .slice Ak nk ck, .slice Ap np cp] 25)) 25 #[.int .i64 0, .int .i64 0, str [], .slice none 0 0, .slice none 0 0]
    rw [hW0] at this
    simpa using this
  have HR := Lib.hid (show sTextR v = .tuple #[str (sTextL v), .int .i64 (sTextN v)] from rfl)
  have Hv := Lib.hid (show ∀ W, Below w.heap.size w W → VIn W B v [.int .i64 kd, .int .i64 n, str t, .slice Ak nk ck, .slice Ap np cp] from fun W hW => hv.below (hW.mono hB))
  have H0 := Lib.hid (refSealText_any v _ W0 B (Nat.le_trans hB hb0.size) (Hv.out _ hb0) (by omega))
  obtain ⟨o0, o1, o2, o3, o4, -, -, -, -, -⟩ := sl_box b5
  clear hv
  go_enter Tryz.func5, Tryz.ntmps5
  go_wp2_with fail
  refine H0.out.mono ?_
  rintro e w1 ⟨rfl, hb1⟩
  have hw1 : Below w.heap.size w w1 := hb0.trans (hb1.mono hb0.size)
  have b5' := b5.below hb1 b5.lt
  have b10' := b10.below hb1 b10.lt
  clear o0 o1 o2 o3 o4 H0 hW0 b5 b10 hb0
  rw [HR.out]
  by_cases hN : sTextN v = 0
  · obtain ⟨hck, h7, hL, hLl⟩ := sText_facts hN
    have Hfv := Lib.hid (fine_check hck)
    have Hc100 := Lib.hid (check_facts hck).2.1
    have H7 := Lib.hid h7
    rw [hN]
    have HN := Lib.hid hN
    have HLl := Lib.hid hLl
    clear hN hck h7 hL hLl
    go_wp2_with fail
    refine (sealNames_any u k _ hu hk).mono ?_
    rintro e w2 ⟨rfl, hb2⟩
    have hw2 : Below w.heap.size w w2 := hw1.trans (hb2.mono hw1.size)
    have b5 := b5'.below hb2 b5'.lt
    have b10 := b10'.below hb2 b10'.lt
    clear b5' b10' hb1 hb2 hw1
    cases hnm : nameOk u k
    · have HC := Lib.hid (show putN v u k x y = 6 by
        have h6 : tapN v u k = 6 := by unfold tapN; rw [if_neg (by simp [HN.out]), if_neg (by simp [hnm])]
        unfold putN; rw [h6, if_pos (by omega)])
      obtain ⟨m0, m1, m2, m3, m4, f0, f1, f2, f3, f4⟩ := sl_box b10
      have Hb10 := Lib.hid b10
      have Hw2 := Lib.hid hw2
      clear b5 b10 hw2
      go_wp2_with fail
      refine ret_v2 (by rfl) (by rfl) (by rfl) (sl_set5 Hb10.out _ _ _ _ _) (by rfl) ?_
      exact refPut_err HC.out (by omega) (sl_below5 Hw2.out (by omega) _ _ _ _ _)
    · have HT := Lib.hid (show tapN v u k = 0 by unfold tapN; rw [if_neg (by simp [HN.out]), if_pos hnm])
      have Hnl := Lib.hid (nameOk_len hnm)
      clear hnm
      have hB2 : B ≤ w2.heap.size := Nat.le_trans hB hw2.size
      have hl2 : w.heap.size + 1 < w2.heap.size := b10.lt
      obtain ⟨w2e, hw2e⟩ : ∃ w2e, w2.alloc (.cells #[.int .i64 7, .int .i64 0, str [], .slice none 0 0, .slice none 0 0] 25) = w2e := ⟨_, rfl⟩
      have hbE : Below w2.heap.size w2 w2e := by rw [← hw2e]; exact (Below.refl _ _).alloc (Nat.le_refl _) _
      have b14 : Blk w2e w2.heap.size 25 #[.int .i64 7, .int .i64 0, str [], .slice none 0 0, .slice none 0 0] := by rw [← hw2e]; exact Blk.new w2 25 _
      have b5e := b5.below hbE b5.lt
      have b10e := b10.below hbE b10.lt
      have hwE : Below w.heap.size w w2e := hw2.trans (hbE.mono hw2.size)
      have hsE : w2e.heap.size = w2.heap.size + 1 := by rw [← hw2e]; simp
      have HPa := Lib.hid (partZ_any v _ sigK w2e B (Nat.le_trans hB2 hbE.size) (Hv.out _ hwE) (po_fine Hfv.out))
      obtain ⟨o0, o1, o2, o3, o4, -, -, -, -, -⟩ := sl_box b5
      have hl5 : w.heap.size < w2.heap.size := by omega
      have HW2e := Lib.hid hw2e
      have Hb5 := Lib.hid b5e
      have Hb10 := Lib.hid b10e
      have Hb14 := Lib.hid b14
      have HwE := Lib.hid hwE
      clear b5 b10 b5e b10e b14 hwE hbE hw2 hw2e
      go_wp2_with fail
      rw [HW2e.out]
      refine HPa.out.mono ?_
      rintro e w3 ⟨k1, n1, t1, Ak1, nk1, ck1, Ap1, np1, cp1, rfl, hv3, hb3⟩
      have hs3 := hb3.size
      obtain ⟨w3a, hw3a⟩ : ∃ w3a, w3.alloc (.cells #[.int .i64 k1, .int .i64 n1, str t1, .slice Ak1 nk1 ck1, .slice Ap1 np1 cp1] 25) = w3a := ⟨_, rfl⟩
      have hbA : Below w3.heap.size w3 w3a := by rw [← hw3a]; exact (Below.refl _ _).alloc (Nat.le_refl _) _
      have b15 : Blk w3a w3.heap.size 25 #[.int .i64 k1, .int .i64 n1, str t1, .slice Ak1 nk1 ck1, .slice Ap1 np1 cp1] := by rw [← hw3a]; exact Blk.new w3 25 _
      have b5a := (Hb5.out.below hb3 Hb5.out.lt).below hbA (by have := Hb5.out.lt; omega)
      have b10a := (Hb10.out.below hb3 Hb10.out.lt).below hbA (by have := Hb10.out.lt; omega)
      have b14a := (Hb14.out.below hb3 Hb14.out.lt).below hbA (by have := Hb14.out.lt; omega)
      have hwA : Below w.heap.size w w3a := (HwE.out.trans (hb3.mono HwE.out.size)).trans (hbA.mono (Nat.le_trans HwE.out.size hs3))
      have hv3a := hv3.below (hbA.mono (by have := HwE.out.size; omega))
      have hsA : w3.heap.size < w3a.heap.size := b15.lt
      clear o0 o1 o2 o3 o4 Hb5 Hb10 Hb14 HwE HPa hb3 hbA hv3
      have HAJ := Lib.hid (show allJ v = orE (getAt [sigK] v) from rfl)
      have hvZ := hv3a
      generalize getAt [sigK] v = oo1 at *
      have hl3 : w.heap.size + 1 < w3.heap.size ∧ w2.heap.size < w3.heap.size ∧ w2.heap.size < w3a.heap.size := by omega
      obtain ⟨m0, m1, m2, m3, m4, f0, f1, f2, f3, f4⟩ := sl_box b15
      obtain ⟨o0, o1, o2, o3, o4, -, -, -, -, -⟩ := sl_box b14a
      have HB := Lib.hid (And.intro b5a (And.intro b10a (And.intro b14a b15)))
      have HwA := Lib.hid hwA
      have HvZ := Lib.hid hvZ
      clear b5a b10a b14a b15 hwA hv3a hvZ
      go_upto_if 44 with (fail)
      go_cut [] (fun wx => ∃ (K1 N1 : Int) (T1 : List UInt8) (P1 : Option Addr) (a1 d1 : Nat) (Q1 : Option Addr) (e1 g1 : Nat), Blk wx w3.heap.size 25 #[.int .i64 K1, .int .i64 N1, str T1, .slice P1 a1 d1, .slice Q1 e1 g1] ∧ VIn wx B (allJ v) [.int .i64 K1, .int .i64 N1, str T1, .slice P1 a1 d1, .slice Q1 e1 g1] ∧
            Blk wx w.heap.size 25 #[.int .i64 kd, .int .i64 n, str t, .slice Ak nk ck, .slice Ap np cp] ∧ Blk wx (w.heap.size + 1) 25 #[.int .i64 0, .int .i64 0, str [], .slice none 0 0, .slice none 0 0] ∧ Blk wx w2.heap.size 25 #[.int .i64 7, .int .i64 0, str [], .slice none 0 0, .slice none 0 0] ∧ Below w.heap.size w wx ∧ w3.heap.size < wx.heap.size)
      case first =>
        cases oo1
        case none =>
          go_wp2_with fail
          go_meet
          exact ⟨7, 0, [], none, 0, 0, none, 0, 0, sl_set5 HB.out.2.2.2 _ _ _ _ _, by rw [HAJ.out]; exact empty_in _ _, sl_far5 HB.out.1 (by omega) _ _ _ _ _, sl_far5 HB.out.2.1 (by omega) _ _ _ _ _, sl_far5 HB.out.2.2.1 (by omega) _ _ _ _ _, sl_below5 HwA.out (by omega) _ _ _ _ _, by rw [sl_size5]; exact hsA⟩
        case some p1 =>
          go_wp2_with fail
          go_meet
          exact ⟨_, _, _, _, _, _, _, _, _, HB.out.2.2.2, by rw [HAJ.out]; exact HvZ.out, HB.out.1, HB.out.2.1, HB.out.2.2.1, HwA.out, hsA⟩
      case rest =>
        obtain ⟨K1, N1, T1, P1, a1, d1, Q1, e1, g1, X15, XV, X5, X10, X14, XB, Xs⟩ := hcut
        obtain ⟨X, rfl⟩ : ∃ X, X = wc := ⟨_, rfl⟩
        clear m0 m1 m2 m3 m4 f0 f1 f2 f3 f4 o0 o1 o2 o3 o4 HB HwA HvZ hw3a hsA
        have HPb := Lib.hid (partZ_any (allJ v) _ u X B (Nat.le_trans hB XB.size) XV (po_fine (allJ_fine Hfv.out)))
        have HMJ := Lib.hid (show mineJ v u = orE (getAt [u] (allJ v)) from rfl)
        obtain ⟨m0, m1, m2, m3, m4, -, -, -, -, -⟩ := sl_box X15
        go_wp2_with fail
        refine HPb.out.mono ?_
        rintro e w4 ⟨k2, n2, t2, Ak2, nk2, ck2, Ap2, np2, cp2, rfl, hv4, hb4⟩
        have hs4 := hb4.size
        obtain ⟨w4a, hw4a⟩ : ∃ w4a, w4.alloc (.cells #[.int .i64 k2, .int .i64 n2, str t2, .slice Ak2 nk2 ck2, .slice Ap2 np2 cp2] 25) = w4a := ⟨_, rfl⟩
        have hbA : Below w4.heap.size w4 w4a := by rw [← hw4a]; exact (Below.refl _ _).alloc (Nat.le_refl _) _
        have b17 : Blk w4a w4.heap.size 25 #[.int .i64 k2, .int .i64 n2, str t2, .slice Ak2 nk2 ck2, .slice Ap2 np2 cp2] := by rw [← hw4a]; exact Blk.new w4 25 _
        have hbX : Below X.heap.size X w4a := hb4.trans (hbA.mono hs4)
        have hsB : w4.heap.size < w4a.heap.size := b17.lt
        have HB := Lib.hid (And.intro (X5.below hbX X5.lt) (And.intro (X10.below hbX X10.lt) (And.intro (X14.below hbX X14.lt) (And.intro (X15.below hbX X15.lt) b17))))
        have HwA := Lib.hid (XB.trans (hbX.mono XB.size))
        have HvA := Lib.hid (XV.below (hbX.mono (Nat.le_trans hB XB.size)))
        have HvZ := Lib.hid (hv4.below (hbA.mono (by have := XB.size; omega)))
        have hl4 : w.heap.size + 1 < w4.heap.size ∧ w2.heap.size < w4.heap.size ∧ w3.heap.size < w4.heap.size ∧ w3.heap.size < w4a.heap.size ∧ w2.heap.size < w4a.heap.size := by have := X10.lt; omega
        obtain ⟨m0, m1, m2, m3, m4, f0, f1, f2, f3, f4⟩ := sl_box b17
        obtain ⟨o0, o1, o2, o3, o4, -, -, -, -, -⟩ := sl_box HB.out.2.2.1
        clear X5 X10 X14 X15 XB XV hbX hbA b17 hb4 hv4 HPb Xs
        generalize getAt [u] (allJ v) = oo2 at *
        go_upto_if 53 with (fail)
        go_cut [] (fun wx => ∃ (K2 N2 : Int) (T2 : List UInt8) (P2 : Option Addr) (a2 d2 : Nat) (Q2 : Option Addr) (e2 g2 : Nat), Blk wx w4.heap.size 25 #[.int .i64 K2, .int .i64 N2, str T2, .slice P2 a2 d2, .slice Q2 e2 g2] ∧ VIn wx B (mineJ v u) [.int .i64 K2, .int .i64 N2, str T2, .slice P2 a2 d2, .slice Q2 e2 g2] ∧
              Blk wx w.heap.size 25 #[.int .i64 kd, .int .i64 n, str t, .slice Ak nk ck, .slice Ap np cp] ∧ Blk wx (w.heap.size + 1) 25 #[.int .i64 0, .int .i64 0, str [], .slice none 0 0, .slice none 0 0] ∧ Blk wx w3.heap.size 25 #[.int .i64 K1, .int .i64 N1, str T1, .slice P1 a1 d1, .slice Q1 e1 g1] ∧
              VIn wx B (allJ v) [.int .i64 K1, .int .i64 N1, str T1, .slice P1 a1 d1, .slice Q1 e1 g1] ∧ Below w.heap.size w wx ∧ w4.heap.size < wx.heap.size)
        case first =>
          cases oo2
          case none =>
            go_wp2_with fail
            go_meet
            exact ⟨7, 0, [], none, 0, 0, none, 0, 0, sl_set5 HB.out.2.2.2.2 _ _ _ _ _, by rw [HMJ.out]; exact empty_in _ _, sl_far5 HB.out.1 (by omega) _ _ _ _ _, sl_far5 HB.out.2.1 (by omega) _ _ _ _ _, sl_far5 HB.out.2.2.2.1 (by omega) _ _ _ _ _, HvA.out.below (sl_below5 (Below.refl B w4a) (by omega) _ _ _ _ _), sl_below5 HwA.out (by omega) _ _ _ _ _, by rw [sl_size5]; exact hsB⟩
          case some p2 =>
            go_wp2_with fail
            go_meet
            exact ⟨_, _, _, _, _, _, _, _, _, HB.out.2.2.2.2, by rw [HMJ.out]; exact HvZ.out, HB.out.1, HB.out.2.1, HB.out.2.2.2.1, HvA.out, HwA.out, hsB⟩
        case rest =>
          obtain ⟨K2, N2, T2, P2, a2, d2, Q2, e2, g2, Y17, YV, Y5, Y10, Y15, YA, YB, Ys⟩ := hcut
          obtain ⟨Y, rfl⟩ : ∃ Y, Y = wc := ⟨_, rfl⟩
          clear m0 m1 m2 m3 m4 f0 f1 f2 f3 f4 o0 o1 o2 o3 o4 HB HwA HvA HvZ hw4a hsB
          have hK1 : (allJ v).kind = K1 := YA.kind
          have hK2 : (mineJ v u).kind = K2 := YV.kind
          have HK1 := Lib.hid hK1
          have HK2 := Lib.hid hK2
          have HBL := Lib.hid (blk_parts (u := u) (k := k) H7.out)
          obtain ⟨m0, -, -, -, -, -, -, -, -, -⟩ := sl_box Y15
          obtain ⟨o0, -, -, -, -, -, -, -, -, -⟩ := sl_box Y17
          clear hK1 hK2
          by_cases hok : K1 = 7 ∧ K2 = 7
          · obtain ⟨rfl, rfl⟩ := hok
            have HNB := Lib.hid (show blockedP [sigK, u, k] v = false by rw [HBL.out, HK1.out, HK2.out]; rfl)
            obtain ⟨cc, wc, hcv, hhc, hbc⟩ := conv_bytes Y (sTextL v) Y.heap.size rfl
            have HMk := Lib.hid (refMake_any x y (some ⟨Y.heap.size, 0, none⟩) (sTextL v).length cc (sTextL v) wc hhc)
            have HmR := Lib.hid (show makeV (makeR x y (sTextL v).length (sTextL v)) = .tuple #[.agg #[.int .i64 ((putM v x y).1 : Int), .int .i64 ((putM v x y).2.1 : Int)], .int .i64 (putM v x y).2.2] from rfl)
            have HY := Lib.hid (And.intro Y5 (And.intro Y10 (And.intro Y15 Y17)))
            have HYV := Lib.hid (And.intro YA (And.intro YV YB))
            have Hbc := Lib.hid hbc
            clear Y5 Y10 Y15 Y17 YA YV YB hhc hbc
            go_wp2_with fail
            refine HMk.out.mono ?_
            rintro e w5 ⟨rfl, hb5⟩
            rw [HmR.out]
            have hs5 := hb5.size
            have hm1 := makeR_lt x y (sTextL v).length (sTextL v)
            have HputN := Lib.hid (show (putM v x y).2.2 ≠ 0 → putN v u k x y = (putM v x y).2.2 from fun h => by
              unfold putN
              rw [if_neg (by rw [HT.out]; simp), if_neg (by rw [HNB.out]; simp), if_pos h])
            have hr1 : (putM v x y).1 < 65536 := hm1.1
            have hr2 : (putM v x y).2.1 < 65536 := hm1.2
            obtain ⟨r, hr⟩ : ∃ r, (putM v x y).1 = r := ⟨_, rfl⟩
            obtain ⟨s, hs⟩ : ∃ s, (putM v x y).2.1 = s := ⟨_, rfl⟩
            obtain ⟨cd, hcd⟩ : ∃ cd, (putM v x y).2.2 = cd := ⟨_, rfl⟩
            rw [hr] at hr1 ⊢
            rw [hs] at hr2 ⊢
            rw [hcd] at HputN ⊢
            have Hrs := Lib.hid (And.intro hr (And.intro hs hcd))
            obtain ⟨w5a, hw5a⟩ : ∃ w5a, w5.alloc (.cells #[.int .i64 (r : Int), .int .i64 (s : Int)] 37) = w5a := ⟨_, rfl⟩
            have hbA : Below w5.heap.size w5 w5a := by rw [← hw5a]; exact (Below.refl _ _).alloc (Nat.le_refl _) _
            have b18 : Blk w5a w5.heap.size 37 #[.int .i64 (r : Int), .int .i64 (s : Int)] := by rw [← hw5a]; exact Blk.new w5 37 _
            have hbY : Below Y.heap.size Y w5a := (Hbc.out.trans (hb5.mono Hbc.out.size)).trans (hbA.mono (Nat.le_trans Hbc.out.size hs5))
            have y10 := HY.out.2.1.below hbY HY.out.2.1.lt
            have hlY : w.heap.size + 1 < Y.heap.size := HY.out.2.1.lt
            have hw5 : Below w.heap.size w w5a := HYV.out.2.2.trans (hbY.mono HYV.out.2.2.size)
            clear hr hs hcd hm1 hb5 hbA HmR HMk
            by_cases hc0 : cd = 0
            · subst hc0
              have s0 : w5a.cell? ⟨w5.heap.size, 0, none⟩ = some (.int .i64 (r : Int)) := b18.cell 0
              have s1 : w5a.cell? ⟨w5.heap.size, 1, none⟩ = some (.int .i64 (s : Int)) := b18.cell 1
              have HY2 := Lib.hid (And.intro (HY.out.1.below hbY HY.out.1.lt) (And.intro y10 (And.intro (HY.out.2.2.1.below hbY HY.out.2.2.1.lt) (HY.out.2.2.2.below hbY HY.out.2.2.2.lt))))
              have HYV2 := Lib.hid (And.intro (HYV.out.1.below (hbY.mono (Nat.le_trans hB HYV.out.2.2.size))) (HYV.out.2.1.below (hbY.mono (Nat.le_trans hB HYV.out.2.2.size))))
              have Hw5 := Lib.hid hw5
              clear y10 hw5 hbY b18 HY HYV
              go_wp2_with fail
              refine (refText_small (some ⟨w5a.heap.size, 0, none⟩) 4 4 (sigB r s) _ (by
                refine ⟨rfl, fun _ => ⟨w5a.heap.size, 0, rfl, by simp, fun j u hu => ?_⟩⟩
                have hb := Blk.new w5a 5 #[.int .u8 ((r : Int) / 256), .int .u8 ((r : Int) % 256), .int .u8 ((s : Int) / 256), .int .u8 ((s : Int) % 256)]
                rw [Nat.zero_add, hb.cell j, u8_of _ (r / 256) (by omega) (by omega), u8_of _ (r % 256) (by omega) (by omega), u8_of _ (s / 256) (by omega) (by omega), u8_of _ (s % 256) (by omega) (by omega)]
                simpa [sigB] using hu) (by omega)).mono ?_
              rintro e w6 ⟨rfl, hb6⟩
              have hbA6 : Below w5a.heap.size w5a w6 := (((Below.refl _ _).alloc (Nat.le_refl _) _).trans (hb6.mono (by simp)))
              have hBw : B ≤ w5a.heap.size := Nat.le_trans hB Hw5.out.size
              have c5 := HY2.out.1.below hbA6 HY2.out.1.lt
              have c10 := HY2.out.2.1.below hbA6 HY2.out.2.1.lt
              have c15 := HY2.out.2.2.1.below hbA6 HY2.out.2.2.1.lt
              have c17 := HY2.out.2.2.2.below hbA6 HY2.out.2.2.2.lt
              have hva6 := HYV2.out.1.below (hbA6.mono hBw)
              have hvm6 := HYV2.out.2.below (hbA6.mono hBw)
              have hw6 := Hw5.out.trans (hbA6.mono Hw5.out.size)
              have hs56 := hbA6.size
              have hkm := HK2.out
              have hka := HK1.out
              obtain ⟨-, hm1, hm2⟩ := obj_form (mineJ_fine (u := u) Hfv.out) hkm
              obtain ⟨-, ha1, ha2⟩ := obj_form (allJ_fine Hfv.out) hka
              obtain ⟨-, hv1, hv2⟩ := obj_form Hfv.out H7.out
              have hlm : (mineJ v u).keys.length ≤ 1000 := by have h1 := kl_count (mineJ_fine (u := u) Hfv.out) hkm; have h2 := mineJ_count v u; have h3 := Hc100.out; omega
              have hla : (allJ v).keys.length ≤ 1000 := by have h1 := kl_count (allJ_fine Hfv.out) hka; have h2 := allJ_count v; have h3 := Hc100.out; omega
              have hlv : v.keys.length ≤ 1000 := by have h1 := kl_count Hfv.out H7.out; have h3 := Hc100.out; omega
              have hnok : u.length ≤ 100 ∧ k.length ≤ 100 := Hnl.out
              have HW1 := Lib.hid (withPart_any (mineJ v u) (sigV r s) _ _ k w6 B (by omega) hvm6 (sigV_in r s w6 B) hm1 hm2 hlm (by omega))
              have HA2 := Lib.hid (And.intro ha1 (And.intro ha2 hla))
              have HV2 := Lib.hid (And.intro hv1 (And.intro hv2 hlv))
              have Hva6 := Lib.hid hva6
              have Hw6 := Lib.hid hw6
              have HC6 := Lib.hid (And.intro c5 (And.intro c10 (And.intro c15 c17)))
              obtain ⟨p0, p1, p2, p3, p4, -, -, -, -, -⟩ := sl_box c17
              have hlu : u.length ≤ 1048576 := by omega
              have hl17 : w4.heap.size < w6.heap.size := c17.lt
              have hl15 : w3.heap.size < w6.heap.size := c15.lt
              obtain ⟨q, hq⟩ : ∃ q, enc (sigB r s) = q := ⟨_, rfl⟩
              rw [hq] at HW1 ⊢
              clear hva6 hvm6 hw6 c5 c10 c15 c17 hm1 hm2 ha1 ha2 hv1 hv2 hlm hla hlv hkm hka hnok hb6 hbA6 HY2 HYV2 Hw5 s0 s1
              go_wp2_with fail
              refine HW1.out.mono ?_
              rintro e w7 ⟨k3, n3, t3, Ak3, nk3, ck3, Ap3, np3, cp3, rfl, hv7, hb7⟩
              have d5 := HC6.out.1.below hb7 HC6.out.1.lt
              have d10 := HC6.out.2.1.below hb7 HC6.out.2.1.lt
              have d15 := HC6.out.2.2.1.below hb7 HC6.out.2.2.1.lt
              have d17 := HC6.out.2.2.2.below hb7 HC6.out.2.2.2.lt
              have hs67 := hb7.size
              obtain ⟨p0, p1, p2, p3, p4, f0, f1, f2, f3, f4⟩ := sl_box d17
              have hlp : w.heap.size + 1 < w4.heap.size ∧ w3.heap.size < w4.heap.size := ⟨hl4.1, hl4.2.2.1⟩
              go_upto_region 20 with (fail)
              obtain ⟨Wb, hWb⟩ : ∃ Wb, Wb = (((((w7.setCell ⟨w4.heap.size, 0, none⟩ (.int .i64 k3)).setCell ⟨w4.heap.size, 1, none⟩ (.int .i64 n3)).setCell ⟨w4.heap.size, 2, none⟩ (str t3)).setCell ⟨w4.heap.size, 3, none⟩ (.slice Ak3 nk3 ck3)).setCell ⟨w4.heap.size, 4, none⟩ (.slice Ap3 np3 cp3)) := ⟨_, rfl⟩
              rw [← hWb]
              have e17 : Blk Wb w4.heap.size 25 #[.int .i64 k3, .int .i64 n3, str t3, .slice Ak3 nk3 ck3, .slice Ap3 np3 cp3] := by rw [hWb]; exact sl_set5 d17 _ _ _ _ _
              have e5 : Blk Wb w.heap.size 25 #[.int .i64 kd, .int .i64 n, str t, .slice Ak nk ck, .slice Ap np cp] := by rw [hWb]; exact sl_far5 d5 (by omega) _ _ _ _ _
              have e10 : Blk Wb (w.heap.size + 1) 25 #[.int .i64 0, .int .i64 0, str [], .slice none 0 0, .slice none 0 0] := by rw [hWb]; exact sl_far5 d10 (by omega) _ _ _ _ _
              have e15 : Blk Wb w3.heap.size 25 #[.int .i64 7, .int .i64 N1, str T1, .slice P1 a1 d1, .slice Q1 e1 g1] := by rw [hWb]; exact sl_far5 d15 (by omega) _ _ _ _ _
              have hsWb : Wb.heap.size = w7.heap.size := by rw [hWb, sl_size5]
              have hBWb : Below w.heap.size w Wb := by rw [hWb]; exact sl_below5 (Hw6.out.trans (hb7.mono Hw6.out.size)) (by omega) _ _ _ _ _
              have hm' : VIn Wb Wb.heap.size (mine1 v u k r s) [.int .i64 k3, .int .i64 n3, str t3, .slice Ak3 nk3 ck3, .slice Ap3 np3 cp3] := by
                have h1 : VInS Wb (oldNew B w6 w7) (mine1 v u k r s) [.int .i64 k3, .int .i64 n3, str t3, .slice Ak3 nk3 ck3, .slice Ap3 np3 cp3] := VInS.kept (fun pp hp => by
                  rw [hWb]
                  refine World.cell?_of_block (sl_block5 ?_ _ _ _ _ _)
                  rcases hp with h | h
                  · omega
                  · have := h.1; omega) _ _ hv7
                exact VInS.toB (fun b hb => by
                  rcases hb with h | h
                  · omega
                  · have := h.2; omega) _ _ h1
              have ha' : VIn Wb Wb.heap.size (allJ v) [.int .i64 7, .int .i64 N1, str T1, .slice P1 a1 d1, .slice Q1 e1 g1] := by
                have h1 := Hva6.out.below (hb7.mono (by omega : B ≤ w6.heap.size))
                have h2 : VIn Wb B (allJ v) _ := h1.below (by rw [hWb]; exact sl_below5 (Below.refl B w7) (by omega) _ _ _ _ _)
                exact VIn.wider (by omega) _ _ h2
              have Hm := Lib.hid hm'
              have Ha := Lib.hid ha'
              have HE := Lib.hid (And.intro e5 (And.intro e10 (And.intro e15 e17)))
              have HB := Lib.hid hBWb
              have hlWb : w.heap.size + 1 < Wb.heap.size := e10.lt
              clear p0 p1 p2 p3 p4 f0 f1 f2 f3 f4 hWb hsWb hs67 hm' ha' d5 d10 d15 d17 e5 e10 e15 e17 hBWb hv7 HW1 Hva6 Hw6 HC6 hb7
              have HC1 := Lib.hid (show ∀ W, Below Wb.heap.size Wb W → Calls Tryz.prog 19 #[.agg #[.int .i64 7, .int .i64 N1, str T1, .slice P1 a1 d1, .slice Q1 e1 g1], str u, .agg #[.int .i64 k3, .int .i64 n3, str t3, .slice Ak3 nk3 ck3, .slice Ap3 np3 cp3]] W (RvPost (all2 v u k r s) W) from
                fun W hW => (withPart_any (allJ v) (mine1 v u k r s) _ _ u W Wb.heap.size hW.size (Ha.out.below hW) (Hm.out.below hW) HA2.out.1 HA2.out.2.1 HA2.out.2.2 hlu).mono fun e w' h => WpPost.vin hW.size h)
              have HC2 := Lib.hid (show ∀ W w8 k4 n4 t4 Ak4 nk4 ck4 Ap4 np4 cp4, Below Wb.heap.size Wb W → w8 ≤ W.heap.size → Wb.heap.size ≤ w8 → VIn W w8 (all2 v u k r s) [.int .i64 k4, .int .i64 n4, str t4, .slice Ak4 nk4 ck4, .slice Ap4 np4 cp4] →
                  Calls Tryz.prog 19 #[.agg #[.int .i64 kd, .int .i64 n, str t, .slice Ak nk ck, .slice Ap np cp], str sigK, .agg #[.int .i64 k4, .int .i64 n4, str t4, .slice Ak4 nk4 ck4, .slice Ap4 np4 cp4]] W (RvPost (out3 v u k r s) W) from
                fun W w8 k4 n4 t4 Ak4 nk4 ck4 Ap4 np4 cp4 hW hw8 hBw8 hp => (withPart_any v (all2 v u k r s) _ _ sigK W w8 hw8 (VIn.wider (by omega) _ _ (Hv.out W (HB.out.trans (hW.mono HB.out.size)))) hp HV2.out.1 HV2.out.2.1 HV2.out.2.2 (by decide)).mono fun e w' h => WpPost.vin hw8 h)
              go_cut [21] (fun s21 wx => ∃ (g : Nat) (k9 n9 : Int) (t9 : List UInt8) (Ak9 : Option Addr) (nk9 ck9 : Nat) (Ap9 : Option Addr) (np9 cp9 : Nat), s21 = .pointer (some ⟨g, 0, none⟩) ∧ Blk wx g 25 #[.int .i64 k9, .int .i64 n9, str t9, .slice Ak9 nk9 ck9, .slice Ap9 np9 cp9] ∧ VIn wx wx.heap.size (out3 v u k r s) [.int .i64 k9, .int .i64 n9, str t9, .slice Ak9 nk9 ck9, .slice Ap9 np9 cp9] ∧ Below Wb.heap.size Wb wx)
              case first =>
                refine region_S (fun w' => Below Wb.heap.size Wb w') [7] (by kernel_rfl) ?_
                have hS : Below Wb.heap.size Wb Wb.drew := (Below.refl _ _).drew
                refine anyS_take 0 (v := .agg #[.int .i64 kd, .int .i64 n, str t, .slice Ak nk ck, .slice Ap np cp]) rfl (by kernel_rfl) (by kernel_rfl) (by kernel_rfl) (by kernel_rfl) (fun _ _ _ h => h) (.inl ⟨by kernel_rfl, fun w' hS' => by (obtain ⟨c0, c1, c2, c3, c4, -, -, -, -, -⟩ := sl_box (HE.out.1.below hS' HE.out.1.lt); go_simp)⟩) hS ?_
                refine anyS_take 1 (v := .agg #[.int .i64 7, .int .i64 N1, str T1, .slice P1 a1 d1, .slice Q1 e1 g1]) rfl (by kernel_rfl) (by kernel_rfl) (by kernel_rfl) (by kernel_rfl) (fun _ _ _ h => h) (.inl ⟨by kernel_rfl, fun w' hS' => by (obtain ⟨c0, c1, c2, c3, c4, -, -, -, -, -⟩ := sl_box (HE.out.2.2.1.below hS' HE.out.2.2.1.lt); go_simp)⟩) hS ?_
                refine anyS_take 2 (v := str u) rfl (by kernel_rfl) (by kernel_rfl) (by kernel_rfl) (by kernel_rfl) (fun _ _ _ h => h) (.inl ⟨by kernel_rfl, fun w' hS' => by kernel_rfl⟩) hS ?_
                refine anyS_take 3 (v := .agg #[.int .i64 k3, .int .i64 n3, str t3, .slice Ak3 nk3 ck3, .slice Ap3 np3 cp3]) rfl (by kernel_rfl) (by kernel_rfl) (by kernel_rfl) (by kernel_rfl) (fun _ _ _ h => h) (.inl ⟨by kernel_rfl, fun w' hS' => by (obtain ⟨c0, c1, c2, c3, c4, -, -, -, -, -⟩ := sl_box (HE.out.2.2.2.below hS' HE.out.2.2.2.lt); go_simp)⟩) hS ?_
                have hSd : Below Wb.heap.size Wb Wb.drew := hS
                refine anyS_two 4 6 rfl rfl (by kernel_rfl) rfl rfl ?_ ?_
                · intro K4 hK4
                  go_simp
                  refine (HC1.out (Wb.drew) hSd).mono ?_
                  rintro e w8 ⟨k4, n4, t4, Ak4, nk4, ck4, Ap4, np4, cp4, rfl, hv8, hb8⟩
                  have hS8 : Below Wb.heap.size Wb w8 := hSd.trans (hb8.mono hSd.size)
                  refine hK4 _ _ ⟨fun _ => hS8, ?_⟩
                  clear hK4
                  refine anyS_two 5 6 rfl rfl (by kernel_rfl) rfl rfl ?_ ?_
                  · intro K5 hK5
                    go_simp
                    refine (HC2.out w8 w8.heap.size _ _ _ _ _ _ _ _ _ hS8 (Nat.le_refl _) hS8.size hv8).mono ?_
                    rintro e w9 ⟨k9, n9, t9, Ak9, nk9, ck9, Ap9, np9, cp9, rfl, hv9, hb9⟩
                    have hS9 : Below Wb.heap.size Wb w9 := hS8.trans (hb9.mono hS8.size)
                    refine hK5 _ _ ⟨fun _ => hS9, ?_⟩
                    clear hK5
                    refine anyS_one 6 rfl (by kernel_rfl) rfl ?_
                    intro K6 hK6
                    go_simp
                    obtain ⟨wz, hwz⟩ : ∃ wz, (w9).alloc (.cells #[.int .i64 0, .int .i64 0, str [], .slice none 0 0, .slice none 0 0] 25) = wz := ⟨_, rfl⟩
                    have Hz := Lib.hid (show Blk wz (w9).heap.size 25 #[.int .i64 0, .int .i64 0, str [], .slice none 0 0, .slice none 0 0] by rw [← hwz]; exact Blk.new (w9) 25 _)
                    have hawz : Below (w9).heap.size (w9) wz := by rw [← hwz]; exact (Below.refl _ _).alloc (Nat.le_refl _) _
                    have hSwz : Below Wb.heap.size Wb wz := hS9.trans (hawz.mono hS9.size)
                    have hgz : Wb.heap.size ≤ (w9).heap.size := hS9.size
                    rw [hwz]
                    refine hK6 _ _ ⟨fun _ => hSwz, ?_⟩
                    clear hK6 hwz
                    have Hvz := Lib.hid (show VIn wz wz.heap.size (out3 v u k r s) [.int .i64 k9, .int .i64 n9, str t9, .slice Ak9 nk9 ck9, .slice Ap9 np9 cp9] from VIn.wider hawz.size _ _ (hv9.below hawz))
                    have Hbz := Lib.hid hSwz
                    refine anyS_one 7 rfl (by kernel_rfl) rfl ?_
                    intro K7 hK7
                    obtain ⟨p0, p1, p2, p3, p4, f0, f1, f2, f3, f4⟩ := sl_box Hz.out
                    go_simp
                    refine hK7 _ _ ⟨fun h => absurd (List.mem_singleton.2 rfl) h, ?_⟩
                    refine anyS_done (by kernel_rfl) ?_
                    clear p0 p1 p2 p3 p4 f0 f1 f2 f3 f4 hK7
                    go_wp2_with fail
                    go_meet
                    exact ⟨_, k9, n9, t9, Ak9, nk9, ck9, Ap9, np9, cp9, rfl, (fill_box Hfv.out Hz.out Hvz.out Hbz.out hgz)⟩
                  · intro K6 hK6
                    go_simp
                    obtain ⟨wy, hwy⟩ : ∃ wy, (w8).alloc (.cells #[.int .i64 0, .int .i64 0, str [], .slice none 0 0, .slice none 0 0] 25) = wy := ⟨_, rfl⟩
                    have Hz := Lib.hid (show Blk wy (w8).heap.size 25 #[.int .i64 0, .int .i64 0, str [], .slice none 0 0, .slice none 0 0] by rw [← hwy]; exact Blk.new (w8) 25 _)
                    have hawy : Below (w8).heap.size (w8) wy := by rw [← hwy]; exact (Below.refl _ _).alloc (Nat.le_refl _) _
                    have hSwy : Below Wb.heap.size Wb wy := hS8.trans (hawy.mono hS8.size)
                    have hgz : Wb.heap.size ≤ (w8).heap.size := hS8.size
                    rw [hwy]
                    refine hK6 _ _ ⟨fun _ => hSwy, ?_⟩
                    clear hK6 hwy
                    have hv8y : VIn wy w8.heap.size (all2 v u k r s) [.int .i64 k4, .int .i64 n4, str t4, .slice Ak4 nk4 ck4, .slice Ap4 np4 cp4] := hv8.below hawy
                    have hzy := Hz.out
                    clear Hz
                    refine anyS_one 5 rfl (by kernel_rfl) rfl ?_
                    intro K5 hK5
                    go_simp
                    refine (HC2.out wy w8.heap.size _ _ _ _ _ _ _ _ _ hSwy hawy.size hS8.size hv8y).mono ?_
                    rintro e w9 ⟨k9, n9, t9, Ak9, nk9, ck9, Ap9, np9, cp9, rfl, hv9, hb9⟩
                    have hS9 : Below Wb.heap.size Wb w9 := hSwy.trans (hb9.mono hSwy.size)
                    refine hK5 _ _ ⟨fun _ => hS9, ?_⟩
                    clear hK5
                    have Hz := Lib.hid (hzy.below hb9 hzy.lt)
                    have Hvz := Lib.hid hv9
                    have Hbz := Lib.hid hS9
                    refine anyS_one 7 rfl (by kernel_rfl) rfl ?_
                    intro K7 hK7
                    obtain ⟨p0, p1, p2, p3, p4, f0, f1, f2, f3, f4⟩ := sl_box Hz.out
                    go_simp
                    refine hK7 _ _ ⟨fun h => absurd (List.mem_singleton.2 rfl) h, ?_⟩
                    refine anyS_done (by kernel_rfl) ?_
                    clear p0 p1 p2 p3 p4 f0 f1 f2 f3 f4 hK7
                    go_wp2_with fail
                    go_meet
                    exact ⟨_, k9, n9, t9, Ak9, nk9, ck9, Ap9, np9, cp9, rfl, (fill_box Hfv.out Hz.out Hvz.out Hbz.out hgz)⟩
                · intro K6 hK6
                  go_simp
                  obtain ⟨wy, hwy⟩ : ∃ wy, (Wb.alloc (.cells #[.int .i64 0, .int .i64 0, str [], .slice none 0 0, .slice none 0 0] 25)).drew = wy := ⟨_, rfl⟩
                  have Hz := Lib.hid (show Blk wy Wb.heap.size 25 #[.int .i64 0, .int .i64 0, str [], .slice none 0 0, .slice none 0 0] by rw [← hwy]; exact Blk.new Wb 25 _)
                  have hSwy : Below Wb.heap.size Wb wy := by rw [← hwy]; exact ((Below.refl _ _).alloc (Nat.le_refl _) _).drew
                  have hgz : Wb.heap.size ≤ Wb.heap.size := Nat.le_refl _
                  rw [hwy]
                  refine hK6 _ _ ⟨fun _ => hSwy, ?_⟩
                  clear hK6 hwy
                  have hzy := Hz.out
                  clear Hz
                  refine anyS_one 4 rfl (by kernel_rfl) rfl ?_
                  intro K4 hK4
                  go_simp
                  refine (HC1.out (wy) hSwy).mono ?_
                  rintro e w8 ⟨k4, n4, t4, Ak4, nk4, ck4, Ap4, np4, cp4, rfl, hv8, hb8⟩
                  have hS8 : Below Wb.heap.size Wb w8 := hSwy.trans (hb8.mono hSwy.size)
                  refine hK4 _ _ ⟨fun _ => hS8, ?_⟩
                  clear hK4
                  refine anyS_one 5 rfl (by kernel_rfl) rfl ?_
                  intro K5 hK5
                  go_simp
                  refine (HC2.out w8 w8.heap.size _ _ _ _ _ _ _ _ _ hS8 (Nat.le_refl _) hS8.size hv8).mono ?_
                  rintro e w9 ⟨k9, n9, t9, Ak9, nk9, ck9, Ap9, np9, cp9, rfl, hv9, hb9⟩
                  have hS9 : Below Wb.heap.size Wb w9 := hS8.trans (hb9.mono hS8.size)
                  refine hK5 _ _ ⟨fun _ => hS9, ?_⟩
                  clear hK5
                  have hz8 := hzy.below hb8 hzy.lt
                  have Hz := Lib.hid (hz8.below hb9 hz8.lt)
                  have Hvz := Lib.hid hv9
                  have Hbz := Lib.hid hS9
                  refine anyS_one 7 rfl (by kernel_rfl) rfl ?_
                  intro K7 hK7
                  obtain ⟨p0, p1, p2, p3, p4, f0, f1, f2, f3, f4⟩ := sl_box Hz.out
                  go_simp
                  refine hK7 _ _ ⟨fun h => absurd (List.mem_singleton.2 rfl) h, ?_⟩
                  refine anyS_done (by kernel_rfl) ?_
                  clear p0 p1 p2 p3 p4 f0 f1 f2 f3 f4 hK7
                  go_wp2_with fail
                  go_meet
                  exact ⟨_, k9, n9, t9, Ak9, nk9, ck9, Ap9, np9, cp9, rfl, (fill_box Hfv.out Hz.out Hvz.out Hbz.out hgz)⟩
              case rest =>
                obtain ⟨g, k9, n9, t9, Ak9, nk9, ck9, Ap9, np9, cp9, rfl, hbx, hv9, hb9⟩ := hcut
                obtain ⟨Wc, rfl⟩ : ∃ Wc, Wc = wc := ⟨_, rfl⟩
                have hJ := out3_eq (u := u) (k := k) (r := r) (s := s) Hfv.out H7.out HK1.out HK2.out
                have hPJ : putJ v u k x y = out3 v u k r s := by rw [hJ]; unfold putJ; rw [Hrs.out.1, Hrs.out.2.1]
                have hcn : count (out3 v u k r s) ≤ 4611686018427387904 := by
                  have h1 := put_count (sigV r s) [sigK, u, k] v
                  have h2 := Hc100.out
                  rw [← hJ] at h1
                  have h3 : count (sigV r s) = 1 := by simp [sigV, count, counts]
                  simp only [List.length_cons, List.length_nil] at h1
                  omega
                have HF := Lib.hid (refCheck_any (out3 v u k r s) _ Wc Wc.heap.size (Nat.le_refl _) hv9 hcn)
                have HpN := Lib.hid (show putN v u k x y = checkN (out3 v u k r s) by
                  unfold putN
                  rw [if_neg (by rw [HT.out]; simp), if_neg (by rw [HNB.out]; simp), if_neg (by rw [Hrs.out.2.2]; simp), hPJ])
                have HPJ := Lib.hid hPJ
                have Hv9 := Lib.hid hv9
                have z10 := HE.out.2.1.below hb9 HE.out.2.1.lt
                have hWc := HB.out.trans (hb9.mono HB.out.size)
                obtain ⟨m0, m1, m2, m3, m4, -, -, -, -, -⟩ := sl_box hbx
                have hgx : g < Wc.heap.size := hbx.lt
                clear hJ hPJ hcn hv9 HE HB HC1 HC2 Hm Ha HA2 HV2
                go_wp2_with fail
                refine HF.out.mono ?_
                rintro e w10 ⟨rfl, hb10⟩
                have x10 := z10.below hb10 z10.lt
                have xg := hbx.below hb10 hbx.lt
                have hw10 := hWc.trans (hb10.mono hWc.size)
                have Hvx := Lib.hid (VIn.wider hb10.size _ _ (Hv9.out.below hb10))
                obtain ⟨N, hN⟩ : ∃ N, checkN (out3 v u k r s) = N := ⟨_, rfl⟩
                have HN2 := Lib.hid (show putN v u k x y = N by rw [HpN.out, hN])
                rw [hN]
                have Hx10 := Lib.hid x10
                have Hw10 := Lib.hid hw10
                obtain ⟨p0, p1, p2, p3, p4, f0, f1, f2, f3, f4⟩ := sl_box x10
                clear hN HF HpN z10 hWc m0 m1 m2 m3 m4 hbx hb9 hb10 x10 hw10 Hv9
                by_cases hz : N = 0
                · subst hz
                  obtain ⟨m0, m1, m2, m3, m4, -, -, -, -, -⟩ := sl_box xg
                  clear xg
                  go_wp2_with fail
                  refine ret_v2 (by rfl) (by rfl) (by rfl) (sl_set5 Hx10.out _ _ _ _ _) (by rfl) ?_
                  have hV : putV v u k x y = out3 v u k r s := by unfold putV; rw [if_pos HN2.out, HPJ.out]
                  have ht : t9 = [] := by rw [← Hvx.out.text]; rfl
                  refine ⟨k9, n9, t9, Ak9, nk9, ck9, Ap9, np9, cp9, by rw [HN2.out]; rfl, ?_, sl_below5 Hw10.out (by omega) _ _ _ _ _⟩
                  rw [hV, sl_size5]
                  subst ht
                  exact VIn.filled (filled_set5 Hx10.out _ _ _ _) _ _ (out3_nz Hfv.out) Hvx.out
                · have hNb : (N == 0) = false := by simpa using hz
                  have Hz := Lib.hid hz
                  clear xg hz
                  go_wp2_with fail
                  refine ret_v2 (by rfl) (by rfl) (by rfl) (sl_set5 Hx10.out _ _ _ _ _) (by rfl) ?_
                  exact refPut_err HN2.out Hz.out (sl_below5 Hw10.out (by omega) _ _ _ _ _)
            · have HC := Lib.hid (HputN.out hc0)
              have hcb : (cd == 0) = false := by simpa using hc0
              have Hc0 := Lib.hid hc0
              obtain ⟨q0, q1, q2, q3, q4, f0, f1, f2, f3, f4⟩ := sl_box y10
              have Hb10 := Lib.hid y10
              have HwY := Lib.hid hw5
              clear y10 hw5 hc0 hbY b18
              go_wp2_with fail
              refine ret_v2 (by rfl) (by rfl) (by rfl) (sl_set5 Hb10.out _ _ _ _ _) (by rfl) ?_
              exact refPut_err HC.out Hc0.out (sl_below5 HwY.out (by omega) _ _ _ _ _)
          · have HC := Lib.hid (show putN v u k x y = 4 by
              unfold putN
              rw [if_neg (by rw [HT.out]; simp), if_pos]
              rw [HBL.out, HK1.out, HK2.out]
              by_cases h1 : K1 = 7
              · have h2 : K2 ≠ 7 := fun h => hok ⟨h1, h⟩
                simp [h2]
              · simp [h1])
            obtain ⟨q0, q1, q2, q3, q4, f0, f1, f2, f3, f4⟩ := sl_box Y10
            have Hb10 := Lib.hid Y10
            have HwY := Lib.hid YB
            clear Y5 Y10 Y15 Y17 YA YB YV
            by_cases h1 : K1 = 7
            · have h2 : (K2 == 7) = false := by simpa using fun h => hok ⟨h1, h⟩
              subst h1
              clear hok
              go_wp2_with fail
              refine ret_v2 (by rfl) (by rfl) (by rfl) (sl_set5 Hb10.out _ _ _ _ _) (by rfl) ?_
              exact refPut_err HC.out (by omega) (sl_below5 HwY.out (by omega) _ _ _ _ _)
            · have h1' : (K1 == 7) = false := by simpa using h1
              clear hok h1
              go_wp2_with fail
              refine ret_v2 (by rfl) (by rfl) (by rfl) (sl_set5 Hb10.out _ _ _ _ _) (by rfl) ?_
              exact refPut_err HC.out (by omega) (sl_below5 HwY.out (by omega) _ _ _ _ _)
  · have HC := Lib.hid (show putN v u k x y = sTextN v by
      have h6 : tapN v u k = sTextN v := by unfold tapN; rw [if_pos hN]
      unfold putN; rw [h6, if_pos hN])
    have hNb : (sTextN v == 0) = false := by simpa using hN
    have HN := Lib.hid hN
    obtain ⟨m0, m1, m2, m3, m4, f0, f1, f2, f3, f4⟩ := sl_box b10'
    have Hb10 := Lib.hid b10'
    have Hw1 := Lib.hid hw1
    clear hN b5' b10' hw1
    go_wp2_with fail
    refine ret_v2 (by rfl) (by rfl) (by rfl) (sl_set5 Hb10.out _ _ _ _ _) (by rfl) ?_
    exact refPut_err HC.out HN.out (sl_below5 Hw1.out (by omega) _ _ _ _ _)
end Go.Proofs.YtbdbcffnjibjoaaGreatDoor
