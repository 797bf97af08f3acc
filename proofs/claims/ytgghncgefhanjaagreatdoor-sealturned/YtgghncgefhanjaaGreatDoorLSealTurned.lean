/- Proved here: for every list of integers, every secret, nonce and number, a number put into a sealed object of the list's changes the text that is signed, and the signature is valid still exactly if the hash is the same, unless the object has no room (statement SealTurned). No condition. -/
import Derived.Test.YtgghncgefhanjaaGreatDoorBunU
import Derived.Test.YtgghncgefhanjaaGreatDoorOpenI
import Derived.Test.YtgghncgefhanjaaGreatDoorLaid
import Derived.Test.YtgghncgefhanjaaGreatDoorSlTurn
import Derived.Deep.RegionLaw
namespace Go.Proofs.YtgghncgefhanjaaGreatDoor
set_option linter.unusedVariables false
set_option linter.unusedSimpArgs false
open Go.RowKit
attribute [local go_sem high] str_mk
theorem VIn.num_ {w : World} {B : Nat} {v : JV} {k n : Int} {r : List Value} (h : VIn w B v (.int .i64 k :: .int .i64 n :: r)) : v.num = n := by
  cases v; unfold VIn at h; obtain ⟨_, _, _, _, _, e, _⟩ := h; injection e with _ e; injection e with e1 _; injection e1 with _ e1; exact e1.symm
set_option maxRecDepth 100000 in
set_option maxHeartbeats 4000000 in
theorem walkSealTurned (A0 : Option Addr) (n0 c0 : Nat) (x1 : Int) (x2 : Int) (x3 : Int) (w : World) (hx0 : IntsAt w w.heap.size A0 n0 c0) (hx1 : -9223372036854775808 ≤ x1 ∧ x1 ≤ 9223372036854775807) (hx2 : -9223372036854775808 ≤ x2 ∧ x2 ≤ 9223372036854775807) (hx3 : -9223372036854775808 ≤ x3 ∧ x3 ≤ 9223372036854775807) (htab : Tab w.heap.size w) (hsh : w.ShapedOpen Tryz.prog) :
    Calls Tryz.prog 5 #[.slice A0 n0 c0, .int .i64 x1, .int .i64 x2, .int .i64 x3] w fun e w' => e = .returned (.bool true) ∧ Below w.heap.size w w' := by
  have hszw0 := Nat.le_refl w.heap.size
  have hgl := Gl.of hsh
  have Hctx := Lib.hid (fun W (hW : Below w.heap.size w W) => And.intro (htab.on hW).here (hgl.below hW))
  clear htab hgl hsh
  go_enter Tryz.func5, Tryz.ntmps5
  go_wp2_with fail
  refine (objectOf_any A0 n0 c0 w.heap.size w (Nat.le_refl _) hx0).mono ?_
  rintro e y1 ⟨v, cs, rfl, hv, hO, B⟩
  obtain ⟨k1, n1, t1, Ak1, nk1, ck1, Ap1, np1, cp1, rfl⟩ := hv.form
  have V1 := VBx.new hv
  have hA1 : Below y1.heap.size y1 (y1.alloc (.cells #[.int .i64 k1, .int .i64 n1, str t1, .slice Ak1 nk1 ck1, .slice Ap1 np1 cp1] 25)) := (Below.refl _ _).alloc (Nat.le_refl _) _
  replace B := B.trans (hA1.mono B.size)
  clear hA1
  clear hv
  go_wp2_with fail
  generalize y1.alloc (.cells #[.int .i64 k1, .int .i64 n1, str t1, .slice Ak1 nk1 ck1, .slice Ap1 np1 cp1] 25) = Y1 at *
  generalize y1.heap.size = g1 at *
  refine (fits_any v _ Y1 g1 (Nat.le_of_lt V1.lt) V1.val (Hctx.out _ B).1 hO).mono ?_
  rintro e y2 ⟨rfl, hb⟩
  replace V1 := V1.below hb
  replace B := B.trans (hb.mono B.size)
  clear hb
  by_cases hf : (jtext v).length < 400
  · rw [decide_eq_true hf]
    have h0 := hO.obj (by omega)
    have hc1 := S1_ok (u := uA) (.inl rfl) (sigOf_is (secOf x1) (secOf x2) (jtext v))
    have P1 := Lib.hid (put_one h0 (sec_of x1) (sec_of x2) (.inl rfl : uA = uA ∨ uA = uB))
    obtain ⟨m, hm⟩ : ∃ m : Int, x3 % 1000 = m := ⟨_, rfl⟩
    have hm0 : 0 ≤ m := by rw [← hm]; exact Int.emod_nonneg _ (by omega)
    have hm1 : m < 1000 := by rw [← hm]; exact Int.emod_lt_of_pos _ (by omega)
    have pk := Lib.hid (fun W => picked_any x3 1000 W (by omega) (by omega))
    rw [hm] at pk
    have U := turned_says h0 hO.front hc1 hm0 hm1
    have N0 := Lib.hid h0.count
    have N1 := Lib.hid (h0.sealed_count hc1)
    have N2 := Lib.hid U.2.2.2.2
    have Q1 := Lib.hid (show sTextR (insO sigK v (S1 uA (sigOf (secOf x1) (secOf x2) (jtext v)))) = .tuple #[str (jtext v), .int .i64 0] by unfold sTextR; rw [(h0.sealed_says hc1).1, (h0.sealed_says hc1).2])
    have Q2 := Lib.hid (show sTextR (frontO m (insO sigK v (S1 uA (sigOf (secOf x1) (secOf x2) (jtext v))))) = .tuple #[str (jtext (frontO m v)), .int .i64 0] by unfold sTextR; rw [U.1, U.2.1])
    have hg : getAt [sigK, uA, kE] (frontO m (insO sigK v (S1 uA (sigOf (secOf x1) (secOf x2) (jtext v))))) = some (sigOf (secOf x1) (secOf x2) (jtext v)) := by rw [frontO_get sigK [uA, kE] (h0.sealed hc1) (by decide), insO_get sigK [uA, kE] h0.plain]; exact get_S1 _ _
    have K1 := Lib.hid (chk_says (sec_of x1) (sec_of x1) (sec_of x2) (.inl rfl : uA = uA ∨ uA = uB) U.1 U.2.1 U.2.2.1 hg)
    have Hiff := Lib.hid (hash_iff (k := secOf x2) (sec_of x1) (hsh_lt (pw 4 (secOf x2) % 7823) (jtext v)) (hsh_lt (pw 4 (secOf x2) % 7823) (jtext (frontO m v))))
    have Hkl := Lib.hid (show (insO sigK v (S1 uA (sigOf (secOf x1) (secOf x2) (jtext v)))).keys.length = v.keys.length + 1 from ins_len _ _ _ (place_le _ _))
    have Hpl := Lib.hid (show (insO sigK v (S1 uA (sigOf (secOf x1) (secOf x2) (jtext v)))).parts.length = v.keys.length + 1 by rw [← (h0.sealed hc1).len]; exact Hkl.out)
    have hvl : v.keys.length ≤ 4 := by obtain ⟨q, hq⟩ := hO.keys; rw [hq, List.length_take]; simp [okL]; omega
    have Hne := Lib.hid U.2.2.2.1
    have hL6 : (jtext v).length ≤ 600 := h0.len
    have hT6 : (jtext (frontO m v)).length ≤ 600 := U.2.2.1
    have hrl := Nat.mod_lt (pw 4 (secOf x2)) (show 0 < 7823 by decide)
    have HH1 := Lib.hid (hashR_nat (r := pw 4 (secOf x2) % 7823) (l := jtext v) (n := (jtext v).length) hrl hL6)
    have HH2 := Lib.hid (hashR_nat (r := pw 4 (secOf x2) % 7823) (l := jtext (frontO m v)) (n := (jtext (frontO m v)).length) hrl hT6)
    have hpa := publicR_nat (sec_of x2).one (sec_of x2).lt
    have HPu := Lib.hid (fun W => show Calls Tryz.prog 18 #[.int .i64 (secOf x2 : Nat)] W fun e w' => e = .returned (.tuple #[.int .i64 (pw 4 (secOf x2) % 7823 : Nat), .int .i64 0]) ∧ W = w' from (public_any _ W).mono fun e w' h => ⟨by rw [h.1, hpa]; rfl, h.2⟩)
    have Hsy := Lib.hid (secretOf_any x2)
    clear hc1 hO h0 hf U hg hpa hL6 hT6 hrl hm
    have HJ := Lib.hid (show insO sigK v (S1 uA (sigOf (secOf x1) (secOf x2) (jtext v))) = .mk 7 0 [] (insO sigK v (S1 uA (sigOf (secOf x1) (secOf x2) (jtext v)))).keys (insO sigK v (S1 uA (sigOf (secOf x1) (secOf x2) (jtext v)))).parts from rfl)
    generalize insO sigK v (S1 uA (sigOf (secOf x1) (secOf x2) (jtext v))) = J at *
    generalize jtext v = L at *
    generalize jtext (frontO m v) = T at *
    obtain ⟨p, Hp⟩ : ∃ p, Hid (pw 4 (secOf x1) % 7823 = p) := ⟨_, Lib.hid rfl⟩
    obtain ⟨r, Hr⟩ : ∃ r, Hid (pw 4 (secOf x2) % 7823 = r) := ⟨_, Lib.hid rfl⟩
    rw [Hp.out] at K1
    rw [Hr.out] at K1 Hiff HH1 HH2 HPu
    generalize hsh r L = hl at *
    generalize hsh r T = ht at *
    have K2 := Lib.hid (show chkN (frontO m J) uA kE (p : Int) = if hl = ht then 0 else 9 by rw [K1.out]; by_cases h : hl = ht; (rw [if_pos h, if_pos (Hiff.out.2 h)]); (rw [if_neg h, if_neg (fun q => h (Hiff.out.1 q))]))
    clear K1 Hiff
    obtain ⟨p10, p11, p12, p13, p14⟩ := V1.cells
    have lt1 := V1.lt
    go_wp2_with fail
    refine (sealedBy_ok P1.out _ _ g1 (Nat.le_of_lt V1.lt) V1.val (Hctx.out _ B).1 (Hctx.out _ B).2 N0.out (by decide)).mono ?_
    rintro e y3 ⟨k2, n2, t2, Ak2, nk2, ck2, Ap2, np2, cp2, rfl, hv, hb⟩
    rw [Hp.out]
    clear p10 p11 p12 p13 p14 lt1
    replace V1 := V1.below hb
    replace B := B.trans (hb.mono B.size)
    clear hb
    replace hv := VOw.toV _ _ _ hv
    have hwg2 : w.heap.size ≤ y3.heap.size := B.size
    have V2 := VBx.new hv
    have hA2 : Below y3.heap.size y3 (y3.alloc (.cells #[.int .i64 k2, .int .i64 n2, str t2, .slice Ak2 nk2 ck2, .slice Ap2 np2 cp2] 25)) := (Below.refl _ _).alloc (Nat.le_refl _) _
    replace V1 := V1.below hA2
    replace B := B.trans (hA2.mono B.size)
    clear hA2
    clear hv
    go_wp2_with fail
    generalize y3.alloc (.cells #[.int .i64 k2, .int .i64 n2, str t2, .slice Ak2 nk2 ck2, .slice Ap2 np2 cp2] 25) = Y2 at *
    generalize y3.heap.size = g2 at *
    refine (signSure_any _).mono ?_
    rintro e y4 ⟨rfl, hb⟩
    replace V1 := V1.below hb
    replace V2 := V2.below hb
    replace B := B.trans (hb.mono B.size)
    clear hb
    have hnm := V2.val.num_
    have hk7 := V2.val.kind
    have htx := V2.val.text_
    rw [HJ.out] at hnm hk7 htx
    have hk7' : (7 : Int) = k2 := hk7
    have hnm' : (0 : Int) = n2 := hnm
    have htx' : [] = t2 := htx
    subst hk7' hnm' htx'
    clear hk7 hnm htx
    obtain ⟨pc, hnk, hnp, hkb, hpb, hks, hHk, hHp, hPi⟩ := V2.val.opened
    have hnk5 : nk2 ≤ 5 := by rw [hnk, Hkl.out]; omega
    have hnk0 : 0 < nk2 := by rw [hnk, Hkl.out]; omega
    have hnp5 : np2 ≤ 5 := by rw [hnp, Hpl.out]; omega
    have hnp0 : 0 < np2 := by rw [hnp, Hpl.out]; omega
    have hlt2 : g2 < y4.heap.size := V2.lt
    have hlt1 : g1 < y4.heap.size := V1.lt
    have hs7 : (y4.alloc (.cells #[.int .i64 7, .int .i64 0, str [], .slice Ak2 nk2 ck2, .slice Ap2 np2 cp2] 25)).heap.size = y4.heap.size + 1 := by simp
    have hl8 := World.ownsRow_lit (base := y4.heap.size + 1) (e := 9) (size := 1) (y4.alloc (.cells #[.int .i64 7, .int .i64 0, str [], .slice Ak2 nk2 ck2, .slice Ap2 np2 cp2] 25)) #[str [65]] 1 (by rw [hs7]; omega) (by decide) rfl
    rw [hs7] at hl8
    have hB8 : Below y4.heap.size y4 ((y4.alloc (.cells #[.int .i64 7, .int .i64 0, str [], .slice Ak2 nk2 ck2, .slice Ap2 np2 cp2] 25)).alloc (.cells #[str [65]] 9)) := ((Below.refl _ _).alloc (Nat.le_refl _) _).alloc (by rw [hs7]; omega) _
    have hbB := (Blk.new y4 25 #[.int .i64 7, .int .i64 0, str [], .slice Ak2 nk2 ck2, .slice Ap2 np2 cp2]).alloc (.cells #[str [65]] 9)
    obtain ⟨A8, c8, y8, hrun8, hown8, hgr8⟩ : ∃ A8 c8 y8, (Builtin.append_ #[22, 22] 22 #[.slice (some ⟨y4.heap.size + 1, 0, none⟩) 1 1, .slice Ak2 nk2 ck2]).run Tryz.prog ((y4.alloc (.cells #[.int .i64 7, .int .i64 0, str [], .slice Ak2 nk2 ck2, .slice Ap2 np2 cp2] 25)).alloc (.cells #[str [65]] 9)) = .ok (.slice A8 (1 + nk2) c8) y8 ∧ y8.ownsRow (y4.heap.size + 1) 9 1 (.slice A8 (1 + nk2) c8) (1 + nk2) (([65] :: J.keys).map str) ∧ ((y4.alloc (.cells #[.int .i64 7, .int .i64 0, str [], .slice Ak2 nk2 ck2, .slice Ap2 np2 cp2] 25)).alloc (.cells #[str [65]] 9)).grownBy y8 (some (y4.heap.size + 1)) :=
      app_keys (l := [[65]]) (B := g2) hl8 (hHk.below (hB8.mono (by omega))) hnk hnk0 (by simp; omega) (by simp) _
    have hbB8 := hbB.grown hgr8 (by simp)
    have hs8 : ((y4.alloc (.cells #[.int .i64 7, .int .i64 0, str [], .slice Ak2 nk2 ck2, .slice Ap2 np2 cp2] 25)).alloc (.cells #[str [65]] 9)).heap.size = y4.heap.size + 2 := by simp
    have hy8 : y4.heap.size + 2 ≤ y8.heap.size := by have := hgr8.size; rw [hs8] at this; exact this
    have hBy8 : Below (y4.heap.size + 1) ((y4.alloc (.cells #[.int .i64 7, .int .i64 0, str [], .slice Ak2 nk2 ck2, .slice Ap2 np2 cp2] 25)).alloc (.cells #[str [65]] 9)) y8 := (Below.refl _ _).grown hgr8 (by rw [hs8]; omega) (fun k hk => by injection hk with hk; omega)
    have hBy8' : Below y4.heap.size y4 y8 := hB8.trans (hBy8.mono (by omega))
    obtain ⟨o0, o1, o2, o3, o4, z0, z1, z2, z3, z4⟩ := sl_box hbB8
    have Hrun8 := Lib.hid hrun8
    obtain ⟨p20, p21, p22, p23, p24⟩ := V2.cells
    have hnkb : ((nk2 : Int) == 0) = false := by simp; omega
    have hnkc : ¬ nk2 = 0 := by omega
    have hgz : y4.heap.size < y8.heap.size := by omega
    have Hnn := Lib.hid (And.intro hnk hnp)
    have Hkk := Lib.hid (And.intro hkb (And.intro hpb hks))
    have Hh := Lib.hid (And.intro hHp hPi)
    clear hrun8 hl8 hB8 hbB hs7 hs8 hnk hnp hkb hpb hks hHk hHp hPi
    go_wp2_with (at_builtin
                 go_loud (refine wpList_app rfl _ _ _ rfl _ _ (by rfl) (by rfl) Hrun8.out ?_))
    clear o0 o1 o2 o3 o4 z0 z1 z2 z3 z4 p20 p21 p22 p23 p24 Hrun8 hgr8 hBy8
    have hbB9 := hbB8.set_ 3 (.slice A8 (1 + nk2) c8)
    have hown9 := ownsRow_setCell_below hown8 (a := ⟨y4.heap.size, 3, none⟩) (by show y4.heap.size < y4.heap.size + 1; omega) (.slice A8 (1 + nk2) c8)
    have hB9 : Below y4.heap.size y4 (y8.setCell ⟨y4.heap.size, 3, none⟩ (.slice A8 (1 + nk2) c8)) := hBy8'.setCell (p := ⟨y4.heap.size, 3, none⟩) (Nat.le_refl _) _
    have hs9 : y4.heap.size + 2 ≤ (y8.setCell ⟨y4.heap.size, 3, none⟩ (.slice A8 (1 + nk2) c8)).heap.size := by simpa [World.setCell] using hy8
    clear hbB8 hown8 hBy8' hy8 hgz
    generalize y8.setCell ⟨y4.heap.size, 3, none⟩ (.slice A8 (1 + nk2) c8) = Y8 at *
    have hbB9' : Blk Y8 y4.heap.size 25 #[.int .i64 7, .int .i64 0, str [], .slice A8 (1 + nk2) c8, .slice Ap2 np2 cp2] := hbB9
    clear hbB9
    replace V1 := V1.belowN hB9 hlt1
    replace V2 := V2.belowN hB9 hlt2
    replace B := B.trans (hB9.mono B.size)
    have hHh := Hh.out
    have hh9 := hHh.1.below (hB9.mono (Nat.le_of_lt hlt2))
    have hp9 := hHh.2.below (hB9.mono (Nat.le_of_lt hlt2))
    clear hHh Hh hB9
    have hszw : w.heap.size ≤ g2 := hwg2
    have hgb4 : g2 < y4.heap.size := hlt2
    generalize y4.heap.size = gB at *
    have hBd : Below Y8.heap.size Y8 ((Y8.alloc (.cells #[.int .i64 4, .int .i64 m, str [], .slice none 0 0, .slice none 0 0] 25)).drew) := ((Below.refl _ _).alloc (Nat.le_refl _) _).drew
    have hl9 : ((Y8.alloc (.cells #[.int .i64 4, .int .i64 m, str [], .slice none 0 0, .slice none 0 0] 25)).drew).ownsRow Y8.heap.size 25 5 (.slice (some ⟨Y8.heap.size, 0, none⟩) 1 1) 1 [.int .i64 4, .int .i64 m, str [], .slice none 0 0, .slice none 0 0] := World.ownsRow_lit (base := Y8.heap.size) (e := 25) (size := 5) Y8 #[.int .i64 4, .int .i64 m, str [], .slice none 0 0, .slice none 0 0] 1 (Nat.le_refl _) (by decide) rfl
    obtain ⟨A9, c9, y9, hrun9, hown10, hgr9⟩ : ∃ A9 c9 y9, (Builtin.append_ #[23, 23] 23 #[.slice (some ⟨Y8.heap.size, 0, none⟩) 1 1, .slice Ap2 np2 cp2]).run Tryz.prog ((Y8.alloc (.cells #[.int .i64 4, .int .i64 m, str [], .slice none 0 0, .slice none 0 0] 25)).drew) = .ok (.slice A9 (1 + np2) c9) y9 ∧ y9.ownsRow Y8.heap.size 25 5 (.slice A9 (1 + np2) c9) (1 + np2) ([.int .i64 4, .int .i64 m, str [], .slice none 0 0, .slice none 0 0] ++ pc) ∧ ((Y8.alloc (.cells #[.int .i64 4, .int .i64 m, str [], .slice none 0 0, .slice none 0 0] 25)).drew).grownBy y9 (some Y8.heap.size) :=
      app_parts (B := g2) hl9 (hh9.below (hBd.mono (by omega))) (hp9.below (hBd.mono (by omega))) Hnn.out.2 hnp0 (by omega) hBd.size _
    have hBy9 : Below Y8.heap.size Y8 y9 := hBd.trans ((Below.refl _ _).grown hgr9 hBd.size (fun k hk => by injection hk with hk; omega))
    have hbB10 := hbB9'.below hBy9 hbB9'.lt
    obtain ⟨o0, o1, o2, o3, o4, z0, z1, z2, z3, z4⟩ := sl_box hbB10
    obtain ⟨p20, p21, p22, p23, p24⟩ := V2.cells
    have lt2 := V2.lt
    have hgY : gB < Y8.heap.size := hbB9'.lt
    have hgy : gB < y9.heap.size := hbB10.lt
    have Hrun9 := Lib.hid hrun9
    have HBy9 := Lib.hid hBy9
    clear hrun9 hl9 hBd hgr9 hBy9
    go_region_law (first
      | (go_simp; go_at_call 16; refine (pk.out _).mono ?_; rintro e yy ⟨rfl, rfl⟩)
      | (refine step_app rfl _ _ _ rfl _ _ (by rfl) (by rfl) Hrun9.out ?_))
    all_goals
      clear o0 o1 o2 o3 o4 z0 z1 z2 z3 z4 p20 p21 p22 p23 p24 Hrun9
      have hB11 : Below gB Y8 (y9.setCell ⟨gB, 4, none⟩ (.slice A9 (1 + np2) c9)) := (HBy9.out.mono (show gB ≤ Y8.heap.size by omega)).setCell (p := ⟨gB, 4, none⟩) (Nat.le_refl gB) _
      have hbB11 : Blk (y9.setCell ⟨gB, 4, none⟩ (.slice A9 (1 + np2) c9)) gB 25 #[.int .i64 7, .int .i64 0, str [], .slice A8 (1 + nk2) c8, .slice A9 (1 + np2) c9] := hbB10.set_ 4 (.slice A9 (1 + np2) c9)
      have hk11 := ownsRow_setCell_below (sl_own_below hown9 HBy9.out) (a := ⟨gB, 4, none⟩) (by show gB < gB + 1; omega) (.slice A9 (1 + np2) c9)
      have hq11 := ownsRow_setCell_below hown10 (a := ⟨gB, 4, none⟩) (by show gB < Y8.heap.size; omega) (.slice A9 (1 + np2) c9)
      have hp11 := hp9.below (hB11.mono (by omega))
      have hvB := front_in hk11 hq11 hp11 (by have := hB11.size; omega) Hnn.out.1 Hnn.out.2 (by have h1 := Hnn.out.1; omega) (by have h1 := Hnn.out.2; omega) Hkk.out.2.2 hm0 hm1
      replace V1 := V1.belowN hB11 (by omega)
      replace V2 := V2.belowN hB11 (by omega)
      replace B := B.trans (hB11.mono (Nat.le_trans hszw (Nat.le_of_lt hgb4)))
      clear hbB10 hown10 hown9 hp9 hh9 hbB9' HBy9 hk11 hq11 hp11 hB11 hgy hgY lt2 hs9
      have hgS := hbB11.lt
      generalize y9.setCell ⟨gB, 4, none⟩ (.slice A9 (1 + np2) c9) = Y9 at *
      obtain ⟨nB, hnB⟩ : ∃ nB, nB = Y9.heap.size := ⟨_, rfl⟩
      rw [← hnB] at hvB
      have hnB' : nB ≤ Y9.heap.size := by omega
      clear hnB
      obtain ⟨p10, p11, p12, p13, p14⟩ := V1.cells
      obtain ⟨p20, p21, p22, p23, p24⟩ := V2.cells
      have lt1 := V1.lt
      have lt2 := V2.lt
      obtain ⟨o0, o1, o2, o3, o4, -, -, -, -, -⟩ := sl_box hbB11
      have ltB := hbB11.lt
      go_wp2_with fail
      clear p10 p11 p12 p13 p14 lt1 p20 p21 p22 p23 p24 lt2
      clear o0 o1 o2 o3 o4 ltB
      refine (sealText_any J _ _ g2 (Nat.le_of_lt V2.lt) V2.val (Hctx.out _ B).1 N1.out).mono ?_
      rintro e y10 ⟨rfl, hb⟩
      rw [Q1.out]
      replace V1 := V1.below hb
      replace V2 := V2.below hb
      replace B := B.trans (hb.mono B.size)
      replace hvB := hvB.below (hb.mono hnB')
      replace hbB11 := hbB11.below hb hbB11.lt
      replace hnB' := Nat.le_trans hnB' hb.size
      clear hb
      obtain ⟨p10, p11, p12, p13, p14⟩ := V1.cells
      obtain ⟨p20, p21, p22, p23, p24⟩ := V2.cells
      have lt1 := V1.lt
      have lt2 := V2.lt
      obtain ⟨o0, o1, o2, o3, o4, -, -, -, -, -⟩ := sl_box hbB11
      have ltB := hbB11.lt
      go_wp2_with fail
      clear p10 p11 p12 p13 p14 lt1 p20 p21 p22 p23 p24 lt2
      clear o0 o1 o2 o3 o4 ltB
      refine (sealText_any (frontO m J) _ _ nB hnB' hvB (Hctx.out _ B).1 N2.out).mono ?_
      rintro e y11 ⟨rfl, hb⟩
      rw [Q2.out]
      replace V1 := V1.below hb
      replace V2 := V2.below hb
      replace B := B.trans (hb.mono B.size)
      replace hvB := hvB.below (hb.mono hnB')
      replace hbB11 := hbB11.below hb hbB11.lt
      replace hnB' := Nat.le_trans hnB' hb.size
      clear hb
      go_wp2_with fail
      refine (Hsy.out _).mono ?_
      rintro e yy ⟨rfl, rfl⟩
      go_wp2_with fail
      refine (HPu.out _).mono ?_
      rintro e yy ⟨rfl, rfl⟩
      obtain ⟨cc12, z12, hcv12, hhv12, hb12⟩ := conv_bytes y11 L y11.heap.size rfl
      have hcon12 := Lib.hid (hashP_any (r : Int) (some ⟨y11.heap.size, 0, none⟩) L.length cc12 L z12 hhv12)
      replace V1 := V1.below hb12
      replace V2 := V2.below hb12
      replace B := B.trans (hb12.mono B.size)
      replace hvB := hvB.below (hb12.mono hnB')
      replace hbB11 := hbB11.below hb12 hbB11.lt
      replace hnB' := Nat.le_trans hnB' hb12.size
      clear hb12 hhv12
      go_wp2_with fail
      go_fit hcon12.out
      rintro e y12 ⟨rfl, q12, hy12⟩
      rw [HH1.out]
      have hbq12 : Below z12.heap.size z12 y12 := by rw [hy12]; exact below_drewN (Below.refl _ _) _
      replace V1 := V1.below hbq12
      replace V2 := V2.below hbq12
      replace B := B.trans (hbq12.mono B.size)
      replace hvB := hvB.below (hbq12.mono hnB')
      replace hbB11 := hbB11.below hbq12 hbB11.lt
      replace hnB' := Nat.le_trans hnB' hbq12.size
      clear hbq12 hy12 hcv12 hcon12
      simp only [intsV]
      obtain ⟨cc13, z13, hcv13, hhv13, hb13⟩ := conv_bytes y12 T y12.heap.size rfl
      have hcon13 := Lib.hid (hashP_any (r : Int) (some ⟨y12.heap.size, 0, none⟩) T.length cc13 T z13 hhv13)
      replace V1 := V1.below hb13
      replace V2 := V2.below hb13
      replace B := B.trans (hb13.mono B.size)
      replace hvB := hvB.below (hb13.mono hnB')
      replace hbB11 := hbB11.below hb13 hbB11.lt
      replace hnB' := Nat.le_trans hnB' hb13.size
      clear hb13 hhv13
      go_wp2_with fail
      go_fit hcon13.out
      rintro e y13 ⟨rfl, q13, hy13⟩
      rw [HH2.out]
      have hbq13 : Below z13.heap.size z13 y13 := by rw [hy13]; exact below_drewN (Below.refl _ _) _
      replace V1 := V1.below hbq13
      replace V2 := V2.below hbq13
      replace B := B.trans (hbq13.mono B.size)
      replace hvB := hvB.below (hbq13.mono hnB')
      replace hbB11 := hbB11.below hbq13 hbB11.lt
      replace hnB' := Nat.le_trans hnB' hbq13.size
      clear hbq13 hy13 hcv13 hcon13
      simp only [intsV]
      have hneb : (L == T) = false := by simpa using Hne.out
      obtain ⟨p10, p11, p12, p13, p14⟩ := V1.cells
      obtain ⟨p20, p21, p22, p23, p24⟩ := V2.cells
      have lt1 := V1.lt
      have lt2 := V2.lt
      obtain ⟨o0, o1, o2, o3, o4, -, -, -, -, -⟩ := sl_box hbB11
      have ltB := hbB11.lt
      go_wp2_with fail
      clear p10 p11 p12 p13 p14 lt1 p20 p21 p22 p23 p24 lt2
      clear o0 o1 o2 o3 o4 ltB
      refine (sealCheck_any (frontO m J) _ uA kE _ _ nB hnB' hvB (Hctx.out _ B).1 (Hctx.out _ B).2 N2.out (by decide) (by decide)).mono ?_
      rintro e y14 ⟨rfl, hb⟩
      rw [K2.out]
      replace B := B.trans (hb.mono B.size)
      clear K2 hb
      by_cases hh : hl = ht
      · rw [if_pos hh]
        subst hh
        go_wp2_with fail
        go_ret
        exact ⟨by simp, B⟩
      · rw [if_neg hh]
        have hhb : ((hl : Int) == (ht : Int)) = false := by simp; omega
        go_wp2_with fail
        go_ret
        exact ⟨by simp, B⟩
  · rw [decide_eq_false hf]
    go_wp2_with fail
    refine (signSure_any _).mono ?_
    rintro e y3 ⟨rfl, hb⟩
    go_wp2_with fail
    go_ret
    exact ⟨rfl, B.trans (hb.mono B.size)⟩
namespace sealTurned
open Go.ChangeShapes Go.WideShapes Go.ChangeAt Go.RowKit
theorem own : ownKnob Tryz.prog.godebug = none := by kernel_rfl
theorem laidOut : laidOutB Tryz.prog = true := by kernel_rfl
set_option linter.unusedVariables false
theorem laid_met (os : Os) : laidMet Tryz.prog Rows.sealTurnedRow.laid ((laidWorld os).forCall (fun _ _ => 0) ⟨#[], #[.slice none 0 0, .int .i64 0, .int .i64 0, .int .i64 0], []⟩).memory :=
  laidMet_of_run' 8 (by kernel_rfl) (by kernel_rfl)
theorem reads (os : Os) {H : Type} (enc : TypeId × Value → H) : ∃ places, DataW.whole enc Tryz.prog ((laidWorld os).forCall (fun _ _ => 0) ⟨#[], #[.slice none 0 0, .int .i64 0, .int .i64 0, .int .i64 0], []⟩).memory Tryz.f5.params.toList Rows.sealTurnedSpec.vars false #[Value.slice none 0 0, Value.int .i64 0, Value.int .i64 0, Value.int .i64 0].toList 8 = some ([.nil, .lit (.int .i64 0), .lit (.int .i64 0), .lit (.int .i64 0)], [], places) :=
  ⟨[], by kernel_rfl⟩
set_option maxRecDepth 100000 in
theorem contract (H : Type) (enc : TypeId × Value → H) (W : World) (base : Nat) (args : Array Value) (ds gs : List (DataW H)) (before : List MemPlace)
    (hval0 : ∀ (j : Nat) t v, Tryz.f5.params[j]? = some t → args[j]? = some v → Value.okWide Tryz.prog W .any base t v)
    (hW : DataW.Whole enc Tryz.prog Tryz.f5.params.toList Rows.sealTurnedSpec.vars false W args.toList ds gs before) (hL : laidMetH Tryz.prog Rows.sealTurnedRow.laid W) (hsh : W.ShapedOpen Tryz.prog) :
    Calls Tryz.prog 5 args W fun e W' => ∃ v, e = .returned v ∧ Rows.sealTurnedSpec.post enc Tryz.prog Tryz.f5 false true false false W args v W' := by
  have hval : ∀ (j : Nat) t v, Tryz.f5.params[j]? = some t → args[j]? = some v → Value.okWide Tryz.prog W .any base t v := hval0
  have hW' := hW
  obtain ⟨p, q, hA0, hV, rfl, hfz, hnd⟩ := hW
  have hA : DataW.TrodAll enc Tryz.prog W 0 (fun _ => true) true Tryz.f5.params.toList args.toList ds p := hA0
  rw [Tryz.params5] at hA hval
  obtain ⟨v0, vs0, d0, ds0, p0, q0, hargs, rfl, rfl, h0, rr0⟩ := trodAll_cons hA
  obtain ⟨v1, vs1, d1, ds1, p1, q1, rfl, rfl, rfl, h1, rr1⟩ := trodAll_cons rr0
  obtain ⟨v2, vs2, d2, ds2, p2, q2, rfl, rfl, rfl, h2, rr2⟩ := trodAll_cons rr1
  obtain ⟨v3, vs3, d3, ds3, p3, q3, rfl, rfl, rfl, h3, rr3⟩ := trodAll_cons rr2
  obtain ⟨rfl, rfl, rfl⟩ := trodAll_nil rr3
  obtain rfl : args = #[v0, v1, v2, v3] := by cases args; simp_all
  obtain ⟨rfl, rfl⟩ := trodVars_none hV
  have k0 := h0
  have lt0 : ∀ x ∈ p0, x.block < W.heap.size := by obtain ⟨m, hm⟩ := k0; exact DataW.trod_lt m _ _ _ hm
  obtain ⟨A0, n0, c0, rfl, hx0⟩ := open_intsl Tryz.underlying31 Tryz.underlying3 (by kernel_rfl) (hval 0 31 v0 rfl rfl) h0
  have k1 := h1
  have lt1 : ∀ x ∈ p1, x.block < W.heap.size := by obtain ⟨m, hm⟩ := k1; exact DataW.trod_lt m _ _ _ hm
  obtain ⟨x1, rfl, hx1⟩ := open_i64 Tryz.underlying3 (hval 1 3 v1 rfl rfl) h1
  have k2 := h2
  have lt2 : ∀ x ∈ p2, x.block < W.heap.size := by obtain ⟨m, hm⟩ := k2; exact DataW.trod_lt m _ _ _ hm
  obtain ⟨x2, rfl, hx2⟩ := open_i64 Tryz.underlying3 (hval 2 3 v2 rfl rfl) h2
  have k3 := h3
  have lt3 : ∀ x ∈ p3, x.block < W.heap.size := by obtain ⟨m, hm⟩ := k3; exact DataW.trod_lt m _ _ _ hm
  obtain ⟨x3, rfl, hx3⟩ := open_i64 Tryz.underlying3 (hval 3 3 v3 rfl rfl) h3
  clear hA0 hval0
  refine (walkSealTurned A0 n0 c0 x1 x2 x3 W hx0 hx1 hx2 hx3 (laidTab hL) hsh).mono fun e W' ⟨he, bel⟩ => ?_
  subst he
  exact ⟨_, rfl, _, _, _, [], _, [], hW', trodAll_mk1 (shut_bool Tryz.underlying4 _), (trodAll_cons_mk (Below.trod laidOut (by kernel_rfl) (of_decide_eq_true (by kernel_rfl)) k0 bel lt0) (trodAll_cons_mk (Below.trod laidOut (by kernel_rfl) (of_decide_eq_true (by kernel_rfl)) k1 bel lt1) (trodAll_cons_mk (Below.trod laidOut (by kernel_rfl) (of_decide_eq_true (by kernel_rfl)) k2 bel lt2) (trodAll_cons_mk (Below.trod laidOut (by kernel_rfl) (of_decide_eq_true (by kernel_rfl)) k3 bel lt3) trodAll_mk0)))), rfl, bel.frame _, fun h => by cases h⟩
set_option maxRecDepth 100000 in
theorem lifted (os : Os) (started : os.Started) (H : Type) (enc : TypeId × Value → H) (F : Stop.Interp) :
    ReturnsInHanded {} Tryz.checked os 5 .any ((OpenSpec.ofChange Rows.sealTurnedSpec).preRow enc Tryz.prog Tryz.f5 Rows.sealTurnedRow.domain false Rows.sealTurnedRow.laid) (((OpenSpec.ofChange Rows.sealTurnedSpec).at F).post enc Tryz.prog Tryz.f5 false true false false) := by
  obtain ⟨places, hx⟩ := reads os enc
  refine returnsInHanded_of_row (C := Tryz.checked) (s := OpenSpec.ofChange Rows.sealTurnedSpec) own started (by kernel_rfl) Tryz.func5
    (witness_row_at (enc := enc) (C := Tryz.checked) false (laidWorld os) #[.slice none 0 0, .int .i64 0, .int .i64 0, .int .i64 0] rfl (by kernel_rfl) (by kernel_rfl) (by kernel_rfl)
      (OpenSpec.preRow_of_cond 8 hx (by kernel_rfl) (fun k hk => by cases hk) (by kernel_rfl) (laid_met os))) ?_
  intro W base args ds gs before hval hW _ _ _ hL hsh _
  exact contract H enc W base args ds gs before hval hW hL hsh
theorem said : Rows.SealTurnedSaid :=
  OpenClaim.holds_of_cond 5 Tryz.f5 rfl rfl rfl rfl rfl rfl rfl ⟨rfl, rfl, rfl, rfl, rfl⟩ rfl rfl rfl rfl rfl (by kernel_rfl) Tryz.func5 (by kernel_rfl)
    (of_decide_eq_true (by kernel_rfl)) (by unfold Func.isWrapper; first | (rw [if_pos (by decide +kernel)]; kernel_rfl) | (rw [if_neg (by decide +kernel)]; exact ⟨rfl, rfl⟩))
    (fun os started H enc _ F => by rw [OpenClaim.pre_eq_preRow]; exact lifted os started H enc F)
theorem plain (f : FuncId) (fn : Func) (hf : Tryz.pinned.checked.prog.funcNamed "bagnall/bagnallkeep.SealTurned" = some f) (hfn : Tryz.pinned.checked.prog.funcs[f]? = some fn) :
    false = Tryz.pinned.checked.prog.looks [] ∧ ∀ (j : Nat) t, fn.params[j]? = some t → Tryz.pinned.checked.prog.wantsStandIn t = false := by
  obtain rfl : f = 5 := Option.some.inj ((show Tryz.prog.funcNamed "bagnall/bagnallkeep.SealTurned" = some 5 by kernel_rfl).symm.trans hf) |>.symm
  obtain rfl : fn = Tryz.f5 := (Option.some.inj (Tryz.func5.symm.trans hfn)).symm
  refine ⟨by kernel_rfl, fun j t ht => ?_⟩
  rw [Tryz.params5] at ht
  have hm := Array.mem_of_getElem? ht
  have hm2 : t = 31 ∨ t = 3 ∨ t = 3 ∨ t = 3 := by simpa using hm
  rcases hm2 with rfl | rfl | rfl | rfl
  · exact (show Tryz.prog.wantsStandIn 31 = false by kernel_rfl)
  · exact (show Tryz.prog.wantsStandIn 3 = false by kernel_rfl)
  · exact (show Tryz.prog.wantsStandIn 3 = false by kernel_rfl)
  · exact (show Tryz.prog.wantsStandIn 3 = false by kernel_rfl)
theorem proved : Rows.SealTurnedCardSaid :=
  Claim7.holds_tied_plain_at .later [] _ _ _ _ said (fun _ h => by cases h) (by kernel_rfl) (fun _ h => by cases h) sealTurned_row_tie rfl ⟨rfl, rfl⟩ (by kernel_rfl) rfl plain (by kernel_rfl)
#print axioms proved
end sealTurned
end Go.Proofs.YtgghncgefhanjaaGreatDoor
