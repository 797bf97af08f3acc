/- Proved here: for every list of integers and all secrets and nonces, the signatures of two users in an object of the list's are valid, also when the other's or something unsigned is added, unless the object has no room (statement SealGood). No condition. -/
import Derived.Test.YthkbeliplibiaaaGreatDoorBunU
import Derived.Test.YthkbeliplibiaaaGreatDoorOpenI
import Derived.Test.YthkbeliplibiaaaGreatDoorLaid
import Derived.Test.YthkbeliplibiaaaGreatDoorBunV
import Derived.Test.YthkbeliplibiaaaGreatDoorRgU
import Derived.BigQuiet
import Derived.BigRegion
namespace Go.Proofs.YthkbeliplibiaaaGreatDoor
set_option linter.unusedVariables false
set_option linter.unusedSimpArgs false
open Go.RowKit
attribute [local go_sem high] str_mk
theorem VIn.num_ {w : World} {B : Nat} {v : JV} {k n : Int} {r : List Value} (h : VIn w B v (.int .i64 k :: .int .i64 n :: r)) : v.num = n := by
  cases v; unfold VIn at h; obtain ⟨_, _, _, _, _, e, _⟩ := h; injection e with _ e; injection e with e1 _; injection e1 with _ e1; exact e1.symm
theorem drew_setCell (w : World) (a : Addr) (v : Value) : w.drew.setCell a v = (w.setCell a v).drew := rfl
set_option maxRecDepth 100000 in
set_option maxHeartbeats 4000000 in
theorem walkSealGood (A0 : Option Addr) (n0 c0 : Nat) (x1 : Int) (x2 : Int) (x3 : Int) (x4 : Int) (w : World) (hx0 : IntsAt w w.heap.size A0 n0 c0) (hx1 : -9223372036854775808 ≤ x1 ∧ x1 ≤ 9223372036854775807) (hx2 : -9223372036854775808 ≤ x2 ∧ x2 ≤ 9223372036854775807) (hx3 : -9223372036854775808 ≤ x3 ∧ x3 ≤ 9223372036854775807) (hx4 : -9223372036854775808 ≤ x4 ∧ x4 ≤ 9223372036854775807) (htab : Tab w.heap.size w) (hsh : w.ShapedOpen Tryz.prog) :
    Calls Tryz.prog 4 #[.slice A0 n0 c0, .int .i64 x1, .int .i64 x2, .int .i64 x3, .int .i64 x4] w fun e w' => e = .returned (.bool true) ∧ Below w.heap.size w w' := by
  have hgl := Gl.of hsh
  have Hctx := Lib.hid (fun W (hW : Below w.heap.size w W) => And.intro (htab.on hW).here (hgl.below hW))
  clear htab hgl hsh
  go_enter Tryz.func4, Tryz.ntmps4
  go_wp2_with fail
  refine (objectOf_any A0 n0 c0 w.heap.size w (Nat.le_refl _) hx0).mono ?_
  rintro e y1 ⟨v, cs, rfl, hv, hO, B⟩
  obtain ⟨k1, n1, t1, Ak1, nk1, ck1, Ap1, np1, cp1, rfl⟩ := hv.form
  have V1 := VBx.new hv
  have hA1 : Below y1.heap.size y1 (y1.alloc (.cells #[.int .i64 k1, .int .i64 n1, str t1, .slice Ak1 nk1 ck1, .slice Ap1 np1 cp1] 25)) := (Below.refl _ _).alloc (Nat.le_refl _) _
  replace B := B.trans (hA1.mono B.size)
  clear hA1
  clear hv
  go_wp2_with fail
  generalize y1.alloc (.cells #[.int .i64 k1, .int .i64 n1, str t1, .slice Ak1 nk1 ck1, .slice Ap1 np1 cp1] 25) = Y1 at *
  generalize y1.heap.size = g1 at *
  refine (fits_any v _ Y1 g1 (Nat.le_of_lt V1.lt) V1.val (Hctx.out _ B).1 hO).mono ?_
  rintro e y2 ⟨rfl, hb⟩
  replace V1 := V1.below hb
  replace B := B.trans (hb.mono B.size)
  clear hb
  by_cases hf : (jtext v).length < 400
  · rw [decide_eq_true hf]
    have h0 := hO.obj (by omega)
    have hc1 := S1_ok (u := uA) (.inl rfl) (sigOf_is (secOf x1) (secOf x2) (jtext v))
    have hc2 := S2_ok (sigOf_is (secOf x1) (secOf x2) (jtext v)) (sigOf_is (secOf x3) (secOf x4) (jtext v))
    have P1 := Lib.hid (put_one h0 (sec_of x1) (sec_of x2) (.inl rfl : uA = uA ∨ uA = uB))
    have P2 := Lib.hid (put_twoB h0 (sec_of x3) (sec_of x4) (sigOf_is (secOf x1) (secOf x2) (jtext v)))
    have U := uns_says h0 hc2
    have K1 := Lib.hid (chk_in (u := uA) h0 hc1 (sec_of x1) (sec_of x2) (.inl rfl) (get_S1 _ _))
    have K2 := Lib.hid (chk_in (u := uA) h0 hc2 (sec_of x1) (sec_of x2) (.inl rfl) (get_S2A _ _))
    have K3 := Lib.hid (chk_in (u := uB) h0 hc2 (sec_of x3) (sec_of x4) (.inr rfl) (get_S2B _ _))
    have K4 := Lib.hid (chk_good (sec_of x1) (sec_of x2) (.inl rfl : uA = uA ∨ uA = uB) U.1 U.2.1 h0.len (by rw [U.2.2.1 [uA, kE]]; exact get_S2A _ _))
    have K5 := Lib.hid (chk_none ((pw 4 (secOf x1) % 7823 : Nat) : Int) (.inl rfl : uA = uA ∨ uA = uB) h0.says.1 (h0.plain.get sigK [uA, kE] h0.sig))
    have N0 := Lib.hid h0.count
    have N1 := Lib.hid (h0.sealed_count hc1)
    have N2 := Lib.hid (h0.sealed_count hc2)
    have N4 := Lib.hid U.2.2.2
    have GK := Lib.hid (good_keys (S := S2 (sigOf (secOf x1) (secOf x2) (jtext v)) (sigOf (secOf x3) (secOf x4) (jtext v))) hO)
    have Hlen := Lib.hid (h0.sealed hc2).len
    have HJ := Lib.hid (show insO sigK v (S2 (sigOf (secOf x1) (secOf x2) (jtext v)) (sigOf (secOf x3) (secOf x4) (jtext v))) = .mk 7 0 [] (insO sigK v (S2 (sigOf (secOf x1) (secOf x2) (jtext v)) (sigOf (secOf x3) (secOf x4) (jtext v)))).keys (insO sigK v (S2 (sigOf (secOf x1) (secOf x2) (jtext v)) (sigOf (secOf x3) (secOf x4) (jtext v)))).parts from rfl)
    obtain ⟨p1, Hp1⟩ : ∃ p, Hid (pw 4 (secOf x1) % 7823 = p) := ⟨_, Lib.hid rfl⟩
    obtain ⟨p3, Hp3⟩ : ∃ p, Hid (pw 4 (secOf x3) % 7823 = p) := ⟨_, Lib.hid rfl⟩
    rw [Hp1.out] at K1 K2 K4 K5
    rw [Hp3.out] at K3
    clear hc1 hc2 hO h0 hf U
    generalize insO sigK v (S1 uA (sigOf (secOf x1) (secOf x2) (jtext v))) = J1 at *
    generalize insO sigK v (S2 (sigOf (secOf x1) (secOf x2) (jtext v)) (sigOf (secOf x3) (secOf x4) (jtext v))) = J2 at *
    obtain ⟨p10, p11, p12, p13, p14⟩ := V1.cells
    have lt1 := V1.lt
    go_wp2_with fail
    clear p10 p11 p12 p13 p14 lt1
    refine (sealedBy_ok P1.out _ _ g1 (Nat.le_of_lt V1.lt) V1.val (Hctx.out _ B).1 (Hctx.out _ B).2 N0.out (by decide)).mono ?_
    rintro e y3 ⟨k2, n2, t2, Ak2, nk2, ck2, Ap2, np2, cp2, rfl, hv, hb⟩
    rw [Hp1.out]
    replace V1 := V1.below hb
    replace B := B.trans (hb.mono B.size)
    clear hb
    replace hv := VOw.toV _ _ _ hv
    have hwg2 : w.heap.size ≤ y3.heap.size := B.size
    have V2 := VBx.new hv
    have hA2 : Below y3.heap.size y3 (y3.alloc (.cells #[.int .i64 k2, .int .i64 n2, str t2, .slice Ak2 nk2 ck2, .slice Ap2 np2 cp2] 25)) := (Below.refl _ _).alloc (Nat.le_refl _) _
    replace V1 := V1.below hA2
    replace B := B.trans (hA2.mono B.size)
    clear hA2
    clear hv
    go_wp2_with fail
    generalize y3.alloc (.cells #[.int .i64 k2, .int .i64 n2, str t2, .slice Ak2 nk2 ck2, .slice Ap2 np2 cp2] 25) = Y2 at *
    generalize y3.heap.size = g2 at *
    refine (sealedBy_ok P2.out _ _ g2 (Nat.le_of_lt V2.lt) V2.val (Hctx.out _ B).1 (Hctx.out _ B).2 N1.out (by decide)).mono ?_
    rintro e y4 ⟨k3, n3, t3, Ak3, nk3, ck3, Ap3, np3, cp3, rfl, hv, hb⟩
    rw [Hp3.out]
    replace V1 := V1.below hb
    replace V2 := V2.below hb
    replace B := B.trans (hb.mono B.size)
    clear hb
    replace hv := VOw.toV _ _ _ hv
    have hwg3 : w.heap.size ≤ y4.heap.size := B.size
    have V3 := VBx.new hv
    have hA3 : Below y4.heap.size y4 (y4.alloc (.cells #[.int .i64 k3, .int .i64 n3, str t3, .slice Ak3 nk3 ck3, .slice Ap3 np3 cp3] 25)) := (Below.refl _ _).alloc (Nat.le_refl _) _
    replace V1 := V1.below hA3
    replace V2 := V2.below hA3
    replace B := B.trans (hA3.mono B.size)
    clear hA3
    clear hv
    go_wp2_with fail
    generalize y4.alloc (.cells #[.int .i64 k3, .int .i64 n3, str t3, .slice Ak3 nk3 ck3, .slice Ap3 np3 cp3] 25) = Y3 at *
    generalize y4.heap.size = g3 at *
    refine (signSure_any _).mono ?_
    rintro e y5 ⟨rfl, hb⟩
    replace V1 := V1.below hb
    replace V2 := V2.below hb
    replace V3 := V3.below hb
    replace B := B.trans (hb.mono B.size)
    clear hb P1 P2
    have hnm := V3.val.num_
    have hk7 := V3.val.kind
    have htx := V3.val.text_
    rw [HJ.out] at hnm hk7 htx
    have hk7' : (7 : Int) = k3 := hk7
    have hnm' : (0 : Int) = n3 := hnm
    have htx' : [] = t3 := htx
    subst hk7' hnm' htx'
    clear hk7 hnm htx
    obtain ⟨pc, hnk, hnp, hkb, hpb, hks, hHk, hHp, hPi⟩ := V3.val.opened
    have hnp' : np3 = nk3 := by rw [hnk, hnp, Hlen.out]
    subst hnp'
    have hnk5 : np3 ≤ 5 ∧ 0 < np3 := by rcases GK.out with ⟨q, hq, hq2, _⟩ | ⟨hq, _⟩ <;> omega
    obtain ⟨hnk5, hnk0⟩ := hnk5
    have hlt3 : g3 < y5.heap.size := V3.lt
    have hlt2 : g2 < y5.heap.size := V2.lt
    have hlt1 : g1 < y5.heap.size := V1.lt
    have hnk5b := hnk5
    have hs8 : (y5.alloc (.cells #[.int .i64 7, .int .i64 0, str [], .slice Ak3 np3 ck3, .slice Ap3 np3 cp3] 25)).heap.size = y5.heap.size + 1 := by simp
    have hB8 : Below y5.heap.size y5 (y5.alloc (.cells #[.int .i64 7, .int .i64 0, str [], .slice Ak3 np3 ck3, .slice Ap3 np3 cp3] 25)) := (Below.refl _ _).alloc (Nat.le_refl _) _
    have hbC := Blk.new y5 25 #[.int .i64 7, .int .i64 0, str [], .slice Ak3 np3 ck3, .slice Ap3 np3 cp3]
    obtain ⟨A1, c1, y6, hr1, ho1, hg1⟩ : ∃ A1 c1 y6, (Builtin.append_ #[22, 22] 22 #[.slice none 0 0, .slice Ak3 np3 ck3]).run Tryz.prog (y5.alloc (.cells #[.int .i64 7, .int .i64 0, str [], .slice Ak3 np3 ck3, .slice Ap3 np3 cp3] 25)) = .ok (.slice A1 np3 c1) y6 ∧ y6.ownsRow (y5.heap.size + 1) 9 1 (.slice A1 np3 c1) np3 (J2.keys.map str) ∧ (y5.alloc (.cells #[.int .i64 7, .int .i64 0, str [], .slice Ak3 np3 ck3, .slice Ap3 np3 cp3] 25)).grownBy y6 none := by
      have := app_keys (W := (y5.alloc (.cells #[.int .i64 7, .int .i64 0, str [], .slice Ak3 np3 ck3, .slice Ap3 np3 cp3] 25))) (base := y5.heap.size + 1) (l := []) (B := g3) (ck := ck3) (World.ownsRow_nil _ _ _ _) (hHk.below (hB8.mono (by omega))) hnk hnk0 (by simp; omega) (by rw [hs8]; omega) 22
      simpa [Value.ownBlock] using this
    have hBy6 : Below (y5.heap.size + 1) (y5.alloc (.cells #[.int .i64 7, .int .i64 0, str [], .slice Ak3 np3 ck3, .slice Ap3 np3 cp3] 25)) y6 := (Below.refl _ _).grown hg1 (by rw [hs8]; omega) (fun k hk => by cases hk)
    have hb6 := hbC.grown hg1 (by simp)
    have hs6 : y5.heap.size + 1 ≤ y6.heap.size := by have := hBy6.size; rw [hs8] at this; exact this
    have hlu := Blk.new y6 9 #[str [117, 110, 115, 105, 103, 110, 101, 100]]
    have hHu : Holds (y6.alloc (.cells #[str [117, 110, 115, 105, 103, 110, 101, 100]] 9)) (y6.heap.size + 1) 1 (some ⟨y6.heap.size, 0, none⟩) 1 ([unsK].map str) := ⟨rfl, fun _ => ⟨y6.heap.size, 0, rfl, by omega, fun j u hu => by rw [Nat.zero_add, hlu.cell j]; simpa [unsK] using hu⟩⟩
    obtain ⟨A2, c2, y7, hr2, ho2, hg2⟩ : ∃ A2 c2 y7, (Builtin.append_ #[22, 22] 22 #[.slice A1 np3 c1, .slice (some ⟨y6.heap.size, 0, none⟩) 1 1]).run Tryz.prog (y6.alloc (.cells #[str [117, 110, 115, 105, 103, 110, 101, 100]] 9)) = .ok (.slice A2 (np3 + 1) c2) y7 ∧ y7.ownsRow (y5.heap.size + 1) 9 1 (.slice A2 (np3 + 1) c2) (np3 + 1) ((J2.keys ++ [unsK]).map str) ∧ (y6.alloc (.cells #[str [117, 110, 115, 105, 103, 110, 101, 100]] 9)).grownBy y7 (Value.slice A1 np3 c1).ownBlock := by
      have := app_keys (W := y6.alloc (.cells #[str [117, 110, 115, 105, 103, 110, 101, 100]] 9)) (base := y5.heap.size + 1) (l := J2.keys) (v := .slice A1 np3 c1) (ck := 1) (by rw [← hnk]; exact ho1.alloc _) hHu rfl (by omega) (by omega) (by simp; omega) 22
      rw [← hnk] at this
      exact this
    have hb7 := (hb6.alloc (.cells #[str [117, 110, 115, 105, 103, 110, 101, 100]] 9)).grown hg2 (fun e => by have := (World.ownsRow.lt ho1 _ e.symm).1; omega)
    have hBy7 : Below (y5.heap.size + 1) y6 y7 := ((Below.refl _ _).alloc hs6 _).trans ((Below.refl _ _).grown hg2 (by simp; omega) (fun k hk => (World.ownsRow.lt ho1 k hk).1))
    have hs7 : y5.heap.size + 1 ≤ y7.heap.size := Nat.le_trans hs6 hBy7.size
    have hB7 : Below y5.heap.size y5 (y7.setCell ⟨y5.heap.size, 3, none⟩ (.slice A2 (np3 + 1) c2)) := (((hB8.trans (hBy6.mono (by omega))).trans (hBy7.mono (by omega)))).setCell (p := ⟨y5.heap.size, 3, none⟩) (Nat.le_refl _) _
    have hb7s := hb7.set_ 3 (.slice A2 (np3 + 1) c2)
    have ho2s := ownsRow_setCell_below ho2 (a := ⟨y5.heap.size, 3, none⟩) (by show y5.heap.size < y5.heap.size + 1; omega) (.slice A2 (np3 + 1) c2)
    have hs7s : (y7.setCell ⟨y5.heap.size, 3, none⟩ (.slice A2 (np3 + 1) c2)).heap.size = y7.heap.size := by simp [World.setCell]
    obtain ⟨A3, c3, y8, hr3, ho3, hg3⟩ : ∃ A3 c3 y8, (Builtin.append_ #[23, 23] 23 #[.slice none 0 0, .slice Ap3 np3 cp3]).run Tryz.prog (y7.setCell ⟨y5.heap.size, 3, none⟩ (.slice A2 (np3 + 1) c2)) = .ok (.slice A3 np3 c3) y8 ∧ y8.ownsRow (y5.heap.size + 1) 25 5 (.slice A3 np3 c3) np3 pc ∧ (y7.setCell ⟨y5.heap.size, 3, none⟩ (.slice A2 (np3 + 1) c2)).grownBy y8 none := by
      have := app_parts (W := (y7.setCell ⟨y5.heap.size, 3, none⟩ (.slice A2 (np3 + 1) c2))) (base := y5.heap.size + 1) (xs := []) (n := 0) (B := g3) (cp := cp3) (World.ownsRow_nil _ _ _ _) (hHp.below (hB7.mono (by omega))) (hPi.below (hB7.mono (by omega))) hnp hnk0 (by omega) (by rw [hs7s]; omega) 23
      simpa [Value.ownBlock] using this
    have hBy8 : Below (y5.heap.size + 1) (y7.setCell ⟨y5.heap.size, 3, none⟩ (.slice A2 (np3 + 1) c2)) y8 := (Below.refl _ _).grown hg3 (by rw [hs7s]; omega) (fun k hk => by cases hk)
    have hb8 := hb7s.grown hg3 (by simp)
    have hs8' : y5.heap.size + 1 ≤ y8.heap.size := by have := hBy8.size; rw [hs7s] at this; omega
    have hlv := Blk.new y8 25 #[.int .i64 4, .int .i64 5, str [], .slice none 0 0, .slice none 0 0]
    have hHv : Holds (y8.alloc (.cells #[.int .i64 4, .int .i64 5, str [], .slice none 0 0, .slice none 0 0] 25)) (y8.heap.size + 1) 5 (some ⟨y8.heap.size, 0, none⟩) 1 fiveC := ⟨rfl, fun _ => ⟨y8.heap.size, 0, rfl, by omega, fun j u hu => by rw [Nat.zero_add, hlv.cell j]; simpa [fiveC] using hu⟩⟩
    obtain ⟨A4, c4, y9, hr4, ho4, hg4⟩ : ∃ A4 c4 y9, (Builtin.append_ #[23, 23] 23 #[.slice A3 np3 c3, .slice (some ⟨y8.heap.size, 0, none⟩) 1 1]).run Tryz.prog (y8.alloc (.cells #[.int .i64 4, .int .i64 5, str [], .slice none 0 0, .slice none 0 0] 25)) = .ok (.slice A4 (np3 + 1) c4) y9 ∧ y9.ownsRow (y5.heap.size + 1) 25 5 (.slice A4 (np3 + 1) c4) (np3 + 1) (pc ++ fiveC) ∧ (y8.alloc (.cells #[.int .i64 4, .int .i64 5, str [], .slice none 0 0, .slice none 0 0] 25)).grownBy y9 (Value.slice A3 np3 c3).ownBlock :=
      app_parts (W := y8.alloc (.cells #[.int .i64 4, .int .i64 5, str [], .slice none 0 0, .slice none 0 0] 25)) (base := y5.heap.size + 1) (v := .slice A3 np3 c3) (cp := 1) (ps := [nuJ 5]) (ho3.alloc _) hHv (by unfold PIn; exact ⟨fiveC, [], by simp, nu5_in _ _, by unfold PIn; rfl⟩) rfl (by omega) (by omega) (by simp; omega) 23
    have hb9 := (hb8.alloc (.cells #[.int .i64 4, .int .i64 5, str [], .slice none 0 0, .slice none 0 0] 25)).grown hg4 (fun e => by have := (World.ownsRow.lt ho3 _ e.symm).1; omega)
    have hBy9 : Below (y5.heap.size + 1) y8 y9 := ((Below.refl _ _).alloc hs8' _).trans ((Below.refl _ _).grown hg4 (by simp; omega) (fun k hk => (World.ownsRow.lt ho3 k hk).1))
    have hk8 := World.ownsRow.kept ho2s hg3 (by cases (Value.slice A2 (np3 + 1) c2).ownBlock with | none => exact .inl rfl | some g => exact .inr (by simp))
    have hk9 := World.ownsRow.kept (hk8.alloc (.cells #[.int .i64 4, .int .i64 5, str [], .slice none 0 0, .slice none 0 0] 25)) hg4 (sl_apart hk8 ho3 (by decide))
    have hk9s := ownsRow_setCell_below hk9 (a := ⟨y5.heap.size, 4, none⟩) (by show y5.heap.size < y5.heap.size + 1; omega) (.slice A4 (np3 + 1) c4)
    have hp9s := ownsRow_setCell_below ho4 (a := ⟨y5.heap.size, 4, none⟩) (by show y5.heap.size < y5.heap.size + 1; omega) (.slice A4 (np3 + 1) c4)
    have hb9s := hb9.set_ 4 (.slice A4 (np3 + 1) c4)
    have hB9 : Below y5.heap.size y5 (y9.setCell ⟨y5.heap.size, 4, none⟩ (.slice A4 (np3 + 1) c4)) := ((hB7.trans (hBy8.mono (by omega))).trans (hBy9.mono (by omega))).setCell (p := ⟨y5.heap.size, 4, none⟩) (Nat.le_refl _) _
    obtain ⟨a0, a1, a2, a3, a4, -, -, -, -, -⟩ := sl_box (V3.below hB8).box
    obtain ⟨i0, i1, i2, i3, i4, j0, j1, j2, j3, j4⟩ := sl_box hb7
    have hV37 := V3.belowN (hB8.trans (hBy6.mono (by omega)) |>.trans (hBy7.mono (by omega))) hlt3
    obtain ⟨l0, l1, l2, l3, l4⟩ := hV37.cells
    obtain ⟨m0, m1, m2, m3, m4, o0, o1, o2, o3, o4⟩ := sl_box hb9
    obtain ⟨p30, p31, p32, p33, p34⟩ := V3.cells
    have hne : ¬ g3 = y5.heap.size := by omega
    have hne' : ¬ y5.heap.size = g3 := by omega
    have hz7 : y5.heap.size < y7.heap.size := by omega
    have hz9 : y5.heap.size < y9.heap.size := hb9.lt
    have hz73 : g3 < y7.heap.size := by omega
    have R1 := Lib.hid hr1
    have R2 := Lib.hid hr2
    have R3 := Lib.hid hr3
    have R4 := Lib.hid hr4
    have Hk9 := Lib.hid hk9s
    have Hp9 := Lib.hid hp9s
    have Hb9 := Lib.hid hb9s
    have HB9 := Lib.hid hB9
    have Hpi := Lib.hid (hPi.below (hB9.mono (by omega)))
    have Hnk := Lib.hid (And.intro hnk hnp)
    have Hks := Lib.hid hks
    clear hr1 hr2 hr3 hr4 ho1 ho2 ho3 ho4 hg1 hg2 hg3 hg4 hk8 hk9 hk9s hp9s hb9s hB9 hB7 hBy6 hBy7 hBy8 hBy9 hb6 hb7 hb7s hb8 hb9 hbC hlu hlv hHu hHv ho2s hs7s hs8 hs8' hs6 hs7 hV37 hB8 hHk hHp hPi hnk hnp hkb hpb hks
    go_wp2_with (first
      | (at_builtin; refine wpList_app rfl _ _ _ rfl _ _ (by rfl) (by rfl) R1.out ?_; clear R1)
      | (at_builtin; refine wpList_app rfl _ _ _ rfl _ _ (by rfl) (by rfl) R2.out ?_; clear R2)
      | (at_builtin; refine wpList_app rfl _ _ _ rfl _ _ (by rfl) (by rfl) R3.out ?_; clear R3)
      | (at_builtin; refine wpList_app rfl _ _ _ rfl _ _ (by rfl) (by rfl) R4.out ?_; clear R4))
    clear a0 a1 a2 a3 a4 i0 i1 i2 i3 i4 j0 j1 j2 j3 j4 l0 l1 l2 l3 l4 m0 m1 m2 m3 m4 o0 o1 o2 o3 o4 p30 p31 p32 p33 p34 hne hne' hz7 hz9 hz73
    have hbC : Blk (y9.setCell ⟨y5.heap.size, 4, none⟩ (.slice A4 (np3 + 1) c4)) y5.heap.size 25 #[.int .i64 7, .int .i64 0, str [], .slice A2 (np3 + 1) c2, .slice A4 (np3 + 1) c4] := Hb9.out
    have hk9 := Hk9.out
    have hp9 := Hp9.out
    have hPi := Hpi.out
    replace V1 := V1.belowN HB9.out hlt1
    replace V2 := V2.belowN HB9.out hlt2
    replace V3 := V3.belowN HB9.out hlt3
    replace B := B.trans (HB9.out.mono B.size)
    have hwg : w.heap.size ≤ g3 := hwg3
    clear Hb9 Hk9 Hp9 Hpi HB9
    generalize y9.setCell ⟨y5.heap.size, 4, none⟩ (.slice A4 (np3 + 1) c4) = YC at *
    generalize y5.heap.size = gC at *
    obtain ⟨bk, rfl, hbk1, hbk2⟩ := own_at hk9 (by omega)
    obtain ⟨bp, rfl, hbp1, hbp2⟩ := own_at hp9 (by omega)
    have hkp : bk ≠ bp := by rcases sl_apart hk9 hp9 (by decide) with h | h; cases h; exact fun e => h (by rw [e]; rfl)
    have RR : Rows2 YC (gC + 1) bk bp (np3 + 1) c2 c4 ((J2.keys ++ [unsK]).map str) (pc ++ fiveC) := ⟨hk9, hp9, hkp⟩
    have hpcl := (pin_one hPi).1
    have Hcc := Lib.hid (fun (W : World) (g : Nat) (J : JV) (cs : List Value) (u : List UInt8) (pub : Int) (hg : g ≤ W.heap.size) (hW : Below w.heap.size w W) (hv : VIn W g J cs) (hn : count J ≤ 1073741824) (hu : u.length ≤ maxLen) => sealCheck_any J cs u kE pub W g hg hv (Hctx.out _ hW).1 (Hctx.out _ hW).2 hn hu (by decide))
    rcases GK.out with ⟨q, hq4, hql, ⟨kl, hkl, hless⟩, hpl⟩ | ⟨hql, ⟨k3', hk3, hless3⟩, ⟨k4', hk4, hless4⟩, hpl⟩
    · have hq1 : np3 = q + 1 := by rw [Hnk.out.1, hql]
      subst hq1
      have hvC := uns_in (W := YC) (pl := q + 1) hpl.symm (by rw [show J2.keys.insertIdx (q + 1) unsK = J2.keys ++ [unsK] by rw [← hql]; exact insert_end _ _]; exact RR.keys) (by rw [List.take_of_length_le (by rw [hpcl, ← Hnk.out.2]; omega), List.drop_of_length_le (by rw [hpcl, ← Hnk.out.2]; omega), List.append_nil]; exact RR.parts) hPi (Nat.le_of_lt V3.lt) Hnk.out.1 Hnk.out.2 (by omega) Hks.out
      have hcl : YC.cell? ⟨bk, q, none⟩ = some (str kl) := by rw [RR.keys.cellAt q (by omega), List.getElem?_map, List.getElem?_append_left (by omega), hkl]; rfl
      have hcu : YC.cell? ⟨bk, q + 1, none⟩ = some (str [117, 110, 115, 105, 103, 110, 101, 100]) := by rw [RR.keys.cellAt (q + 1) (by omega), List.getElem?_map, List.getElem?_append_right (by omega), hql]; simp [unsK]
      have hless' : Op.bytesLess [117, 110, 115, 105, 103, 110, 101, 100] kl = false := hless
      clear GK hless hkl hpl RR hk9 hp9 hql
      go_loopg [19] 0 (fun gk i wr => gk = 0 ∧ i = .int .i64 ((q : Int) + 1) ∧ YC = wr)
      case atStart => exact ⟨rfl, by go_num, rfl⟩
      case round =>
        obtain ⟨_, rfl, rfl⟩ := hrel
        obtain ⟨o0, o1, o2, o3, o4, -, -, -, -, -⟩ := sl_box hbC
        have ltC := hbC.lt
        obtain ⟨p10, p11, p12, p13, p14⟩ := V1.cells
        obtain ⟨p20, p21, p22, p23, p24⟩ := V2.cells
        obtain ⟨p30, p31, p32, p33, p34⟩ := V3.cells
        have lt1 := V1.lt
        have lt2 := V2.lt
        have lt3 := V3.lt
        have hq0 : (0 : Int) < (q : Int) + 1 := by omega
        have hq2 : (q : Int) + 1 < (q : Int) + 1 + 1 := by omega
        have hq3 : (q : Int) < (q : Int) + 1 + 1 := by omega
        have hq6 : (q : Int) < ((q + 1 + 1 : Nat) : Int) := by omega
        have hq7 : (q : Int) + 1 < ((q + 1 + 1 : Nat) : Int) := by omega
        have hq8 : (0 : Int) ≤ (q : Int) + 1 := by omega
        have hq5 : (0 : Int) ≤ (q : Int) := by omega
        have hd0 : decide ((0 : Int) < (q : Int) + 1) = true := decide_eq_true (by omega)
        obtain ⟨nB, hnBe⟩ : ∃ nB, nB = YC.heap.size := ⟨_, rfl⟩
        rw [← hnBe] at hvC
        have hnB : nB ≤ YC.heap.size := by omega
        clear hnBe
        go_wp2_with fail
        go_quiet (fail)
        clear hcl hcu hPi
        have hdq : Below YC.heap.size YC (YC.drewN nq) := below_drewN (Below.refl _ _) nq
        clear p10 p11 p12 p13 p14 lt1 p20 p21 p22 p23 p24 lt2 p30 p31 p32 p33 p34 lt3
        clear o0 o1 o2 o3 o4 ltC
        replace V1 := V1.below hdq
        replace V2 := V2.below hdq
        replace V3 := V3.below hdq
        replace B := B.trans (hdq.mono B.size)
        replace hvC := hvC.below (hdq.mono hnB)
        replace hbC := hbC.below hdq hbC.lt
        replace hnB := Nat.le_trans hnB hdq.size
        clear hdq
        generalize YC.drewN nq = Yq at *
        obtain ⟨p10, p11, p12, p13, p14⟩ := V1.cells
        obtain ⟨p20, p21, p22, p23, p24⟩ := V2.cells
        obtain ⟨p30, p31, p32, p33, p34⟩ := V3.cells
        have lt1 := V1.lt
        have lt2 := V2.lt
        have lt3 := V3.lt
        obtain ⟨o0, o1, o2, o3, o4, -, -, -, -, -⟩ := sl_box hbC
        have ltC := hbC.lt
        go_wp2_with fail
        clear p10 p11 p12 p13 p14 lt1 p20 p21 p22 p23 p24 lt2 p30 p31 p32 p33 p34 lt3
        clear o0 o1 o2 o3 o4 ltC
        refine (Hcc.out _ g2 J1 _ uA _ (Nat.le_of_lt V2.lt) B V2.val N1.out (by decide)).mono ?_
        rintro e y20 ⟨rfl, hb⟩
        rw [K1.out]
        replace V1 := V1.below hb
        replace V2 := V2.below hb
        replace V3 := V3.below hb
        replace B := B.trans (hb.mono B.size)
        replace hvC := hvC.below (hb.mono hnB)
        replace hbC := hbC.below hb hbC.lt
        replace hnB := Nat.le_trans hnB hb.size
        clear hb
        obtain ⟨p10, p11, p12, p13, p14⟩ := V1.cells
        obtain ⟨p20, p21, p22, p23, p24⟩ := V2.cells
        obtain ⟨p30, p31, p32, p33, p34⟩ := V3.cells
        have lt1 := V1.lt
        have lt2 := V2.lt
        have lt3 := V3.lt
        obtain ⟨o0, o1, o2, o3, o4, -, -, -, -, -⟩ := sl_box hbC
        have ltC := hbC.lt
        go_wp2_with fail
        clear p10 p11 p12 p13 p14 lt1 p20 p21 p22 p23 p24 lt2 p30 p31 p32 p33 p34 lt3
        clear o0 o1 o2 o3 o4 ltC
        refine (Hcc.out _ g3 J2 _ uA _ (Nat.le_of_lt V3.lt) B V3.val N2.out (by decide)).mono ?_
        rintro e y21 ⟨rfl, hb⟩
        rw [K2.out]
        replace V1 := V1.below hb
        replace V2 := V2.below hb
        replace V3 := V3.below hb
        replace B := B.trans (hb.mono B.size)
        replace hvC := hvC.below (hb.mono hnB)
        replace hbC := hbC.below hb hbC.lt
        replace hnB := Nat.le_trans hnB hb.size
        clear hb
        obtain ⟨p10, p11, p12, p13, p14⟩ := V1.cells
        obtain ⟨p20, p21, p22, p23, p24⟩ := V2.cells
        obtain ⟨p30, p31, p32, p33, p34⟩ := V3.cells
        have lt1 := V1.lt
        have lt2 := V2.lt
        have lt3 := V3.lt
        obtain ⟨o0, o1, o2, o3, o4, -, -, -, -, -⟩ := sl_box hbC
        have ltC := hbC.lt
        go_wp2_with fail
        clear p10 p11 p12 p13 p14 lt1 p20 p21 p22 p23 p24 lt2 p30 p31 p32 p33 p34 lt3
        clear o0 o1 o2 o3 o4 ltC
        refine (Hcc.out _ g3 J2 _ uB _ (Nat.le_of_lt V3.lt) B V3.val N2.out (by decide)).mono ?_
        rintro e y22 ⟨rfl, hb⟩
        rw [K3.out]
        replace V1 := V1.below hb
        replace V2 := V2.below hb
        replace V3 := V3.below hb
        replace B := B.trans (hb.mono B.size)
        replace hvC := hvC.below (hb.mono hnB)
        replace hbC := hbC.below hb hbC.lt
        replace hnB := Nat.le_trans hnB hb.size
        clear hb
        obtain ⟨p10, p11, p12, p13, p14⟩ := V1.cells
        obtain ⟨p20, p21, p22, p23, p24⟩ := V2.cells
        obtain ⟨p30, p31, p32, p33, p34⟩ := V3.cells
        have lt1 := V1.lt
        have lt2 := V2.lt
        have lt3 := V3.lt
        obtain ⟨o0, o1, o2, o3, o4, -, -, -, -, -⟩ := sl_box hbC
        have ltC := hbC.lt
        go_wp2_with fail
        clear p10 p11 p12 p13 p14 lt1 p20 p21 p22 p23 p24 lt2 p30 p31 p32 p33 p34 lt3
        clear o0 o1 o2 o3 o4 ltC
        refine (Hcc.out _ nB (insO unsK J2 (nuJ 5)) _ uA _ hnB B hvC N4.out (by decide)).mono ?_
        rintro e y23 ⟨rfl, hb⟩
        rw [K4.out]
        replace V1 := V1.below hb
        replace V2 := V2.below hb
        replace V3 := V3.below hb
        replace B := B.trans (hb.mono B.size)
        replace hvC := hvC.below (hb.mono hnB)
        replace hbC := hbC.below hb hbC.lt
        replace hnB := Nat.le_trans hnB hb.size
        clear hb
        obtain ⟨p10, p11, p12, p13, p14⟩ := V1.cells
        obtain ⟨p20, p21, p22, p23, p24⟩ := V2.cells
        obtain ⟨p30, p31, p32, p33, p34⟩ := V3.cells
        have lt1 := V1.lt
        have lt2 := V2.lt
        have lt3 := V3.lt
        obtain ⟨o0, o1, o2, o3, o4, -, -, -, -, -⟩ := sl_box hbC
        have ltC := hbC.lt
        go_wp2_with fail
        clear p10 p11 p12 p13 p14 lt1 p20 p21 p22 p23 p24 lt2 p30 p31 p32 p33 p34 lt3
        clear o0 o1 o2 o3 o4 ltC
        refine (Hcc.out _ g1 v _ uA _ (Nat.le_of_lt V1.lt) B V1.val N0.out (by decide)).mono ?_
        rintro e y24 ⟨rfl, hb⟩
        rw [K5.out]
        replace V1 := V1.below hb
        replace V2 := V2.below hb
        replace V3 := V3.below hb
        replace B := B.trans (hb.mono B.size)
        replace hvC := hvC.below (hb.mono hnB)
        replace hbC := hbC.below hb hbC.lt
        replace hnB := Nat.le_trans hnB hb.size
        clear hb
        go_wp2_with fail
        go_ret
        exact ⟨rfl, B⟩
    · have hq1 : np3 = 5 := by rw [Hnk.out.1, hql]
      subst hq1
      have hbC6 : Blk YC gC 25 #[.int .i64 7, .int .i64 0, str [], .slice (some ⟨bk, 0, none⟩) 6 c2, .slice (some ⟨bp, 0, none⟩) 6 c4] := hbC
      have RR6 : Rows2 YC (gC + 1) bk bp 6 c2 c4 ((J2.keys ++ [unsK]).map str) (pc ++ fiveC) := RR
      clear hbC RR
      have hbC := hbC6
      have RR := RR6
      clear hbC6 RR6
      have u4 : YC.cell? ⟨bk, 4, none⟩ = some (str k4') := by rw [RR.keys.cellAt 4 (by omega), List.getElem?_map, List.getElem?_append_left (by omega), hk4]; rfl
      have u5 : YC.cell? ⟨bk, 5, none⟩ = some (str [117, 110, 115, 105, 103, 110, 101, 100]) := by rw [RR.keys.cellAt 5 (by omega), List.getElem?_map, List.getElem?_append_right (by omega), hql]; simp [unsK]
      have hless3' : Op.bytesLess [117, 110, 115, 105, 103, 110, 101, 100] k3' = false := hless3
      have hless4' : Op.bytesLess [117, 110, 115, 105, 103, 110, 101, 100] k4' = true := hless4
      have HRR := Lib.hid RR
      have HPi := Lib.hid hPi
      have Hk34 := Lib.hid (And.intro hk3 (And.intro hk4 (And.intro hql hpl)))
      clear GK hless3 hless4 RR hk9 hp9 hk3 hk4 hpl hql hPi
      go_loopg [19] 1 (fun gk i wr => (gk = 1 ∧ i = .int .i64 5 ∧ YC = wr) ∨ (gk = 0 ∧ i = .int .i64 4 ∧ VIn wr wr.heap.size (insO unsK J2 (nuJ 5)) [.int .i64 7, .int .i64 0, str [], .slice (some ⟨bk, 0, none⟩) 6 c2, .slice (some ⟨bp, 0, none⟩) 6 c4] ∧ Blk wr gC 25 #[.int .i64 7, .int .i64 0, str [], .slice (some ⟨bk, 0, none⟩) 6 c2, .slice (some ⟨bp, 0, none⟩) 6 c4] ∧ VBx wr g1 v k1 n1 t1 Ak1 nk1 ck1 Ap1 np1 cp1 ∧ VBx wr g2 J1 k2 n2 t2 Ak2 nk2 ck2 Ap2 np2 cp2 ∧ VBx wr g3 J2 7 0 [] Ak3 5 ck3 Ap3 5 cp3 ∧ Below w.heap.size w wr ∧ wr.cell? ⟨bk, 3, none⟩ = some (str k3') ∧ wr.cell? ⟨bk, 4, none⟩ = some (str [117, 110, 115, 105, 103, 110, 101, 100])))
      case atStart => exact .inl ⟨rfl, by go_num, rfl⟩
      case round =>
        rcases hrel with ⟨hgk, rfl, rfl⟩ | ⟨hgk, rfl, hvC, hbC, V1, V2, V3, B, c3S, c4S⟩
        · obtain ⟨o0, o1, o2, o3, o4, z0, z1, z2, z3, z4⟩ := sl_box hbC
          have ltC := hbC.lt
          have ne1 : ¬ gC = bk := by omega
          have ne2 : ¬ gC = bp := by omega
          have ne3 : ¬ bk = gC := by omega
          have ne4 : ¬ bp = gC := by omega
          have ne5 : ¬ bp = bk := fun e => hkp e.symm
          have Hgk := Lib.hid hgk
          clear hgk
          go_wp2_with fail
          go_quiet (fail)
          have hdq : Below YC.heap.size YC (YC.drewN nq) := below_drewN (Below.refl _ _) nq
          have RR : Rows2 (YC.drewN nq) (gC + 1) bk bp 6 c2 c4 ((J2.keys ++ [unsK]).map str) (pc ++ fiveC) := ⟨sl_own_below HRR.out.keys hdq, sl_own_below HRR.out.parts hdq, HRR.out.ne⟩
          have hPi := HPi.out.below (hdq.mono (Nat.le_of_lt V3.lt))
          clear o0 o1 o2 o3 o4 z0 z1 z2 z3 z4 ltC u4 u5 HRR HPi
          replace V1 := V1.below hdq
          replace V2 := V2.below hdq
          replace V3 := V3.below hdq
          replace B := B.trans (hdq.mono B.size)
          replace hbC := hbC.below hdq hbC.lt
          replace hbk2 := Nat.lt_of_lt_of_le hbk2 hdq.size
          replace hbp2 := Nat.lt_of_lt_of_le hbp2 hdq.size
          clear hdq
          generalize YC.drewN nq = Yd at *
          obtain ⟨hk3, hk4, hql, hpl⟩ := Hk34.out
          obtain ⟨q20, ka, na, ta, Aka, nka, cka, Apa, npa, cpa, hpce, hq20⟩ := five_parts hPi Hnk.out.2.symm
          subst hpce
          have RS := swapW_rows RR (str [117, 110, 115, 105, 103, 110, 101, 100]) (str k4') (.int .i64 4) (.int .i64 5) (str []) (.slice none 0 0) (.slice none 0 0) (.int .i64 ka) (.int .i64 na) (str ta) (.slice Aka nka cka) (.slice Apa npa cpa)
          have BS := swapW_below (W := Yd) hbk1 hbp1 (str [117, 110, 115, 105, 103, 110, 101, 100]) (str k4') (.int .i64 4) (.int .i64 5) (str []) (.slice none 0 0) (.slice none 0 0) (.int .i64 ka) (.int .i64 na) (str ta) (.slice Aka nka cka) (.slice Apa npa cpa)
          have RS' : Rows2 (swapW Yd bk bp (str [117, 110, 115, 105, 103, 110, 101, 100]) (str k4') (.int .i64 4) (.int .i64 5) (str []) (.slice none 0 0) (.slice none 0 0) (.int .i64 ka) (.int .i64 na) (str ta) (.slice Aka nka cka) (.slice Apa npa cpa)) (gC + 1) bk bp 6 c2 c4 ((J2.keys.insertIdx 4 unsK).map str) ((q20 ++ [.int .i64 ka, .int .i64 na, str ta, .slice Aka nka cka, .slice Apa npa cpa]).take 20 ++ fiveC ++ (q20 ++ [.int .i64 ka, .int .i64 na, str ta, .slice Aka nka cka, .slice Apa npa cpa]).drop 20) := by
            have e1 := swap_keys (u := unsK) hql hk4
            have e2 := swap_parts hq20 (.int .i64 ka) (.int .i64 na) (str ta) (.slice Aka nka cka) (.slice Apa npa cpa) (.int .i64 4) (.int .i64 5) (str []) (.slice none 0 0) (.slice none 0 0)
            rw [← e1]
            show Rows2 _ _ _ _ _ _ _ _ ((q20 ++ [.int .i64 ka, .int .i64 na, str ta, .slice Aka nka cka, .slice Apa npa cpa]).take 20 ++ [.int .i64 4, .int .i64 5, str [], .slice none 0 0, .slice none 0 0] ++ (q20 ++ [.int .i64 ka, .int .i64 na, str ta, .slice Aka nka cka, .slice Apa npa cpa]).drop 20)
            rw [← e2]
            exact RS
          clear RS
          have f4 : Yd.frozen? ⟨bk, 4, none⟩ = false := RR.keys.frozenAt 4
          have f5 : Yd.frozen? ⟨bk, 5, none⟩ = false := RR.keys.frozenAt 5
          have f20 : Yd.frozen? ⟨bp, 20, none⟩ = false := RR.parts.frozenAt 20
          have f21 : Yd.frozen? ⟨bp, 21, none⟩ = false := RR.parts.frozenAt 21
          have f22 : Yd.frozen? ⟨bp, 22, none⟩ = false := RR.parts.frozenAt 22
          have f23 : Yd.frozen? ⟨bp, 23, none⟩ = false := RR.parts.frozenAt 23
          have f24 : Yd.frozen? ⟨bp, 24, none⟩ = false := RR.parts.frozenAt 24
          have f25 : Yd.frozen? ⟨bp, 25, none⟩ = false := RR.parts.frozenAt 25
          have f26 : Yd.frozen? ⟨bp, 26, none⟩ = false := RR.parts.frozenAt 26
          have f27 : Yd.frozen? ⟨bp, 27, none⟩ = false := RR.parts.frozenAt 27
          have f28 : Yd.frozen? ⟨bp, 28, none⟩ = false := RR.parts.frozenAt 28
          have f29 : Yd.frozen? ⟨bp, 29, none⟩ = false := RR.parts.frozenAt 29
          have u4 : Yd.cell? ⟨bk, 4, none⟩ = some (str k4') := by rw [RR.keys.cellAt 4 (by omega), List.getElem?_map, List.getElem?_append_left (by omega), hk4]; rfl
          have u5 : Yd.cell? ⟨bk, 5, none⟩ = some (str [117, 110, 115, 105, 103, 110, 101, 100]) := by rw [RR.keys.cellAt 5 (by omega), List.getElem?_map, List.getElem?_append_right (by omega), hql]; simp [unsK]
          have u20 : Yd.cell? ⟨bp, 20, none⟩ = some (.int .i64 ka) := by rw [RR.parts.cellAt 20 (by omega), List.append_assoc, List.getElem?_append_right (by omega), hq20]; simp [fiveC]
          have u21 : Yd.cell? ⟨bp, 21, none⟩ = some (.int .i64 na) := by rw [RR.parts.cellAt 21 (by omega), List.append_assoc, List.getElem?_append_right (by omega), hq20]; simp [fiveC]
          have u22 : Yd.cell? ⟨bp, 22, none⟩ = some (str ta) := by rw [RR.parts.cellAt 22 (by omega), List.append_assoc, List.getElem?_append_right (by omega), hq20]; simp [fiveC]
          have u23 : Yd.cell? ⟨bp, 23, none⟩ = some (.slice Aka nka cka) := by rw [RR.parts.cellAt 23 (by omega), List.append_assoc, List.getElem?_append_right (by omega), hq20]; simp [fiveC]
          have u24 : Yd.cell? ⟨bp, 24, none⟩ = some (.slice Apa npa cpa) := by rw [RR.parts.cellAt 24 (by omega), List.append_assoc, List.getElem?_append_right (by omega), hq20]; simp [fiveC]
          have u25 : Yd.cell? ⟨bp, 25, none⟩ = some (.int .i64 4) := by rw [RR.parts.cellAt 25 (by omega), List.append_assoc, List.getElem?_append_right (by omega), hq20]; simp [fiveC]
          have u26 : Yd.cell? ⟨bp, 26, none⟩ = some (.int .i64 5) := by rw [RR.parts.cellAt 26 (by omega), List.append_assoc, List.getElem?_append_right (by omega), hq20]; simp [fiveC]
          have u27 : Yd.cell? ⟨bp, 27, none⟩ = some (str []) := by rw [RR.parts.cellAt 27 (by omega), List.append_assoc, List.getElem?_append_right (by omega), hq20]; simp [fiveC]
          have u28 : Yd.cell? ⟨bp, 28, none⟩ = some (.slice none 0 0) := by rw [RR.parts.cellAt 28 (by omega), List.append_assoc, List.getElem?_append_right (by omega), hq20]; simp [fiveC]
          have u29 : Yd.cell? ⟨bp, 29, none⟩ = some (.slice none 0 0) := by rw [RR.parts.cellAt 29 (by omega), List.append_assoc, List.getElem?_append_right (by omega), hq20]; simp [fiveC]
          have V1S := V1.belowN BS (by omega)
          have V2S := V2.belowN BS (by omega)
          have V3S := V3.belowN BS (by omega)
          have bCS := hbC.below BS (by omega)
          have BwS := B.trans (BS.mono (by omega))
          have PiS := hPi.below (BS.mono (by omega))
          have hvS := uns_in (pl := 4) hpl.symm RS'.keys RS'.parts PiS (by have := V3S.lt; omega) Hnk.out.1 Hnk.out.2 (by omega) Hks.out
          have c3S : (swapW Yd bk bp (str [117, 110, 115, 105, 103, 110, 101, 100]) (str k4') (.int .i64 4) (.int .i64 5) (str []) (.slice none 0 0) (.slice none 0 0) (.int .i64 ka) (.int .i64 na) (str ta) (.slice Aka nka cka) (.slice Apa npa cpa)).cell? ⟨bk, 3, none⟩ = some (str k3') := by rw [RS'.keys.cellAt 3 (by omega), List.getElem?_map, ins_lt _ _ _ _ (by omega), hk3]; rfl
          have c4S : (swapW Yd bk bp (str [117, 110, 115, 105, 103, 110, 101, 100]) (str k4') (.int .i64 4) (.int .i64 5) (str []) (.slice none 0 0) (.slice none 0 0) (.int .i64 ka) (.int .i64 na) (str ta) (.slice Aka nka cka) (.slice Apa npa cpa)).cell? ⟨bk, 4, none⟩ = some (str [117, 110, 115, 105, 103, 110, 101, 100]) := by rw [RS'.keys.cellAt 4 (by omega), List.getElem?_map, ins_get _ _ _ (by omega)]; rfl
          have hbkS : bk < (swapW Yd bk bp (str [117, 110, 115, 105, 103, 110, 101, 100]) (str k4') (.int .i64 4) (.int .i64 5) (str []) (.slice none 0 0) (.slice none 0 0) (.int .i64 ka) (.int .i64 na) (str ta) (.slice Aka nka cka) (.slice Apa npa cpa)).heap.size := Nat.lt_of_lt_of_le hbk2 BS.size
          have hdd : Below (swapW Yd bk bp (str [117, 110, 115, 105, 103, 110, 101, 100]) (str k4') (.int .i64 4) (.int .i64 5) (str []) (.slice none 0 0) (.slice none 0 0) (.int .i64 ka) (.int .i64 na) (str ta) (.slice Aka nka cka) (.slice Apa npa cpa)).heap.size (swapW Yd bk bp (str [117, 110, 115, 105, 103, 110, 101, 100]) (str k4') (.int .i64 4) (.int .i64 5) (str []) (.slice none 0 0) (.slice none 0 0) (.int .i64 ka) (.int .i64 na) (str ta) (.slice Aka nka cka) (.slice Apa npa cpa)) (swapW Yd bk bp (str [117, 110, 115, 105, 103, 110, 101, 100]) (str k4') (.int .i64 4) (.int .i64 5) (str []) (.slice none 0 0) (.slice none 0 0) (.int .i64 ka) (.int .i64 na) (str ta) (.slice Aka nka cka) (.slice Apa npa cpa)).drew.drew := (Below.refl _ _).drew.drew
          have HSW := Lib.hid (show VIn (swapW Yd bk bp (str [117, 110, 115, 105, 103, 110, 101, 100]) (str k4') (.int .i64 4) (.int .i64 5) (str []) (.slice none 0 0) (.slice none 0 0) (.int .i64 ka) (.int .i64 na) (str ta) (.slice Aka nka cka) (.slice Apa npa cpa)).drew.drew (swapW Yd bk bp (str [117, 110, 115, 105, 103, 110, 101, 100]) (str k4') (.int .i64 4) (.int .i64 5) (str []) (.slice none 0 0) (.slice none 0 0) (.int .i64 ka) (.int .i64 na) (str ta) (.slice Aka nka cka) (.slice Apa npa cpa)).drew.drew.heap.size (insO unsK J2 (nuJ 5)) [.int .i64 7, .int .i64 0, str [], .slice (some ⟨bk, 0, none⟩) 6 c2, .slice (some ⟨bp, 0, none⟩) 6 c4] ∧ Blk (swapW Yd bk bp (str [117, 110, 115, 105, 103, 110, 101, 100]) (str k4') (.int .i64 4) (.int .i64 5) (str []) (.slice none 0 0) (.slice none 0 0) (.int .i64 ka) (.int .i64 na) (str ta) (.slice Aka nka cka) (.slice Apa npa cpa)).drew.drew gC 25 #[.int .i64 7, .int .i64 0, str [], .slice (some ⟨bk, 0, none⟩) 6 c2, .slice (some ⟨bp, 0, none⟩) 6 c4] ∧ VBx (swapW Yd bk bp (str [117, 110, 115, 105, 103, 110, 101, 100]) (str k4') (.int .i64 4) (.int .i64 5) (str []) (.slice none 0 0) (.slice none 0 0) (.int .i64 ka) (.int .i64 na) (str ta) (.slice Aka nka cka) (.slice Apa npa cpa)).drew.drew g1 v k1 n1 t1 Ak1 nk1 ck1 Ap1 np1 cp1 ∧ VBx (swapW Yd bk bp (str [117, 110, 115, 105, 103, 110, 101, 100]) (str k4') (.int .i64 4) (.int .i64 5) (str []) (.slice none 0 0) (.slice none 0 0) (.int .i64 ka) (.int .i64 na) (str ta) (.slice Aka nka cka) (.slice Apa npa cpa)).drew.drew g2 J1 k2 n2 t2 Ak2 nk2 ck2 Ap2 np2 cp2 ∧ VBx (swapW Yd bk bp (str [117, 110, 115, 105, 103, 110, 101, 100]) (str k4') (.int .i64 4) (.int .i64 5) (str []) (.slice none 0 0) (.slice none 0 0) (.int .i64 ka) (.int .i64 na) (str ta) (.slice Aka nka cka) (.slice Apa npa cpa)).drew.drew g3 J2 7 0 [] Ak3 5 ck3 Ap3 5 cp3 ∧ Below w.heap.size w (swapW Yd bk bp (str [117, 110, 115, 105, 103, 110, 101, 100]) (str k4') (.int .i64 4) (.int .i64 5) (str []) (.slice none 0 0) (.slice none 0 0) (.int .i64 ka) (.int .i64 na) (str ta) (.slice Aka nka cka) (.slice Apa npa cpa)).drew.drew ∧ (swapW Yd bk bp (str [117, 110, 115, 105, 103, 110, 101, 100]) (str k4') (.int .i64 4) (.int .i64 5) (str []) (.slice none 0 0) (.slice none 0 0) (.int .i64 ka) (.int .i64 na) (str ta) (.slice Aka nka cka) (.slice Apa npa cpa)).drew.drew.cell? ⟨bk, 3, none⟩ = some (str k3') ∧ (swapW Yd bk bp (str [117, 110, 115, 105, 103, 110, 101, 100]) (str k4') (.int .i64 4) (.int .i64 5) (str []) (.slice none 0 0) (.slice none 0 0) (.int .i64 ka) (.int .i64 na) (str ta) (.slice Aka nka cka) (.slice Apa npa cpa)).drew.drew.cell? ⟨bk, 4, none⟩ = some (str [117, 110, 115, 105, 103, 110, 101, 100]) from ⟨VIn.wider hdd.size _ _ (hvS.below hdd), bCS.below hdd bCS.lt, V1S.below hdd, V2S.below hdd, V3S.below hdd, BwS.trans (hdd.mono BwS.size), (hdd.cell (p := ⟨bk, 3, none⟩) hbkS).trans c3S, (hdd.cell (p := ⟨bk, 4, none⟩) hbkS).trans c4S⟩)
          unfold swapW at HSW
          clear hbkS hdd RR RS' BS V1S V2S V3S bCS BwS PiS hvS c3S c4S hk3 hk4 hql hpl hq20 Hk34
          obtain ⟨o0, o1, o2, o3, o4, z0, z1, z2, z3, z4⟩ := sl_box hbC
          have ltC := hbC.lt
          go_wp2_with fail
          have hw4 : IntKind.i64.wrap 4 = 4 := by decide
          refine region_C (fun w' => w'.cell? ⟨gC, 3, none⟩ = some (.slice (some ⟨bk, 0, none⟩) 6 c2)) (fun w' => w'.cell? ⟨bk, 5, none⟩ = some (str [117, 110, 115, 105, 103, 110, 101, 100]) ∧ w'.cell? ⟨bk, 4, none⟩ = some (str k4')) [0, 1, 2, 3, 4, 5, 6, 7, 8, 9, 10, 12, 13, 14, 15, 16, 19, 20, 21] (by kernel_rfl) ?_
          have hT : Yd.drew.cell? ⟨gC, 3, none⟩ = some (.slice (some ⟨bk, 0, none⟩) 6 c2) := o3
          have hS : Yd.drew.cell? ⟨bk, 5, none⟩ = some (str [117, 110, 115, 105, 103, 110, 101, 100]) ∧ Yd.drew.cell? ⟨bk, 4, none⟩ = some (str k4') := ⟨u5, u4⟩
          have hbcd : Blk Yd.drew gC 25 _ := hbC
          have hbca : Blk (Yd.drew.setCell ⟨bk, 4, none⟩ (str [117, 110, 115, 105, 103, 110, 101, 100])) gC 25 _ := hbcd.far (by show gC ≠ bk; omega) _
          have hbcb : Blk ((Yd.drew.setCell ⟨bk, 4, none⟩ (str [117, 110, 115, 105, 103, 110, 101, 100])).setCell ⟨bk, 5, none⟩ (str k4')) gC 25 _ := hbca.far (by show gC ≠ bk; omega) _
          have hTa : (Yd.drew.setCell ⟨bk, 4, none⟩ (str [117, 110, 115, 105, 103, 110, 101, 100])).cell? ⟨gC, 3, none⟩ = some (.slice (some ⟨bk, 0, none⟩) 6 c2) := hbca.cell 3
          have hTb : ((Yd.drew.setCell ⟨bk, 4, none⟩ (str [117, 110, 115, 105, 103, 110, 101, 100])).setCell ⟨bk, 5, none⟩ (str k4')).cell? ⟨gC, 3, none⟩ = some (.slice (some ⟨bk, 0, none⟩) 6 c2) := hbcb.cell 3
          have fd4 : Yd.drew.frozen? ⟨bk, 4, none⟩ = false := f4
          have fd5 : Yd.drew.frozen? ⟨bk, 5, none⟩ = false := f5
          refine anyC_takeT 0 (v := .pointer (some ⟨gC, 3, none⟩)) rfl (by kernel_rfl) (by kernel_rfl) (by kernel_rfl) (by kernel_rfl) (fun _ _ _ h => h) (.inl ⟨by kernel_rfl, fun w' hS' => by kernel_rfl⟩) hT ?_
          refine anyC_takeT 1 (v := .slice (some ⟨bk, 0, none⟩) 6 c2) rfl (by kernel_rfl) (by kernel_rfl) (by kernel_rfl) (by kernel_rfl) (fun _ _ _ h => h) (.inl ⟨by kernel_rfl, fun w' hS' => by go_simp⟩) hT ?_
          refine anyC_takeT 2 (v := .int .i64 5) rfl (by kernel_rfl) (by kernel_rfl) (by kernel_rfl) (by kernel_rfl) (fun _ _ _ h => h) (.inl ⟨by kernel_rfl, fun w' hS' => by kernel_rfl⟩) hT ?_
          refine anyC_takeT 3 (v := .int .i64 4) rfl (by kernel_rfl) (by kernel_rfl) (by kernel_rfl) (by kernel_rfl) (fun _ _ _ h => h) (.inl ⟨by kernel_rfl, fun w' hS' => by kernel_rfl⟩) hT ?_
          refine anyC_takeT 4 (v := .pointer (some ⟨gC, 3, none⟩)) rfl (by kernel_rfl) (by kernel_rfl) (by kernel_rfl) (by kernel_rfl) (fun _ _ _ h => h) (.inl ⟨by kernel_rfl, fun w' hS' => by kernel_rfl⟩) hT ?_
          refine anyC_takeT 5 (v := .slice (some ⟨bk, 0, none⟩) 6 c2) rfl (by kernel_rfl) (by kernel_rfl) (by kernel_rfl) (by kernel_rfl) (fun _ _ _ h => h) (.inl ⟨by kernel_rfl, fun w' hS' => by go_simp⟩) hT ?_
          refine anyC_takeT 6 (v := .int .i64 5) rfl (by kernel_rfl) (by kernel_rfl) (by kernel_rfl) (by kernel_rfl) (fun _ _ _ h => h) (.inl ⟨by kernel_rfl, fun w' hS' => by kernel_rfl⟩) hT ?_
          refine anyC_takeT 7 (v := .pointer (some ⟨gC, 3, none⟩)) rfl (by kernel_rfl) (by kernel_rfl) (by kernel_rfl) (by kernel_rfl) (fun _ _ _ h => h) (.inl ⟨by kernel_rfl, fun w' hS' => by kernel_rfl⟩) hT ?_
          refine anyC_takeT 8 (v := .slice (some ⟨bk, 0, none⟩) 6 c2) rfl (by kernel_rfl) (by kernel_rfl) (by kernel_rfl) (by kernel_rfl) (fun _ _ _ h => h) (.inl ⟨by kernel_rfl, fun w' hS' => by go_simp⟩) hT ?_
          refine anyC_takeT 9 (v := .int .i64 5) rfl (by kernel_rfl) (by kernel_rfl) (by kernel_rfl) (by kernel_rfl) (fun _ _ _ h => h) (.inl ⟨by kernel_rfl, fun w' hS' => by kernel_rfl⟩) hT ?_
          refine anyC_takeT 10 (v := .pointer (some ⟨bk, 5, none⟩)) rfl (by kernel_rfl) (by kernel_rfl) (by kernel_rfl) (by kernel_rfl) (fun _ _ _ h => h) (.inl ⟨by kernel_rfl, fun w' hS' => by go_simp⟩) hT ?_
          refine anyC_takeT 12 (v := .pointer (some ⟨gC, 3, none⟩)) rfl (by kernel_rfl) (by kernel_rfl) (by kernel_rfl) (by kernel_rfl) (fun _ _ _ h => h) (.inl ⟨by kernel_rfl, fun w' hS' => by kernel_rfl⟩) hT ?_
          refine anyC_takeT 13 (v := .slice (some ⟨bk, 0, none⟩) 6 c2) rfl (by kernel_rfl) (by kernel_rfl) (by kernel_rfl) (by kernel_rfl) (fun _ _ _ h => h) (.inl ⟨by kernel_rfl, fun w' hS' => by go_simp⟩) hT ?_
          refine anyC_takeT 14 (v := .int .i64 5) rfl (by kernel_rfl) (by kernel_rfl) (by kernel_rfl) (by kernel_rfl) (fun _ _ _ h => h) (.inl ⟨by kernel_rfl, fun w' hS' => by kernel_rfl⟩) hT ?_
          refine anyC_takeT 15 (v := .int .i64 4) rfl (by kernel_rfl) (by kernel_rfl) (by kernel_rfl) (by kernel_rfl) (fun _ _ _ h => h) (.inl ⟨by kernel_rfl, fun w' hS' => by kernel_rfl⟩) hT ?_
          refine anyC_takeT 16 (v := .pointer (some ⟨bk, 4, none⟩)) rfl (by kernel_rfl) (by kernel_rfl) (by kernel_rfl) (by kernel_rfl) (fun _ _ _ h => h) (.inl ⟨by kernel_rfl, fun w' hS' => by go_simp⟩) hT ?_
          refine anyC_takeS 11 (v := str [117, 110, 115, 105, 103, 110, 101, 100]) rfl (by kernel_rfl) (by kernel_rfl) (by kernel_rfl) (by kernel_rfl) (fun _ _ _ h => h) (.inl ⟨by kernel_rfl, fun w' hS' => by have s1 := hS'.1; have s2 := hS'.2.1; have s3 := hS'.2.2; go_simp⟩) ⟨hT, hS⟩ ?_
          refine anyC_takeS 17 (v := str k4') rfl (by kernel_rfl) (by kernel_rfl) (by kernel_rfl) (by kernel_rfl) (fun _ _ _ h => h) (.inl ⟨by kernel_rfl, fun w' hS' => by have s1 := hS'.1; have s2 := hS'.2.1; have s3 := hS'.2.2; go_simp⟩) ⟨hT, hS⟩ ?_
          refine anyC_one 18 rfl (by kernel_rfl) rfl ?_
          intro K1 hK1
          go_simp
          refine hK1 _ _ ⟨⟨hT, fun _ => hS⟩, ?_⟩
          refine anyC_one 19 rfl (by kernel_rfl) rfl ?_
          intro K2 hK2
          go_simp
          refine hK2 _ _ ⟨⟨hTa, fun h => absurd (by decide) h⟩, ?_⟩
          refine anyC_one 20 rfl (by kernel_rfl) rfl ?_
          intro K3 hK3
          go_simp
          refine hK3 _ _ ⟨⟨hTa, fun h => absurd (by decide) h⟩, ?_⟩
          refine anyC_one 21 rfl (by kernel_rfl) rfl ?_
          intro K4 hK4
          go_simp
          refine hK4 _ _ ⟨⟨hTb, fun h => absurd (by decide) h⟩, ?_⟩
          refine anyC_done (by kernel_rfl) ?_
          clear hS hT
          go_wp2_with fail
          clear hTa hTb hbca hbcb hbcd fd4 fd5 hw4
          have hw4 : IntKind.i64.wrap 4 = 4 := by decide
          obtain ⟨Yq, hYq⟩ : ∃ Yq, Yq = ((Yd.setCell ⟨bk, 4, none⟩ (str [117, 110, 115, 105, 103, 110, 101, 100])).setCell ⟨bk, 5, none⟩ (str k4')).drew.drew := ⟨_, rfl⟩
          have hheap : ∀ k, k ≠ bk → Yq.heap[k]? = Yd.heap[k]? := fun k hk => by rw [hYq]; exact (Below.heap_setCell _ _ _ _ (fun e => hk e)).trans (Below.heap_setCell _ _ _ _ (fun e => hk e))
          have hcl : ∀ p : Addr, p.block ≠ bk → Yq.cell? p = Yd.cell? p := fun p hp => World.cell?_of_block (hheap _ hp)
          have hfz : ∀ p : Addr, p.block ≠ bk → Yq.frozen? p = Yd.frozen? p := fun p hp => by simp only [World.frozen?]; rw [hheap _ hp]
          have hbq : Blk Yq gC 25 _ := (hheap gC ne1).trans hbC
          refine region_C (fun w' => w'.cell? ⟨gC, 4, none⟩ = some (.slice (some ⟨bp, 0, none⟩) 6 c4)) (fun w' => w'.cell? ⟨bp, 20, none⟩ = some (.int .i64 ka) ∧ w'.cell? ⟨bp, 21, none⟩ = some (.int .i64 na) ∧ w'.cell? ⟨bp, 22, none⟩ = some (str ta) ∧ w'.cell? ⟨bp, 23, none⟩ = some (.slice Aka nka cka) ∧ w'.cell? ⟨bp, 24, none⟩ = some (.slice Apa npa cpa) ∧ w'.cell? ⟨bp, 25, none⟩ = some (.int .i64 4) ∧ w'.cell? ⟨bp, 26, none⟩ = some (.int .i64 5) ∧ w'.cell? ⟨bp, 27, none⟩ = some (str []) ∧ w'.cell? ⟨bp, 28, none⟩ = some (.slice none 0 0) ∧ w'.cell? ⟨bp, 29, none⟩ = some (.slice none 0 0)) [0, 1, 2, 3, 4, 5, 6, 7, 8, 9, 10, 12, 13, 14, 15, 16, 19, 20, 21] (by kernel_rfl) ?_
          rw [← hYq]
          have HYq := Lib.hid hYq
          have hT : Yq.cell? ⟨gC, 4, none⟩ = some (.slice (some ⟨bp, 0, none⟩) 6 c4) := hbq.cell 4
          have hS : Yq.cell? ⟨bp, 20, none⟩ = some (.int .i64 ka) ∧ Yq.cell? ⟨bp, 21, none⟩ = some (.int .i64 na) ∧ Yq.cell? ⟨bp, 22, none⟩ = some (str ta) ∧ Yq.cell? ⟨bp, 23, none⟩ = some (.slice Aka nka cka) ∧ Yq.cell? ⟨bp, 24, none⟩ = some (.slice Apa npa cpa) ∧ Yq.cell? ⟨bp, 25, none⟩ = some (.int .i64 4) ∧ Yq.cell? ⟨bp, 26, none⟩ = some (.int .i64 5) ∧ Yq.cell? ⟨bp, 27, none⟩ = some (str []) ∧ Yq.cell? ⟨bp, 28, none⟩ = some (.slice none 0 0) ∧ Yq.cell? ⟨bp, 29, none⟩ = some (.slice none 0 0) := ⟨(hcl _ ne5).trans u20, (hcl _ ne5).trans u21, (hcl _ ne5).trans u22, (hcl _ ne5).trans u23, (hcl _ ne5).trans u24, (hcl _ ne5).trans u25, (hcl _ ne5).trans u26, (hcl _ ne5).trans u27, (hcl _ ne5).trans u28, (hcl _ ne5).trans u29⟩
          have g20 : Yq.frozen? ⟨bp, 20, none⟩ = false := (hfz _ ne5).trans f20
          have g21 : Yq.frozen? ⟨bp, 21, none⟩ = false := (hfz _ ne5).trans f21
          have g22 : Yq.frozen? ⟨bp, 22, none⟩ = false := (hfz _ ne5).trans f22
          have g23 : Yq.frozen? ⟨bp, 23, none⟩ = false := (hfz _ ne5).trans f23
          have g24 : Yq.frozen? ⟨bp, 24, none⟩ = false := (hfz _ ne5).trans f24
          have g25 : Yq.frozen? ⟨bp, 25, none⟩ = false := (hfz _ ne5).trans f25
          have g26 : Yq.frozen? ⟨bp, 26, none⟩ = false := (hfz _ ne5).trans f26
          have g27 : Yq.frozen? ⟨bp, 27, none⟩ = false := (hfz _ ne5).trans f27
          have g28 : Yq.frozen? ⟨bp, 28, none⟩ = false := (hfz _ ne5).trans f28
          have g29 : Yq.frozen? ⟨bp, 29, none⟩ = false := (hfz _ ne5).trans f29
          have x20 : Yq.cell? ⟨bp, 20, none⟩ = some (.int .i64 ka) := (hcl _ ne5).trans u20
          have x21 : Yq.cell? ⟨bp, 21, none⟩ = some (.int .i64 na) := (hcl _ ne5).trans u21
          have x22 : Yq.cell? ⟨bp, 22, none⟩ = some (str ta) := (hcl _ ne5).trans u22
          have x23 : Yq.cell? ⟨bp, 23, none⟩ = some (.slice Aka nka cka) := (hcl _ ne5).trans u23
          have x24 : Yq.cell? ⟨bp, 24, none⟩ = some (.slice Apa npa cpa) := (hcl _ ne5).trans u24
          have x25 : Yq.cell? ⟨bp, 25, none⟩ = some (.int .i64 4) := (hcl _ ne5).trans u25
          have x26 : Yq.cell? ⟨bp, 26, none⟩ = some (.int .i64 5) := (hcl _ ne5).trans u26
          have x27 : Yq.cell? ⟨bp, 27, none⟩ = some (str []) := (hcl _ ne5).trans u27
          have x28 : Yq.cell? ⟨bp, 28, none⟩ = some (.slice none 0 0) := (hcl _ ne5).trans u28
          have x29 : Yq.cell? ⟨bp, 29, none⟩ = some (.slice none 0 0) := (hcl _ ne5).trans u29
          have hbq5 : Blk (((((Yq.setCell ⟨bp, 20, none⟩ (.int .i64 4)).setCell ⟨bp, 21, none⟩ (.int .i64 5)).setCell ⟨bp, 22, none⟩ (str [])).setCell ⟨bp, 23, none⟩ (.slice none 0 0)).setCell ⟨bp, 24, none⟩ (.slice none 0 0)) gC 25 _ := ((((hbq.far (p := ⟨bp, 20, none⟩) ne2 _).far (p := ⟨bp, 21, none⟩) ne2 _).far (p := ⟨bp, 22, none⟩) ne2 _).far (p := ⟨bp, 23, none⟩) ne2 _).far (p := ⟨bp, 24, none⟩) ne2 _
          have hbq6 : Blk ((((((((((Yq.setCell ⟨bp, 20, none⟩ (.int .i64 4)).setCell ⟨bp, 21, none⟩ (.int .i64 5)).setCell ⟨bp, 22, none⟩ (str [])).setCell ⟨bp, 23, none⟩ (.slice none 0 0)).setCell ⟨bp, 24, none⟩ (.slice none 0 0)).setCell ⟨bp, 25, none⟩ (.int .i64 ka)).setCell ⟨bp, 26, none⟩ (.int .i64 na)).setCell ⟨bp, 27, none⟩ (str ta)).setCell ⟨bp, 28, none⟩ (.slice Aka nka cka)).setCell ⟨bp, 29, none⟩ (.slice Apa npa cpa)) gC 25 _ := ((((hbq5.far (p := ⟨bp, 25, none⟩) ne2 _).far (p := ⟨bp, 26, none⟩) ne2 _).far (p := ⟨bp, 27, none⟩) ne2 _).far (p := ⟨bp, 28, none⟩) ne2 _).far (p := ⟨bp, 29, none⟩) ne2 _
          have hTa : (((((Yq.setCell ⟨bp, 20, none⟩ (.int .i64 4)).setCell ⟨bp, 21, none⟩ (.int .i64 5)).setCell ⟨bp, 22, none⟩ (str [])).setCell ⟨bp, 23, none⟩ (.slice none 0 0)).setCell ⟨bp, 24, none⟩ (.slice none 0 0)).cell? ⟨gC, 4, none⟩ = some (.slice (some ⟨bp, 0, none⟩) 6 c4) := hbq5.cell 4
          have hTb : ((((((((((Yq.setCell ⟨bp, 20, none⟩ (.int .i64 4)).setCell ⟨bp, 21, none⟩ (.int .i64 5)).setCell ⟨bp, 22, none⟩ (str [])).setCell ⟨bp, 23, none⟩ (.slice none 0 0)).setCell ⟨bp, 24, none⟩ (.slice none 0 0)).setCell ⟨bp, 25, none⟩ (.int .i64 ka)).setCell ⟨bp, 26, none⟩ (.int .i64 na)).setCell ⟨bp, 27, none⟩ (str ta)).setCell ⟨bp, 28, none⟩ (.slice Aka nka cka)).setCell ⟨bp, 29, none⟩ (.slice Apa npa cpa)).cell? ⟨gC, 4, none⟩ = some (.slice (some ⟨bp, 0, none⟩) 6 c4) := hbq6.cell 4
          clear hheap hcl hfz hbq hbq5 hbq6 hYq u20 f20 u21 f21 u22 f22 u23 f23 u24 f24 u25 f25 u26 f26 u27 f27 u28 f28 u29 f29 u4 u5 f4 f5
          refine anyC_takeT 0 (v := .pointer (some ⟨gC, 4, none⟩)) rfl (by kernel_rfl) (by kernel_rfl) (by kernel_rfl) (by kernel_rfl) (fun _ _ _ h => h) (.inl ⟨by kernel_rfl, fun w' hS' => by kernel_rfl⟩) hT ?_
          refine anyC_takeT 1 (v := .slice (some ⟨bp, 0, none⟩) 6 c4) rfl (by kernel_rfl) (by kernel_rfl) (by kernel_rfl) (by kernel_rfl) (fun _ _ _ h => h) (.inl ⟨by kernel_rfl, fun w' hS' => by go_simp⟩) hT ?_
          refine anyC_takeT 2 (v := .int .i64 5) rfl (by kernel_rfl) (by kernel_rfl) (by kernel_rfl) (by kernel_rfl) (fun _ _ _ h => h) (.inl ⟨by kernel_rfl, fun w' hS' => by kernel_rfl⟩) hT ?_
          refine anyC_takeT 3 (v := .int .i64 4) rfl (by kernel_rfl) (by kernel_rfl) (by kernel_rfl) (by kernel_rfl) (fun _ _ _ h => h) (.inl ⟨by kernel_rfl, fun w' hS' => by kernel_rfl⟩) hT ?_
          refine anyC_takeT 4 (v := .pointer (some ⟨gC, 4, none⟩)) rfl (by kernel_rfl) (by kernel_rfl) (by kernel_rfl) (by kernel_rfl) (fun _ _ _ h => h) (.inl ⟨by kernel_rfl, fun w' hS' => by kernel_rfl⟩) hT ?_
          refine anyC_takeT 5 (v := .slice (some ⟨bp, 0, none⟩) 6 c4) rfl (by kernel_rfl) (by kernel_rfl) (by kernel_rfl) (by kernel_rfl) (fun _ _ _ h => h) (.inl ⟨by kernel_rfl, fun w' hS' => by go_simp⟩) hT ?_
          refine anyC_takeT 6 (v := .int .i64 5) rfl (by kernel_rfl) (by kernel_rfl) (by kernel_rfl) (by kernel_rfl) (fun _ _ _ h => h) (.inl ⟨by kernel_rfl, fun w' hS' => by kernel_rfl⟩) hT ?_
          refine anyC_takeT 7 (v := .pointer (some ⟨gC, 4, none⟩)) rfl (by kernel_rfl) (by kernel_rfl) (by kernel_rfl) (by kernel_rfl) (fun _ _ _ h => h) (.inl ⟨by kernel_rfl, fun w' hS' => by kernel_rfl⟩) hT ?_
          refine anyC_takeT 8 (v := .slice (some ⟨bp, 0, none⟩) 6 c4) rfl (by kernel_rfl) (by kernel_rfl) (by kernel_rfl) (by kernel_rfl) (fun _ _ _ h => h) (.inl ⟨by kernel_rfl, fun w' hS' => by go_simp⟩) hT ?_
          refine anyC_takeT 9 (v := .int .i64 5) rfl (by kernel_rfl) (by kernel_rfl) (by kernel_rfl) (by kernel_rfl) (fun _ _ _ h => h) (.inl ⟨by kernel_rfl, fun w' hS' => by kernel_rfl⟩) hT ?_
          refine anyC_takeT 10 (v := .pointer (some ⟨bp, 25, none⟩)) rfl (by kernel_rfl) (by kernel_rfl) (by kernel_rfl) (by kernel_rfl) (fun _ _ _ h => h) (.inl ⟨by kernel_rfl, fun w' hS' => by go_simp⟩) hT ?_
          refine anyC_takeT 12 (v := .pointer (some ⟨gC, 4, none⟩)) rfl (by kernel_rfl) (by kernel_rfl) (by kernel_rfl) (by kernel_rfl) (fun _ _ _ h => h) (.inl ⟨by kernel_rfl, fun w' hS' => by kernel_rfl⟩) hT ?_
          refine anyC_takeT 13 (v := .slice (some ⟨bp, 0, none⟩) 6 c4) rfl (by kernel_rfl) (by kernel_rfl) (by kernel_rfl) (by kernel_rfl) (fun _ _ _ h => h) (.inl ⟨by kernel_rfl, fun w' hS' => by go_simp⟩) hT ?_
          refine anyC_takeT 14 (v := .int .i64 5) rfl (by kernel_rfl) (by kernel_rfl) (by kernel_rfl) (by kernel_rfl) (fun _ _ _ h => h) (.inl ⟨by kernel_rfl, fun w' hS' => by kernel_rfl⟩) hT ?_
          refine anyC_takeT 15 (v := .int .i64 4) rfl (by kernel_rfl) (by kernel_rfl) (by kernel_rfl) (by kernel_rfl) (fun _ _ _ h => h) (.inl ⟨by kernel_rfl, fun w' hS' => by kernel_rfl⟩) hT ?_
          refine anyC_takeT 16 (v := .pointer (some ⟨bp, 20, none⟩)) rfl (by kernel_rfl) (by kernel_rfl) (by kernel_rfl) (by kernel_rfl) (fun _ _ _ h => h) (.inl ⟨by kernel_rfl, fun w' hS' => by go_simp⟩) hT ?_
          refine anyC_takeS 11 (v := .agg #[.int .i64 4, .int .i64 5, str [], .slice none 0 0, .slice none 0 0]) rfl (by kernel_rfl) (by kernel_rfl) (by kernel_rfl) (by kernel_rfl) (fun _ _ _ h => h) (.inl ⟨by kernel_rfl, fun w' hS' => by obtain ⟨s1, t0, t1', t2', t3', t4', t5', t6', t7', t8', t9'⟩ := hS'; go_simp⟩) ⟨hT, hS⟩ ?_
          refine anyC_takeS 17 (v := .agg #[.int .i64 ka, .int .i64 na, str ta, .slice Aka nka cka, .slice Apa npa cpa]) rfl (by kernel_rfl) (by kernel_rfl) (by kernel_rfl) (by kernel_rfl) (fun _ _ _ h => h) (.inl ⟨by kernel_rfl, fun w' hS' => by obtain ⟨s1, t0, t1', t2', t3', t4', t5', t6', t7', t8', t9'⟩ := hS'; go_simp⟩) ⟨hT, hS⟩ ?_
          refine anyC_one 18 rfl (by kernel_rfl) rfl ?_
          intro K1 hK1
          go_simp
          refine hK1 _ _ ⟨⟨hT, fun _ => hS⟩, ?_⟩
          refine anyC_one 19 rfl (by kernel_rfl) rfl ?_
          intro K2 hK2
          go_simp
          refine hK2 _ _ ⟨⟨hTa, fun h => absurd (by decide) h⟩, ?_⟩
          refine anyC_one 20 rfl (by kernel_rfl) rfl ?_
          intro K3 hK3
          go_simp
          refine hK3 _ _ ⟨⟨hTa, fun h => absurd (by decide) h⟩, ?_⟩
          refine anyC_one 21 rfl (by kernel_rfl) rfl ?_
          intro K4 hK4
          go_simp
          refine hK4 _ _ ⟨⟨hTb, fun h => absurd (by decide) h⟩, ?_⟩
          refine anyC_done (by kernel_rfl) ?_
          clear hS hT hTa hTb g20 x20 g21 x21 g22 x22 g23 x23 g24 x24 g25 x25 g26 x26 g27 x27 g28 x28 g29 x29
          go_wp2_with fail
          go_roundg 0
          case measure => have := Hgk.out; omega
          case rel =>
            have hYq := HYq.out
            subst hYq
            simp only [drew_setCell]
            exact .inr ⟨trivial, trivial, HSW.out⟩
        · clear u4 u5 HRR HPi Hk34 hgk
          obtain ⟨o0, o1, o2, o3, o4, -, -, -, -, -⟩ := sl_box hbC
          have ltC := hbC.lt
          obtain ⟨p10, p11, p12, p13, p14⟩ := V1.cells
          obtain ⟨p20, p21, p22, p23, p24⟩ := V2.cells
          obtain ⟨p30, p31, p32, p33, p34⟩ := V3.cells
          have lt1 := V1.lt
          have lt2 := V2.lt
          have lt3 := V3.lt
          obtain ⟨nB, hnBe⟩ : ∃ nB, nB = wr.heap.size := ⟨_, rfl⟩
          rw [← hnBe] at hvC
          have hnB : nB ≤ wr.heap.size := by omega
          clear hnBe
          go_wp2_with fail
          go_quiet (fail)
          clear c3S c4S
          have hdq : Below wr.heap.size wr (wr.drewN nq) := below_drewN (Below.refl _ _) nq
          clear p10 p11 p12 p13 p14 lt1 p20 p21 p22 p23 p24 lt2 p30 p31 p32 p33 p34 lt3
          clear o0 o1 o2 o3 o4 ltC
          replace V1 := V1.below hdq
          replace V2 := V2.below hdq
          replace V3 := V3.below hdq
          replace B := B.trans (hdq.mono B.size)
          replace hvC := hvC.below (hdq.mono hnB)
          replace hbC := hbC.below hdq hbC.lt
          replace hnB := Nat.le_trans hnB hdq.size
          clear hdq
          generalize wr.drewN nq = Yq at *
          obtain ⟨p10, p11, p12, p13, p14⟩ := V1.cells
          obtain ⟨p20, p21, p22, p23, p24⟩ := V2.cells
          obtain ⟨p30, p31, p32, p33, p34⟩ := V3.cells
          have lt1 := V1.lt
          have lt2 := V2.lt
          have lt3 := V3.lt
          obtain ⟨o0, o1, o2, o3, o4, -, -, -, -, -⟩ := sl_box hbC
          have ltC := hbC.lt
          go_wp2_with fail
          clear p10 p11 p12 p13 p14 lt1 p20 p21 p22 p23 p24 lt2 p30 p31 p32 p33 p34 lt3
          clear o0 o1 o2 o3 o4 ltC
          refine (Hcc.out _ g2 J1 _ uA _ (Nat.le_of_lt V2.lt) B V2.val N1.out (by decide)).mono ?_
          rintro e y20 ⟨rfl, hb⟩
          rw [K1.out]
          replace V1 := V1.below hb
          replace V2 := V2.below hb
          replace V3 := V3.below hb
          replace B := B.trans (hb.mono B.size)
          replace hvC := hvC.below (hb.mono hnB)
          replace hbC := hbC.below hb hbC.lt
          replace hnB := Nat.le_trans hnB hb.size
          clear hb
          obtain ⟨p10, p11, p12, p13, p14⟩ := V1.cells
          obtain ⟨p20, p21, p22, p23, p24⟩ := V2.cells
          obtain ⟨p30, p31, p32, p33, p34⟩ := V3.cells
          have lt1 := V1.lt
          have lt2 := V2.lt
          have lt3 := V3.lt
          obtain ⟨o0, o1, o2, o3, o4, -, -, -, -, -⟩ := sl_box hbC
          have ltC := hbC.lt
          go_wp2_with fail
          clear p10 p11 p12 p13 p14 lt1 p20 p21 p22 p23 p24 lt2 p30 p31 p32 p33 p34 lt3
          clear o0 o1 o2 o3 o4 ltC
          refine (Hcc.out _ g3 J2 _ uA _ (Nat.le_of_lt V3.lt) B V3.val N2.out (by decide)).mono ?_
          rintro e y21 ⟨rfl, hb⟩
          rw [K2.out]
          replace V1 := V1.below hb
          replace V2 := V2.below hb
          replace V3 := V3.below hb
          replace B := B.trans (hb.mono B.size)
          replace hvC := hvC.below (hb.mono hnB)
          replace hbC := hbC.below hb hbC.lt
          replace hnB := Nat.le_trans hnB hb.size
          clear hb
          obtain ⟨p10, p11, p12, p13, p14⟩ := V1.cells
          obtain ⟨p20, p21, p22, p23, p24⟩ := V2.cells
          obtain ⟨p30, p31, p32, p33, p34⟩ := V3.cells
          have lt1 := V1.lt
          have lt2 := V2.lt
          have lt3 := V3.lt
          obtain ⟨o0, o1, o2, o3, o4, -, -, -, -, -⟩ := sl_box hbC
          have ltC := hbC.lt
          go_wp2_with fail
          clear p10 p11 p12 p13 p14 lt1 p20 p21 p22 p23 p24 lt2 p30 p31 p32 p33 p34 lt3
          clear o0 o1 o2 o3 o4 ltC
          refine (Hcc.out _ g3 J2 _ uB _ (Nat.le_of_lt V3.lt) B V3.val N2.out (by decide)).mono ?_
          rintro e y22 ⟨rfl, hb⟩
          rw [K3.out]
          replace V1 := V1.below hb
          replace V2 := V2.below hb
          replace V3 := V3.below hb
          replace B := B.trans (hb.mono B.size)
          replace hvC := hvC.below (hb.mono hnB)
          replace hbC := hbC.below hb hbC.lt
          replace hnB := Nat.le_trans hnB hb.size
          clear hb
          obtain ⟨p10, p11, p12, p13, p14⟩ := V1.cells
          obtain ⟨p20, p21, p22, p23, p24⟩ := V2.cells
          obtain ⟨p30, p31, p32, p33, p34⟩ := V3.cells
          have lt1 := V1.lt
          have lt2 := V2.lt
          have lt3 := V3.lt
          obtain ⟨o0, o1, o2, o3, o4, -, -, -, -, -⟩ := sl_box hbC
          have ltC := hbC.lt
          go_wp2_with fail
          clear p10 p11 p12 p13 p14 lt1 p20 p21 p22 p23 p24 lt2 p30 p31 p32 p33 p34 lt3
          clear o0 o1 o2 o3 o4 ltC
          refine (Hcc.out _ nB (insO unsK J2 (nuJ 5)) _ uA _ hnB B hvC N4.out (by decide)).mono ?_
          rintro e y23 ⟨rfl, hb⟩
          rw [K4.out]
          replace V1 := V1.below hb
          replace V2 := V2.below hb
          replace V3 := V3.below hb
          replace B := B.trans (hb.mono B.size)
          replace hvC := hvC.below (hb.mono hnB)
          replace hbC := hbC.below hb hbC.lt
          replace hnB := Nat.le_trans hnB hb.size
          clear hb
          obtain ⟨p10, p11, p12, p13, p14⟩ := V1.cells
          obtain ⟨p20, p21, p22, p23, p24⟩ := V2.cells
          obtain ⟨p30, p31, p32, p33, p34⟩ := V3.cells
          have lt1 := V1.lt
          have lt2 := V2.lt
          have lt3 := V3.lt
          obtain ⟨o0, o1, o2, o3, o4, -, -, -, -, -⟩ := sl_box hbC
          have ltC := hbC.lt
          go_wp2_with fail
          clear p10 p11 p12 p13 p14 lt1 p20 p21 p22 p23 p24 lt2 p30 p31 p32 p33 p34 lt3
          clear o0 o1 o2 o3 o4 ltC
          refine (Hcc.out _ g1 v _ uA _ (Nat.le_of_lt V1.lt) B V1.val N0.out (by decide)).mono ?_
          rintro e y24 ⟨rfl, hb⟩
          rw [K5.out]
          replace V1 := V1.below hb
          replace V2 := V2.below hb
          replace V3 := V3.below hb
          replace B := B.trans (hb.mono B.size)
          replace hvC := hvC.below (hb.mono hnB)
          replace hbC := hbC.below hb hbC.lt
          replace hnB := Nat.le_trans hnB hb.size
          clear hb
          go_wp2_with fail
          go_ret
          exact ⟨rfl, B⟩
  · rw [decide_eq_false hf]
    go_wp2_with fail
    refine (signSure_any _).mono ?_
    rintro e y3 ⟨rfl, hb⟩
    go_wp2_with fail
    go_ret
    exact ⟨rfl, B.trans (hb.mono B.size)⟩
namespace sealGood
open Go.ChangeShapes Go.WideShapes Go.ChangeAt Go.RowKit
theorem own : ownKnob Tryz.prog.godebug = none := by kernel_rfl
theorem laidOut : laidOutB Tryz.prog = true := by kernel_rfl
set_option linter.unusedVariables false
theorem laid_met (os : Os) : laidMet Tryz.prog Rows.sealGoodRow.laid ((laidWorld os).forCall (fun _ _ => 0) ⟨#[], #[.slice none 0 0, .int .i64 0, .int .i64 0, .int .i64 0, .int .i64 0], []⟩).memory :=
  laidMet_of_run' 8 (by kernel_rfl) (by kernel_rfl)
theorem reads (os : Os) {H : Type} (enc : TypeId × Value → H) : ∃ places, DataW.whole enc Tryz.prog ((laidWorld os).forCall (fun _ _ => 0) ⟨#[], #[.slice none 0 0, .int .i64 0, .int .i64 0, .int .i64 0, .int .i64 0], []⟩).memory Tryz.f4.params.toList Rows.sealGoodSpec.vars false #[Value.slice none 0 0, Value.int .i64 0, Value.int .i64 0, Value.int .i64 0, Value.int .i64 0].toList 8 = some ([.nil, .lit (.int .i64 0), .lit (.int .i64 0), .lit (.int .i64 0), .lit (.int .i64 0)], [], places) :=
  ⟨[], by kernel_rfl⟩
set_option maxRecDepth 100000 in
theorem contract (H : Type) (enc : TypeId × Value → H) (W : World) (base : Nat) (args : Array Value) (ds gs : List (DataW H)) (before : List MemPlace)
    (hval0 : ∀ (j : Nat) t v, Tryz.f4.params[j]? = some t → args[j]? = some v → Value.okWide Tryz.prog W .any base t v)
    (hW : DataW.Whole enc Tryz.prog Tryz.f4.params.toList Rows.sealGoodSpec.vars false W args.toList ds gs before) (hL : laidMetH Tryz.prog Rows.sealGoodRow.laid W) (hsh : W.ShapedOpen Tryz.prog) :
    Calls Tryz.prog 4 args W fun e W' => ∃ v, e = .returned v ∧ Rows.sealGoodSpec.post enc Tryz.prog Tryz.f4 false true false false W args v W' := by
  have hval : ∀ (j : Nat) t v, Tryz.f4.params[j]? = some t → args[j]? = some v → Value.okWide Tryz.prog W .any base t v := hval0
  have hW' := hW
  obtain ⟨p, q, hA0, hV, rfl, hfz, hnd⟩ := hW
  have hA : DataW.TrodAll enc Tryz.prog W 0 (fun _ => true) true Tryz.f4.params.toList args.toList ds p := hA0
  rw [Tryz.params4] at hA hval
  obtain ⟨v0, vs0, d0, ds0, p0, q0, hargs, rfl, rfl, h0, rr0⟩ := trodAll_cons hA
  obtain ⟨v1, vs1, d1, ds1, p1, q1, rfl, rfl, rfl, h1, rr1⟩ := trodAll_cons rr0
  obtain ⟨v2, vs2, d2, ds2, p2, q2, rfl, rfl, rfl, h2, rr2⟩ := trodAll_cons rr1
  obtain ⟨v3, vs3, d3, ds3, p3, q3, rfl, rfl, rfl, h3, rr3⟩ := trodAll_cons rr2
  obtain ⟨v4, vs4, d4, ds4, p4, q4, rfl, rfl, rfl, h4, rr4⟩ := trodAll_cons rr3
  obtain ⟨rfl, rfl, rfl⟩ := trodAll_nil rr4
  obtain rfl : args = #[v0, v1, v2, v3, v4] := by cases args; simp_all
  obtain ⟨rfl, rfl⟩ := trodVars_none hV
  have k0 := h0
  have lt0 : ∀ x ∈ p0, x.block < W.heap.size := by obtain ⟨m, hm⟩ := k0; exact DataW.trod_lt m _ _ _ hm
  obtain ⟨A0, n0, c0, rfl, hx0⟩ := open_intsl Tryz.underlying31 Tryz.underlying3 (by kernel_rfl) (hval 0 31 v0 rfl rfl) h0
  have k1 := h1
  have lt1 : ∀ x ∈ p1, x.block < W.heap.size := by obtain ⟨m, hm⟩ := k1; exact DataW.trod_lt m _ _ _ hm
  obtain ⟨x1, rfl, hx1⟩ := open_i64 Tryz.underlying3 (hval 1 3 v1 rfl rfl) h1
  have k2 := h2
  have lt2 : ∀ x ∈ p2, x.block < W.heap.size := by obtain ⟨m, hm⟩ := k2; exact DataW.trod_lt m _ _ _ hm
  obtain ⟨x2, rfl, hx2⟩ := open_i64 Tryz.underlying3 (hval 2 3 v2 rfl rfl) h2
  have k3 := h3
  have lt3 : ∀ x ∈ p3, x.block < W.heap.size := by obtain ⟨m, hm⟩ := k3; exact DataW.trod_lt m _ _ _ hm
  obtain ⟨x3, rfl, hx3⟩ := open_i64 Tryz.underlying3 (hval 3 3 v3 rfl rfl) h3
  have k4 := h4
  have lt4 : ∀ x ∈ p4, x.block < W.heap.size := by obtain ⟨m, hm⟩ := k4; exact DataW.trod_lt m _ _ _ hm
  obtain ⟨x4, rfl, hx4⟩ := open_i64 Tryz.underlying3 (hval 4 3 v4 rfl rfl) h4
  clear hA0 hval0
  refine (walkSealGood A0 n0 c0 x1 x2 x3 x4 W hx0 hx1 hx2 hx3 hx4 (laidTab hL) hsh).mono fun e W' ⟨he, bel⟩ => ?_
  subst he
  exact ⟨_, rfl, _, _, _, [], _, [], hW', trodAll_mk1 (shut_bool Tryz.underlying4 _), (trodAll_cons_mk (Below.trod laidOut (by kernel_rfl) (of_decide_eq_true (by kernel_rfl)) k0 bel lt0) (trodAll_cons_mk (Below.trod laidOut (by kernel_rfl) (of_decide_eq_true (by kernel_rfl)) k1 bel lt1) (trodAll_cons_mk (Below.trod laidOut (by kernel_rfl) (of_decide_eq_true (by kernel_rfl)) k2 bel lt2) (trodAll_cons_mk (Below.trod laidOut (by kernel_rfl) (of_decide_eq_true (by kernel_rfl)) k3 bel lt3) (trodAll_cons_mk (Below.trod laidOut (by kernel_rfl) (of_decide_eq_true (by kernel_rfl)) k4 bel lt4) trodAll_mk0))))), rfl, bel.frame _, fun h => by cases h⟩
set_option maxRecDepth 100000 in
theorem lifted (os : Os) (started : os.Started) (H : Type) (enc : TypeId × Value → H) (F : Stop.Interp) :
    ReturnsInHanded {} Tryz.checked os 4 .any ((OpenSpec.ofChange Rows.sealGoodSpec).preRow enc Tryz.prog Tryz.f4 Rows.sealGoodRow.domain false Rows.sealGoodRow.laid) (((OpenSpec.ofChange Rows.sealGoodSpec).at F).post enc Tryz.prog Tryz.f4 false true false false) := by
  obtain ⟨places, hx⟩ := reads os enc
  refine returnsInHanded_of_row (C := Tryz.checked) (s := OpenSpec.ofChange Rows.sealGoodSpec) own started (by kernel_rfl) Tryz.func4
    (witness_row_at (enc := enc) (C := Tryz.checked) false (laidWorld os) #[.slice none 0 0, .int .i64 0, .int .i64 0, .int .i64 0, .int .i64 0] rfl (by kernel_rfl) (by kernel_rfl) (by kernel_rfl)
      (OpenSpec.preRow_of_cond 8 hx (by kernel_rfl) (fun k hk => by cases hk) (by kernel_rfl) (laid_met os))) ?_
  intro W base args ds gs before hval hW _ _ _ hL hsh _
  exact contract H enc W base args ds gs before hval hW hL hsh
theorem said : Rows.SealGoodSaid :=
  OpenClaim.holds_of_cond 4 Tryz.f4 rfl rfl rfl rfl rfl rfl rfl ⟨rfl, rfl, rfl, rfl, rfl⟩ rfl rfl rfl rfl rfl (by kernel_rfl) Tryz.func4 (by kernel_rfl)
    (of_decide_eq_true (by kernel_rfl)) (by unfold Func.isWrapper; first | (rw [if_pos (by decide +kernel)]; kernel_rfl) | (rw [if_neg (by decide +kernel)]; exact ⟨rfl, rfl⟩))
    (fun os started H enc _ F => by rw [OpenClaim.pre_eq_preRow]; exact lifted os started H enc F)
theorem plain (f : FuncId) (fn : Func) (hf : Tryz.pinned.checked.prog.funcNamed "bagnall/bagnallkeep.SealGood" = some f) (hfn : Tryz.pinned.checked.prog.funcs[f]? = some fn) :
    false = Tryz.pinned.checked.prog.looks [] ∧ ∀ (j : Nat) t, fn.params[j]? = some t → Tryz.pinned.checked.prog.wantsStandIn t = false := by
  obtain rfl : f = 4 := Option.some.inj ((show Tryz.prog.funcNamed "bagnall/bagnallkeep.SealGood" = some 4 by kernel_rfl).symm.trans hf) |>.symm
  obtain rfl : fn = Tryz.f4 := (Option.some.inj (Tryz.func4.symm.trans hfn)).symm
  refine ⟨by kernel_rfl, fun j t ht => ?_⟩
  rw [Tryz.params4] at ht
  have hm := Array.mem_of_getElem? ht
  have hm2 : t = 31 ∨ t = 3 ∨ t = 3 ∨ t = 3 ∨ t = 3 := by simpa using hm
  rcases hm2 with rfl | rfl | rfl | rfl | rfl
  · exact (show Tryz.prog.wantsStandIn 31 = false by kernel_rfl)
  · exact (show Tryz.prog.wantsStandIn 3 = false by kernel_rfl)
  · exact (show Tryz.prog.wantsStandIn 3 = false by kernel_rfl)
  · exact (show Tryz.prog.wantsStandIn 3 = false by kernel_rfl)
  · exact (show Tryz.prog.wantsStandIn 3 = false by kernel_rfl)
theorem proved : Rows.SealGoodCardSaid :=
  Claim7.holds_tied_plain_at .later [] _ _ _ _ said (fun _ h => by cases h) (by kernel_rfl) (fun _ h => by cases h) sealGood_row_tie rfl ⟨rfl, rfl⟩ (by kernel_rfl) rfl plain (by kernel_rfl)
#print axioms proved
end sealGood
end Go.Proofs.YthkbeliplibiaaaGreatDoor
