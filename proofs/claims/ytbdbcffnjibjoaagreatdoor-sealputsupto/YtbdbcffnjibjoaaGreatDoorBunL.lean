/- Joined texts: SlRefT, SlRefP, SlRefC. -/
import Derived.Test.YtbdbcffnjibjoaaGreatDoorSlText
import Derived.Test.YtbdbcffnjibjoaaGreatDoorSlPath
import Derived.Test.YtbdbcffnjibjoaaGreatDoorSlFind
import Derived.Test.YtbdbcffnjibjoaaGreatDoorBunJ
import Derived.Test.YtbdbcffnjibjoaaGreatDoorBunH
import Derived.Test.YtbdbcffnjibjoaaGreatDoorSlChk
import Derived.Test.YtbdbcffnjibjoaaGreatDoorBunF
import Derived.Test.YtbdbcffnjibjoaaGreatDoorBaseRefB
import Derived.Deep.RegionHeld3
import Derived.Deep.RegionHeld
import Derived.Deep.DeepFit
import Derived.IntWalk
/- SealText, sealNames and partOf of the reference: what each call returns. -/
namespace Go.Proofs.YtbdbcffnjibjoaaGreatDoor
set_option linter.unusedVariables false
set_option linter.unusedSimpArgs false
open Go.RowKit
attribute [local go_sem high] str_mk

def RWoR (ks : List (List UInt8)) (ps : List JV) (B : Nat) (cs : Array Value) (b g : Nat) (w : World) (gk : Nat) (i : Value) (wr : World) : Prop :=
  ∃ (j : Nat) (aK : List (List UInt8)) (aP : List JV) (kv pv : Value), i = .int .i64 j ∧ j ≤ ks.length ∧ gk = ks.length - j ∧
    aK ++ (wo (ks.drop j) (ps.drop j)).1 = (wo ks ps).1 ∧ aP ++ (wo (ks.drop j) (ps.drop j)).2 = (wo ks ps).2 ∧
    Blk wr b 25 cs ∧
    Blk wr g 25 #[.int .i64 7, .int .i64 0, str [], kv, pv] ∧ ObjB wr B (g + 1) kv pv aK aP ∧ Below g w wr ∧ g + 1 ≤ wr.heap.size
theorem omitK_no {y : List UInt8} (h : omitK y = false) : (y == [115, 105, 103, 110, 97, 116, 117, 114, 101, 115]) = false ∧ (y == [117, 110, 115, 105, 103, 110, 101, 100]) = false := by
  unfold omitK at h
  rw [Bool.or_eq_false_iff] at h
  exact h
theorem omitK_yes {y : List UInt8} (h : omitK y = true) : (y == [115, 105, 103, 110, 97, 116, 117, 114, 101, 115]) = true ∨ ((y == [115, 105, 103, 110, 97, 116, 117, 114, 101, 115]) = false ∧ (y == [117, 110, 115, 105, 103, 110, 101, 100]) = true) := by
  unfold omitK at h
  cases h1 : y == sigK
  · rw [h1] at h; rw [Bool.false_or] at h; exact .inr ⟨h1, h⟩
  · exact .inl h1

set_option maxRecDepth 100000 in
set_option maxHeartbeats 4000000 in
theorem refSealText_any (v : JV) (cs : List Value) (w : World) (B : Nat) (hB : B ≤ w.heap.size) (hv : VIn w B v cs) (hcnt : count v ≤ 1073741824) :
    Calls Tryz.prog 14 #[.agg cs.toArray] w fun e w' => e = .returned (sTextR v) ∧ Below w.heap.size w w' := by
  obtain ⟨k, n, t, Ak, nk, ck, Ap, np, cp, hcs⟩ := hv.form
  have hkind := hv
  rw [hcs] at hkind
  have Hk := Lib.hid hkind.kind
  clear hkind
  have hW : Below w.heap.size w (w.alloc (.cells #[.int .i64 k, .int .i64 n, str t, .slice Ak nk ck, .slice Ap np cp] 25)) := (Below.refl _ _).alloc (Nat.le_refl _) _
  have hbox := (Blk.new w 25 #[.int .i64 k, .int .i64 n, str t, .slice Ak nk ck, .slice Ap np cp])
  have HW := Lib.hid hW
  have Hbox := Lib.hid hbox
  clear hW hbox
  have HN := Lib.hid (show sTextN v = if checkN v ≠ 0 then checkN v else if v.kind ≠ 7 then 4 else 0 from rfl)
  subst hcs
  go_enter Tryz.func14, Tryz.ntmps14
  go_wp2_with fail
  refine (refCheck_any v _ _ B (Nat.le_trans hB HW.out.size) (hv.below (HW.out.mono hB)) (by omega)).mono ?_
  rintro e w1 ⟨rfl, hb1⟩
  have hw1 : Below w.heap.size w w1 := HW.out.trans (hb1.mono HW.out.size)
  have hbx1 := Hbox.out.below hb1 (by simp)
  have hsz1 : w.heap.size < w1.heap.size := hbx1.lt
  obtain ⟨c0, c1, c2, c3, c4, -, -, -, -, -⟩ := sl_box hbx1
  clear hb1
  by_cases hf : checkN v = 0
  · have Hf := Lib.hid hf
    rw [hf]
    by_cases h7 : k = 7
    · subst h7
      have HN0 := Lib.hid (show sTextN v = 0 by rw [HN.out, if_neg (by simpa using hf), if_neg (by simp [Hk.out])])
      have HS := Lib.hid (show strip v = .mk 7 0 [] (wo v.keys v.parts).1 (wo v.keys v.parts).2 from rfl)
      have Hle := Lib.hid (fine_keys (fine_check hf))
      have Hsc := Lib.hid (strip_count v)
      have Hfs := Lib.hid (fine_check (strip_check hf Hk.out))
      clear hf Hk
      have Hcnt := Lib.hid hcnt
      have Hc100 := Lib.hid (check_facts Hf.out).2.1
      have hv1 := hv.below (hw1.mono hB)
      cases v with
      | mk k' n' t' ks ps =>
      unfold VIn at hv1
      obtain ⟨Ak', ck', Ap', cp', pc, hcs, hk1, hn1, ht, hks, hps, hkl, hck, hcp, hh1, hh2, hpin⟩ := hv1
      injection hcs with e1 hcs; injection hcs with e2 hcs; injection hcs with e3 hcs; injection hcs with e4 hcs; injection hcs with e5 hcs
      injection e4 with e41 e42 e43
      injection e5 with e51 e52 e53
      subst e41 e42 e43 e51 e52 e53
      clear e1 e2 e3 hcs hv hcnt
      have Hwl := Lib.hid (wo_len ks ps)
      have Hwm := Lib.hid (wo_mem ks ps)
      have hBw1 : B ≤ w1.heap.size := Nat.le_trans hB hw1.size
      have HA := Lib.hid (show Below w1.heap.size w1 (w1.alloc (.cells #[.int .i64 7, .int .i64 0, str [], .slice none 0 0, .slice none 0 0] 25)) from (Below.refl _ _).alloc (Nat.le_refl _) _)
      have H3 := Lib.hid (Blk.new w1 25 #[.int .i64 7, .int .i64 0, str [], .slice none 0 0, .slice none 0 0])
      have H1 := Lib.hid (hbx1.alloc (.cells #[.int .i64 7, .int .i64 0, str [], .slice none 0 0, .slice none 0 0] 25))
      have Hbx1 := Lib.hid hbx1
      clear hbx1
      go_wp2_with fail
      go_loopg [20] ks.length (RWoR ks ps B #[.int .i64 7, .int .i64 n, str t, .slice Ak ks.length ck, .slice Ap ps.length cp] w.heap.size w1.heap.size w1)
      case atStart => exact ⟨0, [], [], _, _, rfl, by omega, by omega, by simp, by simp, H1.out, H3.out, ObjB.nil _ _ _, HA.out, by simp⟩
      case round =>
        clear HA H1 H3 c0 c1 c2 c3 c4
        obtain ⟨j, aK, aP, kv, pv, rfl, hj, hgk, ha1, ha2, hb1, hb3, hobj, hbw, hsz⟩ := hrel
        have Hgk := Lib.hid hgk
        have Ha1 := Lib.hid ha1
        have Ha2 := Lib.hid ha2
        obtain ⟨⟨Akv, ckv, rfl⟩, ⟨Apv, cpv, rfl⟩⟩ := hobj.forms
        have hh1r := hh1.below (hbw.mono hBw1)
        have hh2r := hh2.below (hbw.mono hBw1)
        have hpr := hpin.below (hbw.mono hBw1)
        clear hgk ha1 ha2
        by_cases hlt : j < ks.length
        · have hltp : j < ps.length := by have h : ks.length ≤ ps.length := Hle.out; omega
          obtain ⟨b, off, hkl1, rfl, hb, hc⟩ := hh1r.str hlt
          cases hom : omitK ks[j]
          · have Hw := Lib.hid (wo_drop_no hkl1 hltp hom)
            obtain ⟨bp, offp, k2, n2, t2, Ak2, nk2, ck2, Ap2, np2, cp2, rfl, hbp, hv2, x0, x1, x2, x3, x4⟩ := part_cells hh2r hpr j hltp
            have Hv2 := Lib.hid hv2
            have Hn1 := Lib.hid (show aK.length + 1 ≤ 1048576 by
              have e1 := congrArg List.length Ha1.out
              have e3 := Hwl.out
              rw [Hw.out] at e1
              simp at e1
              omega)
            have Hn2 := Lib.hid (show aP.length + 1 ≤ 1048576 by
              have e2 := congrArg List.length Ha2.out
              have e3 := Hwl.out
              rw [Hw.out] at e2
              simp at e2
              omega)
            obtain ⟨ho1, ho2⟩ := omitK_no hom
            have Hobj := Lib.hid hobj
            generalize ks[j] = y at *
            generalize ps[j] = p at *
            obtain ⟨v0, v1, v2, v3, v4, -, -, -, -, -⟩ := sl_box hb1
            obtain ⟨q0, q1, q2, q3, q4, r0, r1, r2, r3, r4⟩ := sl_box hb3
            clear hom hobj hv2
            have HobjA := Lib.hid (Hobj.out.below ((Below.refl _ _).alloc (Nat.le_refl _) (.cells #[str y] 9)) (by omega))
            have HcA := Lib.hid (show (wr.alloc (.cells #[str y] 9)).cell? ((⟨wr.heap.size, 0, none⟩ : Addr).add 0) = some (str y) by rw [plus_addr]; exact (Blk.new wr 9 #[str y]).cell 0)
            have HBA := Lib.hid (show w1.heap.size + 1 ≤ (wr.alloc (.cells #[str y] 9)).heap.size by simp; omega)
            have HBB := Lib.hid (show B ≤ w1.heap.size + 1 by omega)
            have hbA := (Below.refl wr.heap.size wr).alloc (Nat.le_refl _) (.cells #[str y] 9)
            go_wp2_with (at_builtin
                         go_loud (refine wpList_putKB rfl _ _ rfl B (w1.heap.size + 1) _ _ aK aP y (by rfl) HobjA.out ⟨wr.heap.size, 0, none⟩ 1 (by rfl) HcA.out Hn1.out HBA.out HBB.out ?_)
                         intro v4' y4 hobj4 hbl4
                         have hb34 := (hb3.alloc (.cells #[str y] 9)).below hbl4 (by omega)
                         obtain ⟨⟨Ak4, ck4, hv4e⟩, _⟩ := hobj4.forms
                         rw [hv4e] at hobj4
                         rw [hv4e]
                         clear hv4e
                         obtain ⟨s0, s1, s2, s3, s4, z0, z1, z2, z3, z4⟩ := sl_box hb34)
            have hbx : Below w1.heap.size wr (y4.setCell ⟨w1.heap.size, 3, none⟩ (.slice Ak4 (aK.length + 1) ck4)) :=
              ((hbA.mono (by omega)).trans (hbl4.mono (by omega))).setCell (p := ⟨w1.heap.size, 3, none⟩) (by show w1.heap.size ≤ w1.heap.size; omega) _
            have hszx : wr.heap.size < (y4.setCell ⟨w1.heap.size, 3, none⟩ (.slice Ak4 (aK.length + 1) ck4)).heap.size := by
              have h1 := hbl4.size
              simp [World.setCell] at h1 ⊢; omega
            have c3 : Blk (y4.setCell ⟨w1.heap.size, 3, none⟩ (.slice Ak4 (aK.length + 1) ck4)) w1.heap.size 25 #[.int .i64 7, .int .i64 0, str [], .slice Ak4 (aK.length + 1) ck4, .slice Apv aP.length cpv] := hb34.set_ 3 _
            have c1 : Blk (y4.setCell ⟨w1.heap.size, 3, none⟩ (.slice Ak4 (aK.length + 1) ck4)) w.heap.size 25 #[.int .i64 7, .int .i64 n, str t, .slice (some ⟨b, off, none⟩) ks.length ck, .slice (some ⟨bp, offp, none⟩) ps.length cp] :=
              ((hb1.alloc (.cells #[str y] 9)).below hbl4 (by omega)).far (p := ⟨w1.heap.size, 3, none⟩) (by show w.heap.size ≠ w1.heap.size; omega) _
            have ob5 : ObjB (y4.setCell ⟨w1.heap.size, 3, none⟩ (.slice Ak4 (aK.length + 1) ck4)) B (w1.heap.size + 1) (.slice Ak4 (aK.length + 1) ck4) (.slice Apv aP.length cpv) (aK ++ [y]) aP := by
              have h1 := hobj4.set (p := ⟨w1.heap.size, 3, none⟩) (by show B ≤ w1.heap.size; omega) (by show w1.heap.size < w1.heap.size + 1; omega) (.slice Ak4 (aK.length + 1) ck4)
              simpa using h1
            generalize y4.setCell ⟨w1.heap.size, 3, none⟩ (.slice Ak4 (aK.length + 1) ck4) = y5 at *
            have X0 := (hbx.cell (p := ⟨bp, offp + j * 5, none⟩) (by show bp < w1.heap.size; omega)).trans x0
            have X1 := (hbx.cell (p := ⟨bp, offp + j * 5 + 1, none⟩) (by show bp < w1.heap.size; omega)).trans x1
            have X2 := (hbx.cell (p := ⟨bp, offp + j * 5 + 2, none⟩) (by show bp < w1.heap.size; omega)).trans x2
            have X3 := (hbx.cell (p := ⟨bp, offp + j * 5 + 3, none⟩) (by show bp < w1.heap.size; omega)).trans x3
            have X4 := (hbx.cell (p := ⟨bp, offp + j * 5 + 4, none⟩) (by show bp < w1.heap.size; omega)).trans x4
            have w4 : y5.cell? ⟨w.heap.size, 4, none⟩ = some (.slice (some ⟨bp, offp, none⟩) ps.length cp) := c1.cell 4
            have o4 : y5.cell? ⟨w1.heap.size, 4, none⟩ = some (.slice Apv aP.length cpv) := c3.cell 4
            have hjI : (j : Int) < (ps.length : Int) := by omega
            clear x0 x1 x2 x3 x4 s0 s1 s2 s3 s4 z0 z1 z2 z3 z4 v0 v1 v2 v3 v4 q0 q1 q2 q3 q4 r0 r1 r2 r3 r4
            have hVW : VIn y5 B p [.int .i64 k2, .int .i64 n2, str t2, .slice Ak2 nk2 ck2, .slice Ap2 np2 cp2] := Hv2.out.below (hbx.mono hBw1)
            have hA5 : Below y5.heap.size y5 (y5.alloc (.cells #[.int .i64 k2, .int .i64 n2, str t2, .slice Ak2 nk2 ck2, .slice Ap2 np2 cp2] 25)).drew := ((Below.refl _ _).alloc (Nat.le_refl _) _).drew
            have HVW := Lib.hid (hVW.below (hA5.mono (by omega)))
            have HobW := Lib.hid (ob5.below hA5 (by omega))
            have HcW := Lib.hid (blk_cells (cs := [.int .i64 k2, .int .i64 n2, str t2, .slice Ak2 nk2 ck2, .slice Ap2 np2 cp2]) (show Blk (y5.alloc (.cells #[.int .i64 k2, .int .i64 n2, str t2, .slice Ak2 nk2 ck2, .slice Ap2 np2 cp2] 25)).drew y5.heap.size 25 #[.int .i64 k2, .int .i64 n2, str t2, .slice Ak2 nk2 ck2, .slice Ap2 np2 cp2] from Blk.new y5 _ _))
            have HBW := Lib.hid (show w1.heap.size + 1 ≤ (y5.alloc (.cells #[.int .i64 k2, .int .i64 n2, str t2, .slice Ak2 nk2 ck2, .slice Ap2 np2 cp2] 25)).drew.heap.size by simp; omega)
            have Hc1 := Lib.hid (c1.below hA5 c1.lt)
            have Hc3 := Lib.hid (c3.below hA5 c3.lt)
            have hz51 : w1.heap.size < y5.heap.size := by omega
            have hz52 : w.heap.size < y5.heap.size := by omega
            have hz53 : bp < y5.heap.size := by omega
            have HA5 := Lib.hid hA5
            have Hbx := Lib.hid hbx
            clear hVW ob5 hobj4 hbl4 hb34 hb1 hb3 hbA Hobj HobjA HcA HBA hA5 hbx c1 c3 ho1 ho2
            go_region_law (refine step_putPB rfl _ _ rfl B (w1.heap.size + 1) _ _ (aK ++ [y]) aP p [.int .i64 k2, .int .i64 n2, str t2, .slice Ak2 nk2 ck2, .slice Ap2 np2 cp2] (by rfl) HobW.out HVW.out ⟨y5.heap.size, 0, none⟩ 1 (by rfl) HcW.out Hn2.out HBW.out HBB.out ?_; intro v6 y6 hobj6 hbl6; obtain ⟨_, ⟨Ap6, cp6, hv6e⟩⟩ := hobj6.forms; rw [hv6e] at hobj6; rw [hv6e]; clear hv6e; have hc6 := Hc3.out.below hbl6 (by omega); obtain ⟨s0, s1, s2, s3, s4, z0, z1, z2, z3, z4⟩ := sl_box hc6)
            all_goals
              go_wp2_with fail
              go_roundg (ks.length - (j + 1))
              case measure => have := Hgk.out; omega
              case rel =>
                have hbF : Below w1.heap.size y5 y6 := (HA5.out.mono (by omega)).trans (hbl6.mono (by omega))
                have hbG := (Hbx.out.trans hbF).setCell (p := ⟨w1.heap.size, 4, none⟩) (by show w1.heap.size ≤ w1.heap.size; omega) (.slice Ap6 (aP.length + 1) cp6)
                have hszG : w1.heap.size + 1 ≤ (y6.setCell ⟨w1.heap.size, 4, none⟩ (.slice Ap6 (aP.length + 1) cp6)).heap.size := by
                  have h1 := hbF.size
                  simp [World.setCell]; omega
                refine ⟨j + 1, aK ++ [y], aP ++ [p], _, _, by go_num, by omega, rfl, ?_, ?_, ?_, hc6.set_ 4 _, ?_, hbw.trans hbG, hszG⟩
                · rw [← Ha1.out, Hw.out]; simp
                · rw [← Ha2.out, Hw.out]; simp
                · exact (Hc1.out.below hbl6 (by omega)).far (p := ⟨w1.heap.size, 4, none⟩) (by show w.heap.size ≠ w1.heap.size; omega) _
                · have h1 := hobj6.set (p := ⟨w1.heap.size, 4, none⟩) (by show B ≤ w1.heap.size; omega) (by show w1.heap.size < w1.heap.size + 1; omega) (.slice Ap6 (aP.length + 1) cp6)
                  simpa using h1
          · have Hw := Lib.hid (wo_drop_yes hkl1 hltp hom)
            generalize ks[j] = y at *
            have Hobj := Lib.hid hobj
            rcases omitK_yes hom with ho1 | ⟨ho1, ho2⟩
            · clear hom hobj
              go_wp2_with fail
              go_roundg (ks.length - (j + 1))
              case measure => have := Hgk.out; omega
              case rel => exact ⟨j + 1, aK, aP, _, _, by go_num, by omega, rfl, by rw [← Hw.out]; exact Ha1.out, by rw [← Hw.out]; exact Ha2.out, hb1, hb3, Hobj.out, hbw, hsz⟩
            · clear hom hobj
              go_wp2_with fail
              go_roundg (ks.length - (j + 1))
              case measure => have := Hgk.out; omega
              case rel => exact ⟨j + 1, aK, aP, _, _, by go_num, by omega, rfl, by rw [← Hw.out]; exact Ha1.out, by rw [← Hw.out]; exact Ha2.out, hb1, hb3, Hobj.out, hbw, hsz⟩
        · have hjn : j = ks.length := by omega
          have hdr : wo (ks.drop j) (ps.drop j) = ([], []) := by rw [hjn, List.drop_length]; cases ps.drop ks.length <;> rfl
          have e1 : aK = (wo ks ps).1 := by have := Ha1.out; rw [hdr] at this; simpa using this
          have e2 : aP = (wo ks ps).2 := by have := Ha2.out; rw [hdr] at this; simpa using this
          have Hobj := Lib.hid hobj
          have Hl1 := Lib.hid (show aK.length ≤ 1048576 ∧ aP.length ≤ 1048576 by rw [e1, e2]; have := Hwl.out; omega)
          have Hl2 := Lib.hid (fun s hs => hkl s (Hwm.out.1 s (by rw [← e1]; exact hs)))
          have HJ := Lib.hid (show strip (.mk k' n' t' ks ps) = .mk 7 0 [] aK aP by rw [HS.out, e1, e2]; rfl)
          obtain ⟨q0, q1, q2, q3, q4, r0, r1, r2, r3, r4⟩ := sl_box hb3
          clear hjn hdr e1 e2 hobj
          have hjb : decide ((j : Int) < (ks.length : Int)) = false := by simp; omega
          have Hval := Lib.hid (Hobj.out.value 7 (by omega) (by omega) Hl1.out.1 Hl1.out.2 Hl2.out)
          rw [← HJ.out] at Hval
          go_wp2_with fail
          refine (refJText_any 1000 (strip (.mk k' n' t' ks ps)) _ _ wr.heap.size ?_ ?_ Hfs.out (Nat.le_refl _) Hval.out).mono ?_
          · have h1 := Hsc.out; have h2 := Hc100.out; omega
          · have h1 := Hsc.out; have h2 := Hc100.out; omega
          rintro e w5 ⟨rfl, hb5⟩
          have hwr : Below w.heap.size w wr := hw1.trans (hbw.mono hw1.size)
          go_wp2_with fail
          go_ret2
          exact ⟨by rw [sTextR_ok HN0.out]; rfl, hwr.trans (hb5.mono hwr.size)⟩
    · have HN0 := Lib.hid (show sTextN v = 4 by rw [HN.out, if_neg (by simpa using hf), if_pos (by rw [Hk.out]; exact h7)])
      have h7b : (k != 7) = true := by simpa using h7
      go_wp2_with fail
      go_ret2
      exact ⟨by rw [sTextR_no HN0.out (by omega)]; rfl, hw1⟩
  · have HN0 := Lib.hid (show sTextN v = checkN v by rw [HN.out, if_pos hf])
    have Hf := Lib.hid hf
    generalize checkN v = a at *
    have hab : (a != 0) = true := by simpa using hf
    go_wp2_with fail
    go_ret2
    exact ⟨by rw [sTextR_no HN0.out Hf.out]; rfl, hw1⟩
end Go.Proofs.YtbdbcffnjibjoaaGreatDoor

/- partOf and sealNames of the reference: what each call returns. -/
namespace Go.Proofs.YtbdbcffnjibjoaaGreatDoor
set_option linter.unusedVariables false
set_option linter.unusedSimpArgs false
open Go.RowKit
attribute [local go_sem high] str_mk
theorem bless_irrefl : ∀ a : List UInt8, Op.bytesLess a a = false
  | [] => rfl
  | a :: r => by simp [Op.bytesLess, bless_irrefl r]
theorem incr_at : ∀ {ks : List (List UInt8)} {k : List UInt8} {j : Nat}, incr ks = true → ks[j]? = some k → place ks k = j
  | [], k, j, _, h => by simp at h
  | a :: r, k, 0, _, h => by
    simp at h; subst h
    rw [place_cons, if_neg (by simp [bless_irrefl])]
  | a :: r, k, j + 1, hi, h => by
    obtain ⟨h1, h2⟩ := incr_cons.1 hi
    have h' : r[j]? = some k := by simpa using h
    rw [place_cons, if_pos (h1 k (List.mem_of_getElem? h')), incr_at h2 h']
/-- A value whose keys may be looked up. -/
def PO (v : JV) : Prop := v.keys.length ≤ v.parts.length ∧ incr v.keys = true ∧ (v.keys ≠ [] → v.kind = 7)
theorem po_fine {v : JV} (h : Fine v) : PO v := by
  cases v with
  | mk k n t ks ps =>
    obtain ⟨h1, h2, _, _, h5⟩ := fine_obj h
    exact ⟨h1, h2, fun hk => Classical.byContradiction fun hc => hk (h5 hc)⟩
theorem po_zero : PO zeroJ := ⟨Nat.le_refl _, rfl, fun h => absurd rfl h⟩
def PartPost (B : Nat) (o : Option JV) (w : World) (e : Ending) (w' : World) : Prop :=
  Below w.heap.size w w' ∧ ((o = none ∧ e = .returned (.tuple #[.agg #[.int .i64 0, .int .i64 0, str [], .slice none 0 0, .slice none 0 0], .bool false])) ∨
    ∃ p cs', o = some p ∧ e = .returned (.tuple #[.agg cs'.toArray, .bool true]) ∧ VIn w' B p cs')
def PartR (ks : List (List UInt8)) (key : List UInt8) (cs : Array Value) (w : World) (gk : Nat) (i : Value) (wr : World) : Prop :=
  ∃ j : Nat, i = .int .i64 j ∧ j ≤ ks.length ∧ gk = ks.length - j ∧ key ∉ ks.take j ∧ Blk wr w.heap.size 25 cs ∧
    Blk wr (w.heap.size + 1) 25 #[.int .i64 0, .int .i64 0, str [], .slice none 0 0, .slice none 0 0] ∧ Below w.heap.size w wr
set_option maxRecDepth 100000 in
set_option maxHeartbeats 2000000 in
theorem partOf_any (v : JV) (cs : List Value) (key : List UInt8) (w : World) (B : Nat) (hB : B ≤ w.heap.size) (hv : VIn w B v cs) (hpo : PO v) :
    Calls Tryz.prog 16 #[.agg cs.toArray, str key] w (PartPost B (getAt [key] v) w) := by
  cases v with
  | mk k n t ks ps =>
  have hv' := hv
  unfold VIn at hv'
  obtain ⟨Ak, ck, Ap, cp, pc, rfl, hk1, hn1, ht, hks, hps, hkl, hck, hcp, hh1, hh2, hpin⟩ := hv'
  obtain ⟨p1, p2, p3⟩ := hpo
  have Hp1 := Lib.hid (show ks.length ≤ ps.length from p1)
  have Hp2 := Lib.hid (show incr ks = true from p2)
  have Hp3 := Lib.hid (show ks ≠ [] → k = 7 from p3)
  have HW := Lib.hid (show Below w.heap.size w ((w.alloc (.cells #[.int .i64 k, .int .i64 n, str t, .slice Ak ks.length ck, .slice Ap ps.length cp] 25)).alloc (.cells #[.int .i64 0, .int .i64 0, str [], .slice none 0 0, .slice none 0 0] 25)) from
    ((Below.refl _ _).alloc (Nat.le_refl _) _).alloc (by simp) _)
  have H1 := Lib.hid ((Blk.new w 25 #[.int .i64 k, .int .i64 n, str t, .slice Ak ks.length ck, .slice Ap ps.length cp]).alloc (.cells #[.int .i64 0, .int .i64 0, str [], .slice none 0 0, .slice none 0 0] 25))
  have b2 := Blk.new (w.alloc (.cells #[.int .i64 k, .int .i64 n, str t, .slice Ak ks.length ck, .slice Ap ps.length cp] 25)) 25 #[.int .i64 0, .int .i64 0, str [], .slice none 0 0, .slice none 0 0]
  rw [show (w.alloc (.cells #[.int .i64 k, .int .i64 n, str t, .slice Ak ks.length ck, .slice Ap ps.length cp] 25)).heap.size = w.heap.size + 1 by simp] at b2
  have H2 := Lib.hid b2
  clear b2 p1 p2 p3 hv
  go_enter Tryz.func16, Tryz.ntmps16
  go_wp2_with fail
  go_loopg [11] ks.length (PartR ks key #[.int .i64 k, .int .i64 n, str t, .slice Ak ks.length ck, .slice Ap ps.length cp] w)
  case atStart => exact ⟨0, rfl, by omega, by omega, by simp, H1.out, H2.out, HW.out⟩
  case round =>
    clear HW H1 H2
    obtain ⟨j, rfl, hj, hgk, hnot, hb1, hb2, hbw⟩ := hrel
    have Hgk := Lib.hid hgk
    have Hnot := Lib.hid hnot
    have hsz : w.heap.size + 1 < wr.heap.size := hb2.lt
    obtain ⟨v0, v1, v2, v3, v4, f0, f1, f2, f3, f4⟩ := sl_box hb1
    obtain ⟨q0, q1, q2, q3, q4, r0, r1, r2, r3, r4⟩ := sl_box hb2
    have hh2r := hh2.below (hbw.mono hB)
    have hpr := hpin.below (hbw.mono hB)
    clear hgk hnot
    by_cases hlt : j < ks.length
    · obtain ⟨b, off, hkl1, rfl, hb, hc⟩ := (hh1.below (hbw.mono hB)).str hlt
      have hltp : j < ps.length := by have := Hp1.out; omega
      by_cases hy : ks[j] = key
      · have hk7 : k = 7 := Hp3.out (by intro h; rw [h] at hlt; simp at hlt)
        subst hk7
        have hpl : place ks key = j := incr_at Hp2.out (by rw [List.getElem?_eq_getElem hkl1, hy])
        have Hg := Lib.hid (show getAt [key] (.mk 7 n t ks ps) = some ps[j] by
          have hm : key ∈ ks := by rw [← hy]; exact List.getElem_mem hkl1
          rw [getAt, if_pos hm, hpl, List.getElem?_eq_getElem hltp]; simp [getAt])
        obtain ⟨bp, offp, k2, n2, t2, Ak2, nk2, ck2, Ap2, np2, cp2, rfl, hbp, hv2, x0, x1, x2, x3, x4⟩ := part_cells hh2r hpr j hltp
        have Hv2 := Lib.hid hv2
        have hyb : (ks[j] == key) = true := by rw [hy]; simp
        generalize ks[j] = y at *
        generalize ps[j] = p at *
        have hjI : (j : Int) < (ps.length : Int) := by omega
        clear hv2 hpl hy
        go_wp2_with fail
        refine ret_v2 (by rfl) (by rfl) (by rfl) (sl_set5 hb2 _ _ _ _ _) (by rfl) ?_
        exact ⟨sl_below5 hbw (by omega) _ _ _ _ _, .inr ⟨p, [.int .i64 k2, .int .i64 n2, str t2, .slice Ak2 nk2 ck2, .slice Ap2 np2 cp2], Hg.out, rfl, Hv2.out.below (set5_below (by omega) _ _ _ _ _)⟩⟩
      · have hyb : (ks[j] == key) = false := by simpa using hy
        have Hs := Lib.hid (not_take_succ Hnot.out hkl1 (fun h => hy h.symm))
        generalize ks[j] = y at *
        clear hy
        go_wp2_with fail
        go_roundg (ks.length - (j + 1))
        case measure => have := Hgk.out; omega
        case rel => exact ⟨j + 1, by go_num, by omega, rfl, Hs.out, hb1, hb2, hbw⟩
    · have hjn : j = ks.length := by omega
      have Hg := Lib.hid (show getAt [key] (.mk k n t ks ps) = none by
        refine getAt_miss ?_
        have := Hnot.out; rw [hjn, List.take_length] at this; exact this)
      have hjb : decide ((j : Int) < (ks.length : Int)) = false := by simp; omega
      clear hjn
      go_wp2_with fail
      refine ret_v2 (by rfl) (by rfl) (by rfl) (sl_set5 hb2 _ _ _ _ _) (by rfl) ?_
      exact ⟨sl_below5 hbw (by omega) _ _ _ _ _, .inl ⟨Hg.out, rfl⟩⟩
set_option maxRecDepth 100000 in
theorem sealNames_any (u k : List UInt8) (w : World) (hu : u.length ≤ maxLen) (hk : k.length ≤ maxLen) :
    Calls Tryz.prog 15 #[str u, str k] w fun e w' => e = .returned (.bool (nameOk u k)) ∧ Below w.heap.size w w' := by
  go_enter Tryz.func15, Tryz.ntmps15
  go_wp2_with fail
  refine (refUser_any u _ hu).mono ?_
  rintro e w1 ⟨rfl, n1, rfl⟩
  obtain ⟨ua, ub, hua⟩ := pairV_form (user u)
  rw [hua]
  clear hua
  go_wp2_with fail
  refine (refKey_any k _ hk).mono ?_
  rintro e w2 ⟨rfl, n2, rfl⟩
  obtain ⟨ka, kb, hka⟩ := pairV_form (key k)
  rw [hka]
  clear hka
  have hbl : Below w.heap.size w (w.drewN (n1 + n2)) := below_drewN (Below.refl _ _) (n1 + n2)
  have Hbl := Lib.hid hbl
  clear hbl
  have HN := Lib.hid (show nameOk u k = ((user u).isSome && (key k).isSome) from rfl)
  cases h1 : (user u).isSome
  · have e1 : errOf (user u) = 4 := by unfold errOf; rw [h1]; rfl
    rw [e1]
    go_wp2_with fail
    go_ret
    exact ⟨ret_bool (by rw [HN.out, h1]; rfl), Hbl.out⟩
  · have e1 : errOf (user u) = 0 := by unfold errOf; rw [h1]; rfl
    rw [e1]
    cases h2 : (key k).isSome
    · have e2 : errOf (key k) = 4 := by unfold errOf; rw [h2]; rfl
      rw [e2]
      go_wp2_with fail
      go_ret
      exact ⟨ret_bool (by rw [HN.out, h1, h2]; rfl), Hbl.out⟩
    · have e2 : errOf (key k) = 0 := by unfold errOf; rw [h2]; rfl
      rw [e2]
      go_wp2_with fail
      go_ret
      exact ⟨ret_bool (by rw [HN.out, h1, h2]; rfl), Hbl.out⟩
end Go.Proofs.YtbdbcffnjibjoaaGreatDoor

/- SealCheck of the reference: what the call returns. -/
namespace Go.Proofs.YtbdbcffnjibjoaaGreatDoor
set_option linter.unusedVariables false
set_option linter.unusedSimpArgs false
open Go.RowKit
attribute [local go_sem high] str_mk
/-- A part, or what stands for one that is not there. -/
def orZ (o : Option JV) : JV := match o with | some p => p | none => zeroJ
theorem orZ_po {o : Option JV} (h : ∀ p, o = some p → Fine p) : PO (orZ o) := by
  cases o with
  | none => exact po_zero
  | some p => exact po_fine (h p rfl)
theorem getAt_zero (k : List UInt8) : getAt [k] zeroJ = none := getAt_miss (by simp)
theorem getAt_cons (k : List UInt8) (r : List (List UInt8)) (v : JV) : getAt (k :: r) v = match getAt [k] v with | some p => getAt r p | none => none := by
  cases v with
  | mk kd n t ks ps =>
    rw [getAt, getAt]
    by_cases hm : k ∈ ks
    · rw [if_pos hm, if_pos hm]
      cases ps[place ks k]? with
      | none => rfl
      | some p => simp [getAt]
    · rw [if_neg hm, if_neg hm]
theorem getAt_three (a b c : List UInt8) (v : JV) : getAt [a, b, c] v = getAt [c] (orZ (getAt [b] (orZ (getAt [a] v)))) := by
  rw [getAt_cons a [b, c] v]
  cases h1 : getAt [a] v with
  | none => simp [orZ, getAt_zero]
  | some p =>
    simp only [orZ]
    rw [getAt_cons b [c] p]
    cases h2 : getAt [b] p with
    | none => simp [getAt_zero]
    | some q => rfl
theorem zero_in (W : World) (B : Nat) : VIn W B zeroJ [.int .i64 0, .int .i64 0, str [], .slice none 0 0, .slice none 0 0] := by
  unfold zeroJ VIn
  exact ⟨none, 0, none, 0, [], rfl, by omega, by omega, by simp, by simp, by simp, by simp, by simp, by simp, Holds.empty, Holds.empty, by unfold PIn; rfl⟩
/-- partOf, with what is returned as one value. -/
def PartZ (B : Nat) (o : Option JV) (w : World) (e : Ending) (w' : World) : Prop :=
  ∃ k2 n2 t2 Ak2 nk2 ck2 Ap2 np2 cp2, e = .returned (.tuple #[.agg #[.int .i64 k2, .int .i64 n2, str t2, .slice Ak2 nk2 ck2, .slice Ap2 np2 cp2], .bool o.isSome]) ∧
    VIn w' B (orZ o) [.int .i64 k2, .int .i64 n2, str t2, .slice Ak2 nk2 ck2, .slice Ap2 np2 cp2] ∧ Below w.heap.size w w'
theorem partZ_any (v : JV) (cs : List Value) (key : List UInt8) (w : World) (B : Nat) (hB : B ≤ w.heap.size) (hv : VIn w B v cs) (hpo : PO v) :
    Calls Tryz.prog 16 #[.agg cs.toArray, str key] w (PartZ B (getAt [key] v) w) := by
  refine (partOf_any v cs key w B hB hv hpo).mono ?_
  rintro e w' ⟨hb, ⟨h, rfl⟩ | ⟨p, cs', h, rfl, hv'⟩⟩
  · rw [h]; exact ⟨0, 0, [], none, 0, 0, none, 0, 0, rfl, zero_in _ _, hb⟩
  · rw [h]
    obtain ⟨k, n, t, Ak, nk, ck, Ap, np, cp, rfl⟩ := hv'.form
    exact ⟨k, n, t, Ak, nk, ck, Ap, np, cp, rfl, hv', hb⟩
theorem isSome_zero {o : Option JV} (h : o.isSome = false) (k : List UInt8) : (getAt [k] (orZ o)).isSome = false := by
  cases o with
  | none => simp [orZ, getAt_zero]
  | some p => cases h
theorem orZ_fine {o : Option JV} {k : List UInt8} (h : ∀ p, o = some p → Fine p) : ∀ p, getAt [k] (orZ o) = some p → Fine p := by
  cases o with
  | none => intro p hp; simp [orZ, getAt_zero] at hp
  | some q => intro p hp; exact getAt_fine (h q rfl) hp
theorem chkN_parts {v : JV} {u k : List UInt8} {pub : Int} (hT : tapN v u k = 0) : chkN v u k pub = match getAt [k] (orZ (getAt [u] (orZ (getAt [sigK] v)))) with | some p => foundN v p pub | none => 8 := by
  unfold chkN; rw [if_neg (by simpa using hT), getAt_three]; rfl
end Go.Proofs.YtbdbcffnjibjoaaGreatDoor
