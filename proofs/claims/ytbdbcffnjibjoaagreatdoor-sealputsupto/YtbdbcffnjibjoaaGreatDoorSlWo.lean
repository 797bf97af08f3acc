/- seal.without (and slices.Index, slices.Contains at strings): what each call returns. -/
import Derived.Test.YtbdbcffnjibjoaaGreatDoorBunS
import Derived.Deep.RegionLaw
import Derived.Deep.RegionHeld3
import Derived.StillTailTactics
namespace Go.Proofs.YtbdbcffnjibjoaaGreatDoor
set_option linter.unusedVariables false
set_option linter.unusedSimpArgs false
open Go.RowKit
attribute [local go_sem high] str_mk

def IdxR (ks : List (List UInt8)) (t : List UInt8) (w : World) (gk : Nat) (i : Value) (wr : World) : Prop :=
  ∃ k : Nat, i = .int .i64 k ∧ k ≤ ks.length ∧ gk = ks.length - k ∧ t ∉ ks.take k ∧ wr = w
theorem not_take_succ {ks : List (List UInt8)} {t : List UInt8} {k : Nat} (h : t ∉ ks.take k) (hk : k < ks.length) (hne : t ≠ ks[k]) : t ∉ ks.take (k + 1) := by
  intro hm
  rw [List.take_succ_eq_append_getElem hk, List.mem_append] at hm
  rcases hm with hm | hm
  · exact h hm
  · simp at hm; exact hne hm
set_option maxRecDepth 100000 in
set_option maxHeartbeats 1000000 in
theorem sindex_any (A : Option Addr) (c : Nat) (ks : List (List UInt8)) (t : List UInt8) (w : World) (B : Nat) (hh : Holds w B 1 A ks.length (ks.map str)) (hl : ks.length ≤ 1048576) :
    Calls Tryz.prog 85 #[.slice A ks.length c, str t] w fun e w' => ∃ r : Int, e = .returned (.int .i64 r) ∧ (0 ≤ r ↔ t ∈ ks) ∧ w = w' := by
  go_enter Tryz.func85, Tryz.ntmps85
  go_wp2_with fail
  go_loopg [8] ks.length (IdxR ks t w)
  case atStart => exact ⟨0, rfl, by omega, by omega, by simp, rfl⟩
  case round =>
    obtain ⟨k, rfl, hk, hgk, hnot, rfl⟩ := hrel
    have Hgk := Lib.hid hgk
    have Hnot := Lib.hid hnot
    clear hgk hnot
    by_cases hlt : k < ks.length
    · obtain ⟨b, off, hkl, rfl, hb, hc⟩ := hh.str hlt
      have Hmem := Lib.hid (List.getElem_mem hkl)
      have Hsucc := Lib.hid (fun hne => not_take_succ Hnot.out hkl hne)
      generalize ks[k] = y at *
      by_cases hy : t = y
      · subst hy
        go_wp2_with fail
        go_ret
        exact ⟨k, rfl, ⟨fun _ => Hmem.out, fun _ => by omega⟩, rfl⟩
      · have hyb : (t == y) = false := by simpa using hy
        have Hs2 := Lib.hid (Hsucc.out hy)
        clear hy Hsucc
        go_wp2_with fail
        go_roundg (ks.length - (k + 1))
        case measure => have := Hgk.out; omega
        case rel => exact ⟨k + 1, by go_num, by omega, rfl, Hs2.out, rfl⟩
    · have hkn : k = ks.length := by omega
      have Hn := Lib.hid (show t ∉ ks by have := Hnot.out; rw [hkn, List.take_length] at this; exact this)
      clear hkn
      go_wp2_with fail
      go_ret
      exact ⟨-1, rfl, ⟨fun h => absurd h (by omega), fun h => absurd h Hn.out⟩, rfl⟩
theorem scontains_any (A : Option Addr) (c : Nat) (ks : List (List UInt8)) (t : List UInt8) (w : World) (B : Nat) (hh : Holds w B 1 A ks.length (ks.map str)) (hl : ks.length ≤ 1048576) :
    Calls Tryz.prog 71 #[.slice A ks.length c, str t] w fun e w' => e = .returned (.bool (decide (t ∈ ks))) ∧ w = w' := by
  go_enter Tryz.func71, Tryz.ntmps71
  go_wp2_with fail
  refine (sindex_any A c ks t w B hh hl).mono ?_
  rintro e w1 ⟨r, rfl, hr, rfl⟩
  have Hr := Lib.hid hr
  clear hr
  go_wp2_with fail
  go_ret
  exact ⟨ret_bool (by rw [decide_eq_decide]; exact Hr.out), rfl⟩

theorem omit_iff (k : List UInt8) : decide (k ∈ [sigK, unsK]) = omitK k := by
  by_cases h1 : k = sigK <;> by_cases h2 : k = unsK <;> simp [omitK, h1, h2]
theorem omit_contains (Ao : Option Addr) (co : Nat) (t : List UInt8) (w : World) (B : Nat) (hh : Holds w B 1 Ao 2 [str sigK, str unsK]) :
    Calls Tryz.prog 71 #[.slice Ao 2 co, str t] w fun e w' => e = .returned (.bool (omitK t)) ∧ w = w' := by
  have h := scontains_any Ao co [sigK, unsK] t w B hh (by simp)
  rw [omit_iff] at h
  exact h

def WoR (ks : List (List UInt8)) (ps : List JV) (B : Nat) (cs : Array Value) (w : World) (gk : Nat) (i : Value) (wr : World) : Prop :=
  ∃ (j : Nat) (aK : List (List UInt8)) (aP : List JV) (kv pv : Value), i = .int .i64 j ∧ j ≤ ks.length ∧ gk = ks.length - j ∧
    aK ++ (wo (ks.drop j) (ps.drop j)).1 = (wo ks ps).1 ∧ aP ++ (wo (ks.drop j) (ps.drop j)).2 = (wo ks ps).2 ∧
    Blk wr w.heap.size 25 cs ∧ Blk wr (w.heap.size + 1) 25 #[.int .i64 0, .int .i64 0, str [], .slice none 0 0, .slice none 0 0] ∧
    Blk wr (w.heap.size + 2) 25 #[.int .i64 7, .int .i64 0, str [], kv, pv] ∧ ObjB wr B (w.heap.size + 3) kv pv aK aP ∧ Below w.heap.size w wr ∧ w.heap.size + 3 ≤ wr.heap.size

def WoPost (v : JV) (w : World) (e : Ending) (w' : World) : Prop := ∃ cs', e = .returned (.agg cs'.toArray) ∧ VIn w' w'.heap.size (strip v) cs' ∧ Below w.heap.size w w'

set_option maxRecDepth 100000 in
set_option maxHeartbeats 4000000 in
theorem without_any (v : JV) (cs : List Value) (Ao : Option Addr) (co : Nat) (w : World) (B : Nat) (hB : B ≤ w.heap.size) (hv : VIn w B v cs) (hle : v.keys.length ≤ v.parts.length) (ho : Holds w w.heap.size 1 Ao 2 [str sigK, str unsK]) :
    Calls Tryz.prog 45 #[.agg cs.toArray, .slice Ao 2 co] w (WoPost v w) := by
  cases v with
  | mk k n t ks ps =>
  unfold VIn at hv
  obtain ⟨Ak, ck, Ap, cp, pc, rfl, hk1, hn1, ht, hks, hps, hkl, hck, hcp, hh1, hh2, hpin⟩ := hv
  have Hle := Lib.hid (show ks.length ≤ ps.length from hle)
  have HS := Lib.hid (show strip (.mk k n t ks ps) = .mk 7 0 [] (wo ks ps).1 (wo ks ps).2 from rfl)
  have Hwl := Lib.hid (wo_len ks ps)
  have Hwm := Lib.hid (wo_mem ks ps)
  clear hle
  have HW := Lib.hid (show Below w.heap.size w (((w.alloc (.cells #[.int .i64 k, .int .i64 n, str t, .slice Ak ks.length ck, .slice Ap ps.length cp] 25)).alloc (.cells #[.int .i64 0, .int .i64 0, str [], .slice none 0 0, .slice none 0 0] 25)).alloc (.cells #[.int .i64 7, .int .i64 0, str [], .slice none 0 0, .slice none 0 0] 25)) from
    (((Below.refl _ _).alloc (Nat.le_refl _) _).alloc (by simp) _).alloc (by simp; omega) _)
  have b1 := ((Blk.new w 25 #[.int .i64 k, .int .i64 n, str t, .slice Ak ks.length ck, .slice Ap ps.length cp]).alloc (.cells #[.int .i64 0, .int .i64 0, str [], .slice none 0 0, .slice none 0 0] 25)).alloc (.cells #[.int .i64 7, .int .i64 0, str [], .slice none 0 0, .slice none 0 0] 25)
  have b2 := (Blk.new (w.alloc (.cells #[.int .i64 k, .int .i64 n, str t, .slice Ak ks.length ck, .slice Ap ps.length cp] 25)) 25 #[.int .i64 0, .int .i64 0, str [], .slice none 0 0, .slice none 0 0]).alloc (.cells #[.int .i64 7, .int .i64 0, str [], .slice none 0 0, .slice none 0 0] 25)
  have b3 := Blk.new ((w.alloc (.cells #[.int .i64 k, .int .i64 n, str t, .slice Ak ks.length ck, .slice Ap ps.length cp] 25)).alloc (.cells #[.int .i64 0, .int .i64 0, str [], .slice none 0 0, .slice none 0 0] 25)) 25 #[.int .i64 7, .int .i64 0, str [], .slice none 0 0, .slice none 0 0]
  rw [show (w.alloc (.cells #[.int .i64 k, .int .i64 n, str t, .slice Ak ks.length ck, .slice Ap ps.length cp] 25)).heap.size = w.heap.size + 1 by simp] at b2
  rw [show ((w.alloc (.cells #[.int .i64 k, .int .i64 n, str t, .slice Ak ks.length ck, .slice Ap ps.length cp] 25)).alloc (.cells #[.int .i64 0, .int .i64 0, str [], .slice none 0 0, .slice none 0 0] 25)).heap.size = w.heap.size + 2 by simp] at b3
  have H1 := Lib.hid b1
  have H2 := Lib.hid b2
  have H3 := Lib.hid b3
  clear b1 b2 b3
  go_enter Tryz.func45, Tryz.ntmps45
  go_wp2_with fail
  go_loopg [12] ks.length (WoR ks ps B #[.int .i64 k, .int .i64 n, str t, .slice Ak ks.length ck, .slice Ap ps.length cp] w)
  case atStart => exact ⟨0, [], [], _, _, rfl, by omega, by omega, by simp, by simp, H1.out, H2.out, H3.out, ObjB.nil _ _ _, HW.out, by simp⟩
  case round =>
    clear HW H1 H2 H3
    obtain ⟨j, aK, aP, kv, pv, rfl, hj, hgk, ha1, ha2, hb1, hb2, hb3, hobj, hbw, hsz⟩ := hrel
    have Hgk := Lib.hid hgk
    have Ha1 := Lib.hid ha1
    have Ha2 := Lib.hid ha2
    obtain ⟨⟨Akv, ckv, rfl⟩, ⟨Apv, cpv, rfl⟩⟩ := hobj.forms
    have hh1r := hh1.below (hbw.mono hB)
    have hh2r := hh2.below (hbw.mono hB)
    have hpr := hpin.below (hbw.mono hB)
    have hor := ho.below hbw
    clear hgk ha1 ha2
    by_cases hlt : j < ks.length
    · have hltp : j < ps.length := by have := Hle.out; omega
      obtain ⟨b, off, hkl1, rfl, hb, hc⟩ := hh1r.str hlt
      cases hom : omitK ks[j]
      · have Hw := Lib.hid (wo_drop_no hkl1 hltp hom)
        obtain ⟨bp, offp, k2, n2, t2, Ak2, nk2, ck2, Ap2, np2, cp2, rfl, hbp, hv2, x0, x1, x2, x3, x4⟩ := part_cells hh2r hpr j hltp
        have Hv2 := Lib.hid hv2
        have Hlen := Lib.hid (show aK.length + 1 ≤ 1048576 ∧ aP.length + 1 ≤ 1048576 by
          have e1 := congrArg List.length Ha1.out
          have e2 := congrArg List.length Ha2.out
          have e3 := Hwl.out
          rw [Hw.out] at e1 e2
          simp at e1 e2
          omega)
        have Hom := Lib.hid hom
        have Hobj := Lib.hid hobj
        generalize ks[j] = y at *
        generalize ps[j] = p at *
        obtain ⟨v0, v1, v2, v3, v4, -, -, -, -, -⟩ := sl_box hb1
        obtain ⟨q0, q1, q2, q3, q4, r0, r1, r2, r3, r4⟩ := sl_box hb3
        clear hom hobj hv2
        go_wp2_with fail
        refine (omit_contains Ao co y _ w.heap.size hor).mono ?_
        rintro e w1 ⟨rfl, rfl⟩
        rw [Hom.out]
        have HobjA := Lib.hid (Hobj.out.below ((Below.refl _ _).alloc (Nat.le_refl _) (.cells #[str y] 9)) (by omega))
        have HcA := Lib.hid (show (wr.alloc (.cells #[str y] 9)).cell? ((⟨wr.heap.size, 0, none⟩ : Addr).add 0) = some (str y) by rw [plus_addr]; exact (Blk.new wr 9 #[str y]).cell 0)
        have Hn1 := Lib.hid Hlen.out.1
        have Hn2 := Lib.hid Hlen.out.2
        clear Hlen
        have HBA := Lib.hid (show w.heap.size + 3 ≤ (wr.alloc (.cells #[str y] 9)).heap.size by simp; omega)
        have HBB := Lib.hid (show B ≤ w.heap.size + 3 by omega)
        have hbA := (Below.refl wr.heap.size wr).alloc (Nat.le_refl _) (.cells #[str y] 9)
        go_wp2_with (at_builtin
                     go_loud (refine wpList_putKB rfl _ _ rfl B (w.heap.size + 3) _ _ aK aP y (by rfl) HobjA.out ⟨wr.heap.size, 0, none⟩ 1 (by rfl) HcA.out Hn1.out HBA.out HBB.out ?_)
                     intro v4 y4 hobj4 hbl4
                     have hb34 := (hb3.alloc (.cells #[str y] 9)).below hbl4 (by omega)
                     obtain ⟨⟨Ak4, ck4, hv4e⟩, _⟩ := hobj4.forms
                     rw [hv4e] at hobj4
                     rw [hv4e]
                     clear hv4e
                     obtain ⟨s0, s1, s2, s3, s4, z0, z1, z2, z3, z4⟩ := sl_box hb34)
        have hbx : Below w.heap.size wr (y4.setCell ⟨w.heap.size + 1 + 1, 3, none⟩ (.slice Ak4 (aK.length + 1) ck4)) :=
          ((hbA.mono (by omega)).trans (hbl4.mono (by omega))).setCell (by show w.heap.size ≤ w.heap.size + 1 + 1; omega) _
        have hszx : wr.heap.size < (y4.setCell ⟨w.heap.size + 1 + 1, 3, none⟩ (.slice Ak4 (aK.length + 1) ck4)).heap.size := by
          have h1 := hbl4.size
          simp [World.setCell] at h1 ⊢; omega
        have c3 : Blk (y4.setCell ⟨w.heap.size + 1 + 1, 3, none⟩ (.slice Ak4 (aK.length + 1) ck4)) (w.heap.size + 2) 25 #[.int .i64 7, .int .i64 0, str [], .slice Ak4 (aK.length + 1) ck4, .slice Apv aP.length cpv] := hb34.set_ 3 _
        have c1 : Blk (y4.setCell ⟨w.heap.size + 1 + 1, 3, none⟩ (.slice Ak4 (aK.length + 1) ck4)) w.heap.size 25 #[.int .i64 k, .int .i64 n, str t, .slice (some ⟨b, off, none⟩) ks.length ck, .slice (some ⟨bp, offp, none⟩) ps.length cp] :=
          ((hb1.alloc (.cells #[str y] 9)).below hbl4 (by omega)).far (p := ⟨w.heap.size + 1 + 1, 3, none⟩) (by show w.heap.size ≠ w.heap.size + 1 + 1; omega) _
        have c2 : Blk (y4.setCell ⟨w.heap.size + 1 + 1, 3, none⟩ (.slice Ak4 (aK.length + 1) ck4)) (w.heap.size + 1) 25 #[.int .i64 0, .int .i64 0, str [], .slice none 0 0, .slice none 0 0] :=
          ((hb2.alloc (.cells #[str y] 9)).below hbl4 (by omega)).far (p := ⟨w.heap.size + 1 + 1, 3, none⟩) (by show w.heap.size + 1 ≠ w.heap.size + 1 + 1; omega) _
        have ob5 : ObjB (y4.setCell ⟨w.heap.size + 1 + 1, 3, none⟩ (.slice Ak4 (aK.length + 1) ck4)) B (w.heap.size + 3) (.slice Ak4 (aK.length + 1) ck4) (.slice Apv aP.length cpv) (aK ++ [y]) aP := by
          have h1 := hobj4.set (p := ⟨w.heap.size + 1 + 1, 3, none⟩) (by show B ≤ w.heap.size + 1 + 1; omega) (by show w.heap.size + 1 + 1 < w.heap.size + 3; omega) (.slice Ak4 (aK.length + 1) ck4)
          simpa using h1
        generalize y4.setCell ⟨w.heap.size + 1 + 1, 3, none⟩ (.slice Ak4 (aK.length + 1) ck4) = y5 at *
        have X0 := (hbx.cell (p := ⟨bp, offp + j * 5, none⟩) (by show bp < w.heap.size; omega)).trans x0
        have X1 := (hbx.cell (p := ⟨bp, offp + j * 5 + 1, none⟩) (by show bp < w.heap.size; omega)).trans x1
        have X2 := (hbx.cell (p := ⟨bp, offp + j * 5 + 2, none⟩) (by show bp < w.heap.size; omega)).trans x2
        have X3 := (hbx.cell (p := ⟨bp, offp + j * 5 + 3, none⟩) (by show bp < w.heap.size; omega)).trans x3
        have X4 := (hbx.cell (p := ⟨bp, offp + j * 5 + 4, none⟩) (by show bp < w.heap.size; omega)).trans x4
        have w4 : y5.cell? ⟨w.heap.size, 4, none⟩ = some (.slice (some ⟨bp, offp, none⟩) ps.length cp) := c1.cell 4
        have o4 : y5.cell? ⟨w.heap.size + 1 + 1, 4, none⟩ = some (.slice Apv aP.length cpv) := c3.cell 4
        have hjI : (j : Int) < (ps.length : Int) := by omega
        clear x0 x1 x2 x3 x4 s0 s1 s2 s3 s4 z0 z1 z2 z3 z4 v0 v1 v2 v3 v4 q0 q1 q2 q3 q4 r0 r1 r2 r3 r4
        have hVW : VIn y5 B p [.int .i64 k2, .int .i64 n2, str t2, .slice Ak2 nk2 ck2, .slice Ap2 np2 cp2] := Hv2.out.below (hbx.mono hB)
        have hA5 : Below y5.heap.size y5 (y5.alloc (.cells #[.int .i64 k2, .int .i64 n2, str t2, .slice Ak2 nk2 ck2, .slice Ap2 np2 cp2] 25)).drew := ((Below.refl _ _).alloc (Nat.le_refl _) _).drew
        have HVW := Lib.hid (hVW.below (hA5.mono (by omega)))
        have HobW := Lib.hid (ob5.below hA5 (by omega))
        have HcW := Lib.hid (blk_cells (cs := [.int .i64 k2, .int .i64 n2, str t2, .slice Ak2 nk2 ck2, .slice Ap2 np2 cp2]) (show Blk (y5.alloc (.cells #[.int .i64 k2, .int .i64 n2, str t2, .slice Ak2 nk2 ck2, .slice Ap2 np2 cp2] 25)).drew y5.heap.size 25 #[.int .i64 k2, .int .i64 n2, str t2, .slice Ak2 nk2 ck2, .slice Ap2 np2 cp2] from Blk.new y5 _ _))
        have HBW := Lib.hid (show w.heap.size + 3 ≤ (y5.alloc (.cells #[.int .i64 k2, .int .i64 n2, str t2, .slice Ak2 nk2 ck2, .slice Ap2 np2 cp2] 25)).drew.heap.size by simp; omega)
        have Hc1 := Lib.hid (c1.below hA5 c1.lt)
        have Hc2 := Lib.hid (c2.below hA5 c2.lt)
        have Hc3 := Lib.hid (c3.below hA5 c3.lt)
        have Hn1' := Lib.hid (show (aK ++ [y]).length = aK.length + 1 by simp)
        have hz51 : w.heap.size + 1 + 1 < y5.heap.size := by omega
        have hz52 : w.heap.size < y5.heap.size := by omega
        have hz53 : bp < y5.heap.size := by omega
        clear hVW ob5 hobj4 hbl4 hb34 hb1 hb2 hb3 hbA Hobj HobjA HcA HBA
        go_region_law (refine step_putPB rfl _ _ rfl B (w.heap.size + 3) _ _ (aK ++ [y]) aP p [.int .i64 k2, .int .i64 n2, str t2, .slice Ak2 nk2 ck2, .slice Ap2 np2 cp2] (by rfl) HobW.out HVW.out ⟨y5.heap.size, 0, none⟩ 1 (by rfl) HcW.out Hn2.out HBW.out HBB.out ?_; intro v6 y6 hobj6 hbl6; obtain ⟨_, ⟨Ap6, cp6, hv6e⟩⟩ := hobj6.forms; rw [hv6e] at hobj6; rw [hv6e]; clear hv6e; have hc6 := Hc3.out.below hbl6 (by omega); obtain ⟨s0, s1, s2, s3, s4, z0, z1, z2, z3, z4⟩ := sl_box hc6)
        all_goals
          go_wp2_with fail
          go_roundg (ks.length - (j + 1))
          case measure => have := Hgk.out; omega
          case rel =>
            have hbF : Below w.heap.size y5 y6 := (hA5.mono (by omega)).trans (hbl6.mono (by omega))
            have hbG := (hbx.trans hbF).setCell (p := ⟨w.heap.size + 1 + 1, 4, none⟩) (by show w.heap.size ≤ w.heap.size + 1 + 1; omega) (.slice Ap6 (aP.length + 1) cp6)
            have hszG : w.heap.size + 3 ≤ (y6.setCell ⟨w.heap.size + 1 + 1, 4, none⟩ (.slice Ap6 (aP.length + 1) cp6)).heap.size := by
              have h1 := hbF.size
              simp [World.setCell]; omega
            refine ⟨j + 1, aK ++ [y], aP ++ [p], _, _, by go_num, by omega, rfl, ?_, ?_, ?_, ?_, hc6.set_ 4 _, ?_, hbw.trans hbG, hszG⟩
            · rw [← Ha1.out, Hw.out]; simp
            · rw [← Ha2.out, Hw.out]; simp
            · exact (Hc1.out.below hbl6 (by omega)).far (p := ⟨w.heap.size + 1 + 1, 4, none⟩) (by show w.heap.size ≠ w.heap.size + 1 + 1; omega) _
            · exact (Hc2.out.below hbl6 (by omega)).far (p := ⟨w.heap.size + 1 + 1, 4, none⟩) (by show w.heap.size + 1 ≠ w.heap.size + 1 + 1; omega) _
            · have h1 := hobj6.set (p := ⟨w.heap.size + 1 + 1, 4, none⟩) (by show B ≤ w.heap.size + 1 + 1; omega) (by show w.heap.size + 1 + 1 < w.heap.size + 3; omega) (.slice Ap6 (aP.length + 1) cp6)
              simpa using h1
      · have Hw := Lib.hid (wo_drop_yes hkl1 hltp hom)
        generalize ks[j] = y at *
        have Hom := Lib.hid hom
        clear hom
        go_wp2_with fail
        refine (omit_contains Ao co y _ w.heap.size hor).mono ?_
        rintro e w1 ⟨rfl, rfl⟩
        rw [Hom.out]
        go_wp2_with fail
        go_roundg (ks.length - (j + 1))
        case measure => have := Hgk.out; omega
        case rel => exact ⟨j + 1, aK, aP, _, _, by go_num, by omega, rfl, by rw [← Hw.out]; exact Ha1.out, by rw [← Hw.out]; exact Ha2.out, hb1, hb2, hb3, hobj, hbw, hsz⟩
    · have hjn : j = ks.length := by omega
      have hdr : wo (ks.drop j) (ps.drop j) = ([], []) := by rw [hjn, List.drop_length]; cases ps.drop ks.length <;> rfl
      have e1 : aK = (wo ks ps).1 := by have := Ha1.out; rw [hdr] at this; simpa using this
      have e2 : aP = (wo ks ps).2 := by have := Ha2.out; rw [hdr] at this; simpa using this
      have Hobj := Lib.hid hobj
      have Hl1 := Lib.hid (show aK.length ≤ 1048576 ∧ aP.length ≤ 1048576 by rw [e1, e2]; have := Hwl.out; omega)
      have Hl2 := Lib.hid (fun s hs => hkl s (Hwm.out.1 s (by rw [← e1]; exact hs)))
      have HJ := Lib.hid (show strip (.mk k n t ks ps) = .mk 7 0 [] aK aP by rw [HS.out, e1, e2])
      obtain ⟨q0, q1, q2, q3, q4, r0, r1, r2, r3, r4⟩ := sl_box hb3
      obtain ⟨s0, s1, s2, s3, s4, z0, z1, z2, z3, z4⟩ := sl_box hb2
      clear hjn hdr e1 e2 hobj
      have hjb : decide ((j : Int) < (ks.length : Int)) = false := by simp; omega
      go_wp2_with fail
      refine ret_v1 (by rfl) (by rfl) (sl_set5 hb2 _ _ _ _ _) (by rfl) ?_
      refine ⟨[.int .i64 7, .int .i64 0, str [], .slice Akv aK.length ckv, .slice Apv aP.length cpv], rfl, ?_, sl_below5 hbw (by omega) _ _ _ _ _⟩
      rw [HJ.out]
      exact (Hobj.out.set5 (g := w.heap.size + 1) (by omega) (by omega) _ _ _ _ _).value 7 (by omega) (by rw [sl_size5]; omega) Hl1.out.1 Hl1.out.2 Hl2.out
end Go.Proofs.YtbdbcffnjibjoaaGreatDoor
