/- seal.Check: what the call returns. -/
import Derived.Test.YthkbeliplibiaaaGreatDoorSlBlk
import Derived.Test.YthkbeliplibiaaaGreatDoorSlPath
import Derived.Test.YthkbeliplibiaaaGreatDoorSlEnc
import Derived.Test.YthkbeliplibiaaaGreatDoorSlConv
import Derived.Test.YthkbeliplibiaaaGreatDoorBunF
import Derived.Deep.DeepCutAuto
namespace Go.Proofs.YthkbeliplibiaaaGreatDoor
set_option linter.unusedVariables false
set_option linter.unusedSimpArgs false
open Go.RowKit
attribute [local go_sem high] str_mk
/-- What the signature that is there says. -/
def foundN (v p : JV) (pub : Int) : Int := if p.kind = 5 then (match sigD p.text with | some (r, s) => checkR pub (sTextL v).length (sTextL v) r s | none => 4) else 8
def chkN (v : JV) (u k : List UInt8) (pub : Int) : Int := if tapN v u k ≠ 0 then tapN v u k else match getAt [sigK, u, k] v with | some p => foundN v p pub | none => 8
theorem path_slice_all (g : Nat) (W : World) : (Instr.sliceAt 40 (.pointer (some ⟨g, 0, none⟩)) none none none).run Tryz.prog W = .ok (.slice (some ⟨g, 0, none⟩) 3 3) W := by
  have hu : Tryz.prog.underlying 40 = some (.array 3 9) := by kernel_rfl
  obtain ⟨i0, hi0, hz0, hz1, hz2⟩ := info_parts sl_info_str
  simp [Instr.sliceAt, Instr.sureAddr, run_underlying hu, Instr.sliceBounds, sizeOf, typeInfo, hi0, Addr.add]
theorem sgbox {w : World} {g : Nat} {t : TypeId} {a0 a1 : Value} (h : Blk w g t #[a0, a1]) :
    w.cell? ⟨g, 0, none⟩ = some a0 ∧ w.cell? ⟨g, 1, none⟩ = some a1 ∧ w.frozen? ⟨g, 0, none⟩ = false ∧ w.frozen? ⟨g, 1, none⟩ = false := ⟨h.cell 0, h.cell 1, h.frozen 0, h.frozen 1⟩
/-- What follows once find has answered; W: the world behind it, with the part in the box gb. -/
theorem JV.mk_text (k n : Int) (t : List UInt8) (ks : List (List UInt8)) (ps : List JV) : (JV.mk k n t ks ps).text = t := rfl
theorem VIn.text_ {w : World} {B : Nat} {v : JV} {k n : Int} {t : List UInt8} {r : List Value} (h : VIn w B v (.int .i64 k :: .int .i64 n :: str t :: r)) : v.text = t := by
  cases v; unfold VIn at h; obtain ⟨_, _, _, _, _, e, _⟩ := h
  injection e with _ e; injection e with _ e; injection e with e _
  unfold str at e
  injection e with e
  injection e with e
  have h := congrArg Array.toList e
  simp at h
  exact h.symm
/-- What find has answered, of the value o. -/
def FD (o : Option JV) (b : Bool) (k2 : Int) (t2 : List UInt8) : Prop := (o = none ∧ b = false) ∨ ∃ p, o = some p ∧ b = true ∧ k2 = p.kind ∧ t2 = p.text
def FDPost (o : Option JV) (W0 W : World) (e : Ending) (w' : World) : Prop :=
  ∃ b k2 n2 t2 Ak2 nk2 ck2 Ap2 np2 cp2, e = .returned (.tuple #[.agg #[.int .i64 k2, .int .i64 n2, str t2, .slice Ak2 nk2 ck2, .slice Ap2 np2 cp2], .bool b]) ∧ FD o b k2 t2 ∧ Below W.heap.size W w' ∧ Below W0.heap.size W0 w'
theorem find_fd {v : JV} {cs : List Value} {keys : List (List UInt8)} {A : Option Addr} {c : Nat} {W0 w : World} {B : Nat} (hW : Below W0.heap.size W0 w) (hB : B ≤ w.heap.size) (hv : VIn w B v cs) (hfv : Fine v) (hh : Holds w w.heap.size 1 A keys.length (keys.map str)) (hl : keys.length ≤ 1048576) :
    Calls Tryz.prog 33 #[.agg cs.toArray, .slice A keys.length c] w (FDPost (getAt keys v) W0 w) := by
  refine (find_any v cs keys A c w B hB hv hfv hh hl).mono ?_
  rintro e w' ⟨hb, ⟨h, rfl⟩ | ⟨p, cs', h, rfl, hv', _⟩⟩
  · exact ⟨false, 0, 0, [], none, 0, 0, none, 0, 0, rfl, .inl ⟨h, rfl⟩, hb, hW.trans (hb.mono hW.size)⟩
  · obtain ⟨k, n, t, Ak, nk, ck, Ap, np, cp, rfl⟩ := hv'.form
    have hk := hv'.kind
    have ht := hv'.text_
    exact ⟨true, k, n, t, Ak, nk, ck, Ap, np, cp, rfl, .inr ⟨p, h, rfl, hk.symm, ht.symm⟩, hb, hW.trans (hb.mono hW.size)⟩
set_option maxRecDepth 100000 in
set_option maxHeartbeats 4000000 in
theorem sealCheck_any (v : JV) (cs : List Value) (u k : List UInt8) (pub : Int) (w : World) (B : Nat) (hB : B ≤ w.heap.size) (hv : VIn w B v cs) (htab : Tab w.heap.size w) (hgl : Gl w) (hcnt : count v ≤ 1073741824) (hu : u.length ≤ maxLen) (hk : k.length ≤ maxLen) :
    Calls Tryz.prog 12 #[.agg cs.toArray, str u, str k, .int .i64 pub] w fun e w' => e = .returned (.int .i64 (chkN v u k pub)) ∧ Below w.heap.size w w' := by
  obtain ⟨kd, n, t, Ak, nk, ck, Ap, np, cp, rfl⟩ := hv.form
  have HW := Lib.hid (show Below w.heap.size w (w.alloc (.cells #[.int .i64 kd, .int .i64 n, str t, .slice Ak nk ck, .slice Ap np cp] 25)) from (Below.refl _ _).alloc (Nat.le_refl _) _)
  have H1 := Lib.hid (Blk.new w 25 #[.int .i64 kd, .int .i64 n, str t, .slice Ak nk ck, .slice Ap np cp])
  go_enter Tryz.func12, Tryz.ntmps12
  go_wp2_with fail
  refine (textAndPath_any v _ u k _ B (Nat.le_trans hB HW.out.size) (hv.below (HW.out.mono hB)) (htab.on HW.out).here (hgl.below HW.out) hcnt hu hk).mono ?_
  rintro e w1 ⟨rfl, hb1⟩
  have hw1 : Below w.heap.size w w1 := HW.out.trans (hb1.mono HW.out.size)
  have hx1 := H1.out.below hb1 (by simp)
  by_cases hT : tapN v u k = 0
  · obtain ⟨hN, hnm⟩ := tapN_zero hT
    obtain ⟨hck, h7, hL, hLl⟩ := sText_facts hN
    have hfv := fine_check hck
    have Hfv := Lib.hid hfv
    have Hlen := Lib.hid (check_facts hck).2.2
    have HC := Lib.hid (show chkN v u k pub = match getAt [sigK, u, k] v with | some p => foundN v p pub | none => 8 by unfold chkN; rw [if_neg (by simpa using hT)])
    have HV : tapV v u k = .tuple #[str (sTextL v), .agg #[str sigK, str u, str k], .int .i64 0] := by unfold tapV; rw [if_pos hT]
    rw [HV]
    clear HV hT hN hnm hck h7 hL hfv
    have Hll := Lib.hid hLl
    clear hLl
    -- the world with the path laid
    have hA : Below w1.heap.size w1 (w1.alloc (.cells #[str sigK, str u, str k] 40)) := (Below.refl _ _).alloc (Nat.le_refl _) _
    have hpB := Blk.new w1 40 #[str sigK, str u, str k]
    have hxA := hx1.alloc (.cells #[str sigK, str u, str k] 40)
    have hwA := hw1.trans (hA.mono hw1.size)
    have hsl := path_slice_all w1.heap.size
    have Hs1 := Lib.hid (show w1.heap.size < (w1.alloc (.cells #[str sigK, str u, str k] 40)).heap.size by simp)
    go_wp2_with fail
    have Hvv := Lib.hid (show ∀ W, Below w.heap.size w W → VIn W B v [.int .i64 kd, .int .i64 n, str t, .slice Ak nk ck, .slice Ap np cp] from fun W hW => hv.below (hW.mono hB))
    generalize hWe : w1.alloc (.cells #[str sigK, str u, str k] 40) = W0 at *
    have hsz0 : w.heap.size < W0.heap.size := hxA.lt
    have hsz1 : w1.heap.size < W0.heap.size := Hs1.out
    clear hWe hA hb1 hx1 hw1 HW H1 hv Hs1
    obtain ⟨v0, v1, v2, v3, v4, -, -, -, -, -⟩ := sl_box hxA
    generalize w1.heap.size = gp at *
    have HhzA := Lib.hid (show Below W0.heap.size W0 W0.drew from (Below.refl _ _).drew)
    have HhzB := Lib.hid (show Below W0.heap.size W0 (W0.alloc (.cells #[.int .i64 0, .int .i64 0, str [], .slice none 0 0, .slice none 0 0] 25)).drew from ((Below.refl _ _).alloc (Nat.le_refl _) _).drew)
    have HnB := Lib.hid (show Blk (W0.alloc (.cells #[.int .i64 0, .int .i64 0, str [], .slice none 0 0, .slice none 0 0] 25)).drew W0.heap.size 25 #[.int .i64 0, .int .i64 0, str [], .slice none 0 0, .slice none 0 0] from Blk.new W0 _ _)
    have hv1 : ∀ W, Below W0.heap.size W0 W → Calls Tryz.prog 33 #[.agg #[.int .i64 kd, .int .i64 n, str t, .slice Ak nk ck, .slice Ap np cp], .slice (some ⟨gp, 0, none⟩) 3 3] W (FDPost (getAt [sigK, u, k] v) W0 W) := by
      intro W hW
      have h1 : Below w.heap.size w W := hwA.trans (hW.mono hwA.size)
      exact find_fd (keys := [sigK, u, k]) hW (Nat.le_trans hB h1.size) (Hvv.out W h1) Hfv.out (path_holds (hpB.below hW hpB.lt) 3 (by omega)) (by simp)
    have HFA := Lib.hid (hv1 _ HhzA.out)
    have HFB := Lib.hid (hv1 _ HhzB.out)
    have HwA := Lib.hid hwA
    have Htl := Lib.hid (show ∀ p, getAt [sigK, u, k] v = some p → p.kind = 5 → p.text.length ≤ 1200 by
      intro p hg h5
      have h1 := getAt_text Hfv.out hg
      have h2 := Hlen.out
      cases p with
      | mk pk pn pt pks pps =>
        have h5' : pk = 5 := h5
        subst h5'
        have h3 := str_text (n := pn) (t := pt) (ks := pks) (ps := pps)
        show pt.length ≤ 1200
        omega)
    have HF := Lib.hid (show ∀ p, foundN v p pub = if p.kind = 5 then (match sigD p.text with | some (r, s) => checkR pub (sTextL v).length (sTextL v) r s | none => 4) else 8 from fun p => rfl)
    have HsL := Lib.hid (rfl : sTextL v = sTextL v)
    clear hv1 hwA hpB hxA hB htab hgl hcnt hu hk Hvv HhzA HhzB Hll
    generalize getAt [sigK, u, k] v = o at *
    generalize sTextL v = L at *
    go_cut [12, 13] (fun s12 s13 wx => ∃ (g : Nat) (b : Bool) (k2 n2 : Int) (t2 : List UInt8) (Ak2 : Option Addr) (nk2 ck2 : Nat) (Ap2 : Option Addr) (np2 cp2 : Nat), s12 = .pointer (some ⟨g, 0, none⟩) ∧ s13 = .bool b ∧
      Blk wx g 25 #[.int .i64 k2, .int .i64 n2, str t2, .slice Ak2 nk2 ck2, .slice Ap2 np2 cp2] ∧ FD o b k2 t2 ∧ Below W0.heap.size W0 wx)
    case first =>
      go_region_with (first
          | (go_at_call 33; go_fit (HFA.out); rintro e w1 ⟨b, k2, n2, t2, Ak2, nk2, ck2, Ap2, np2, cp2, rfl, hfd, hb3, hb4⟩; have HD := Lib.hid hfd; have Hb4 := Lib.hid hb4; clear hfd hb3 hb4)
          | (go_at_call 33; go_fit (HFB.out); rintro e w1 ⟨b, k2, n2, t2, Ak2, nk2, ck2, Ap2, np2, cp2, rfl, hfd, hb3, hb4⟩; have HD := Lib.hid hfd; have Hb4 := Lib.hid hb4; have hbx := HnB.out.below hb3 (by simp); obtain ⟨s0, s1, s2, s3, s4, z0, z1, z2, z3, z4⟩ := sl_box hbx; have Hbx := Lib.hid hbx; clear hfd hb3 hb4 hbx))
      all_goals
        go_wp2_with fail
        go_meet
        first
          | (have hB := Hbx.out; exact ⟨_, b, k2, n2, t2, Ak2, nk2, ck2, Ap2, np2, cp2, rfl, rfl, sl_set5 Hbx.out _ _ _ _ _, HD.out, sl_below5 Hb4.out (Nat.le_refl _) _ _ _ _ _⟩)
          | exact ⟨_, b, k2, n2, t2, Ak2, nk2, ck2, Ap2, np2, cp2, rfl, rfl, Blk.new _ _ _, HD.out, Hb4.out.alloc Hb4.out.size _⟩
    case rest =>
      obtain ⟨g, b, k2, n2, t2, Ak2, nk2, ck2, Ap2, np2, cp2, rfl, rfl, hbx, hfd, hb4⟩ := hcut
      clear HFA HFB HnB v0 v1 v2 v3 v4 hsl hsz0 hsz1
      obtain ⟨s0, s1, s2, s3, s4, z0, z1, z2, z3, z4⟩ := sl_box hbx
      have hw4 := HwA.out.trans (hb4.mono HwA.out.size)
      rcases hfd with ⟨ho, rfl⟩ | ⟨p, ho, rfl, hk2, ht2⟩
      · have HR := Lib.hid (show chkN v u k pub = 8 by rw [HC.out, ho])
        clear ho
        go_wp2_with fail
        go_ret
        exact ⟨by rw [HR.out]; rfl, hw4⟩
      · have HR := Lib.hid (show chkN v u k pub = if k2 = 5 then (match sigD t2 with | some (r, s) => checkR pub L.length L r s | none => 4) else 8 by rw [HC.out, ho, hk2, ht2]; exact HF.out p)
        have Ht2 := Lib.hid (show k2 = 5 → t2.length ≤ 1200 by intro h; rw [ht2]; exact Htl.out p ho (by rw [← hk2]; exact h))
        clear ho hk2 ht2 HF Htl HC
        by_cases h5 : k2 = 5
        · subst h5
          have HR2 := Lib.hid (show chkN v u k pub = (match sigD t2 with | some (r, s) => checkR pub L.length L r s | none => 4) by have := HR.out; rwa [if_pos rfl] at this)
          have htl := Ht2.out rfl
          clear HR Ht2
          go_wp2_with fail
          refine (decode_sig t2 htl _).mono ?_
          rintro e w2 ⟨rfl, hb5⟩
          have hb6 : Below w.heap.size w w2 := hw4.trans (hb5.mono hw4.size)
          cases hD : sigD t2 with
          | none =>
            have HR3 := Lib.hid (show chkN v u k pub = 4 by rw [HR2.out, hD])
            clear HR2 hD
            simp only [sigDV]
            go_wp2_with fail
            go_ret
            exact ⟨by rw [HR3.out]; rfl, hb6.alloc hb6.size _⟩
          | some rs =>
            obtain ⟨r, s⟩ := rs
            have HR3 := Lib.hid (show chkN v u k pub = checkR pub L.length L r s by rw [HR2.out, hD])
            clear HR2 hD
            simp only [sigDV]
            obtain ⟨cc, w3, hcv, hhv, hb7⟩ := conv_bytes (w2.alloc (.cells #[.int .i64 r, .int .i64 s] 45)) L (w2.heap.size + 1) (by simp)
            have hq := (Blk.new w2 45 #[.int .i64 r, .int .i64 s]).below hb7 (by simp)
            obtain ⟨q0, q1, -, -⟩ := sgbox hq
            have hb7' : Below w2.heap.size w2 w3 := ((Below.refl _ _).alloc (Nat.le_refl _) _).trans (hb7.mono (by simp))
            have Hb8 := Lib.hid (hb6.trans (hb7'.mono hb6.size))
            have Hhv := Lib.hid hhv
            clear hb7 hb7' hq hhv hbx s0 s1 s2 s3 s4 z0 z1 z2 z3 z4 hb5 hb6 hw4 hb4
            go_wp2_with fail
            go_fit (sgCheck_any pub (some ⟨w2.heap.size + 1, 0, none⟩) L.length cc L r s w3 Hhv.out)
            rintro e w4 ⟨rfl, hb9⟩
            go_wp2_with fail
            go_ret
            exact ⟨by rw [HR3.out]; rfl, Hb8.out.trans (hb9.mono Hb8.out.size)⟩
        · have h5b : (k2 != 5) = true := by simpa using h5
          have HR2 := Lib.hid (show chkN v u k pub = 8 by have := HR.out; rwa [if_neg h5] at this)
          clear HR Ht2 h5
          go_wp2_with fail
          go_ret
          exact ⟨by rw [HR2.out]; rfl, hw4⟩
  · have HC := Lib.hid (show chkN v u k pub = tapN v u k by unfold chkN; rw [if_pos hT])
    have HV : tapV v u k = .tuple #[str [], .agg #[str [], str [], str []], .int .i64 (tapN v u k)] := by unfold tapV; rw [if_neg hT]
    rw [HV]
    generalize tapN v u k = a at *
    have hab : (a != 0) = true := by simpa using hT
    clear HV hT
    go_wp2_with fail
    go_ret
    exact ⟨by rw [HC.out]; rfl, hw1.alloc hw1.size _⟩
end Go.Proofs.YthkbeliplibiaaaGreatDoor
