/- json's reader: restOfObject, and so 'value' at every text. -/
import Derived.Test.YtgghncgefhanjaaGreatDoorJMemb
import Derived.Test.YtgghncgefhanjaaGreatDoorJObjI
import Derived.Test.YtgghncgefhanjaaGreatDoorJParse
namespace Go.Proofs.YtgghncgefhanjaaGreatDoor
set_option linter.unusedVariables false
set_option linter.unusedSimpArgs false
open Go.RowKit

def ReadObjR (g n : Nat) (s : List UInt8) (T : Option (List (List UInt8) × List JV × List UInt8)) (w : World) (gk : Nat) (kv pvv : Value) (wr : World) : Prop :=
  ∃ (r : List UInt8) (ks : List (List UInt8)) (ps : List JV), gk = r.length ∧ r.length < n ∧ Rd wr g s r ∧ ObjOwn w wr kv pvv ks ps ∧ incr ks = true ∧ ks.length = ps.length ∧ ks.length + r.length ≤ s.length ∧
    (∀ k ∈ ks, k.length ≤ s.length) ∧ w.grownBy wr (some g) ∧ objL (pv n) (r.length + 1) ks ps r = T

attribute [local go_sem high] str_mk
set_option maxRecDepth 100000 in
set_option maxHeartbeats 4000000 in
theorem object_read {P : List UInt8 → Prop} (n : Nat) (ih : ValOk P n) (g : Nat) (s r : List UInt8) (w : World) (hP : P s) (hr : Rd w g s r) (hs : s.length ≤ 1048000) (hrn : r.length < n) :
    Calls Tryz.prog 108 #[.pointer (some ⟨g, 0, none⟩)] w (ObjPost g s (objR n r) w) := by
  have hg := hr.lt
  have hrl := hr.le
  have hsk := skip_len r
  by_cases h125 : (skip r).head? = some 125
  · obtain ⟨r2, h125⟩ := head_cons h125
    have Hs := Lib.hid (objR_end (n := n) h125)
    have H125 := Lib.hid h125
    clear h125
    go_enter Tryz.func108, Tryz.ntmps108
    go_wp2_with fail
    refine (mark_yes g s [125] r r2 _ hr H125.out (by omega)).mono ?_
    rintro e w2 ⟨rfl, hr2, hon2⟩
    go_wp2_with fail
    go_ret3
    exact .inl ⟨[], [], skip r2, none, 0, none, 0, Hs.out, rfl, (ObjOwn.nil w w2).value 7 (.inr rfl) (by simp) (by simp) (by simp), hr2, hon2⟩
  have Hs := Lib.hid (objR_more (n := n) h125)
  have hno := hasPrefix_not h125
  generalize hT : objR n r = T
  rw [hT] at Hs
  have HT := Lib.hid (show objL (pv n) ((skip r).length + 1) [] [] (skip r) = T from Hs.out.symm)
  clear h125 Hs hT
  go_enter Tryz.func108, Tryz.ntmps108
  go_wp2_with fail
  refine (mark_no g s [125] r _ hr hno (by omega)).mono ?_
  rintro e w1 ⟨rfl, hr1, hon1⟩
  go_wp2_with fail
  go_loopg [5, 6] (skip r).length (ReadObjR g n s T w)
  case atStart => exact ⟨skip r, [], [], rfl, by omega, hr1, ObjOwn.nil _ _, rfl, rfl, by simp; omega, by simp, hon1, HT.out⟩
  case round =>
    clear HT hno hsk hrl
    obtain ⟨r', ks, ps, hgk, hrn', hr', hown, hinc, hkp, hlen, hkl, hon, hT⟩ := hrel
    have Hgk := Lib.hid hgk
    have HT := Lib.hid hT
    have Hinc := Lib.hid hinc
    have Hkp := Lib.hid hkp
    have Hkl := Lib.hid hkl
    clear hgk hT hr1 hon1 hinc hkp hkl
    have hsz : w.heap.size ≤ wr.heap.size := hon.size
    go_wp2_with fail
    refine (member_any n ih g s r' wr hP hr' hs hrn').mono ?_
    intro e w2 hv
    rcases hv with ⟨key, v, r2, cs, hpv, rfl, hvin, hr2, hon2⟩ | ⟨hpv, key, k, m, t, Ak, nk, ck, Ap, np, cp, r2, rfl, hr2, hon2⟩
    · obtain ⟨k, m, t, Ak, nk, ck, Ap, np, cp, rfl⟩ := hvin.form
      obtain ⟨hlt, hkey⟩ := memR_len hpv
      have hand2 : ObjAnd w w2 u5 u6 ks ps v [.int .i64 k, .int .i64 m, str t, .slice Ak nk ck, .slice Ap np cp] := ⟨hown.only hon2 hg, VInS.mono (hown.beside hsz) _ _ hvin⟩
      have Hpv := Lib.hid hpv
      have hsz2 : w.heap.size ≤ w2.heap.size := Nat.le_trans hsz hon2.size
      have hon02 := only_trans hon hon2
      obtain ⟨⟨A5, c5, rfl⟩, A6, c6, rfl⟩ := hown.forms
      clear hpv hvin hown hr' hon hon2
      have hand3 := hand2.alloc (.cells #[.int .i64 k, .int .i64 m, str t, .slice Ak nk ck, .slice Ap np cp] 25)
      have hh3 := Holds.own hand3.1.1
      have hbv := Blk.new w2 25 #[.int .i64 k, .int .i64 m, str t, .slice Ak nk ck, .slice Ap np cp]
      have hr3 := hr2.alloc (.cells #[.int .i64 k, .int .i64 m, str t, .slice Ak nk ck, .slice Ap np cp] 25)
      have hon03 := only_alloc hon02 (.cells #[.int .i64 k, .int .i64 m, str t, .slice Ak nk ck, .slice Ap np cp] 25)
      go_wp2_with fail
      refine (bin_any A5 c5 ks key _ _ hh3 (by omega) Hinc.out).mono ?_
      rintro e w3 ⟨rfl, q, rfl⟩
      have hpl := place_le ks key
      by_cases hmem : key ∈ ks
      · rw [decide_eq_true hmem]
        obtain ⟨q0, q1, q2, hq0, hq1, hq2, hq3⟩ := memR_some Hpv.out
        have HT2 := Lib.hid (show T = none by rw [← HT.out, hq0]; exact objL_twice hq1 hq2 hq3 hmem)
        clear hq0 hq1 hq2 hq3 hmem
        go_wp2_with fail
        go_ret3
        exact .inr ⟨HT2.out, r2, rfl, hr3, drewN_only hon03 q⟩
      · rw [decide_eq_false hmem]
        have Hmem := Lib.hid hmem
        clear hmem
        generalize hpp : place ks key = at_ at *
        have Hpp := Lib.hid hpp
        clear hpp
        have hown5 : some (w2.heap.size + 1) ≠ (Value.slice A5 ks.length c5).ownBlock := by
          intro e
          have := (World.ownsRow.lt hand2.1.1 _ e.symm).2
          omega
        have hand4 := (hand3.drewN q).alloc (.cells #[str key] 9)
        have hbk := Blk.new ((w2.alloc (.cells #[.int .i64 k, .int .i64 m, str t, .slice Ak nk ck, .slice Ap np cp] 25)).drewN q) 9 #[str key]
        have hbv4 := (show Blk ((w2.alloc (.cells #[.int .i64 k, .int .i64 m, str t, .slice Ak nk ck, .slice Ap np cp] 25)).drewN q) w2.heap.size 25 _ from hbv).alloc (.cells #[str key] 9)
        have hr4 := (show Rd ((w2.alloc (.cells #[.int .i64 k, .int .i64 m, str t, .slice Ak nk ck, .slice Ap np cp] 25)).drewN q) g s r2 from hr3).alloc (.cells #[str key] 9)
        have hon04 := only_alloc (drewN_only hon03 q) (.cells #[str key] 9)
        have hsz4 : ((w2.alloc (.cells #[.int .i64 k, .int .i64 m, str t, .slice Ak nk ck, .slice Ap np cp] 25)).drewN q).heap.size = w2.heap.size + 1 := by show (w2.alloc _).heap.size = _; simp
        have hsz4' : (((w2.alloc (.cells #[.int .i64 k, .int .i64 m, str t, .slice Ak nk ck, .slice Ap np cp] 25)).drewN q).alloc (.cells #[str key] 9)).heap.size = w2.heap.size + 2 := by
          show ((w2.alloc (.cells #[.int .i64 k, .int .i64 m, str t, .slice Ak nk ck, .slice Ap np cp] 25)).alloc (.cells #[str key] 9)).heap.size = _
          simp
        rw [hsz4] at hbk
        have Hand4 := Lib.hid hand4
        have Hbk := Lib.hid hbk
        have Hbv4 := Lib.hid hbv4
        have Hr4 := Lib.hid hr4
        have Hon04 := Lib.hid hon04
        have Hsz4 := Lib.hid hsz4'
        have Hown5 := Lib.hid hown5
        have Hnew5 := Lib.hid (show some w2.heap.size ≠ (Value.slice A5 ks.length c5).ownBlock by
          intro e
          have := (World.ownsRow.lt hand2.1.1 _ e.symm).2
          omega)
        clear hand2 hand3 hh3 hbv hr3 hon03 hr2 hon02 hand4 hbk hbv4 hr4 hon04 hsz4 hsz4' hown5
        obtain ⟨kb, hkb⟩ := str_open key
        have Hkb := Lib.hid hkb
        rw [hkb]
        clear hkb
        go_wp2_with fail
        rw [← Hkb.out]
        refine (insKey w _ _ _ ks ps v _ key at_ _ Hand4.out (by omega) (by omega) (by rw [Hsz4.out]; omega) Hbk.out Hown5.out).mono ?_
        rintro e w5 ⟨kv5, rfl, hand5, hbl5, hg5⟩
        have hbv5 := Hbv4.out.grown hg5 (by
          intro e
          have := (World.ownsRow.lt Hand4.out.1.1 _ e.symm).2
          exact Hnew5.out e)
        have hr5 : Rd w5 g s r2 := by
          obtain ⟨p, e1, e2, e3⟩ := Hr4.out
          exact ⟨p, e1, e2, e3.below hbl5 hg⟩
        have hon05 := only_below_then Hon04.out hbl5
        have hsz5 : w2.heap.size + 2 ≤ w5.heap.size := by have := hg5.size; rw [Hsz4.out] at this; exact this
        obtain ⟨⟨A7, c7, hkv⟩, _⟩ := hand5.1.forms
        have hown6 : some w5.heap.size ≠ (Value.slice A6 ps.length c6).ownBlock := by
          intro e
          obtain ⟨_, xs6, hx6, _⟩ := hand5.1
          have := (World.ownsRow.lt hx6 _ e.symm).2
          omega
        have hand6 := hand5.alloc (.cells #[.int .i64 k, .int .i64 m, str t, .slice Ak nk ck, .slice Ap np cp] 25)
        have hbn := Blk.new w5 25 #[.int .i64 k, .int .i64 m, str t, .slice Ak nk ck, .slice Ap np cp]
        have hr6 := hr5.alloc (.cells #[.int .i64 k, .int .i64 m, str t, .slice Ak nk ck, .slice Ap np cp] 25)
        have hon06 := only_alloc hon05 (.cells #[.int .i64 k, .int .i64 m, str t, .slice Ak nk ck, .slice Ap np cp] 25)
        obtain ⟨d0, d1, d2, d3, d4, _, _, _, _, _⟩ := box_facts hbv5
        have Hand6 := Lib.hid hand6
        have Hbn := Lib.hid hbn
        have Hr6 := Lib.hid hr6
        have Hon06 := Lib.hid hon06
        have Hown6 := Lib.hid hown6
        clear Hand4 Hbk Hbv4 Hr4 Hon04 Hown5 hand5 hbl5 hg5 hbv5 hr5 hon05 hand6 hbn hr6 hon06 hown6
        have Hkv := Lib.hid hkv
        clear hkv
        go_wp2_with fail
        refine (insPart w _ _ _ (ks.insertIdx at_ key) ps v _ at_ _ Hand6.out (by have := Hkp.out; omega) (by have := Hkp.out; omega) (by simp; omega) Hbn.out Hown6.out).mono ?_
        rintro e w7 ⟨pv7, rfl, hown7, hbl7⟩
        have hr7 : Rd w7 g s r2 := by
          obtain ⟨p, e1, e2, e3⟩ := Hr6.out
          exact ⟨p, e1, e2, e3.below hbl7 hg⟩
        have hon7 := only_below_then Hon06.out hbl7
        clear Hand6 Hbn Hr6 Hon06 Hown6 hbl7 d0 d1 d2 d3 d4
        obtain ⟨q0, q1, q2, hq0, hq1, hq2, hq3⟩ := memR_some Hpv.out
        have hki : (ks.insertIdx at_ key).length = ks.length + 1 := List.length_insertIdx_of_le_length (by omega) _
        have hpi : (ps.insertIdx at_ v).length = ps.length + 1 := List.length_insertIdx_of_le_length (by have := Hkp.out; omega) _
        have hinc7 : incr (ks.insertIdx at_ key) = true := by rw [← Hpp.out]; exact incr_insert Hinc.out Hmem.out
        have hkl7 : ∀ x ∈ ks.insertIdx at_ key, x.length ≤ s.length := by
          intro x hx
          rcases (List.mem_insertIdx (by omega)).1 hx with rfl | hx
          · have := hr7.le; omega
          · exact Hkl.out x hx
        have hmem := Hmem.out
        have HT0 := Lib.hid (show objL (pv n) (r'.length + 1) ks ps (34 :: q0) = T by rw [← hq0]; exact HT.out)
        have Hki := Lib.hid hki
        have Hpi := Lib.hid hpi
        have Hinc7 := Lib.hid hinc7
        have Hkl7 := Lib.hid hkl7
        clear HT hki hpi hinc7 hkl7
        by_cases h1 : (skip r2).head? = some 125
        · obtain ⟨r3, h1⟩ := head_cons h1
          have HT2 := Lib.hid (show T = some (ks.insertIdx at_ key, ps.insertIdx at_ v, skip r3) by rw [← HT0.out, objL_last hq1 hq2 hq3 hmem h1, Hpp.out])
          have H1 := Lib.hid h1
          clear h1 hq0 hq1 hq2 hq3 hmem
          go_wp2_with fail
          refine (mark_yes g s [125] r2 r3 _ hr7 H1.out (by omega)).mono ?_
          rintro e w8 ⟨rfl, hr8, hon8⟩
          have hown8 := hown7.only hon8 hg
          obtain ⟨⟨A8, c8, rfl⟩, A9, c9, rfl⟩ := hown8.forms
          go_wp2_with fail
          go_ret3
          exact .inl ⟨ks.insertIdx at_ key, ps.insertIdx at_ v, skip r3, A8, c8, A9, c9, HT2.out, rfl, hown8.value 7 (.inr rfl) (by rw [Hki.out]; omega) (by rw [Hpi.out]; have := Hkp.out; omega) (fun x hx => by have := Hkl7.out x hx; omega), hr8, only_trans hon7 hon8⟩
        have hno1 := hasPrefix_not h1
        by_cases h2 : (skip r2).head? = some 44
        · obtain ⟨r3, h2⟩ := head_cons h2
          have hl3 := skip_cons_len h2
          have HT2 := Lib.hid (show objL (pv n) ((skip r3).length + 1) (ks.insertIdx at_ key) (ps.insertIdx at_ v) (skip r3) = T by
            rw [← HT0.out, objL_more hq1 hq2 hq3 hmem h2, Hpp.out, objL_fuel (pv_shrinks n) (skip r3).length (skip r3) r'.length _ _ (Nat.le_refl _) (by omega)])
          have H2 := Lib.hid h2
          clear h2 h1 hq0 hq1 hq2 hq3 hmem
          go_wp2_with fail
          refine (mark_no g s [125] r2 _ hr7 hno1 (by omega)).mono ?_
          rintro e w8 ⟨rfl, hr8, hon8⟩
          go_wp2_with fail
          refine (mark_yes g s [44] _ r3 _ hr8 (by rw [skip_skip]; exact H2.out) (by omega)).mono ?_
          rintro e w9 ⟨rfl, hr9, hon9⟩
          have hon89 := only_trans hon8 hon9
          go_wp2_with fail
          go_roundg (skip r3).length
          case measure => have := Hgk.out; omega
          case rel => exact ⟨skip r3, _, _, rfl, by omega, hr9, hown7.only hon89 hg, Hinc7.out, by rw [Hki.out, Hpi.out, Hkp.out], by rw [Hki.out]; omega, Hkl7.out, only_trans hon7 hon89, HT2.out⟩
        · have HT2 := Lib.hid (show T = none by rw [← HT0.out]; exact objL_badEnd hq1 hq2 hq3 h1 h2)
          have hno2 : Lib.hasPrefix (skip (skip r2)) [44] = false := by rw [skip_skip]; exact hasPrefix_not h2
          clear h1 h2 hq0 hq1 hq2 hq3 hmem
          go_wp2_with fail
          refine (mark_no g s [125] r2 _ hr7 hno1 (by omega)).mono ?_
          rintro e w8 ⟨rfl, hr8, hon8⟩
          go_wp2_with fail
          refine (mark_no g s [44] _ _ hr8 hno2 (by omega)).mono ?_
          rintro e w9 ⟨rfl, hr9, hon9⟩
          go_wp2_with fail
          go_ret3
          exact .inr ⟨HT2.out, _, rfl, hr9, only_trans hon7 (only_trans hon8 hon9)⟩
    · have HT2 := Lib.hid (show T = none by rw [← HT.out]; exact objL_memNone hpv)
      clear hpv
      go_wp2_with fail
      go_ret3
      exact .inr ⟨HT2.out, r2, rfl, hr2.alloc _, only_alloc (only_trans hon hon2) _⟩

/-- 'value' at every text. -/
theorem valOk_all : ∀ n, ValOk (fun _ => True) n
  | 0 => fun g s r w _ _ _ h => by omega
  | n + 1 => value_step n (valOk_all n) fun s _ _ g r w hr hs hrn => object_read n (valOk_all n) g s r w trivial hr hs hrn
theorem Parse_all (s : List UInt8) (w : World) (hs : s.length ≤ 9223372036854775807) (htab : Tab w.heap.size w) : Calls Tryz.prog 25 #[str s] w (ParsePost s w) :=
  Parse_any s w (fun h => valAt_of (valOk_all _) trivial (by omega)) hs htab
end Go.Proofs.YtgghncgefhanjaaGreatDoor
