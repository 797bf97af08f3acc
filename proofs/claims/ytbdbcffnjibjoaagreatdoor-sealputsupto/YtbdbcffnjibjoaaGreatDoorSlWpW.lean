/- withPart of the reference: its walk. -/
import Derived.Test.YtbdbcffnjibjoaaGreatDoorBunG
import Derived.Test.YtbdbcffnjibjoaaGreatDoorBunQ
import Derived.Deep.DeepCutAuto
namespace Go.Proofs.YtbdbcffnjibjoaaGreatDoor
set_option linter.unusedVariables false
set_option linter.unusedSimpArgs false
open Go.RowKit
attribute [local go_sem high] str_mk
set_option maxRecDepth 100000 in
set_option maxHeartbeats 4000000 in
theorem withPart_any (v p : JV) (cs csp : List Value) (key : List UInt8) (w : World) (B : Nat) (hB : B ≤ w.heap.size) (hv : VIn w B v cs) (hp : VIn w B p csp) (hlen : v.keys.length = v.parts.length) (hinc : incr v.keys = true) (hsm : v.keys.length ≤ 1000) (hky : key.length ≤ 1048576) :
    Calls Tryz.prog 19 #[.agg cs.toArray, str key, .agg csp.toArray] w (WpPost (.mk 7 0 [] (wpR key p false v.keys v.parts).1 (wpR key p false v.keys v.parts).2) B w) := by
  cases v with
  | mk kd n t ks ps =>
  obtain ⟨kp, mp, tp, Akp, nkp, ckp, App, npp, cpp, rfl⟩ := hp.form
  have hv' := hv
  unfold VIn at hv'
  obtain ⟨Ak, ck, Ap, cp, pc, rfl, hk1, hn1, ht, hks, hps, hkl, hck, hcp, hh1, hh2, hpin⟩ := hv'
  have Hlen := Lib.hid (show ks.length = ps.length from hlen)
  have Hinc := Lib.hid (show incr ks = true from hinc)
  have Hsm := Lib.hid (show ks.length ≤ 1000 from hsm)
  have Hfin := Lib.hid (wpR_len key p false ks ps)
  clear hlen hinc hsm hv
  have b0 := Blk.new w 25 #[.int .i64 kd, .int .i64 n, str t, .slice Ak ks.length ck, .slice Ap ps.length cp]
  have s1 : (w.alloc (.cells #[.int .i64 kd, .int .i64 n, str t, .slice Ak ks.length ck, .slice Ap ps.length cp] 25)).heap.size = w.heap.size + 1 := by simp
  have s2 : ((w.alloc (.cells #[.int .i64 kd, .int .i64 n, str t, .slice Ak ks.length ck, .slice Ap ps.length cp] 25)).alloc (.cells #[.int .i64 kp, .int .i64 mp, str tp, .slice Akp nkp ckp, .slice App npp cpp] 25)).heap.size = w.heap.size + 2 := by simp
  have s3 : (((w.alloc (.cells #[.int .i64 kd, .int .i64 n, str t, .slice Ak ks.length ck, .slice Ap ps.length cp] 25)).alloc (.cells #[.int .i64 kp, .int .i64 mp, str tp, .slice Akp nkp ckp, .slice App npp cpp] 25)).alloc (.cells #[.int .i64 0, .int .i64 0, str [], .slice none 0 0, .slice none 0 0] 25)).heap.size = w.heap.size + 3 := by simp
  have b1 := Blk.new (w.alloc (.cells #[.int .i64 kd, .int .i64 n, str t, .slice Ak ks.length ck, .slice Ap ps.length cp] 25)) 25 #[.int .i64 kp, .int .i64 mp, str tp, .slice Akp nkp ckp, .slice App npp cpp]
  have b2 := Blk.new ((w.alloc (.cells #[.int .i64 kd, .int .i64 n, str t, .slice Ak ks.length ck, .slice Ap ps.length cp] 25)).alloc (.cells #[.int .i64 kp, .int .i64 mp, str tp, .slice Akp nkp ckp, .slice App npp cpp] 25)) 25 #[.int .i64 0, .int .i64 0, str [], .slice none 0 0, .slice none 0 0]
  have b3 := Blk.new (((w.alloc (.cells #[.int .i64 kd, .int .i64 n, str t, .slice Ak ks.length ck, .slice Ap ps.length cp] 25)).alloc (.cells #[.int .i64 kp, .int .i64 mp, str tp, .slice Akp nkp ckp, .slice App npp cpp] 25)).alloc (.cells #[.int .i64 0, .int .i64 0, str [], .slice none 0 0, .slice none 0 0] 25)) 25 #[.int .i64 7, .int .i64 0, str [], .slice none 0 0, .slice none 0 0]
  rw [s1] at b1
  rw [s2] at b2
  rw [s3] at b3
  have hW4 : Below w.heap.size w ((((w.alloc (.cells #[.int .i64 kd, .int .i64 n, str t, .slice Ak ks.length ck, .slice Ap ps.length cp] 25)).alloc (.cells #[.int .i64 kp, .int .i64 mp, str tp, .slice Akp nkp ckp, .slice App npp cpp] 25)).alloc (.cells #[.int .i64 0, .int .i64 0, str [], .slice none 0 0, .slice none 0 0] 25)).alloc (.cells #[.int .i64 7, .int .i64 0, str [], .slice none 0 0, .slice none 0 0] 25)) := ((((Below.refl _ _).alloc (Nat.le_refl _) _).alloc (by rw [s1]; omega) _).alloc (by rw [s2]; omega) _).alloc (by rw [s3]; omega) _
  have HO := Lib.hid (show WpO [] [] B w.heap.size w #[.int .i64 kd, .int .i64 n, str t, .slice Ak ks.length ck, .slice Ap ps.length cp] #[.int .i64 kp, .int .i64 mp, str tp, .slice Akp nkp ckp, .slice App npp cpp] ((((w.alloc (.cells #[.int .i64 kd, .int .i64 n, str t, .slice Ak ks.length ck, .slice Ap ps.length cp] 25)).alloc (.cells #[.int .i64 kp, .int .i64 mp, str tp, .slice Akp nkp ckp, .slice App npp cpp] 25)).alloc (.cells #[.int .i64 0, .int .i64 0, str [], .slice none 0 0, .slice none 0 0] 25)).alloc (.cells #[.int .i64 7, .int .i64 0, str [], .slice none 0 0, .slice none 0 0] 25)) (.slice none 0 0) (.slice none 0 0) from ⟨((b0.alloc _).alloc _).alloc _, (b1.alloc _).alloc _, b2.alloc _, b3, ObjB.nil _ _ _, hW4, by simp⟩)
  clear b0 b1 b2 b3 s1 s2 s3 hW4
  go_enter Tryz.func19, Tryz.ntmps19
  go_wp2_with fail
  go_loopg [8, 15] ks.length (WpR key p ks ps B w.heap.size w #[.int .i64 kd, .int .i64 n, str t, .slice Ak ks.length ck, .slice Ap ps.length cp] #[.int .i64 kp, .int .i64 mp, str tp, .slice Akp nkp ckp, .slice App npp cpp])
  case atStart => exact ⟨0, false, [], [], _, _, rfl, rfl, by omega, by omega, by simp, by simp, by simp, HO.out⟩
  case round =>
    clear HO
    obtain ⟨j, b, aK, aP, kv, pv, rfl, rfl, hj, hgk, hin, ha1, ha2, O⟩ := hrel
    have Hgk := Lib.hid hgk
    have Hin := Lib.hid hin
    have Hlk := Lib.hid (show aK.length ≤ 1001 ∧ aP.length ≤ 1001 from ⟨by have := congrArg List.length ha1; have := Hfin.out.1; have := Hsm.out; simp at *; omega, by have := congrArg List.length ha2; have := Hfin.out.2.1; have := Hsm.out; simp at *; omega⟩)
    have Ha1 := Lib.hid ha1
    have Ha2 := Lib.hid ha2
    have HKm := Lib.hid (show ∀ s ∈ (wpR key p false ks ps).1, s.length ≤ 1048576 from fun s hs => by rcases wpR_mem key p ks ps false s hs with h | h; (rw [h]; exact hky); exact hkl s h)
    clear hgk ha1 ha2 hin
    obtain ⟨⟨Akv, ckv, rfl⟩, ⟨Apv, cpv, rfl⟩⟩ := O.obj.forms
    have hsz := O.sz
    have HBB := Lib.hid (show B ≤ w.heap.size + 4 by omega)
    by_cases hlt : j < ks.length
    · obtain ⟨bb, off, hkl1, rfl, hbb, hc⟩ := (hh1.below (O.bel.mono hB)).str hlt
      have hltp : j < ps.length := by have := Hlen.out; omega
      obtain ⟨bq, offq, k2, n2, t2, Ak2, nk2, ck2, Ap2, np2, cp2, rfl, hbq, hv2, x0, x1, x2, x3, x4⟩ := part_cells hh2 hpin j hltp
      have Hv2 := Lib.hid hv2
      have hdk : ks.drop j = ks[j] :: ks.drop (j + 1) := List.drop_eq_getElem_cons hkl1
      have hdp : ps.drop j = ps[j] :: ps.drop (j + 1) := List.drop_eq_getElem_cons hltp
      have e1 := Ha1.out
      have e2 := Ha2.out
      have e3 := Hin.out
      rw [hdk, hdp] at e1 e2
      rw [hdk] at e3
      have HD := Lib.hid (show Op.bytesLess ks[j] key = false → key ∉ ks.drop (j + 1) from fun hl hm => by
        have hid := incr_drop_ (j := j) Hinc.out
        rw [hdk] at hid
        have h1 := (incr_cons.1 hid).1 key hm
        rw [hl] at h1; cases h1)
      have E1 := Lib.hid e1
      have E2 := Lib.hid e2
      have E3 := Lib.hid e3
      clear e1 e2 e3 hdk hdp Ha1 Ha2 Hin hv2
      generalize ks[j] = y at *
      generalize ps[j] = q at *
      generalize hFF : wpR key p false ks ps = F at *
      have HFe := Lib.hid hFF
      clear hFF
      generalize hDD : ks.drop (j + 1) = D at *
      have HDe := Lib.hid hDD
      clear hDD
      generalize hEE : ps.drop (j + 1) = E at *
      have HEe := Lib.hid hEE
      clear hEE
      have hltI : (j : Int) < (ks.length : Int) := by omega
      have Hbel := Lib.hid (O.bel.mono hB)
      have hbbw : bb < wr.heap.size := by omega
      have hbqw : bq < wr.heap.size := by omega
      cases b
      · by_cases hye : y = key
        · subst hye
          have W1 := Lib.hid (wpR_same (p := p) (q := q) (ks := D) (ps := E) (rfl : y = y))
          have hls : Op.bytesLess y y = false := bytesLess_irrefl y
          have HD2 := Lib.hid (HD.out hls)
          obtain ⟨A1, c1, y1, z1, r1, hz1, f1, h1, O1⟩ := O.putK hB y (by have := Hlk.out; simp; omega)
          have R1 := Lib.hid r1
          clear r1
          obtain ⟨A2, c2, y2, z2, r2, hz2, f2, h2, O2⟩ := O1.putP hB p _ _ _ _ _ (hp.below (O1.bel.mono hB)) (by have := Hlk.out; simp; omega)
          have R2 := Lib.hid r2
          clear r2
          obtain ⟨av0, av1, av2, av3, av4, -, -, -, -, -⟩ := sl_box O.bv
          obtain ⟨ap0, ap1, ap2, ap3, ap4, -, -, -, -, -⟩ := sl_box O.bp
          obtain ⟨ao0, ao1, ao2, ao3, ao4, af0, af1, af2, af3, af4⟩ := sl_box O.bo
          have alt := O.sz
          obtain ⟨bv0, bv1, bv2, bv3, bv4, -, -, -, -, -⟩ := sl_box O1.bv
          obtain ⟨bp0, bp1, bp2, bp3, bp4, -, -, -, -, -⟩ := sl_box O1.bp
          obtain ⟨bo0, bo1, bo2, bo3, bo4, bf0, bf1, bf2, bf3, bf4⟩ := sl_box O1.bo
          have blt := O1.sz
          have HO2 := Lib.hid O2
          clear O O1 O2
          go_upto_region 8 with (at_builtin; refine wpList_app rfl _ _ _ rfl _ _ (by rfl) (by rfl) R1.out ?_; clear R1)
          go_wp2_with (at_builtin; refine wpList_app rfl _ _ _ rfl _ _ (by rfl) (by rfl) R2.out ?_; clear R2)
          go_roundg (ks.length - (j + 1))
          case measure => have := Hgk.out; omega
          case rel =>
            have e1 : aK ++ [y] ++ (wpR y p true D E).1 = F.1 := by rw [← E1.out, W1.out]; simp
            have e2 : aP ++ [p] ++ (wpR y p true D E).2 = F.2 := by rw [← E2.out, W1.out]; simp
            refine ⟨j + 1, true, aK ++ [y], aP ++ [p], _, _, by go_num, rfl, by omega, rfl, ?_, ?_, ?_, HO2.out⟩
            · rw [HDe.out]; exact fun _ => HD2.out
            · rw [HDe.out, HEe.out, HFe.out]; exact e1
            · rw [HDe.out, HEe.out, HFe.out]; exact e2
        · have hyb : (y == key) = false := by simpa using hye
          cases hls : Op.bytesLess y key
          · have W1 := Lib.hid (wpR_more (p := p) (q := q) (ks := D) (ps := E) hls hye)
            have HD2 := Lib.hid (HD.out hls)
            clear hye
            obtain ⟨A1, c1, y1, z1, r1, hz1, f1, h1, O1⟩ := O.putK hB key (by have := Hlk.out; simp; omega)
            have R1 := Lib.hid r1
            clear r1
            obtain ⟨A2, c2, y2, z2, r2, hz2, f2, h2, O2⟩ := O1.putP hB p _ _ _ _ _ (hp.below (O1.bel.mono hB)) (by have := Hlk.out; simp; omega)
            have R2 := Lib.hid r2
            clear r2
            obtain ⟨A3, c3, y3, z3, r3, hz3, f3, h3, O3⟩ := O2.putK hB y (by have := Hlk.out; simp; omega)
            simp only [List.length_append, List.length_cons, List.length_nil, Nat.zero_add] at r3 hz3 O3
            have R3 := Lib.hid r3
            clear r3
            obtain ⟨Aq, cq, XD, y8, y9, hXD, hS, hSa, hSb, rq, hy9, fq, OQ⟩ := O3.part hB rfl hbq q _ _ _ _ _ x0 x1 x2 x3 x4 Hv2.out (by have := Hlk.out; simp; omega)
            simp only [List.length_append, List.length_cons, List.length_nil, Nat.zero_add] at rq hy9 OQ
            have RQ := Lib.hid rq
            have HOQ := Lib.hid OQ
            clear rq OQ
            obtain ⟨av0, av1, av2, av3, av4, -, -, -, -, -⟩ := sl_box O.bv
            obtain ⟨ap0, ap1, ap2, ap3, ap4, -, -, -, -, -⟩ := sl_box O.bp
            obtain ⟨ao0, ao1, ao2, ao3, ao4, af0, af1, af2, af3, af4⟩ := sl_box O.bo
            have alt := O.sz
            obtain ⟨bv0, bv1, bv2, bv3, bv4, -, -, -, -, -⟩ := sl_box O1.bv
            obtain ⟨bp0, bp1, bp2, bp3, bp4, -, -, -, -, -⟩ := sl_box O1.bp
            obtain ⟨bo0, bo1, bo2, bo3, bo4, bf0, bf1, bf2, bf3, bf4⟩ := sl_box O1.bo
            have blt := O1.sz
            obtain ⟨dv0, dv1, dv2, dv3, dv4, -, -, -, -, -⟩ := sl_box O2.bv
            obtain ⟨dp0, dp1, dp2, dp3, dp4, -, -, -, -, -⟩ := sl_box O2.bp
            obtain ⟨do0, do1, do2, do3, do4, df0, df1, df2, df3, df4⟩ := sl_box O2.bo
            have dlt := O2.sz
            clear O O1 O2 O3
            go_upto_region 8 with (at_builtin; refine wpList_app rfl _ _ _ rfl _ _ (by rfl) (by rfl) R1.out ?_; clear R1)
            go_upto_region 11 with (at_builtin; refine wpList_app rfl _ _ _ rfl _ _ (by rfl) (by rfl) R2.out ?_; clear R2)
            go_wp2_with (at_builtin; refine wpList_app rfl _ _ _ rfl _ _ (by rfl) (by rfl) R3.out ?_; clear R3)
            refine region_S (S12 w.heap.size bq offq j ps.length cp (.slice A2 (aP.length + 1) c2) (.int .i64 k2) (.int .i64 n2) (str t2) (.slice Ak2 nk2 ck2) (.slice Ap2 np2 cp2)) [10] (by kernel_rfl) ?_
            rw [hXD]
            refine anyS_take 0 (v := .pointer (some ⟨w.heap.size + 3, 4, none⟩)) rfl (by kernel_rfl) (by kernel_rfl) (by kernel_rfl) (by kernel_rfl) (fun _ _ _ h => h) (.inl ⟨by kernel_rfl, fun w' hS' => by kernel_rfl⟩) hS ?_
            refine anyS_take 1 (v := .slice A2 (aP.length + 1) c2) rfl (by kernel_rfl) (by kernel_rfl) (by kernel_rfl) (by kernel_rfl) (fun _ _ _ h => h) (.inl ⟨by kernel_rfl, fun w' hS' => by obtain ⟨s1, s2, s3, s4, s5, s6, s7⟩ := hS'; go_simp⟩) hS ?_
            refine anyS_take 2 (v := .pointer (some ⟨w.heap.size, 4, none⟩)) rfl (by kernel_rfl) (by kernel_rfl) (by kernel_rfl) (by kernel_rfl) (fun _ _ _ h => h) (.inl ⟨by kernel_rfl, fun w' hS' => by kernel_rfl⟩) hS ?_
            refine anyS_take 3 (v := .slice (some ⟨bq, offq, none⟩) ps.length cp) rfl (by kernel_rfl) (by kernel_rfl) (by kernel_rfl) (by kernel_rfl) (fun _ _ _ h => h) (.inl ⟨by kernel_rfl, fun w' hS' => by obtain ⟨s1, s2, s3, s4, s5, s6, s7⟩ := hS'; go_simp⟩) hS ?_
            refine anyS_take 4 (v := .int .i64 (j : Int)) rfl (by kernel_rfl) (by kernel_rfl) (by kernel_rfl) (by kernel_rfl) (fun _ _ _ h => h) (.inl ⟨by kernel_rfl, fun w' hS' => by kernel_rfl⟩) hS ?_
            refine anyS_take 5 (v := .pointer (some ⟨bq, offq + j * 5, none⟩)) rfl (by kernel_rfl) (by kernel_rfl) (by kernel_rfl) (by kernel_rfl) (fun _ _ _ h => h) (.inl ⟨by kernel_rfl, fun w' hS' => by go_simp⟩) hS ?_
            refine anyS_take 6 (v := .agg #[.int .i64 k2, .int .i64 n2, str t2, .slice Ak2 nk2 ck2, .slice Ap2 np2 cp2]) rfl (by kernel_rfl) (by kernel_rfl) (by kernel_rfl) (by kernel_rfl) (fun _ _ _ h => h) (.inl ⟨by kernel_rfl, fun w' hS' => by obtain ⟨s1, s2, s3, s4, s5, s6, s7⟩ := hS'; go_simp⟩) hS ?_
            refine anyS_one 7 rfl (by kernel_rfl) rfl ?_
            intro K7 hK7
            go_simp
            refine hK7 _ _ ⟨fun _ => hSa, ?_⟩
            refine anyS_one 8 rfl (by kernel_rfl) rfl ?_
            intro K8 hK8
            refine oper_app _ _ _ rfl _ _ (by rfl) (by rfl) RQ.out ?_
            refine hK8 _ _ ⟨fun _ => hSb, ?_⟩
            refine anyS_one 9 rfl (by kernel_rfl) rfl ?_
            intro K9 hK9
            go_simp
            refine hK9 _ _ ⟨fun _ => hSb, ?_⟩
            refine anyS_one 10 rfl (by kernel_rfl) rfl ?_
            intro K10 hK10
            have hSc := hSb.1
            go_simp
            refine hK10 _ _ ⟨fun h => absurd (List.mem_singleton.2 rfl) h, ?_⟩
            refine anyS_done (by kernel_rfl) ?_
            go_wp2
            go_roundg (ks.length - (j + 1))
            case measure => have := Hgk.out; omega
            case rel =>
              have e1 : aK ++ [key] ++ [y] ++ (wpR key p true D E).1 = F.1 := by rw [← E1.out, W1.out]; simp
              have e2 : aP ++ [p] ++ [q] ++ (wpR key p true D E).2 = F.2 := by rw [← E2.out, W1.out]; simp
              refine ⟨j + 1, true, aK ++ [key] ++ [y], aP ++ [p] ++ [q], _, _, by go_num, rfl, by omega, rfl, ?_, ?_, ?_, HOQ.out⟩
              · rw [HDe.out]; exact fun _ => HD2.out
              · rw [HDe.out, HEe.out, HFe.out]; exact e1
              · rw [HDe.out, HEe.out, HFe.out]; exact e2
          · have W1 := Lib.hid (wpR_less (p := p) (q := q) (ks := D) (ps := E) hls rfl)
            clear hye
            obtain ⟨A1, c1, y1, z1, r1, hz1, f1, h1, O1⟩ := O.putK hB y (by have := Hlk.out; simp; omega)
            have R1 := Lib.hid r1
            clear r1
            obtain ⟨Aq, cq, XD, y8, y9, hXD, hS, hSa, hSb, rq, hy9, fq, OQ⟩ := O1.part hB rfl hbq q _ _ _ _ _ x0 x1 x2 x3 x4 Hv2.out (by have := Hlk.out; simp; omega)
            have RQ := Lib.hid rq
            have HOQ := Lib.hid OQ
            clear rq OQ
            obtain ⟨av0, av1, av2, av3, av4, -, -, -, -, -⟩ := sl_box O.bv
            obtain ⟨ap0, ap1, ap2, ap3, ap4, -, -, -, -, -⟩ := sl_box O.bp
            obtain ⟨ao0, ao1, ao2, ao3, ao4, af0, af1, af2, af3, af4⟩ := sl_box O.bo
            have alt := O.sz
            clear O O1
            go_wp2_with (at_builtin; refine wpList_app rfl _ _ _ rfl _ _ (by rfl) (by rfl) R1.out ?_; clear R1)
            refine region_S (S12 w.heap.size bq offq j ps.length cp (.slice Apv aP.length cpv) (.int .i64 k2) (.int .i64 n2) (str t2) (.slice Ak2 nk2 ck2) (.slice Ap2 np2 cp2)) [10] (by kernel_rfl) ?_
            rw [hXD]
            refine anyS_take 0 (v := .pointer (some ⟨w.heap.size + 3, 4, none⟩)) rfl (by kernel_rfl) (by kernel_rfl) (by kernel_rfl) (by kernel_rfl) (fun _ _ _ h => h) (.inl ⟨by kernel_rfl, fun w' hS' => by kernel_rfl⟩) hS ?_
            refine anyS_take 1 (v := .slice Apv aP.length cpv) rfl (by kernel_rfl) (by kernel_rfl) (by kernel_rfl) (by kernel_rfl) (fun _ _ _ h => h) (.inl ⟨by kernel_rfl, fun w' hS' => by obtain ⟨s1, s2, s3, s4, s5, s6, s7⟩ := hS'; go_simp⟩) hS ?_
            refine anyS_take 2 (v := .pointer (some ⟨w.heap.size, 4, none⟩)) rfl (by kernel_rfl) (by kernel_rfl) (by kernel_rfl) (by kernel_rfl) (fun _ _ _ h => h) (.inl ⟨by kernel_rfl, fun w' hS' => by kernel_rfl⟩) hS ?_
            refine anyS_take 3 (v := .slice (some ⟨bq, offq, none⟩) ps.length cp) rfl (by kernel_rfl) (by kernel_rfl) (by kernel_rfl) (by kernel_rfl) (fun _ _ _ h => h) (.inl ⟨by kernel_rfl, fun w' hS' => by obtain ⟨s1, s2, s3, s4, s5, s6, s7⟩ := hS'; go_simp⟩) hS ?_
            refine anyS_take 4 (v := .int .i64 (j : Int)) rfl (by kernel_rfl) (by kernel_rfl) (by kernel_rfl) (by kernel_rfl) (fun _ _ _ h => h) (.inl ⟨by kernel_rfl, fun w' hS' => by kernel_rfl⟩) hS ?_
            refine anyS_take 5 (v := .pointer (some ⟨bq, offq + j * 5, none⟩)) rfl (by kernel_rfl) (by kernel_rfl) (by kernel_rfl) (by kernel_rfl) (fun _ _ _ h => h) (.inl ⟨by kernel_rfl, fun w' hS' => by go_simp⟩) hS ?_
            refine anyS_take 6 (v := .agg #[.int .i64 k2, .int .i64 n2, str t2, .slice Ak2 nk2 ck2, .slice Ap2 np2 cp2]) rfl (by kernel_rfl) (by kernel_rfl) (by kernel_rfl) (by kernel_rfl) (fun _ _ _ h => h) (.inl ⟨by kernel_rfl, fun w' hS' => by obtain ⟨s1, s2, s3, s4, s5, s6, s7⟩ := hS'; go_simp⟩) hS ?_
            refine anyS_one 7 rfl (by kernel_rfl) rfl ?_
            intro K7 hK7
            go_simp
            refine hK7 _ _ ⟨fun _ => hSa, ?_⟩
            refine anyS_one 8 rfl (by kernel_rfl) rfl ?_
            intro K8 hK8
            refine oper_app _ _ _ rfl _ _ (by rfl) (by rfl) RQ.out ?_
            refine hK8 _ _ ⟨fun _ => hSb, ?_⟩
            refine anyS_one 9 rfl (by kernel_rfl) rfl ?_
            intro K9 hK9
            go_simp
            refine hK9 _ _ ⟨fun _ => hSb, ?_⟩
            refine anyS_one 10 rfl (by kernel_rfl) rfl ?_
            intro K10 hK10
            have hSc := hSb.1
            go_simp
            refine hK10 _ _ ⟨fun h => absurd (List.mem_singleton.2 rfl) h, ?_⟩
            refine anyS_done (by kernel_rfl) ?_
            go_wp2
            go_roundg (ks.length - (j + 1))
            case measure => have := Hgk.out; omega
            case rel =>
              have e1 : aK ++ [y] ++ (wpR key p false D E).1 = F.1 := by rw [← E1.out, W1.out]; simp
              have e2 : aP ++ [q] ++ (wpR key p false D E).2 = F.2 := by rw [← E2.out, W1.out]; simp
              refine ⟨j + 1, false, aK ++ [y], aP ++ [q], _, _, by go_num, rfl, by omega, rfl, ?_, ?_, ?_, HOQ.out⟩
              · rw [HDe.out]; exact by simp
              · rw [HDe.out, HEe.out, HFe.out]; exact e1
              · rw [HDe.out, HEe.out, HFe.out]; exact e2
      · have hye : y ≠ key := fun e => E3.out rfl (by simp [e])
        have hyb : (y == key) = false := by simpa using hye
        have W1 := Lib.hid (wpR_in (p := p) (q := q) (ks := D) (ps := E) hye)
        have HD3 := Lib.hid (show key ∉ D from fun h => E3.out rfl (by simp [h]))
        clear hye
        obtain ⟨A1, c1, y1, z1, r1, hz1, f1, h1, O1⟩ := O.putK hB y (by have := Hlk.out; simp; omega)
        have R1 := Lib.hid r1
        clear r1
        obtain ⟨Aq, cq, XD, y8, y9, hXD, hS, hSa, hSb, rq, hy9, fq, OQ⟩ := O1.part hB rfl hbq q _ _ _ _ _ x0 x1 x2 x3 x4 Hv2.out (by have := Hlk.out; simp; omega)
        have RQ := Lib.hid rq
        have HOQ := Lib.hid OQ
        clear rq OQ
        obtain ⟨av0, av1, av2, av3, av4, -, -, -, -, -⟩ := sl_box O.bv
        obtain ⟨ap0, ap1, ap2, ap3, ap4, -, -, -, -, -⟩ := sl_box O.bp
        obtain ⟨ao0, ao1, ao2, ao3, ao4, af0, af1, af2, af3, af4⟩ := sl_box O.bo
        have alt := O.sz
        clear O O1
        go_wp2_with (at_builtin; refine wpList_app rfl _ _ _ rfl _ _ (by rfl) (by rfl) R1.out ?_; clear R1)
        refine region_S (S12 w.heap.size bq offq j ps.length cp (.slice Apv aP.length cpv) (.int .i64 k2) (.int .i64 n2) (str t2) (.slice Ak2 nk2 ck2) (.slice Ap2 np2 cp2)) [10] (by kernel_rfl) ?_
        rw [hXD]
        refine anyS_take 0 (v := .pointer (some ⟨w.heap.size + 3, 4, none⟩)) rfl (by kernel_rfl) (by kernel_rfl) (by kernel_rfl) (by kernel_rfl) (fun _ _ _ h => h) (.inl ⟨by kernel_rfl, fun w' hS' => by kernel_rfl⟩) hS ?_
        refine anyS_take 1 (v := .slice Apv aP.length cpv) rfl (by kernel_rfl) (by kernel_rfl) (by kernel_rfl) (by kernel_rfl) (fun _ _ _ h => h) (.inl ⟨by kernel_rfl, fun w' hS' => by obtain ⟨s1, s2, s3, s4, s5, s6, s7⟩ := hS'; go_simp⟩) hS ?_
        refine anyS_take 2 (v := .pointer (some ⟨w.heap.size, 4, none⟩)) rfl (by kernel_rfl) (by kernel_rfl) (by kernel_rfl) (by kernel_rfl) (fun _ _ _ h => h) (.inl ⟨by kernel_rfl, fun w' hS' => by kernel_rfl⟩) hS ?_
        refine anyS_take 3 (v := .slice (some ⟨bq, offq, none⟩) ps.length cp) rfl (by kernel_rfl) (by kernel_rfl) (by kernel_rfl) (by kernel_rfl) (fun _ _ _ h => h) (.inl ⟨by kernel_rfl, fun w' hS' => by obtain ⟨s1, s2, s3, s4, s5, s6, s7⟩ := hS'; go_simp⟩) hS ?_
        refine anyS_take 4 (v := .int .i64 (j : Int)) rfl (by kernel_rfl) (by kernel_rfl) (by kernel_rfl) (by kernel_rfl) (fun _ _ _ h => h) (.inl ⟨by kernel_rfl, fun w' hS' => by kernel_rfl⟩) hS ?_
        refine anyS_take 5 (v := .pointer (some ⟨bq, offq + j * 5, none⟩)) rfl (by kernel_rfl) (by kernel_rfl) (by kernel_rfl) (by kernel_rfl) (fun _ _ _ h => h) (.inl ⟨by kernel_rfl, fun w' hS' => by go_simp⟩) hS ?_
        refine anyS_take 6 (v := .agg #[.int .i64 k2, .int .i64 n2, str t2, .slice Ak2 nk2 ck2, .slice Ap2 np2 cp2]) rfl (by kernel_rfl) (by kernel_rfl) (by kernel_rfl) (by kernel_rfl) (fun _ _ _ h => h) (.inl ⟨by kernel_rfl, fun w' hS' => by obtain ⟨s1, s2, s3, s4, s5, s6, s7⟩ := hS'; go_simp⟩) hS ?_
        refine anyS_one 7 rfl (by kernel_rfl) rfl ?_
        intro K7 hK7
        go_simp
        refine hK7 _ _ ⟨fun _ => hSa, ?_⟩
        refine anyS_one 8 rfl (by kernel_rfl) rfl ?_
        intro K8 hK8
        refine oper_app _ _ _ rfl _ _ (by rfl) (by rfl) RQ.out ?_
        refine hK8 _ _ ⟨fun _ => hSb, ?_⟩
        refine anyS_one 9 rfl (by kernel_rfl) rfl ?_
        intro K9 hK9
        go_simp
        refine hK9 _ _ ⟨fun _ => hSb, ?_⟩
        refine anyS_one 10 rfl (by kernel_rfl) rfl ?_
        intro K10 hK10
        have hSc := hSb.1
        go_simp
        refine hK10 _ _ ⟨fun h => absurd (List.mem_singleton.2 rfl) h, ?_⟩
        refine anyS_done (by kernel_rfl) ?_
        go_wp2
        go_roundg (ks.length - (j + 1))
        case measure => have := Hgk.out; omega
        case rel =>
          have e1 : aK ++ [y] ++ (wpR key p true D E).1 = F.1 := by rw [← E1.out, W1.out]; simp
          have e2 : aP ++ [q] ++ (wpR key p true D E).2 = F.2 := by rw [← E2.out, W1.out]; simp
          refine ⟨j + 1, true, aK ++ [y], aP ++ [q], _, _, by go_num, rfl, by omega, rfl, ?_, ?_, ?_, HOQ.out⟩
          · rw [HDe.out]; exact fun _ => HD3.out
          · rw [HDe.out, HEe.out, HFe.out]; exact e1
          · rw [HDe.out, HEe.out, HFe.out]; exact e2
    · have hjb : decide ((j : Int) < (ks.length : Int)) = false := by simp; omega
      have hd1 : ks.drop j = [] := List.drop_of_length_le (by omega)
      have e1 := Ha1.out
      have e2 := Ha2.out
      rw [hd1, wpR_end] at e1 e2
      clear hd1 Ha1 Ha2 Hin
      cases b
      · rw [if_neg (by simp)] at e1 e2
        have E1 := Lib.hid e1
        have E2 := Lib.hid e2
        clear e1 e2
        obtain ⟨A1, c1, y1, z1, r1, hz1, f1, h1, O1⟩ := O.putK hB key (by have := Hlk.out; simp; omega)
        have R1 := Lib.hid r1
        clear r1
        obtain ⟨A2, c2, y2, z2, r2, hz2, f2, h2, O2⟩ := O1.putP hB p _ _ _ _ _ (hp.below (O1.bel.mono hB)) (by have := Hlk.out; simp; omega)
        have R2 := Lib.hid r2
        clear r2
        obtain ⟨av0, av1, av2, av3, av4, -, -, -, -, -⟩ := sl_box O.bv
        obtain ⟨ap0, ap1, ap2, ap3, ap4, -, -, -, -, -⟩ := sl_box O.bp
        obtain ⟨ao0, ao1, ao2, ao3, ao4, af0, af1, af2, af3, af4⟩ := sl_box O.bo
        have alt := O.sz
        obtain ⟨bv0, bv1, bv2, bv3, bv4, -, -, -, -, -⟩ := sl_box O1.bv
        obtain ⟨bp0, bp1, bp2, bp3, bp4, -, -, -, -, -⟩ := sl_box O1.bp
        obtain ⟨bo0, bo1, bo2, bo3, bo4, bf0, bf1, bf2, bf3, bf4⟩ := sl_box O1.bo
        have blt := O1.sz
        obtain ⟨dv0, dv1, dv2, dv3, dv4, -, -, -, -, -⟩ := sl_box O2.bv
        obtain ⟨dp0, dp1, dp2, dp3, dp4, -, -, -, -, -⟩ := sl_box O2.bp
        obtain ⟨do0, do1, do2, do3, do4, df0, df1, df2, df3, df4⟩ := sl_box O2.bo
        have dlt := O2.sz
        obtain ⟨m0, m1, m2, m3, m4, mf0, mf1, mf2, mf3, mf4⟩ := sl_box O2.bz
        have HO2 := Lib.hid O2
        clear O O1 O2
        go_upto_region 16 with (at_builtin; refine wpList_app rfl _ _ _ rfl _ _ (by rfl) (by rfl) R1.out ?_; clear R1)
        go_wp2_with (at_builtin; refine wpList_app rfl _ _ _ rfl _ _ (by rfl) (by rfl) R2.out ?_; clear R2)
        have hO6 := HO2.out
        have hlK : (aK ++ [key]).length = aK.length + 1 := by simp
        have hlP : (aP ++ [p]).length = aP.length + 1 := by simp
        have hval := ObjB.valueS (A := A1) (A' := A2) (c := c1) (c' := c2) (ks := aK ++ [key]) (ps := aP ++ [p]) (by rw [hlK, hlP]; exact hO6.obj) (by have := Hlk.out; simp; omega) (by have := Hlk.out; simp; omega) (by rw [E1.out]; exact HKm.out)
        rw [hlK, hlP] at hval
        have hJ : JV.mk 7 0 [] (aK ++ [key]) (aP ++ [p]) = .mk 7 0 [] (wpR key p false ks ps).1 (wpR key p false ks ps).2 := by rw [E1.out, E2.out]
        rw [hJ] at hval
        have hbz6 := hO6.bz
        have hbel6 := hO6.bel
        have hz6 := hO6.sz
        clear hO6 HO2 hJ
        refine ret_v1 (by rfl) (by rfl) (sl_set5 hbz6 _ _ _ _ _) (by rfl) ?_
        refine ⟨7, 0, [], _, _, _, _, _, _, rfl, ?_, sl_below5 hbel6 (by omega) _ _ _ _ _⟩
        refine VInS.mono (fun b hb => ?_) _ _ (VInS.kept (fun a ha => World.cell?_of_block (sl_block5 (by rcases ha with ha | ha <;> omega) _ _ _ _ _)) _ _ hval)
        rcases hb with hb | hb
        · exact .inl hb
        · exact .inr ⟨by omega, by rw [sl_size5]; exact hb.2⟩
      · rw [if_pos rfl, List.append_nil] at e1 e2
        have E1 := Lib.hid e1
        have E2 := Lib.hid e2
        clear e1 e2
        obtain ⟨av0, av1, av2, av3, av4, -, -, -, -, -⟩ := sl_box O.bv
        obtain ⟨ap0, ap1, ap2, ap3, ap4, -, -, -, -, -⟩ := sl_box O.bp
        obtain ⟨ao0, ao1, ao2, ao3, ao4, af0, af1, af2, af3, af4⟩ := sl_box O.bo
        obtain ⟨m0, m1, m2, m3, m4, f0, f1, f2, f3, f4⟩ := sl_box O.bz
        have HO := Lib.hid O
        go_wp2_with fail
        refine ret_v1 (by rfl) (by rfl) (sl_set5 HO.out.bz _ _ _ _ _) (by rfl) ?_
        have hval := HO.out.obj.valueS (by rw [E1.out]; have := Hfin.out.1; have := Hsm.out; omega) (by rw [E2.out]; have := Hfin.out.2.1; have := Hsm.out; omega) (by rw [E1.out]; exact HKm.out)
        have hJ : JV.mk 7 0 [] aK aP = .mk 7 0 [] (wpR key p false ks ps).1 (wpR key p false ks ps).2 := by rw [E1.out, E2.out]
        rw [hJ] at hval
        refine ⟨7, 0, [], _, _, _, _, _, _, rfl, ?_, sl_below5 HO.out.bel (by omega) _ _ _ _ _⟩
        refine VInS.mono (fun b hb => ?_) _ _ (VInS.kept (fun a ha => World.cell?_of_block (sl_block5 (by rcases ha with ha | ha <;> omega) _ _ _ _ _)) _ _ hval)
        rcases hb with hb | hb
        · exact .inl hb
        · exact .inr ⟨by omega, by rw [sl_size5]; exact hb.2⟩
end Go.Proofs.YtbdbcffnjibjoaaGreatDoor
