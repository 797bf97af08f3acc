/- The store, the reference: StoreRecover. -/
import Derived.Test.YtploicbiapjfdaaStRcv
import Derived.Test.YtploicbiapjfdaaBunWB
import Derived.Test.YtploicbiapjfdaaBunRD
import Derived.StillTailTactics
import Derived.Test.YtploicbiapjfdaaBunQ
namespace Go.Proofs.Ytploicbiapjfdaa
set_option linter.unusedVariables false
set_option linter.unusedSimpArgs false
open Go.RowKit
def RrI (w1 : World) (t : List Rw) (x : List (List UInt8)) (n : Nat) (gk : Nat) (s8 s31 : Value) (wr : World) : Prop :=
  ∃ (j : Nat) (A : Option Addr) (c : Nat), s31 = .int .i64 (j : Int) ∧ j ≤ n ∧ gk = n - j ∧ goodBs (x.take j) = true ∧ s8 = .slice A (sets t ((x.take j).map chgF)).length c ∧ RIn wr wr.heap.size A (sets t ((x.take j).map chgF)).length c (sets t ((x.take j).map chgF)) ∧ Below w1.heap.size w1 wr
theorem rec_none {w w' : World} {bss : List (List (List UInt8))} {used : Nat} (h : recGo [] bss = none) (hb : Below w.heap.size w w') : RecPost (recRes (recGo [] bss) used) w (.returned (.tuple #[.slice none 0 0, .int .i64 0, .int .i64 4])) w' := by
  rw [h]
  exact ⟨none, 0, rfl, RIn.empty, hb⟩
set_option maxHeartbeats 4000000 in
set_option maxRecDepth 100000 in
theorem refRecover_any (A : Option Addr) (n c : Nat) (l : List UInt8) (w : World) (hh : Holds w w.heap.size 1 A n (l.map bv)) (hnc : n ≤ c) (hn : n ≤ 9223372036854775807) :
    Calls Try.prog 18 #[.slice A n c] w (RecPost (recoverR l) w) := by
  have hl := hh.len
  have HS := Lib.hid (refScan_any A n c l w hh hnc hn)
  by_cases hbig : 1200 < l.length
  · have HR := Lib.hid (show recoverR l = ([], 0, 1) by unfold recoverR; rw [if_pos hbig])
    have hS : scanR l = ([], 0, 1) := by unfold scanR; rw [if_pos hbig]
    rw [hS] at HS
    clear hl hh hbig hS
    go_enter Try.func18, Try.ntmps18
    go_wp2_with fail
    refine HS.out.mono ?_
    rintro e w1 ⟨v, rfl, -, hb1⟩
    have Hb1 := Lib.hid hb1
    clear hb1 HS
    go_wp2_with fail
    go_ret3
    rw [HR.out]
    exact ⟨none, 0, rfl, RIn.empty, Hb1.out⟩
  · have hS : scanR l = ((scan l).1, (scan l).2, 0) := by unfold scanR; rw [if_neg hbig]
    have HR := Lib.hid (recoverR_few hbig)
    have Hfew := Lib.hid (scan_few (l := l) (by omega))
    rw [hS] at HS
    generalize (scan l).1 = bss at *
    generalize (scan l).2 = used at *
    clear hl hh hbig hS
    go_enter Try.func18, Try.ntmps18
    go_wp2_with fail
    refine HS.out.mono ?_
    rintro e w1 ⟨v, rfl, hin, hb1⟩
    obtain ⟨Av, cv, csv, rfl, hcv, hAv, hhv, hav⟩ := hin
    obtain ⟨nb, hnb⟩ : ∃ nb, bss.length = nb := ⟨_, rfl⟩
    have hhv' : HoldsS w1 (lowB w1.heap.size) 1 Av bss.length csv := hhv.mono fun b hb => hb.2
    have hav' : Ats (In2 w1 (lowB w1.heap.size)) bss csv := hav.imp fun x u hu => stays2.2 _ _ _ _ _ hu fun b hb => hb.2
    rw [hnb] at hhv'
    have Hb1 := Lib.hid hb1
    have Hhv := Lib.hid hhv'
    have Hav := Lib.hid hav'
    have Hnb := Lib.hid hnb.symm
    have hnb12 : nb ≤ 1200 := by have := Hfew.out.1; omega
    simp only [hnb]
    clear hb1 HS hhv hav hhv' hav' hcv hAv hnb
    go_wp2_with fail
    go_loopg [8, 25] nb (RcvR w w1 bss nb)
    case atStart => exact ⟨0, [], none, 0, rfl, Nat.zero_le _, by omega, rfl, rfl, RIn.empty, Below.refl _ _⟩
    case round =>
      obtain ⟨k, t, At, ct, rfl, hk, hgk, hrg, rfl, hin, hbe⟩ := hrel
      have Hgk := Lib.hid hgk
      have Hrg := Lib.hid hrg
      have Hin := Lib.hid hin
      have Hbe := Lib.hid hbe
      have hszw := hbe.size
      clear hgk hrg hin hbe
      by_cases hkn : k < nb
      · have hkl : k < bss.length := by have := Hnb.out; omega
        obtain ⟨b, off, u, hA', hbb, hc0, A2, c2, cs2, hu, hc2, hA2, hh2, ha2⟩ := InL.at_ (In := In2) Hhv.out Hav.out hkn Hnb.out
        have hc1 := (Hbe.out.cell (p := ⟨b, off + k, none⟩) hbb).trans hc0
        subst hA' hu
        obtain ⟨hq, hob⟩ := Hfew.out.2 bss[k] (List.getElem_mem hkl)
        have HT := Lib.hid (show recGo [] (bss.take (k + 1)) = applyR t bss[k] by rw [List.take_succ_eq_append_getElem hkl, recGo_snoc, Hrg.out]; rfl)
        have Hno := Lib.hid (fun (h : applyR t bss[k] = none) => recGo_take (HT.out.trans h))
        have hft := recGo_fit fit_nil Hrg.out
        obtain ⟨q, hqe⟩ : ∃ q, bss[k].length = q := ⟨_, rfl⟩
        rw [hqe] at hh2 hc2 hq hc1
        have Hqe := Lib.hid hqe.symm
        have Hh2 := Lib.hid hh2
        have Ha2 := Lib.hid ha2
        have Hft := Lib.hid hft
        generalize bss[k] = x at *
        have hkn' : (k : Int) < (nb : Int) := by omega
        have hbw : b < wr.heap.size := by omega
        clear hc0 hh2 ha2 hA2 hft hqe
        obtain ⟨wa, rfl⟩ : ∃ wa, wa = wr := ⟨_, rfl⟩
        go_wp2_with fail
        go_loopg [8, 31] q (RrI w1 t x q)
        case atStart => exact ⟨0, At, ct, rfl, Nat.zero_le _, by omega, rfl, by simp [sets], by simpa [sets] using Hin.out, Hbe.out⟩
        case round =>
          obtain ⟨j, A8, c8, rfl, hj, hgj, hgo, rfl, hin8, hbe8⟩ := hrel
          have Hgj := Lib.hid hgj
          have Hgo := Lib.hid hgo
          have Hin8 := Lib.hid hin8
          have Hbe8 := Lib.hid hbe8
          have hs8 := hbe8.size
          clear hgj hgo hin8 hbe8
          by_cases hjq : j < q
          · have hjl : j < x.length := by have := Hqe.out; omega
            obtain ⟨b3, off3, u3', hA3, hbb3, hc3, A4, c4, hu3, hc4, hA4, hh4⟩ := InL.at_ (In := In1) Hh2.out Ha2.out hjq Hqe.out
            subst hA3 hu3
            have hc3' := (Hbe8.out.cell (p := ⟨b3, off3 + j, none⟩) hbb3).trans hc3
            have hrec := hob.2 x[j] (List.getElem_mem hjl)
            have hh4w : Holds wr w1.heap.size 1 A4 x[j].length (x[j].map bv) := Holds.below (show Holds w1 w1.heap.size 1 A4 _ _ from hh4) Hbe8.out
            have Hbad := Lib.hid (fun h => Hno.out (goodBs_no hjl h t))
            have Hyes := Lib.hid (fun h => goodBs_yes hjl Hgo.out h)
            have HT8 := Lib.hid (show sets t ((x.take (j + 1)).map chgF) = setR (chgF x[j]) (sets t ((x.take j).map chgF)) by rw [List.take_succ_eq_append_getElem hjl, List.map_append, sets_app]; rfl)
            have hsl := sets_len (l := t) (cs := (x.take j).map chgF)
            rw [List.length_map, List.length_take] at hsl
            have hft := Hft.out.len
            have hsrt := srt_sets (cs := (x.take j).map chgF) Hft.out.srt
            obtain ⟨p, hp⟩ : ∃ p, x[j].length = p := ⟨_, rfl⟩
            obtain ⟨hr1, hr2⟩ := hrec
            rw [hp] at hc3' hh4w hc4 hr1 hr2
            obtain ⟨y, hy⟩ : ∃ y, x[j] = y := ⟨_, rfl⟩
            rw [hy] at hh4w HT8 hp
            rw [hy] at Hbad Hyes
            obtain ⟨n0, rest, rfl⟩ : ∃ n0 rest, y = n0 :: rest := by
              cases y with
              | nil => simp at hp; omega
              | cons a r => exact ⟨a, r, rfl⟩
            obtain ⟨bb, offb, rfl, hbb4, hce⟩ := hh4w.2 (by omega)
            have d0 : wr.cell? ⟨bb, offb, none⟩ = some (.int .u8 (n0.toNat : Int)) := hce 0 _ rfl
            have hrl : rest.length + 1 = p := by simpa using hp
            have hnl := n0.toNat_lt
            have hpi : (0 : Int) < (p : Int) := by omega
            have hno := fun h => chg_no (n0 := n0) (rest := rest) h
            have hyes := fun h => chg_yes (n0 := n0) (rest := rest) h
            obtain ⟨m, hm⟩ : ∃ m, n0.toNat = m := ⟨_, rfl⟩
            rw [hm] at d0 hnl hno hyes
            have Hno1 := Lib.hid hno
            have Hyes1 := Lib.hid hyes
            have Hh4 := Lib.hid hh4w
            have Hrl := Lib.hid hrl
            have hjq' : (j : Int) < (q : Int) := by omega
            have hbw3 : b3 < wr.heap.size := by omega
            have hbwb : bb < wr.heap.size := by omega
            clear hc3 hh4 hh4w hce hno hyes hm hrl hp hy hA4
            generalize sets t ((x.take j).map chgF) = T at *
            by_cases hz : m = 0
            · subst hz
              have HE := Lib.hid (Hbad.out (Hno1.out (by omega)).2)
              clear Hbad Hno1 Hyes1 Hyes HT8
              go_wp2_with fail
              go_ret3
              rw [HR.out]
              exact rec_none HE.out (Hb1.out.trans (Hbe8.out.mono Hb1.out.size))
            · have hzb : ((m : Int) == 0) = false := by simp; omega
              by_cases h20 : 20 < m
              · have h20i : (20 : Int) < (m : Int) := by omega
                have HE := Lib.hid (Hbad.out (Hno1.out (by omega)).2)
                clear Hbad Hno1 Hyes1 Hyes HT8
                go_wp2_with fail
                go_ret3
                rw [HR.out]
                exact rec_none HE.out (Hb1.out.trans (Hbe8.out.mono Hb1.out.size))
              · have h20i : ¬ (20 : Int) < (m : Int) := by omega
                by_cases hs : p < m + 1
                · have hsi : (p : Int) < (m : Int) + 1 := by omega
                  have HE := Lib.hid (Hbad.out (Hno1.out (by have := Hrl.out; omega)).2)
                  clear Hbad Hno1 Hyes1 Hyes HT8
                  go_wp2_with fail
                  go_ret3
                  rw [HR.out]
                  exact rec_none HE.out (Hb1.out.trans (Hbe8.out.mono Hb1.out.size))
                · have hsi : ¬ (p : Int) < (m : Int) + 1 := by omega
                  by_cases hb2 : 20 < p - m - 1
                  · have hbi : (20 : Int) < (p : Int) - (m : Int) - 1 := by omega
                    have HE := Lib.hid (Hbad.out (Hno1.out (by have := Hrl.out; omega)).2)
                    clear Hbad Hno1 Hyes1 Hyes HT8
                    go_wp2_with fail
                    go_ret3
                    rw [HR.out]
                    exact rec_none HE.out (Hb1.out.trans (Hbe8.out.mono Hb1.out.size))
                  · have hbi : ¬ (20 : Int) < (p : Int) - (m : Int) - 1 := by omega
                    have hyy := Hyes1.out (by have := Hrl.out; omega)
                    have Hgo2 := Lib.hid (Hyes.out hyy.2)
                    rw [hyy.1] at HT8
                    obtain ⟨i0, hi0, hz0, hz1, hz2⟩ := info_parts info_u8
                    have hcut1 := fun W' => run_cut_lh (P := Try.prog) W' 24 5 i0 Try.underlying24 hi0 (some ⟨bb, offb, none⟩) p c4 .i64 .i64 1 (1 + (m : Int)) 1 (1 + m) (by rfl) (by omega) (by omega) (by omega)
                    have hcut2 := fun W' => run_cut_l (P := Try.prog) W' 24 5 i0 Try.underlying24 hi0 (some ⟨bb, offb, none⟩) p c4 .i64 (1 + (m : Int)) (1 + m) (by omega) (by omega)
                    simp only [hz1] at hcut1 hcut2
                    have q1 := Hh4.out.cutBytes (c := c4) (lo := 1) (hg := 1 + m) (by omega) (by omega) hc4
                    have q2 := Hh4.out.cutBytes (c := c4) (lo := 1 + m) (hg := p) (by omega) (by omega) hc4
                    have hcv1 : ∀ W', Below wr.heap.size wr W' → _ := fun W' hb => run_convert_bytes (P := Try.prog) (w := W') (c := c4 - 1) 24 9 5 Try.underlying24 Try.underlying5 Try.underlying9 ((q1.wider hs8).below hb) (fun h => by have := cutAt_none h; cases this)
                    have hcv2 : ∀ W', Below wr.heap.size wr W' → _ := fun W' hb => run_convert_bytes (P := Try.prog) (w := W') (c := c4 - (1 + m)) 24 9 5 Try.underlying24 Try.underlying5 Try.underlying9 ((q2.wider hs8).below hb) (fun h => by have := cutAt_none h; cases this)
                    have e1 : ((n0 :: rest).drop 1).take (1 + m - 1) = rest.take m := by rw [show 1 + m - 1 = m by omega]; rfl
                    have e2 : ((n0 :: rest).drop (1 + m)).take (p - (1 + m)) = rest.drop m := by
                      rw [show 1 + m = m + 1 by omega, List.drop_succ_cons, List.take_of_length_le (by rw [List.length_drop]; have := Hrl.out; omega)]
                    rw [e1] at hcv1
                    rw [e2] at hcv2
                    have HC := Lib.hid (rowsSet_any A8 T.length c8 wr.heap.size T ⟨rest.take m, rest.drop m⟩ wr.drew (Hin8.out.below (Below.refl _ wr).drew) (Nat.le_refl _) hsrt (by omega))
                    rw [← HT8.out] at HC
                    clear q1 q2 e1 e2 hyy Hbad Hno1 Hyes1 Hyes HT8 hsl hsrt
                    generalize cutAt (some ⟨bb, offb, none⟩) c4 1 1 = B1 at *
                    generalize cutAt (some ⟨bb, offb, none⟩) c4 (1 + m) 1 = B2 at *
                    generalize 1 + m - 1 = m1 at *
                    generalize c4 - 1 = d1 at *
                    generalize p - (1 + m) = m2 at *
                    generalize c4 - (1 + m) = d2 at *
                    generalize rest.take m = rk at *
                    generalize rest.drop m = rv at *
                    go_wp2_with fail
                    have HC1 := Lib.hid hcv1
                    have HC2 := Lib.hid hcv2
                    clear hcv1 hcv2
                    refine region_S (fun w' => Below wr.heap.size wr w') [] (by kernel_rfl) ?_
                    have hS0 : Below wr.heap.size wr wr.drew := (Below.refl _ wr).drew
                    refine anyS_take 0 (v := .slice A8 T.length c8) rfl (by kernel_rfl) (by kernel_rfl) (by kernel_rfl) (by kernel_rfl) (fun _ _ _ h => h) (.inl ⟨by kernel_rfl, fun w' hS' => by kernel_rfl⟩) hS0 ?_
                    refine anyS_take 1 (v := .slice (some ⟨bb, offb, none⟩) p c4) rfl (by kernel_rfl) (by kernel_rfl) (by kernel_rfl) (by kernel_rfl) (fun _ _ _ h => h) (.inl ⟨by kernel_rfl, fun w' hS' => by kernel_rfl⟩) hS0 ?_
                    refine anyS_take 2 (v := .int .i64 (m : Int)) rfl (by kernel_rfl) (by kernel_rfl) (by kernel_rfl) (by kernel_rfl) (fun _ _ _ h => h) (.inl ⟨by kernel_rfl, fun w' hS' => by kernel_rfl⟩) hS0 ?_
                    refine anyS_take 3 (v := .int .i64 (1 + (m : Int))) rfl (by kernel_rfl) (by kernel_rfl) (by kernel_rfl) (by kernel_rfl) (fun _ _ _ h => h) (.inl ⟨by kernel_rfl, fun w' hS' => by have hwm : IntKind.i64.wrap (1 + (m : Int)) = 1 + (m : Int) := IntWalk.i64_in _ (by omega); go_simp⟩) hS0 ?_
                    refine anyS_take 4 (v := .slice B1 m1 d1) rfl (by kernel_rfl) (by kernel_rfl) (by kernel_rfl) (by kernel_rfl) (fun _ _ _ h => h) (.inl ⟨by kernel_rfl, fun w' hS' => by go_simp⟩) hS0 ?_
                    refine anyS_take 5 (v := str rk) rfl (by kernel_rfl) (by kernel_rfl) (by kernel_rfl) (by kernel_rfl) (fun _ _ _ h => h) (.inl ⟨by kernel_rfl, fun w' hS' => by have y1 := HC1.out w' hS'; have y2 := HC2.out w' hS'; go_simp⟩) hS0 ?_
                    refine anyS_take 6 (v := .slice (some ⟨bb, offb, none⟩) p c4) rfl (by kernel_rfl) (by kernel_rfl) (by kernel_rfl) (by kernel_rfl) (fun _ _ _ h => h) (.inl ⟨by kernel_rfl, fun w' hS' => by kernel_rfl⟩) hS0 ?_
                    refine anyS_take 7 (v := .int .i64 (m : Int)) rfl (by kernel_rfl) (by kernel_rfl) (by kernel_rfl) (by kernel_rfl) (fun _ _ _ h => h) (.inl ⟨by kernel_rfl, fun w' hS' => by kernel_rfl⟩) hS0 ?_
                    refine anyS_take 8 (v := .int .i64 (1 + (m : Int))) rfl (by kernel_rfl) (by kernel_rfl) (by kernel_rfl) (by kernel_rfl) (fun _ _ _ h => h) (.inl ⟨by kernel_rfl, fun w' hS' => by have hwm : IntKind.i64.wrap (1 + (m : Int)) = 1 + (m : Int) := IntWalk.i64_in _ (by omega); go_simp⟩) hS0 ?_
                    refine anyS_take 9 (v := .slice B2 m2 d2) rfl (by kernel_rfl) (by kernel_rfl) (by kernel_rfl) (by kernel_rfl) (fun _ _ _ h => h) (.inl ⟨by kernel_rfl, fun w' hS' => by go_simp⟩) hS0 ?_
                    refine anyS_take 10 (v := str rv) rfl (by kernel_rfl) (by kernel_rfl) (by kernel_rfl) (by kernel_rfl) (fun _ _ _ h => h) (.inl ⟨by kernel_rfl, fun w' hS' => by have y1 := HC1.out w' hS'; have y2 := HC2.out w' hS'; go_simp⟩) hS0 ?_
                    refine anyS_take 11 (v := .agg #[str rk, str rv]) rfl (by kernel_rfl) (by kernel_rfl) (by kernel_rfl) (by kernel_rfl) (fun _ _ _ h => h) (.inl ⟨by kernel_rfl, fun w' hS' => by go_simp⟩) hS0 ?_
                    refine anyS_one 12 rfl (by kernel_rfl) rfl ?_
                    intro K12 hK12
                    go_simp
                    refine HC.out.mono ?_
                    rintro e w4 ⟨v4, rfl, ho4, hb4⟩
                    have hS4 : Below wr.heap.size wr w4 := hS0.trans hb4
                    refine hK12 _ _ ⟨fun _ => hS4, ?_⟩
                    refine anyS_one 13 rfl (by kernel_rfl) rfl ?_
                    intro K13 hK13
                    go_simp
                    refine hK13 _ _ ⟨fun _ => hS4, ?_⟩
                    refine anyS_done (by kernel_rfl) ?_
                    clear hK12 hK13
                    obtain ⟨A5, c5, rfl, hin5⟩ := RIn.own ho4
                    have Hin5 := Lib.hid hin5
                    have Hb4 := Lib.hid (Hbe8.out.drew.trans (hb4.mono hs8))
                    clear ho4 hin5 hb4 HC
                    go_wp2_with fail
                    go_roundg (q - (j + 1))
                    case measure => have := Hgj.out; omega
                    case rel => exact ⟨j + 1, A5, c5, by go_num, by omega, rfl, Hgo2.out, rfl, Hin5.out, Hb4.out⟩
          · have hxe : x.take j = x := List.take_of_length_le (by have := Hqe.out; omega)
            have hgo := Hgo.out
            have hin8 := Hin8.out
            rw [hxe] at hgo hin8
            rw [hxe]
            have Hin9 := Lib.hid hin8
            have hjq' : ¬ (j : Int) < (q : Int) := by omega
            have hap : applyR t x = if 40 < (sets t (x.map chgF)).length then none else some (sets t (x.map chgF)) := by unfold applyR; rw [if_pos hgo]
            have hsl := sets_len (l := t) (cs := x.map chgF)
            rw [List.length_map] at hsl
            have hlen : (sets t (x.map chgF)).length ≤ 1000 := by have := Hft.out.len; have := Hqe.out; omega
            have Hap := Lib.hid hap
            clear hgo hin8 hxe Hin8 Hgo hap hsl
            generalize sets t (x.map chgF) = T at *
            by_cases h40 : 40 < T.length
            · have h40i : (40 : Int) < (T.length : Int) := by omega
              have HE := Lib.hid (Hno.out (by rw [Hap.out, if_pos h40]))
              generalize T.length = tl at *
              go_wp2_with fail
              go_ret3
              rw [HR.out]
              exact rec_none HE.out (Hb1.out.trans (Hbe8.out.mono Hb1.out.size))
            · have h40i : ¬ (40 : Int) < (T.length : Int) := by omega
              have HE := Lib.hid (show recGo [] (bss.take (k + 1)) = some T by rw [HT.out, Hap.out, if_neg h40])
              obtain ⟨tl, htl⟩ : ∃ tl, T.length = tl := ⟨_, rfl⟩
              have Htl := Lib.hid htl
              rw [htl] at h40i hlen h40
              simp only [htl]
              clear htl
              go_wp2_with fail
              go_roundg (nb - (k + 1))
              case measure => have := Hgk.out; omega
              case rel => exact ⟨k + 1, T, A8, c8, by go_num, by omega, rfl, HE.out, by rw [Htl.out], by rw [Htl.out] at Hin9 ⊢; exact Hin9.out, Hbe8.out⟩
      · have hkl : bss.take k = bss := List.take_of_length_le (by have := Hnb.out; omega)
        have Hrg2 := Lib.hid (show recGo [] bss = some t by rw [← hkl]; exact Hrg.out)
        have hkn' : ¬ (k : Int) < (nb : Int) := by omega
        clear hkl
        go_wp2_with fail
        go_ret3
        rw [HR.out, Hrg2.out]
        exact ⟨At, ct, rfl, Hin.out, Hb1.out.trans (Hbe.out.mono Hb1.out.size)⟩
end Go.Proofs.Ytploicbiapjfdaa
