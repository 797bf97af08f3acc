/- Device lists, the reference: DevicesPlayed. -/
import Derived.Test.YtmlgaedhfannmaaDvRef
import Derived.Test.YtmlgaedhfannmaaDvSin
import Derived.Test.YtmlgaedhfannmaaBunH
namespace Go.Proofs.Ytmlgaedhfannmaa
set_option linter.unusedVariables false
set_option linter.unusedSimpArgs false
open Go.RowKit
def RpR (l : List Uc) (w : World) (n : Nat) (gk : Nat) (s5 s6 s17 : Value) (wr : World) : Prop :=
  ∃ k us ds, s17 = .int .i64 (k : Nat) ∧ k ≤ n ∧ gk = n - k ∧ wr.ownsRow w.heap.size 42 2 s5 ds.length (pcR ds) ∧ wr.ownsRow w.heap.size 44 5 s6 us.length (pcK ucL us) ∧ UsOk us ∧ DsOk ds ∧ us.length ≤ k ∧ playD (l.drop k) us ds = playD l [] [] ∧ Below w.heap.size w wr
def RpPost (X : Int × List Uc × List Rw) (w : World) (e : Ending) (w' : World) : Prop :=
  ∃ A1 c1 A2 c2, e = .returned (.tuple #[.slice A1 X.2.1.length c1, .slice A2 X.2.2.length c2, .int .i64 X.1]) ∧ LIn ucL 5 w' w'.heap.size A1 X.2.1.length c1 X.2.1 ∧ LIn rc 2 w' w'.heap.size A2 X.2.2.length c2 X.2.2 ∧ Below w.heap.size w w'
theorem rpPost_err {w w' : World} {x : Int} (hb : Below w.heap.size w w') : RpPost (x, [], []) w (.returned (.tuple #[.slice none 0 0, .slice none 0 0, .int .i64 x])) w' := ⟨none, 0, none, 0, rfl, LIn.empty, LIn.empty, hb⟩
/-- The tests of a change. -/
theorem okU_cases (p : Uc) : (loc p.key = false ∧ okU p = false) ∨ (loc p.key = true ∧ p.gone = true ∧ okU p = true) ∨ (loc p.key = true ∧ p.gone = false ∧ p.val.length < 1 ∧ okU p = false) ∨
    (loc p.key = true ∧ p.gone = false ∧ ¬ p.val.length < 1 ∧ 20 < p.val.length ∧ okU p = false) ∨ (loc p.key = true ∧ p.gone = false ∧ ¬ p.val.length < 1 ∧ ¬ 20 < p.val.length ∧ okU p = true) := by
  unfold okU bodyOk
  cases loc p.key with
  | false => simp
  | true =>
    cases p.gone with
    | true => simp
    | false =>
      cases hv : p.val with
      | nil => simp
      | cons a t =>
        by_cases h : (a :: t).length ≤ 20
        · simp at h; simp; omega
        · simp at h; simp; omega
set_option maxHeartbeats 4000000 in
set_option maxRecDepth 100000 in
theorem refD_any (A : Option Addr) (n c B : Nat) (l : List Uc) (w : World) (hl : LIn ucL 5 w B A n c l) (hB : B ≤ w.heap.size) (hn : n ≤ 9223372036854775807) (hok : ∀ p ∈ l, UcOk p) :
    Calls Try.prog 14 #[.slice A n c] w (RpPost (playL l) w) := by
  have hln := hl.1
  by_cases hbig : 100 < n
  · have HE := Lib.hid (show playL l = (1, [], []) by unfold playL; rw [if_pos (by omega)])
    have hb : (100 : Int) < (n : Int) := by omega
    clear hl hln
    go_enter Try.func14, Try.ntmps14
    go_wp2_with fail
    go_ret3
    rw [HE.out]
    exact rpPost_err (Below.refl _ _)
  · have HE := Lib.hid (show playL l = playD l [] [] by unfold playL; rw [if_neg (by omega)])
    have hb : ¬ (100 : Int) < (n : Int) := by omega
    have Hl := Lib.hid hl
    have Hln := Lib.hid hln
    have Hok := Lib.hid hok
    clear hl hln hok
    go_enter Try.func14, Try.ntmps14
    go_wp2_with fail
    go_loopg [5, 6, 17] n (RpR l w n)
    case atStart => exact ⟨0, [], [], rfl, Nat.zero_le _, by omega, World.ownsRow_nil _ _ _ _, World.ownsRow_nil _ _ _ _, usOk_nil, dsOk_nil, Nat.le_refl _, rfl, Below.refl _ _⟩
    case round =>
      obtain ⟨k, us, ds, rfl, hk, hgk, hd5, hu6, hu, hd, hul, hpl, hbe⟩ := hrel
      have Hgk := Lib.hid hgk
      have Hbe := Lib.hid hbe
      have Hpl := Lib.hid hpl
      have Hu := Lib.hid hu
      have Hd := Lib.hid hd
      have Hd5 := Lib.hid hd5
      have Hu6 := Lib.hid hu6
      have hszw := hbe.size
      clear hgk hbe hpl hu hd hd5 hu6
      by_cases hkn : k < n
      · have hkl : k < l.length := by rw [Hln.out]; exact hkn
        obtain ⟨b, off, hA, hbB, d0, d1, d2, d3, d4⟩ := uc_at (Hl.out.below (Hbe.out.mono hB)) hkl
        subst hA
        have HT := Lib.hid (show playD (l[k] :: l.drop (k + 1)) us ds = playD l [] [] by rw [← List.drop_eq_getElem_cons hkl]; exact Hpl.out)
        have hak := Hok.out l[k] (List.getElem_mem hkl)
        generalize l[k] = p at *
        have hbw : b < wr.heap.size := by omega
        have hi1 : (k : Int) < (n : Int) := by omega
        have hcs := okU_cases p
        have HB := Lib.hid (show okU p = false → playD l [] [] = (4, [], []) from fun h => by rw [← HT.out, playD, if_pos h])
        have HO := Lib.hid (show okU p = true → playD l [] [] = if (applyR us ds p).1 ≠ 0 then ((applyR us ds p).1, [], []) else playD (l.drop (k + 1)) (applyR us ds p).2.1 (applyR us ds p).2.2 from fun h => by rw [← HT.out, playD_step h])
        have Hvl := Lib.hid (show p.gone = false → vl p = p.val from fun h => by unfold vl; rw [h]; rfl)
        have HvlG := Lib.hid (show p.gone = true → vl p = [] from fun h => by unfold vl; rw [h]; rfl)
        have HL := Lib.hid (fun W => refLocal_any p.key W)
        obtain ⟨W, hW⟩ : ∃ W, (wr.alloc (.cells #[.int .i64 p.st, .int .i64 p.pv, str p.key, str p.val, .bool p.gone] 44)).alloc (.cells #[str p.key, str p.val] 42) = W := ⟨_, rfl⟩
        obtain ⟨V, hV⟩ : ∃ V, wr.alloc (.cells #[.int .i64 p.st, .int .i64 p.pv, str p.key, str p.val, .bool p.gone] 44) = V := ⟨_, rfl⟩
        have hVB := Blk.new wr 44 #[.int .i64 p.st, .int .i64 p.pv, str p.key, str p.val, .bool p.gone]
        rw [hV] at hVB hW
        have hVs : V.heap.size = wr.heap.size + 1 := by rw [← hV]; simp
        have v2 : V.cell? ⟨wr.heap.size, 2, none⟩ = some (str p.key) := hVB.cell 2
        have v3 : V.cell? ⟨wr.heap.size, 3, none⟩ = some (str p.val) := hVB.cell 3
        have v4 : V.cell? ⟨wr.heap.size, 4, none⟩ = some (.bool p.gone) := hVB.cell 4
        have vf4 := hVB.frozen 4
        have vs4 : V.setCell ⟨wr.heap.size, 4, none⟩ (.bool p.gone) = V := by rw [← hV, set_push]; rfl
        have hWB := Blk.new V 42 #[str p.key, str p.val]
        rw [hW, hVs] at hWB
        have hWU : Blk W wr.heap.size 44 #[.int .i64 p.st, .int .i64 p.pv, str p.key, str p.val, .bool p.gone] := by rw [← hW]; exact hVB.alloc _
        have hWb : Below wr.heap.size wr W := by rw [← hW, ← hV]; exact ((Below.refl _ _).alloc (Nat.le_refl _) _).alloc (by simp) _
        have HWB := Lib.hid hWB
        have HWU := Lib.hid hWU
        have HWb := Lib.hid hWb
        have w0 : W.cell? ⟨wr.heap.size + 1, 0, none⟩ = some (str p.key) := hWB.cell 0
        have w4 : W.cell? ⟨wr.heap.size, 4, none⟩ = some (.bool p.gone) := hWU.cell 4
        clear Hpl HT hWB hWU hWb hVB
        obtain ⟨ps, pp, pk, pv, pg⟩ := p
        simp only at *
        rcases hcs with ⟨hlo, hok⟩ | ⟨hlo, rfl, hok⟩ | ⟨hlo, rfl, hv1, hok⟩ | ⟨hlo, rfl, hv1, hv2, hok⟩ | ⟨hlo, rfl, hv1, hv2, hok⟩
        · rw [hlo] at HL
          clear hlo
          have HX := Lib.hid (HB.out hok)
          clear HB HO hok Hvl HvlG
          go_wp2_with fail
          refine (HL.out _).mono ?_
          rintro e w1 ⟨rfl, q, rfl⟩
          try rw [hW]
          obtain ⟨Wq, hq⟩ : ∃ Wq, W.drewN q = Wq := ⟨_, rfl⟩
          have hqb : Below W.heap.size W Wq := by rw [← hq]; exact below_drewN (Below.refl _ _) _
          have hqU := HWU.out.below hqb HWU.out.lt
          have hqB := HWB.out.below hqb HWB.out.lt
          have q0 : Wq.cell? ⟨wr.heap.size + 1, 0, none⟩ = some (str pk) := hqB.cell 0
          have q1 : Wq.cell? ⟨wr.heap.size + 1, 1, none⟩ = some (str pv) := hqB.cell 1
          have qf := hqB.frozen 1
          have q4 : Wq.cell? ⟨wr.heap.size, 4, none⟩ = some (.bool pg) := hqU.cell 4
          have HqU := Lib.hid hqU
          have HqB := Lib.hid hqB
          have Hqb := Lib.hid (HWb.out.trans (hqb.mono HWb.out.size))
          rw [hq]
          clear hqb hqU hqB hq
          go_wp2_with fail
          go_ret3
          rw [HE.out, HX.out]
          exact rpPost_err (Hbe.out.trans (Hqb.out.mono hszw))
        · rw [hlo] at HL
          clear hlo
          go_wp2_with fail
          refine (HL.out _).mono ?_
          rintro e w1 ⟨rfl, q, rfl⟩
          try rw [hW]
          obtain ⟨Wq, hq⟩ : ∃ Wq, W.drewN q = Wq := ⟨_, rfl⟩
          have hqb : Below W.heap.size W Wq := by rw [← hq]; exact below_drewN (Below.refl _ _) _
          have hqU := HWU.out.below hqb HWU.out.lt
          have hqB := HWB.out.below hqb HWB.out.lt
          have q0 : Wq.cell? ⟨wr.heap.size + 1, 0, none⟩ = some (str pk) := hqB.cell 0
          have q1 : Wq.cell? ⟨wr.heap.size + 1, 1, none⟩ = some (str pv) := hqB.cell 1
          have qf := hqB.frozen 1
          have q4 : Wq.cell? ⟨wr.heap.size, 4, none⟩ = some (.bool true) := hqU.cell 4
          have HqU := Lib.hid hqU
          have HqB := Lib.hid hqB
          have Hqb := Lib.hid (HWb.out.trans (hqb.mono HWb.out.size))
          rw [hq]
          clear hqb hqU hqB hq
          obtain ⟨W3, hW3⟩ : ∃ W3, Wq.setCell ⟨wr.heap.size + 1, 1, none⟩ (.string ⟨#[]⟩) = W3 := ⟨_, rfl⟩
          have h3U : Blk W3 wr.heap.size 44 #[.int .i64 ps, .int .i64 pp, str pk, str pv, .bool true] := by rw [← hW3]; exact HqU.out.far (by show wr.heap.size ≠ wr.heap.size + 1; omega) _
          have h3B : Blk W3 (wr.heap.size + 1) 42 #[str pk, .string ⟨#[]⟩] := by rw [← hW3]; simpa using HqB.out.set_ 1 (.string ⟨#[]⟩)
          have h3b : Below wr.heap.size wr W3 := by rw [← hW3]; exact Hqb.out.setCell (p := ⟨wr.heap.size + 1, 1, none⟩) (by show wr.heap.size ≤ wr.heap.size + 1; omega) _
          have t0 : W3.cell? ⟨wr.heap.size + 1, 0, none⟩ = some (str pk) := h3B.cell 0
          have t1 : W3.cell? ⟨wr.heap.size + 1, 1, none⟩ = some (.string ⟨#[]⟩) := h3B.cell 1
          have t4 : W3.cell? ⟨wr.heap.size, 4, none⟩ = some (.bool true) := h3U.cell 4
          have hd3 := own_below Hd5.out h3b
          have hu3 := own_below Hu6.out h3b
          obtain ⟨A5, c5, rfl, hl5⟩ := LIn.own rc_len (show W3.ownsRow w.heap.size 42 2 u5 ds.length (pcK rc ds) from hd3)
          have HD : Hid (Calls Try.prog 34 #[.slice A5 ds.length c5, .agg #[str pk, .string ⟨#[]⟩], .bool true] W3 (DcPost A5 c5 ds ⟨ps, pp, pk, pv, true⟩ W3)) := Lib.hid (devChg_any A5 ds.length c5 _ ds ⟨ps, pp, pk, pv, true⟩ W3 hl5 (Nat.le_refl _) Hd.out hok)
          have HX := Lib.hid (HO.out hok)
          have Hap := Lib.hid (applyR_ok (us := us) (ds := ds) hok Hu.out Hd.out)
          have hsame := fun h => setR_same (c := ⟨ps, pp, pk, pv, true⟩) Hd.out.srt (fun r hr => (Hd.out.good r hr).1) h
          have H3U := Lib.hid h3U
          have H3B := Lib.hid h3B
          have H3b := Lib.hid h3b
          have Hd3 := Lib.hid hd3
          have Hu3 := Lib.hid hu3
          have hsz3 := h3b.size
          have Hap2 := Lib.hid (show applyR us ds ⟨ps, pp, pk, pv, true⟩ = if eff ds ⟨ps, pp, pk, pv, true⟩ = false then (0, us, ds) else if 6 < (setR (rwU ⟨ps, pp, pk, pv, true⟩) ds).length then (10, us, ds) else (0, us ++ [upd us.length ⟨ps, pp, pk, pv, true⟩], setR (rwU ⟨ps, pp, pk, pv, true⟩) ds) from rfl)
          have Hups : Hid (upd us.length ⟨ps, pp, pk, pv, true⟩ = ⟨(us.length : Int) + 1, us.length, pk, [], true⟩) := Lib.hid rfl
          unfold DcPost at HD
          generalize setR (rwU ⟨ps, pp, pk, pv, true⟩) ds = X at *
          generalize eff ds ⟨ps, pp, pk, pv, true⟩ = ee at *
          generalize upd us.length ⟨ps, pp, pk, pv, true⟩ = un at *
          generalize applyR us ds ⟨ps, pp, pk, pv, true⟩ = Y at *
          have Hsame := Lib.hid hsame
          have h6 := Hd.out.few
          clear h3U h3B h3b hd3 hu3 hl5 hsame HB HO hok Hvl HvlG
          go_wp2_with fail
          refine HD.out.mono ?_
          rintro e w4 ⟨A6, c6, rfl, hor, hb4⟩
          have hrow : w4.ownsRow w.heap.size 42 2 (.slice A6 X.length c6) X.length (pcR X) := by
            rcases hor with ⟨e1, e2, e3⟩ | h
            · subst e2 e3
              rw [Hsame.out e1]
              exact own_below Hd3.out hb4
            · exact own_le h (by omega)
          have Hrow := Lib.hid hrow
          have hU4 := H3U.out.below hb4 H3U.out.lt
          have hB4 := H3B.out.below hb4 H3B.out.lt
          have s0 : w4.cell? ⟨wr.heap.size + 1, 0, none⟩ = some (str pk) := hB4.cell 0
          have s1 : w4.cell? ⟨wr.heap.size + 1, 1, none⟩ = some (.string ⟨#[]⟩) := hB4.cell 1
          have s4 : w4.cell? ⟨wr.heap.size, 4, none⟩ = some (.bool true) := hU4.cell 4
          have hu4 := own_below Hu3.out hb4
          have hb44 := Hbe.out.trans ((H3b.out.trans (hb4.mono H3b.out.size)).mono hszw)
          have Hb4 := Lib.hid hb44
          have hs4 := hb44.size
          have Hu4 := Lib.hid hu4
          have hs34 := hb4.size
          clear hor hrow hU4 hB4 hu4 HD hb44
          cases ee with
          | false =>
            have hY : Y = (0, us, ds) := by rw [Hap2.out]; simp
            have hXd := Hsame.out (by simp)
            subst hXd
            rw [hY] at HX Hap
            have HP := Lib.hid (show playD (l.drop (k + 1)) us X = playD l [] [] by rw [HX.out]; simp)
            have h6i : ¬ (6 : Int) < (X.length : Int) := by omega
            have HXn := Lib.hid (show ∃ m, X.length = m from ⟨_, rfl⟩)
            clear HX hY Hap2 Hups Hsame hb4
            go_wp2_with fail
            go_roundg (n - (k + 1))
            case measure => have := Hgk.out; omega
            case rel => exact ⟨k + 1, us, X, by go_num, by omega, rfl, Hrow.out, Hu4.out, Hu.out, Hd.out, by omega, HP.out, Hb4.out⟩
          | true =>
            clear Hsame
            by_cases h7 : 6 < X.length
            · have hY : Y = (10, us, ds) := by rw [Hap2.out, if_neg (by simp), if_pos h7]
              rw [hY] at HX
              have HP := Lib.hid (show playD l [] [] = (10, [], []) by rw [HX.out]; simp)
              have h7i : (6 : Int) < (X.length : Int) := by omega
              clear HX hY Hap2 Hups hb4 Hap
              go_wp2_with fail
              go_ret3
              rw [HE.out, HP.out]
              exact rpPost_err Hb4.out
            · have hY : Y = (0, us ++ [un], X) := by rw [Hap2.out, if_neg (by simp), if_neg h7]
              rw [hY] at HX Hap
              rw [Hups.out] at HX Hap
              have HP := Lib.hid (show playD (l.drop (k + 1)) (us ++ [⟨(us.length : Int) + 1, us.length, pk, [], true⟩]) X = playD l [] [] by rw [HX.out]; simp)
              have h7i : ¬ (6 : Int) < (X.length : Int) := by omega
              obtain ⟨v', wf, hrun, ho4, hg4, hor⟩ := upd_box (r := ⟨(us.length : Int) + 1, us.length, pk, [], true⟩) Hu4.out (by omega) (by omega) #[.int .i64 ((us.length : Int) + 1), .int .i64 (us.length : Int), str pk, .string ⟨#[]⟩, .bool true] rfl
              have hbf := Hb4.out.grown hg4 (by omega) fun g hg => (World.ownsRow.lt Hu4.out g hg).1
              have hrowf := own_apart Hrow.out hg4 (fun g h1 h2 => (apt_types Hu4.out Hrow.out (by decide)) g h2 h1)
              have Hrun := Lib.hid hrun
              have Ho4 := Lib.hid ho4
              have Hbf := Lib.hid hbf
              have Hrowf := Lib.hid hrowf
              obtain ⟨Au, cu, rfl, -⟩ := LIn.own ucL_len Hu4.out
              have Hl1 := Lib.hid (show (us ++ [(⟨(us.length : Int) + 1, us.length, pk, [], true⟩ : Uc)]).length = us.length + 1 by simp)
              have hwr : IntKind.i64.wrap ((us.length : Int) + 1) = (us.length : Int) + 1 := IntWalk.i64_in _ (by omega)
              have hul2 : us.length ≤ 200 := by omega
              clear HX hY Hap2 Hups hb4 hrun ho4 hg4 hor hbf hrowf
              go_wp2_with (first | (at_builtin; refine dv_app rfl _ _ _ rfl _ _ (by rfl) (by rfl) Hrun.out ?_; clear Hrun) | fail)
              go_roundg (n - (k + 1))
              case measure => have := Hgk.out; omega
              case rel => exact ⟨k + 1, us ++ [⟨(us.length : Int) + 1, us.length, pk, [], true⟩], X, by go_num, by omega, rfl, Hrowf.out, by rw [Hl1.out]; exact Ho4.out, Hap.out.1, Hap.out.2.1, by have := Hl1.out; omega, HP.out, Hbf.out⟩
        · rw [hlo] at HL
          clear hlo
          have hpvl : pv.length ≤ 9223372036854775807 := hak.2
          have hv1i : (pv.length : Int) < 1 := by omega
          have HX := Lib.hid (HB.out hok)
          clear HB HO hok Hvl HvlG
          go_wp2_with fail
          refine (HL.out _).mono ?_
          rintro e w1 ⟨rfl, q, rfl⟩
          try rw [hW]
          obtain ⟨Wq, hq⟩ : ∃ Wq, W.drewN q = Wq := ⟨_, rfl⟩
          have hqb : Below W.heap.size W Wq := by rw [← hq]; exact below_drewN (Below.refl _ _) _
          have hqU := HWU.out.below hqb HWU.out.lt
          have hqB := HWB.out.below hqb HWB.out.lt
          have q0 : Wq.cell? ⟨wr.heap.size + 1, 0, none⟩ = some (str pk) := hqB.cell 0
          have q1 : Wq.cell? ⟨wr.heap.size + 1, 1, none⟩ = some (str pv) := hqB.cell 1
          have qf := hqB.frozen 1
          have q4 : Wq.cell? ⟨wr.heap.size, 4, none⟩ = some (.bool false) := hqU.cell 4
          have HqU := Lib.hid hqU
          have HqB := Lib.hid hqB
          have Hqb := Lib.hid (HWb.out.trans (hqb.mono HWb.out.size))
          rw [hq]
          clear hqb hqU hqB hq
          go_wp2_with fail
          go_ret3
          rw [HE.out, HX.out]
          exact rpPost_err (Hbe.out.trans (Hqb.out.mono hszw))
        · rw [hlo] at HL
          clear hlo
          have hpvl : pv.length ≤ 9223372036854775807 := hak.2
          have hv1i : ¬ (pv.length : Int) < 1 := by omega
          have hv2i : (20 : Int) < (pv.length : Int) := by omega
          have HX := Lib.hid (HB.out hok)
          clear HB HO hok Hvl HvlG
          go_wp2_with fail
          refine (HL.out _).mono ?_
          rintro e w1 ⟨rfl, q, rfl⟩
          try rw [hW]
          obtain ⟨Wq, hq⟩ : ∃ Wq, W.drewN q = Wq := ⟨_, rfl⟩
          have hqb : Below W.heap.size W Wq := by rw [← hq]; exact below_drewN (Below.refl _ _) _
          have hqU := HWU.out.below hqb HWU.out.lt
          have hqB := HWB.out.below hqb HWB.out.lt
          have q0 : Wq.cell? ⟨wr.heap.size + 1, 0, none⟩ = some (str pk) := hqB.cell 0
          have q1 : Wq.cell? ⟨wr.heap.size + 1, 1, none⟩ = some (str pv) := hqB.cell 1
          have qf := hqB.frozen 1
          have q4 : Wq.cell? ⟨wr.heap.size, 4, none⟩ = some (.bool false) := hqU.cell 4
          have HqU := Lib.hid hqU
          have HqB := Lib.hid hqB
          have Hqb := Lib.hid (HWb.out.trans (hqb.mono HWb.out.size))
          rw [hq]
          clear hqb hqU hqB hq
          go_wp2_with fail
          go_ret3
          rw [HE.out, HX.out]
          exact rpPost_err (Hbe.out.trans (Hqb.out.mono hszw))
        · rw [hlo] at HL
          clear hlo
          have hpvl : pv.length ≤ 9223372036854775807 := hak.2
          have hv1i : ¬ (pv.length : Int) < 1 := by omega
          have hv2i : ¬ (20 : Int) < (pv.length : Int) := by omega
          go_wp2_with fail
          refine (HL.out _).mono ?_
          rintro e w1 ⟨rfl, q, rfl⟩
          try rw [hW]
          obtain ⟨Wq, hq⟩ : ∃ Wq, W.drewN q = Wq := ⟨_, rfl⟩
          have hqb : Below W.heap.size W Wq := by rw [← hq]; exact below_drewN (Below.refl _ _) _
          have hqU := HWU.out.below hqb HWU.out.lt
          have hqB := HWB.out.below hqb HWB.out.lt
          have q0 : Wq.cell? ⟨wr.heap.size + 1, 0, none⟩ = some (str pk) := hqB.cell 0
          have q1 : Wq.cell? ⟨wr.heap.size + 1, 1, none⟩ = some (str pv) := hqB.cell 1
          have qf := hqB.frozen 1
          have q4 : Wq.cell? ⟨wr.heap.size, 4, none⟩ = some (.bool false) := hqU.cell 4
          have HqU := Lib.hid hqU
          have HqB := Lib.hid hqB
          have Hqb := Lib.hid (HWb.out.trans (hqb.mono HWb.out.size))
          rw [hq]
          clear hqb hqU hqB hq
          have h3U := HqU.out
          have h3B := HqB.out
          have h3b := Hqb.out
          have t0 : Wq.cell? ⟨wr.heap.size + 1, 0, none⟩ = some (str pk) := h3B.cell 0
          have t1 : Wq.cell? ⟨wr.heap.size + 1, 1, none⟩ = some (str pv) := h3B.cell 1
          have t4 : Wq.cell? ⟨wr.heap.size, 4, none⟩ = some (.bool false) := h3U.cell 4
          have hd3 := own_below Hd5.out h3b
          have hu3 := own_below Hu6.out h3b
          obtain ⟨A5, c5, rfl, hl5⟩ := LIn.own rc_len (show Wq.ownsRow w.heap.size 42 2 u5 ds.length (pcK rc ds) from hd3)
          have HD : Hid (Calls Try.prog 34 #[.slice A5 ds.length c5, .agg #[str pk, str pv], .bool false] Wq (DcPost A5 c5 ds ⟨ps, pp, pk, pv, false⟩ Wq)) := Lib.hid (devChg_any A5 ds.length c5 _ ds ⟨ps, pp, pk, pv, false⟩ Wq hl5 (Nat.le_refl _) Hd.out hok)
          have HX := Lib.hid (HO.out hok)
          have Hap := Lib.hid (applyR_ok (us := us) (ds := ds) hok Hu.out Hd.out)
          have hsame := fun h => setR_same (c := ⟨ps, pp, pk, pv, false⟩) Hd.out.srt (fun r hr => (Hd.out.good r hr).1) h
          have H3U := Lib.hid h3U
          have H3B := Lib.hid h3B
          have H3b := Lib.hid h3b
          have Hd3 := Lib.hid hd3
          have Hu3 := Lib.hid hu3
          have hsz3 := h3b.size
          have Hap2 := Lib.hid (show applyR us ds ⟨ps, pp, pk, pv, false⟩ = if eff ds ⟨ps, pp, pk, pv, false⟩ = false then (0, us, ds) else if 6 < (setR (rwU ⟨ps, pp, pk, pv, false⟩) ds).length then (10, us, ds) else (0, us ++ [upd us.length ⟨ps, pp, pk, pv, false⟩], setR (rwU ⟨ps, pp, pk, pv, false⟩) ds) from rfl)
          have Hups : Hid (upd us.length ⟨ps, pp, pk, pv, false⟩ = ⟨(us.length : Int) + 1, us.length, pk, pv, false⟩) := Lib.hid rfl
          unfold DcPost at HD
          generalize setR (rwU ⟨ps, pp, pk, pv, false⟩) ds = X at *
          generalize eff ds ⟨ps, pp, pk, pv, false⟩ = ee at *
          generalize upd us.length ⟨ps, pp, pk, pv, false⟩ = un at *
          generalize applyR us ds ⟨ps, pp, pk, pv, false⟩ = Y at *
          have Hsame := Lib.hid hsame
          have h6 := Hd.out.few
          clear h3U h3B h3b hd3 hu3 hl5 hsame HB HO hok Hvl HvlG
          go_wp2_with fail
          refine HD.out.mono ?_
          rintro e w4 ⟨A6, c6, rfl, hor, hb4⟩
          have hrow : w4.ownsRow w.heap.size 42 2 (.slice A6 X.length c6) X.length (pcR X) := by
            rcases hor with ⟨e1, e2, e3⟩ | h
            · subst e2 e3
              rw [Hsame.out e1]
              exact own_below Hd3.out hb4
            · exact own_le h (by omega)
          have Hrow := Lib.hid hrow
          have hU4 := H3U.out.below hb4 H3U.out.lt
          have hB4 := H3B.out.below hb4 H3B.out.lt
          have s0 : w4.cell? ⟨wr.heap.size + 1, 0, none⟩ = some (str pk) := hB4.cell 0
          have s1 : w4.cell? ⟨wr.heap.size + 1, 1, none⟩ = some (str pv) := hB4.cell 1
          have s4 : w4.cell? ⟨wr.heap.size, 4, none⟩ = some (.bool false) := hU4.cell 4
          have hu4 := own_below Hu3.out hb4
          have hb44 := Hbe.out.trans ((H3b.out.trans (hb4.mono H3b.out.size)).mono hszw)
          have Hb4 := Lib.hid hb44
          have hs4 := hb44.size
          have Hu4 := Lib.hid hu4
          have hs34 := hb4.size
          clear hor hrow hU4 hB4 hu4 HD hb44
          cases ee with
          | false =>
            have hY : Y = (0, us, ds) := by rw [Hap2.out]; simp
            have hXd := Hsame.out (by simp)
            subst hXd
            rw [hY] at HX Hap
            have HP := Lib.hid (show playD (l.drop (k + 1)) us X = playD l [] [] by rw [HX.out]; simp)
            have h6i : ¬ (6 : Int) < (X.length : Int) := by omega
            have HXn := Lib.hid (show ∃ m, X.length = m from ⟨_, rfl⟩)
            clear HX hY Hap2 Hups Hsame hb4
            go_wp2_with fail
            go_roundg (n - (k + 1))
            case measure => have := Hgk.out; omega
            case rel => exact ⟨k + 1, us, X, by go_num, by omega, rfl, Hrow.out, Hu4.out, Hu.out, Hd.out, by omega, HP.out, Hb4.out⟩
          | true =>
            clear Hsame
            by_cases h7 : 6 < X.length
            · have hY : Y = (10, us, ds) := by rw [Hap2.out, if_neg (by simp), if_pos h7]
              rw [hY] at HX
              have HP := Lib.hid (show playD l [] [] = (10, [], []) by rw [HX.out]; simp)
              have h7i : (6 : Int) < (X.length : Int) := by omega
              clear HX hY Hap2 Hups hb4 Hap
              go_wp2_with fail
              go_ret3
              rw [HE.out, HP.out]
              exact rpPost_err Hb4.out
            · have hY : Y = (0, us ++ [un], X) := by rw [Hap2.out, if_neg (by simp), if_neg h7]
              rw [hY] at HX Hap
              rw [Hups.out] at HX Hap
              have HP := Lib.hid (show playD (l.drop (k + 1)) (us ++ [⟨(us.length : Int) + 1, us.length, pk, pv, false⟩]) X = playD l [] [] by rw [HX.out]; simp)
              have h7i : ¬ (6 : Int) < (X.length : Int) := by omega
              obtain ⟨v', wf, hrun, ho4, hg4, hor⟩ := upd_box (r := ⟨(us.length : Int) + 1, us.length, pk, pv, false⟩) Hu4.out (by omega) (by omega) #[.int .i64 ((us.length : Int) + 1), .int .i64 (us.length : Int), str pk, str pv, .bool false] rfl
              have hbf := Hb4.out.grown hg4 (by omega) fun g hg => (World.ownsRow.lt Hu4.out g hg).1
              have hrowf := own_apart Hrow.out hg4 (fun g h1 h2 => (apt_types Hu4.out Hrow.out (by decide)) g h2 h1)
              have Hrun := Lib.hid hrun
              have Ho4 := Lib.hid ho4
              have Hbf := Lib.hid hbf
              have Hrowf := Lib.hid hrowf
              obtain ⟨Au, cu, rfl, -⟩ := LIn.own ucL_len Hu4.out
              have Hl1 := Lib.hid (show (us ++ [(⟨(us.length : Int) + 1, us.length, pk, pv, false⟩ : Uc)]).length = us.length + 1 by simp)
              have hwr : IntKind.i64.wrap ((us.length : Int) + 1) = (us.length : Int) + 1 := IntWalk.i64_in _ (by omega)
              have hul2 : us.length ≤ 200 := by omega
              clear HX hY Hap2 Hups hb4 hrun ho4 hg4 hor hbf hrowf
              go_wp2_with (first | (at_builtin; refine dv_app rfl _ _ _ rfl _ _ (by rfl) (by rfl) Hrun.out ?_; clear Hrun) | fail)
              go_roundg (n - (k + 1))
              case measure => have := Hgk.out; omega
              case rel => exact ⟨k + 1, us ++ [⟨(us.length : Int) + 1, us.length, pk, pv, false⟩], X, by go_num, by omega, rfl, Hrowf.out, by rw [Hl1.out]; exact Ho4.out, Hap.out.1, Hap.out.2.1, by have := Hl1.out; omega, HP.out, Hbf.out⟩
      · have hi1 : ¬ (k : Int) < (n : Int) := by omega
        have HX := Lib.hid (show playD l [] [] = (0, us, ds) by rw [← Hpl.out, List.drop_eq_nil_of_le (by have := Hln.out; omega)]; rfl)
        obtain ⟨A1, c1, rfl, h1⟩ := LIn.own ucL_len Hu6.out
        obtain ⟨A2, c2, rfl, h2⟩ := LIn.own rc_len (show wr.ownsRow w.heap.size 42 2 u5 ds.length (pcK rc ds) from Hd5.out)
        have H1 := Lib.hid h1
        have H2 := Lib.hid h2
        clear Hpl h1 h2
        go_wp2_with fail
        go_ret3
        rw [HE.out, HX.out]
        exact ⟨A1, c1, A2, c2, rfl, H1.out, H2.out, Hbe.out⟩
end Go.Proofs.Ytmlgaedhfannmaa
