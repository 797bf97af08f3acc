/- The document's own SameValue: what the call returns. -/
import Derived.Test.YtbdbcffnjibjoaaGreatDoorJIncr
import Derived.Test.YtbdbcffnjibjoaaGreatDoorBunA
import Derived.StillTailTactics
namespace Go.Proofs.YtbdbcffnjibjoaaGreatDoor
set_option linter.unusedVariables false
set_option linter.unusedSimpArgs false
open Go.RowKit
def RefSamePost (v v' : JV) (w : World) (e : Ending) (w' : World) : Prop := ∃ b, e = .returned (.bool b) ∧ (b = true ↔ v = v') ∧ Below w.heap.size w w'
theorem refSame_no {v v' : JV} {w w' : World} (h : v ≠ v') (hb : Below w.heap.size w w') : RefSamePost v v' w (.returned (.bool false)) w' := ⟨false, rfl, by simp [h], hb⟩
theorem refSame_yes {v v' : JV} {w w' : World} (h : v = v') (hb : Below w.heap.size w w') : RefSamePost v v' w (.returned (.bool true)) w' := ⟨true, rfl, by simp [h], hb⟩
theorem count_part3 : ∀ {ps : List JV} (i : Nat) (h : i < ps.length), count ps[i] ≤ counts ps
  | [], i, h => by simp at h
  | p :: r, 0, _ => by simp [counts]
  | p :: r, i + 1, h => by
    have := count_part3 (ps := r) i (by simpa using h)
    simp [counts]; omega
theorem list_ext3 {α : Type} {l l' : List α} (hl : l.length = l'.length) (h : ∀ j, j < l.length → l[j]? = l'[j]?) : l = l' := by
  apply List.ext_getElem?
  intro i
  rcases Nat.lt_or_ge i l.length with hi | hi
  · exact h i hi
  · rw [List.getElem?_eq_none hi, List.getElem?_eq_none (by omega)]
def RefSameK (ks ks' : List (List UInt8)) (w : World) (gk : Nat) (i : Value) (wr : World) : Prop :=
  ∃ k q : Nat, i = .int .i64 k ∧ k ≤ ks.length ∧ gk = ks.length - k ∧ (∀ j, j < k → ks[j]? = ks'[j]?) ∧ wr = w.drewN q
def RefSameP (ps ps' : List JV) (w : World) (gk : Nat) (i : Value) (wr : World) : Prop :=
  ∃ k : Nat, i = .int .i64 k ∧ k ≤ ps.length ∧ gk = ps.length - k ∧ (∀ j, j < k → ps[j]? = ps'[j]?) ∧ Below w.heap.size w wr

attribute [local go_sem high] str_mk
set_option maxRecDepth 100000 in
set_option maxHeartbeats 4000000 in
theorem refSame_any (f : Nat) : ∀ (v v' : JV) (cs cs' : List Value) (w : World) (B : Nat), count v ≤ f → B ≤ w.heap.size → VIn w B v cs → VIn w B v' cs' →
    Calls Tryz.prog 6 #[.agg cs.toArray, .agg cs'.toArray] w (RefSamePost v v' w) := by
  induction f with
  | zero => intro v v' cs cs' w B h; cases v; simp [count] at h
  | succ f ih =>
    intro v v' cs cs' w B hf hB hv hv'
    cases v with
    | mk k n t ks ps =>
    cases v' with
    | mk k' n' t' ks' ps' =>
    unfold VIn at hv hv'
    obtain ⟨Ak, ck, Ap, cp, pc, rfl, hk1, hn1, ht, hks, hps, hkl, hck, hcp, hh1, hh2, hpin⟩ := hv
    obtain ⟨Ak', ck', Ap', cp', pc', rfl, hk1', hn1', ht', hks', hps', hkl', hck', hcp', hh1', hh2', hpin'⟩ := hv'
    have Hf := Lib.hid hf
    clear hf
    have HW := Lib.hid (show Below w.heap.size w ((w.alloc (.cells #[.int .i64 k, .int .i64 n, str t, .slice Ak ks.length ck, .slice Ap ps.length cp] 25)).alloc (.cells #[.int .i64 k', .int .i64 n', str t', .slice Ak' ks'.length ck', .slice Ap' ps'.length cp'] 25)) from
      ((Below.refl _ _).alloc (Nat.le_refl _) _).alloc (by simp) _)
    by_cases ek : k = k'
    rotate_left
    · have Hne := Lib.hid (show JV.mk k n t ks ps ≠ .mk k' n' t' ks' ps' by intro e; injection e with e1 e2 e3 e4 e5; exact ek e1)
      have hb : (k != k') = true := by simpa using ek
      clear ek
      go_enter Tryz.func6, Tryz.ntmps6
      go_wp2_with fail
      go_ret
      exact refSame_no Hne.out HW.out
    subst ek
    have hb1 : (k != k) = false := by simp
    by_cases en : n = n'
    rotate_left
    · have Hne := Lib.hid (show JV.mk k n t ks ps ≠ .mk k n' t' ks' ps' by intro e; injection e with e1 e2 e3 e4 e5; exact en e2)
      have hb : (n != n') = true := by simpa using en
      clear en
      go_enter Tryz.func6, Tryz.ntmps6
      go_wp2_with fail
      go_ret
      exact refSame_no Hne.out HW.out
    subst en
    have hb2 : (n != n) = false := by simp
    by_cases et : t = t'
    rotate_left
    · have Hne := Lib.hid (show JV.mk k n t ks ps ≠ .mk k n t' ks' ps' by intro e; injection e with e1 e2 e3 e4 e5; exact et e3)
      have hb : (t == t') = false := by simpa using et
      clear et
      go_enter Tryz.func6, Tryz.ntmps6
      go_wp2_with fail
      go_ret
      exact refSame_no Hne.out HW.out
    subst et
    by_cases el : ks.length = ks'.length
    rotate_left
    · have Hne := Lib.hid (show JV.mk k n t ks ps ≠ .mk k n t ks' ps' by intro e; injection e with e1 e2 e3 e4 e5; exact el (by rw [e4]))
      have hb : ((ks.length : Int) != (ks'.length : Int)) = true := by rw [bne_iff_ne]; omega
      clear el
      go_enter Tryz.func6, Tryz.ntmps6
      go_wp2_with fail
      go_ret
      exact refSame_no Hne.out HW.out
    have hb4 : ((ks.length : Int) != (ks'.length : Int)) = false := by rw [bne_eq_false_iff_eq]; omega
    have El := Lib.hid el
    clear el
    by_cases ep : ps.length = ps'.length
    rotate_left
    · have Hne := Lib.hid (show JV.mk k n t ks ps ≠ .mk k n t ks' ps' by intro e; injection e with e1 e2 e3 e4 e5; exact ep (by rw [e5]))
      have hb : ((ps.length : Int) != (ps'.length : Int)) = true := by rw [bne_iff_ne]; omega
      clear ep
      go_enter Tryz.func6, Tryz.ntmps6
      go_wp2_with fail
      go_ret
      exact refSame_no Hne.out HW.out
    have hb5 : ((ps.length : Int) != (ps'.length : Int)) = false := by rw [bne_eq_false_iff_eq]; omega
    have Ep := Lib.hid ep
    clear ep
    have HA := Lib.hid ((Blk.new w 25 #[.int .i64 k, .int .i64 n, str t, .slice Ak ks.length ck, .slice Ap ps.length cp]).alloc (.cells #[.int .i64 k, .int .i64 n, str t, .slice Ak' ks'.length ck', .slice Ap' ps'.length cp'] 25))
    have hB2 := Blk.new (w.alloc (.cells #[.int .i64 k, .int .i64 n, str t, .slice Ak ks.length ck, .slice Ap ps.length cp] 25)) 25 #[.int .i64 k, .int .i64 n, str t, .slice Ak' ks'.length ck', .slice Ap' ps'.length cp']
    have hsz : (w.alloc (.cells #[.int .i64 k, .int .i64 n, str t, .slice Ak ks.length ck, .slice Ap ps.length cp] 25)).heap.size = w.heap.size + 1 := by simp
    rw [hsz] at hB2
    have HB := Lib.hid hB2
    clear hB2 hsz
    go_enter Tryz.func6, Tryz.ntmps6
    go_wp2_with fail
    have hW := HW.out
    have hbA := HA.out
    have hbB := HB.out
    have hh1w := (hh1.below (hW.mono hB))
    have hh1w' := (hh1'.below (hW.mono hB))
    have hsz2 : ((w.alloc (.cells #[.int .i64 k, .int .i64 n, str t, .slice Ak ks.length ck, .slice Ap ps.length cp] 25)).alloc (.cells #[.int .i64 k, .int .i64 n, str t, .slice Ak' ks'.length ck', .slice Ap' ps'.length cp'] 25)).heap.size = w.heap.size + 2 := by simp
    generalize hW0 : (w.alloc (.cells #[.int .i64 k, .int .i64 n, str t, .slice Ak ks.length ck, .slice Ap ps.length cp] 25)).alloc (.cells #[.int .i64 k, .int .i64 n, str t, .slice Ak' ks'.length ck', .slice Ap' ps'.length cp'] 25) = W0 at *
    have Hsz2 := Lib.hid hsz2
    clear hW0 HW HA HB hsz2
    have a3 : W0.cell? ⟨w.heap.size, 3, none⟩ = some (.slice Ak ks.length ck) := hbA.cell 3
    have a4 : W0.cell? ⟨w.heap.size, 4, none⟩ = some (.slice Ap ps.length cp) := hbA.cell 4
    have b3 : W0.cell? ⟨w.heap.size + 1, 3, none⟩ = some (.slice Ak' ks'.length ck') := hbB.cell 3
    have b4 : W0.cell? ⟨w.heap.size + 1, 4, none⟩ = some (.slice Ap' ps'.length cp') := hbB.cell 4
    go_loopg [47] ks.length (RefSameK ks ks' W0)
    case atStart => exact ⟨0, 0, rfl, by omega, by omega, fun j h => absurd h (by omega), rfl⟩
    case round =>
      obtain ⟨i, q, rfl, hi, hgk, hall, rfl⟩ := hrel
      have Hgk := Lib.hid hgk
      have Hall := Lib.hid hall
      clear hgk hall
      by_cases hlt : i < ks.length
      · have hlt' : i < ks'.length := by have := El.out; omega
        obtain ⟨b, off, hl1, rfl, hb, hc⟩ := hh1w.str hlt
        obtain ⟨b', off', hl1', rfl, hb', hc'⟩ := hh1w'.str hlt'
        have Hg1 := Lib.hid (List.getElem?_eq_getElem hl1)
        have Hg2 := Lib.hid (List.getElem?_eq_getElem hl1')
        generalize ks[i] = x at *
        generalize ks'[i] = y at *
        by_cases hxy : x = y
        · subst hxy
          go_wp2_with fail
          go_quiet (fail)
          go_wp2_with fail
          go_roundg (ks.length - (i + 1))
          case measure => have := Hgk.out; omega
          case rel =>
            refine ⟨i + 1, _, by go_num, by omega, rfl, fun j hj => ?_, rfl⟩
            rcases Nat.lt_succ_iff_lt_or_eq.1 hj with h | rfl
            · exact Hall.out j h
            · rw [Hg1.out, Hg2.out]
        · have hxb : (x == y) = false := by simpa using hxy
          have Hne := Lib.hid (show JV.mk k n t ks ps ≠ .mk k n t ks' ps' by
            intro e; injection e with e1 e2 e3 e4 e5
            have h1 := Hg1.out
            rw [e4, Hg2.out] at h1
            injection h1 with h1
            exact hxy h1.symm)
          clear hxy
          go_wp2_with fail
          go_quiet (fail)
          go_wp2_with fail
          go_ret
          exact refSame_no Hne.out (below_drewN (below_drewN hW _) _)
      · have Hks := Lib.hid (show ks = ks' from list_ext3 El.out (fun j hj => Hall.out j (by omega)))
        go_wp2_with fail
        have hWq : Below w.heap.size w (W0.drewN q) := below_drewN hW q
        have hbAq : Blk (W0.drewN q) w.heap.size 25 #[.int .i64 k, .int .i64 n, str t, .slice Ak ks.length ck, .slice Ap ps.length cp] := hbA
        have hbBq : Blk (W0.drewN q) (w.heap.size + 1) 25 #[.int .i64 k, .int .i64 n, str t, .slice Ak' ks'.length ck', .slice Ap' ps'.length cp'] := hbB
        have hszq : (W0.drewN q).heap.size = w.heap.size + 2 := Hsz2.out
        generalize W0.drewN q = W1 at *
        clear a3 a4 b3 b4 hW hbA hbB hh1w hh1w'
        go_loopg [65] ps.length (RefSameP ps ps' W1)
        case atStart => exact ⟨0, rfl, by omega, by omega, fun j h => absurd h (by omega), Below.refl _ _⟩
        case round =>
          obtain ⟨j, rfl, hj, hgj, hallp, hbw⟩ := hrel
          have Hgj := Lib.hid hgj
          have Hallp := Lib.hid hallp
          clear hgj hallp
          have hbAr := hbAq.below hbw (by omega)
          have hbBr := hbBq.below hbw (by omega)
          have a4 : wr.cell? ⟨w.heap.size, 4, none⟩ = some (.slice Ap ps.length cp) := hbAr.cell 4
          have b4 : wr.cell? ⟨w.heap.size + 1, 4, none⟩ = some (.slice Ap' ps'.length cp') := hbBr.cell 4
          have hwr : Below w.heap.size w wr := hWq.trans (hbw.mono hWq.size)
          by_cases hltp : j < ps.length
          · have hltp' : j < ps'.length := by have := Ep.out; omega
            have hh2r := hh2.below (hwr.mono hB)
            have hh2r' := hh2'.below (hwr.mono hB)
            have hpr := hpin.below (hwr.mono hB)
            have hpr' := hpin'.below (hwr.mono hB)
            obtain ⟨b, off, k1, n1, t1, Ak1, nk1, ck1, Ap1, np1, cp1, rfl, hb, hv1, x0, x1, x2, x3, x4⟩ := part_cells hh2r hpr j hltp
            obtain ⟨b', off', k2, n2, t2, Ak2, nk2, ck2, Ap2, np2, cp2, rfl, hb', hv2, y0, y1, y2, y3, y4⟩ := part_cells hh2r' hpr' j hltp'
            have Hg1 := Lib.hid (List.getElem?_eq_getElem hltp)
            have Hg2 := Lib.hid (List.getElem?_eq_getElem hltp')
            have hcnt := count_part3 j hltp
            have hcv : count ps[j] ≤ f := by have := Hf.out; simp [count] at this; omega
            generalize ps[j] = p at *
            generalize ps'[j] = p' at *
            go_wp2_with fail
            have hjI : (j : Int) < (ps.length : Int) := by omega
            have hjI' : (j : Int) < (ps'.length : Int) := by omega
            go_still_tail 10, (by kernel_rfl)
            change wpList _ _ _ _ _ wr.drew
            have hbd : Below w.heap.size w wr.drew := below_drewN hwr 1
            have hv1d : VIn wr.drew B p [.int .i64 k1, .int .i64 n1, str t1, .slice Ak1 nk1 ck1, .slice Ap1 np1 cp1] := hv1.below (below_drewN (Below.refl _ _) 1)
            have hv2d : VIn wr.drew B p' [.int .i64 k2, .int .i64 n2, str t2, .slice Ak2 nk2 ck2, .slice Ap2 np2 cp2] := hv2.below (below_drewN (Below.refl _ _) 1)
            have hbwd : Below W1.heap.size W1 wr.drew := below_drewN hbw 1
            have hszd : B ≤ wr.drew.heap.size := Nat.le_trans hB hbd.size
            clear hh2r hh2r' hpr hpr' x0 x1 x2 x3 x4 y0 y1 y2 y3 y4 hv1 hv2 a4 b4 hbAr hbBr hwr hbw hcnt
            generalize wr.drew = w2 at *
            go_wp2_with fail
            refine (ih p p' _ _ w2 B hcv hszd hv1d hv2d).mono ?_
            rintro e w3 ⟨bb, rfl, hbb, hb3⟩
            have hbw3 : Below W1.heap.size W1 w3 := hbwd.trans (hb3.mono hbwd.size)
            cases bb
            · have Hne := Lib.hid (show JV.mk k n t ks ps ≠ .mk k n t ks' ps' by
                intro e; injection e with e1 e2 e3 e4 e5
                have h1 := Hg1.out
                rw [e5, Hg2.out] at h1
                injection h1 with h1
                exact absurd (hbb.2 h1.symm) (by simp))
              go_wp2_with fail
              go_ret
              exact refSame_no Hne.out (hbd.trans (hb3.mono hbd.size))
            · have Hpp := Lib.hid (hbb.1 rfl)
              go_wp2_with fail
              go_roundg (ps.length - (j + 1))
              case measure => have := Hgj.out; omega
              case rel =>
                refine ⟨j + 1, by go_num, by omega, rfl, fun i hi => ?_, hbw3⟩
                rcases Nat.lt_succ_iff_lt_or_eq.1 hi with h | rfl
                · exact Hallp.out i h
                · rw [Hg1.out, Hg2.out, Hpp.out]
          · have Hps := Lib.hid (show ps = ps' from list_ext3 Ep.out (fun i hi => Hallp.out i (by omega)))
            go_wp2_with fail
            go_ret
            exact refSame_yes (by rw [Hks.out, Hps.out]) hwr
end Go.Proofs.YtbdbcffnjibjoaaGreatDoor
