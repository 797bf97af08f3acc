/- Sorted tables: isSized, Check, at every list. -/
import Derived.Test.YtecpccdmmaigiaaRwStr
import Derived.Test.YtecpccdmmaigiaaRows
import Derived.Outline
import Derived.BigQuiet
import Derived.Deep.LoopGhost
namespace Go.Proofs.Ytecpccdmmaigiaa
set_option linter.unusedVariables false
set_option linter.unusedSimpArgs false
open Go.RowKit

theorem sized_no1 {r : Rw} (h : r.key = []) : sizedR r = false := by simp [sizedR, h]
theorem sized_no2 {r : Rw} (h : 20 < r.key.length) : sizedR r = false := by
  unfold sizedR; rw [show decide (r.key.length ≤ 20) = false by simp; omega]; simp
theorem sized_eq {r : Rw} (h : r.key ≠ []) (h2 : r.key.length ≤ 20) : sizedR r = decide (r.val.length ≤ 20) := by
  unfold sizedR
  rw [show r.key.isEmpty = false by cases hh : r.key <;> simp_all, show decide (r.key.length ≤ 20) = true by simpa using h2]; simp
set_option maxHeartbeats 1000000 in
theorem isSized_any (r : Rw) (w : World) (hk : r.key.length ≤ 9223372036854775807) (hv : r.val.length ≤ 9223372036854775807) :
    Calls Try.prog 30 #[.agg #[str r.key, str r.val]] w fun e w' => e = .returned (.bool (sizedR r)) ∧ Below w.heap.size w w' := by
  obtain ⟨k, v⟩ := r
  simp only at hk hv
  show Calls Try.prog 30 #[.agg #[str k, str v]] w fun e w' => e = .returned (.bool (sizedR ⟨k, v⟩)) ∧ Below w.heap.size w w'
  by_cases h1 : k = []
  · subst h1
    rw [sized_no1 rfl]
    go_enter Try.func30, Try.ntmps30
    go_wp2
    go_ret
    exact ⟨rfl, (Below.refl _ w).alloc (Nat.le_refl _) _⟩
  · have h1b : k.isEmpty = false := by cases k <;> simp_all
    by_cases h2 : k.length ≤ 20
    · have hH := Lib.hid (sized_eq (r := ⟨k, v⟩) h1 h2)
      have h2b : (k.length : Int) ≤ 20 := by omega
      go_enter Try.func30, Try.ntmps30
      go_wp2
      go_ret
      refine ⟨ret_bool ?_, (Below.refl _ w).alloc (Nat.le_refl _) _⟩
      rw [hH.out]
      exact decide_eq_decide.2 (by show (v.length : Int) ≤ 20 ↔ v.length ≤ 20; omega)
    · rw [sized_no2 (show 20 < (⟨k, v⟩ : Rw).key.length by simp only; omega)]
      have h2b : ¬ (k.length : Int) ≤ 20 := by omega
      go_enter Try.func30, Try.ntmps30
      go_wp2
      go_ret
      exact ⟨rfl, (Below.refl _ w).alloc (Nat.le_refl _) _⟩

/-- The loop over the rows: k of them are found good. -/
def ChkR (l : List Rw) (w : World) (gk : Nat) (v : Value) (wr : World) : Prop :=
  ∃ k : Nat, v = .int .i64 (k : Int) ∧ k ≤ l.length ∧ gk = l.length - k ∧ chkAt l k = chkGo none l ∧ Below w.heap.size w wr
set_option maxHeartbeats 1000000 in
set_option maxRecDepth 100000 in
theorem check_any (A : Option Addr) (n c B : Nat) (l : List Rw) (w : World) (hl : RIn w B A n c l) (hB : B ≤ w.heap.size) (hs : Short l) (hn : n ≤ 9223372036854775807) :
    Calls Try.prog 14 #[.slice A n c] w fun e w' => e = .returned (.int .i64 (chkT l)) ∧ Below w.heap.size w w' := by
  have hln := hl.1
  by_cases h40 : 40 < n
  · have HR := Lib.hid (show chkT l = 1 by unfold chkT; rw [if_pos (by omega)])
    have h4 : (40 : Int) < n := by omega
    clear hl hs hln
    go_enter Try.func14, Try.ntmps14
    go_wp2
    go_ret
    exact ⟨by rw [HR.out]; rfl, Below.refl _ w⟩
  · have HR := Lib.hid (show chkT l = chkGo none l by unfold chkT; rw [if_neg (by omega)])
    have h4 : ¬ (40 : Int) < n := by omega
    have Hl := Lib.hid hl
    have Hs := Lib.hid hs
    have Hln := Lib.hid hln
    clear hl hs hln
    go_enter Try.func14, Try.ntmps14
    go_wp2
    go_loopg [10] n (ChkR l w)
    case atStart => exact ⟨0, rfl, by omega, by rw [Hln.out]; rfl, rfl, Below.refl _ _⟩
    case round =>
      obtain ⟨k, rfl, hk, hgk, hc, hbe⟩ := hrel
      have Hgk := Lib.hid hgk
      have Hc := Lib.hid hc
      have Hbe := Lib.hid hbe
      have hszw := hbe.size
      clear hgk hc hbe
      rw [Hln.out] at hk
      by_cases hkn : k < n
      · have hkl : k < l.length := by rw [Hln.out]; exact hkn
        obtain ⟨b, off, hA, hbB, c0, c1⟩ := (Hl.out.below (Hbe.out.mono hB)).at_ hkl
        subst hA
        have hbw : b < wr.heap.size := by omega
        have Hst := Lib.hid (chkAt_step l k hkl)
        have hsh := Hs.out l[k] (List.getElem_mem _)
        have HC := Lib.hid (fun W => isSized_any l[k] W hsh.1 hsh.2)
        generalize hr : l[k] = r at *
        obtain ⟨rk, rv⟩ := r
        simp only at c0 c1 hsh
        have hi1 : ((k : Nat) : Int) < (n : Int) := by omega
        obtain ⟨W, hW⟩ : ∃ W, W = wr.alloc (.cells #[str rk, str rv] 40) := ⟨_, rfl⟩
        have hWb : Below wr.heap.size wr W := by rw [hW]; exact (Below.refl _ _).alloc (Nat.le_refl _) _
        have hWc := box2 wr 40 (str rk) (str rv)
        have hWs : W.heap.size = wr.heap.size + 1 := by rw [hW]; simp
        rw [← hW] at hWc
        obtain ⟨x0, x1⟩ := hWc
        have HW := Lib.hid hW
        clear hW
        have hi1b : decide ((k : Int) < (n : Int)) = true := by simpa using hkn
        cases hsz : sizedR ⟨rk, rv⟩
        · have HE := Lib.hid (show (1 : Int) = chkT l by rw [HR.out, ← Hc.out, Hst.out, hsz, if_pos rfl])
          rw [hsz] at HC
          clear hsz Hst
          go_wp2_with (go_at_call 30; rw [← HW.out]; refine (HC.out W).mono ?_; rintro e w1 ⟨rfl, hb1⟩)
          go_ret
          exact ⟨by rw [← HE.out] <;> rfl, (Hbe.out.trans (hWb.mono hszw)).trans (hb1.mono (by omega))⟩
        · rw [hsz] at HC
          have hB1 : ∀ w1, Below W.heap.size W w1 → Below w.heap.size w w1 := fun w1 hb1 => (Hbe.out.trans (hWb.mono hszw)).trans (hb1.mono (by omega))
          have HB1 := Lib.hid hB1
          have hX : ∀ w1, Below W.heap.size W w1 → w1.cell? ⟨wr.heap.size, 0, none⟩ = some (str rk) ∧ w1.cell? ⟨wr.heap.size, 1, none⟩ = some (str rv) :=
            fun w1 hb1 => ⟨by rw [hb1.cell (by rw [hWs]; exact Nat.lt_succ_self _)]; exact x0, by rw [hb1.cell (by rw [hWs]; exact Nat.lt_succ_self _)]; exact x1⟩
          have HX := Lib.hid hX
          clear hX hB1
          by_cases hv : rv = []
          · have HE := Lib.hid (show (4 : Int) = chkT l by rw [HR.out, ← Hc.out, Hst.out, hsz, if_neg (by simp), if_pos hv])
            have hvb : rv.isEmpty = true := by rw [hv]; rfl
            clear hsz Hst hv
            go_wp2_with (go_at_call 30; rw [← HW.out]; refine (HC.out W).mono ?_; rintro e w1 ⟨rfl, hb1⟩; obtain ⟨y0, y1⟩ := HX.out w1 hb1)
            go_ret
            exact ⟨by rw [← HE.out] <;> rfl, HB1.out _ hb1⟩
          · have hvb : rv.isEmpty = false := by cases rv <;> simp_all
            cases k with
            | zero =>
              have HE := Lib.hid (show chkAt l 1 = chkGo none l by rw [← Hc.out, Hst.out, hsz, if_neg (by simp), if_neg hv, if_neg (by simp [notUp])])
              have c0' : wr.cell? ⟨b, off, none⟩ = some (str rk) := by simpa using c0
              have c1' : wr.cell? ⟨b, off + 1, none⟩ = some (str rv) := by simpa using c1
              clear c0 c1
              clear hsz Hst hv
              go_wp2_with (first | (go_at_call 30; rw [← HW.out]; refine (HC.out W).mono ?_; rintro e w1 ⟨rfl, hb1⟩; obtain ⟨y0, y1⟩ := HX.out w1 hb1) | fail)
              go_quiet (fail)
              go_wp2
              go_roundg (n - 1)
              case measure => have := Hgk.out; have := Hln.out; omega
              case rel => exact ⟨1, rfl, by have := Hln.out; omega, by have := Hln.out; omega, HE.out, below_drewN (HB1.out _ hb1) _⟩
            | succ j =>
              have hjl : j < l.length := by omega
              obtain ⟨b', off', hA', hbB', d0, _⟩ := (Hl.out.below (Hbe.out.mono hB)).at_ hjl
              injection hA' with hA'
              injection hA' with e1 e2 _
              subst e1 e2
              have hst : (if j + 1 = 0 then none else l[j + 1 - 1]?) = some l[j] := by rw [if_neg (by omega), Nat.add_sub_cancel, List.getElem?_eq_getElem hjl]
              rw [hst, hsz] at Hst
              generalize hq : l[j].key = q at *
              have hz : ((j + 1 : Nat) : Int) > 0 := by omega
              have hD : ∀ w1, Below W.heap.size W w1 → w1.cell? ⟨b, off + j * 2, none⟩ = some (str q) := fun w1 hb1 => by
                rw [hb1.cell (by simp [hWs]; omega), hWb.cell hbw]; exact d0
              have HD := Lib.hid hD
              have hj1 : (j : Int) + 1 - 1 = (j : Int) := by omega
              have hj2 : (j : Int) < (n : Int) := by omega
              cases hls : Op.bytesLess q rk
              · have HE := Lib.hid (show (7 : Int) = chkT l by rw [HR.out, ← Hc.out, Hst.out, if_neg (by simp), if_neg hv, if_pos (by simp [notUp, hq, hls])])
                clear hsz Hst hv hst hD hq
                go_wp2_with (first | (go_at_call 30; rw [← HW.out]; refine (HC.out W).mono ?_; rintro e w1 ⟨rfl, hb1⟩; obtain ⟨y0, y1⟩ := HX.out w1 hb1; have y2 := HD.out w1 hb1) | fail)
                go_quiet (fail)
                go_wp2
                go_ret
                exact ⟨by rw [← HE.out] <;> rfl, below_drewN (HB1.out _ hb1) _⟩
              · have HE := Lib.hid (show chkAt l (j + 2) = chkGo none l by rw [← Hc.out, Hst.out, if_neg (by simp), if_neg hv, if_neg (by simp [notUp, hq, hls])])
                clear hsz Hst hv hst hD hq
                go_wp2_with (first | (go_at_call 30; rw [← HW.out]; refine (HC.out W).mono ?_; rintro e w1 ⟨rfl, hb1⟩; obtain ⟨y0, y1⟩ := HX.out w1 hb1; have y2 := HD.out w1 hb1) | fail)
                go_quiet (fail)
                go_wp2
                go_roundg (n - (j + 2))
                case measure => have := Hgk.out; have := Hln.out; omega
                case rel => exact ⟨j + 2, rfl, by have := Hln.out; omega, by have := Hln.out; omega, HE.out, below_drewN (HB1.out _ hb1) _⟩
      · go_wp2
        go_ret
        have : k = l.length := by have := Hln.out; omega
        subst this
        exact ⟨by rw [HR.out, ← Hc.out, chkAt_end]; rfl, Hbe.out⟩
end Go.Proofs.Ytecpccdmmaigiaa
