/- Sorted tables, the reference: rowsChanges, RowsSet at every table and changes. -/
import Derived.Test.YtecpccdmmaigiaaRwSetR
namespace Go.Proofs.Ytecpccdmmaigiaa
set_option linter.unusedVariables false
set_option linter.unusedSimpArgs false
open Go.RowKit
def ChgL (l cs : List Rw) (w : World) (n : Nat) (gk : Nat) (s6 s15 : Value) (wr : World) : Prop :=
  ∃ (k : Nat) (An : Option Addr) (cn : Nat), s6 = .slice An (sets l (cs.take k)).length cn ∧ s15 = .int .i64 (k : Int) ∧ k ≤ n ∧ gk = n - k ∧ RIn wr wr.heap.size An (sets l (cs.take k)).length cn (sets l (cs.take k)) ∧ goodC (cs.take k) = true ∧ Below w.heap.size w wr
/-- What it returns: a list of rows, somewhere. -/
def SetPost (X : List Rw × Int) (w : World) (e : Ending) (w' : World) : Prop :=
  ∃ (A : Option Addr) (c : Nat), e = .returned (.tuple #[.slice A X.1.length c, .int .i64 X.2]) ∧ RIn w' w'.heap.size A X.1.length c X.1 ∧ Below w.heap.size w w'
theorem goodC_bad {cs : List Rw} {k : Nat} (hk : k < cs.length) (h : sizedR cs[k] = false) : goodC cs = false := by
  cases hg : goodC cs with
  | false => rfl
  | true => have := List.all_eq_true.1 hg _ (List.getElem_mem hk); rw [h] at this; cases this
theorem setPost_err {w w' : World} {x : Int} (hb : Below w.heap.size w w') : SetPost ([], x) w (.returned (.tuple #[.slice none 0 0, .int .i64 x])) w' := ⟨none, 0, rfl, RIn.empty, hb⟩
set_option maxHeartbeats 2000000 in
set_option maxRecDepth 100000 in
theorem rowsChanges_any (A A' : Option Addr) (n c n' c' B B' : Nat) (l cs : List Rw) (w : World) (hl : RIn w B A n c l) (hB : B ≤ w.heap.size) (hf : Fit l)
    (hl' : RIn w B' A' n' c' cs) (hB' : B' ≤ w.heap.size) (hs' : Short cs) (hn' : n' ≤ 9223372036854775807) :
    Calls Try.prog 36 #[.slice A n c, .slice A' n' c'] w (SetPost (setN l cs) w) := by
  have h0 : chkT l = 0 := hf.chk
  have hln := hl.1
  have hln' := hl'.1
  have hn40 : n ≤ 40 := by have := hf.len; omega
  have Hl := Lib.hid hl
  have Hl' := Lib.hid hl'
  have Hs' := Lib.hid hs'
  have HF := Lib.hid hf
  have H0 := Lib.hid h0
  have Hln := Lib.hid hln
  have Hln' := Lib.hid hln'
  clear hl hl' hs' hf h0
  by_cases h60 : 60 < n'
  · have HR := Lib.hid (show setN l cs = ([], 1) by unfold setN; rw [if_neg (by simp [H0.out]), if_pos (.inl (by omega))])
    have h6 : (60 : Int) < (n' : Int) := by omega
    clear hln hln'
    go_enter Try.func36, Try.ntmps36
    go_wp2
    go_ret2
    rw [HR.out]
    exact setPost_err (Below.refl _ _)
  · have h6 : ¬ (60 : Int) < (n' : Int) := by omega
    clear hln hln'
    go_enter Try.func36, Try.ntmps36
    go_wp2
    go_loopg [6, 15] n' (ChgL l cs w n')
    case atStart =>
      refine ⟨0, A, c, ?_, rfl, Nat.zero_le _, by omega, ?_, rfl, Below.refl _ _⟩
      · rw [List.take_zero]; show _ = Value.slice A l.length c; rw [Hln.out]
      · rw [List.take_zero]; show RIn w w.heap.size A l.length c l; rw [Hln.out]; exact Hl.out.wider hB
    case round =>
      obtain ⟨k, An, cn, rfl, rfl, hk, hgk, hin, hgc, hbe⟩ := hrel
      have Hgk := Lib.hid hgk
      have Hin := Lib.hid hin
      have Hgc := Lib.hid hgc
      have Hbe := Lib.hid hbe
      have hszw := hbe.size
      clear hgk hin hgc hbe
      by_cases hkn : k < n'
      · have hkl : k < cs.length := by rw [Hln'.out]; exact hkn
        obtain ⟨b, off, hA, hbB, c0, c1⟩ := (Hl'.out.below (Hbe.out.mono hB')).at_ hkl
        subst hA
        have hbw : b < wr.heap.size := by omega
        have hsl := sets_len (l := l) (cs := cs.take k)
        rw [List.length_take, Hln.out] at hsl
        have HT := Lib.hid (show sets l (cs.take (k + 1)) = setR cs[k] (sets l (cs.take k)) by rw [List.take_succ_eq_append_getElem hkl, sets_app]; rfl)
        have Hbad := Lib.hid (fun h => goodC_bad hkl h)
        have Hgood := Lib.hid (show goodC (cs.take (k + 1)) = sizedR cs[k] by
          rw [List.take_succ_eq_append_getElem hkl]; unfold goodC at *; rw [List.all_append, Hgc.out]; simp)
        have hsh := Hs'.out cs[k] (List.getElem_mem hkl)
        generalize cs[k] = r at *
        have htst := sized_tests r
        have HW := Lib.hid (Hbe.out.alloc hszw (.cells #[str r.key, str r.val] 40))
        have HC := Lib.hid (rowsSet_any An _ cn _ (sets l (cs.take k)) r (wr.alloc (.cells #[str r.key, str r.val] 40)) (Hin.out.below ((Below.refl _ _).alloc (Nat.le_refl _) _)) (by simp) (srt_sets HF.out.srt) (by omega))
        rw [← HT.out] at HC
        obtain ⟨rk, rv⟩ := r
        simp only at c0 c1 hsh htst
        have hi1 : (k : Int) < (n' : Int) := by omega
        clear hsl HT Hin
        have HR : sizedR ⟨rk, rv⟩ = false → Hid (setN l cs = ([], 1)) := fun h => Lib.hid (by unfold setN; rw [if_neg (by simp [H0.out]), if_pos (.inr (Hbad.out h))])
        generalize (sets l (cs.take k)).length = N at *
        rcases htst with ⟨h1, hsz⟩ | ⟨h1, h2, hsz⟩ | ⟨h1, h2, h3, hsz⟩ | ⟨h1, h2, h3, hsz⟩
        · replace HR := HR hsz
          have h1i : (rk.length : Int) < 1 := by omega
          clear hsz h1 HC Hbad Hgood
          go_wp2_with fail
          go_ret2
          rw [HR.out]
          exact setPost_err HW.out
        · replace HR := HR hsz
          have h1i : ¬ (rk.length : Int) < 1 := by omega
          have h2i : (20 : Int) < (rk.length : Int) := by omega
          clear hsz h1 h2 HC Hbad Hgood
          go_wp2_with fail
          go_ret2
          rw [HR.out]
          exact setPost_err HW.out
        · replace HR := HR hsz
          have h1i : ¬ (rk.length : Int) < 1 := by omega
          have h2i : ¬ (20 : Int) < (rk.length : Int) := by omega
          have h3i : (20 : Int) < (rv.length : Int) := by omega
          clear hsz h1 h2 h3 HC Hbad Hgood
          go_wp2_with fail
          go_ret2
          rw [HR.out]
          exact setPost_err HW.out
        · clear HR
          have h1i : ¬ (rk.length : Int) < 1 := by omega
          have h2i : ¬ (20 : Int) < (rk.length : Int) := by omega
          have h3i : ¬ (20 : Int) < (rv.length : Int) := by omega
          rw [hsz] at Hgood
          clear hsz h1 h2 h3 Hbad
          go_wp2_with fail
          refine HC.out.mono ?_
          rintro e w4 ⟨v4, rfl, ho4, hb4⟩
          obtain ⟨A4, c4, rfl, hin4⟩ := RIn.own ho4
          have Hin4 := Lib.hid hin4
          have Hb4 := Lib.hid (HW.out.trans (hb4.mono HW.out.size))
          clear ho4 hb4 HC hin4
          go_wp2_with fail
          go_roundg (n' - (k + 1))
          case measure => have := Hgk.out; omega
          case rel => exact ⟨k + 1, A4, c4, rfl, rfl, by omega, rfl, Hin4.out, Hgood.out, Hb4.out⟩
      · have hkl : k = cs.length := by have := Hln'.out; omega
        have Hin' := Lib.hid Hin.out
        have Hgc' := Lib.hid Hgc.out
        rw [hkl, List.take_length] at Hin' Hgc'
        rw [hkl, List.take_length]
        clear Hin Hgc
        subst hkl
        by_cases h40 : 40 < (sets l cs).length
        · have HR := Lib.hid (show setN l cs = ([], 10) by unfold setN; rw [if_neg (by simp [H0.out]), if_neg (by rw [Hgc'.out, Hln'.out]; simp; omega), if_pos h40])
          generalize (sets l cs).length = N at *
          have h4 : (40 : Int) < (N : Int) := by omega
          go_wp2_with fail
          go_ret2
          rw [HR.out]
          exact setPost_err Hbe.out
        · have HR := Lib.hid (show setN l cs = (sets l cs, 0) by unfold setN; rw [if_neg (by simp [H0.out]), if_neg (by rw [Hgc'.out, Hln'.out]; simp; omega), if_neg h40])
          have HP := Lib.hid (show SetPost (sets l cs, 0) w (.returned (.tuple #[.slice An (sets l cs).length cn, .int .i64 0])) wr from ⟨An, cn, rfl, Hin'.out, Hbe.out⟩)
          have h4 : ¬ (40 : Int) < ((sets l cs).length : Int) := by omega
          generalize (sets l cs).length = N at *
          go_wp2_with fail
          go_ret2
          rw [HR.out]
          exact HP.out
theorem refSet_any (A A' : Option Addr) (n c n' c' B B' : Nat) (l cs : List Rw) (w : World) (hl : RIn w B A n c l) (hB : B ≤ w.heap.size) (hs : Short l) (hn : n ≤ 9223372036854775807)
    (hl' : RIn w B' A' n' c' cs) (hB' : B' ≤ w.heap.size) (hs' : Short cs) (hn' : n' ≤ 9223372036854775807) :
    Calls Try.prog 17 #[.slice A n c, .slice A' n' c'] w (SetPost (setN l cs) w) := by
  have H1 := Lib.hid (refFault_any A n c B l w hl hB hs hn)
  by_cases h0 : chkT l = 0
  · have HF := Lib.hid (chkT_fit h0)
    have H2 := Lib.hid (show ∀ W1, Below w.heap.size w W1 → _ from fun W1 hb => rowsChanges_any A A' n c n' c' B B' l cs W1 (hl.below (hb.mono hB)) (Nat.le_trans hB hb.size) HF.out (hl'.below (hb.mono hB')) (Nat.le_trans hB' hb.size) hs' hn')
    rw [h0] at H1
    generalize setN l cs = X at *
    clear hl hs hl' hs' h0 HF
    go_enter Try.func17, Try.ntmps17
    go_wp2_with fail
    refine H1.out.mono ?_
    rintro e w1 ⟨rfl, hb1⟩
    have Hb1 := Lib.hid hb1
    clear hb1 H1
    go_wp2_with fail
    refine (H2.out w1 Hb1.out).mono ?_
    rintro e w2 ⟨A2, c2, rfl, hin2, hb2⟩
    have Hin2 := Lib.hid hin2
    have Hb2 := Lib.hid (Hb1.out.trans (hb2.mono Hb1.out.size))
    clear hin2 hb2 H2
    go_wp2_with fail
    go_ret2
    exact ⟨A2, c2, rfl, Hin2.out, Hb2.out⟩
  · have HR := Lib.hid (show setN l cs = ([], chkT l) by unfold setN; rw [if_pos h0])
    generalize chkT l = x at *
    have h0b : (x == 0) = false := by simpa using h0
    clear hl hs hl' hs'
    go_enter Try.func17, Try.ntmps17
    go_wp2_with fail
    refine H1.out.mono ?_
    rintro e w1 ⟨rfl, hb1⟩
    have Hb1 := Lib.hid hb1
    clear hb1 H1
    go_wp2_with fail
    go_ret2
    rw [HR.out]
    exact setPost_err Hb1.out
end Go.Proofs.Ytecpccdmmaigiaa
