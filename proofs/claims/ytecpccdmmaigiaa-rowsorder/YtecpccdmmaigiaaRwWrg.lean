/- Sorted tables: slices.ContainsFunc with the test of lengths. -/
import Derived.Test.YtecpccdmmaigiaaRwChk
namespace Go.Proofs.Ytecpccdmmaigiaa
set_option linter.unusedVariables false
set_option linter.unusedSimpArgs false
open Go.RowKit
theorem wrongSize_r (r : Rw) (w : World) (hk : r.key.length ≤ 9223372036854775807) (hv : r.val.length ≤ 9223372036854775807) :
    Calls Try.prog 31 #[.agg #[str r.key, str r.val]] w fun e w' => e = .returned (.bool (!sizedR r)) ∧ Below w.heap.size w w' := by
  have H0 := Lib.hid (fun W => isSized_any r W hk hv)
  have HB := Lib.hid ((Below.refl _ w).alloc (Nat.le_refl _) (.cells #[str r.key, str r.val] 40))
  generalize sizedR r = b at *
  go_enter Try.func31, Try.ntmps31
  go_wp2_with fail
  refine (H0.out _).mono ?_
  rintro e w1 ⟨rfl, hb⟩
  go_wp2
  go_ret
  exact ⟨rfl, HB.out.trans (hb.mono HB.out.size)⟩
/-- All have valid lengths. -/
def goodC (l : List Rw) : Bool := l.all sizedR
def IfW (w : World) (l : List Rw) (n : Nat) (gk : Nat) (vi : Value) (wr : World) : Prop :=
  ∃ k : Nat, vi = .int .i64 (k : Int) ∧ k ≤ n ∧ gk = n - k ∧ goodC (l.take k) = true ∧ Below w.heap.size w wr
set_option maxHeartbeats 1000000 in
theorem indexR_any (A : Option Addr) (n c B : Nat) (l : List Rw) (w : World) (hl : RIn w B A n c l) (hB : B ≤ w.heap.size) (hs : Short l) (hn : n ≤ 9223372036854775807) :
    Calls Try.prog 44 #[.slice A n c, .func (.func 31) #[] #[]] w fun e w' => ∃ i : Int, e = .returned (.int .i64 i) ∧ decide (0 ≤ i) = !goodC l ∧ Below w.heap.size w w' := by
  have Hln := Lib.hid hl.1
  have Hl := Lib.hid hl
  have Hs := Lib.hid hs
  clear hl hs
  go_enter Try.func44, Try.ntmps44
  go_wp2
  go_loopg [8] n (IfW w l n)
  case atStart => exact ⟨0, rfl, Nat.zero_le _, by omega, rfl, Below.refl _ _⟩
  case round =>
    obtain ⟨k, rfl, hk, hgk, hall, hbe⟩ := hrel
    have Hgk := Lib.hid hgk
    have Hall := Lib.hid hall
    have Hbe := Lib.hid hbe
    have hszw := hbe.size
    clear hgk hall hbe
    by_cases hkn : k < n
    · have hkl : k < l.length := by rw [Hln.out]; exact hkn
      obtain ⟨b, off, hA, hbB, c0, c1⟩ := (Hl.out.below (Hbe.out.mono hB)).at_ hkl
      subst hA
      have hsh := Hs.out l[k] (List.getElem_mem hkl)
      have H1 := Lib.hid (wrongSize_r l[k] wr hsh.1 hsh.2)
      have Ht := Lib.hid (show goodC (l.take (k + 1)) = sizedR l[k] by
        unfold goodC at *
        rw [List.take_succ_eq_append_getElem hkl, List.all_append, Hall.out]; simp)
      have Hm := Lib.hid (show goodC l = true → sizedR l[k] = true from fun h => List.all_eq_true.1 h _ (List.getElem_mem hkl))
      generalize l[k] = r at *
      have hi1 : (k : Int) < (n : Int) := by omega
      cases hb : sizedR r
      · rw [hb] at Hm H1
        have HG := Lib.hid (show decide ((0 : Int) ≤ (k : Int)) = !goodC l by
          rw [decide_eq_true (by omega)]
          cases h : goodC l
          · rfl
          · have := Hm.out h; cases this)
        clear hb
        go_wp2_with fail
        refine H1.out.mono ?_
        rintro e w1 ⟨rfl, hb1⟩
        have Hb1 := Lib.hid (Hbe.out.trans (hb1.mono hszw))
        clear hb1 H1
        go_wp2
        go_ret
        exact ⟨k, rfl, HG.out, Hb1.out⟩
      · rw [hb] at Ht H1
        clear hb
        go_wp2_with fail
        refine H1.out.mono ?_
        rintro e w1 ⟨rfl, hb1⟩
        have Hb1 := Lib.hid (Hbe.out.trans (hb1.mono hszw))
        clear hb1 H1
        go_wp2
        go_roundg (n - (k + 1))
        case measure => have := Hgk.out; omega
        case rel => exact ⟨k + 1, by go_num, by omega, rfl, Ht.out, Hb1.out⟩
    · have hkn' : k = l.length := by have := Hln.out; omega
      have HG := Lib.hid (show decide ((0 : Int) ≤ (-1 : Int)) = !goodC l by
        have := Hall.out
        rw [hkn', List.take_length] at this
        rw [this]; rfl)
      clear hkn'
      go_wp2
      go_ret
      exact ⟨-1, rfl, HG.out, Hbe.out⟩
theorem containsR_any (A : Option Addr) (n c B : Nat) (l : List Rw) (w : World) (hl : RIn w B A n c l) (hB : B ≤ w.heap.size) (hs : Short l) (hn : n ≤ 9223372036854775807) :
    Calls Try.prog 32 #[.slice A n c, .func (.func 31) #[] #[]] w fun e w' => e = .returned (.bool (!goodC l)) ∧ Below w.heap.size w w' := by
  have H0 := Lib.hid (indexR_any A n c B l w hl hB hs hn)
  clear hl hs
  go_enter Try.func32, Try.ntmps32
  go_wp2_with fail
  refine H0.out.mono ?_
  rintro e w1 ⟨i, rfl, h3, hb⟩
  go_wp2
  go_ret
  exact ⟨ret_bool (by rw [← h3]), hb⟩
end Go.Proofs.Ytecpccdmmaigiaa
