/- Sorted tables: the mathematics of Set's answer. -/
import Derived.Test.YtmlgaedhfannmaaBunRA
namespace Go.Proofs.Ytmlgaedhfannmaa
set_option linter.unusedVariables false
set_option linter.unusedSimpArgs false
open Go.RowKit
theorem setR_len (c : Rw) (l : List Rw) : (setR c l).length = (if c.val = [] then l.length - hit c.key l else l.length + 1 - hit c.key l) := by
  have h := hit_room c.key l
  rw [setR_eq, List.length_append, List.length_append, List.length_take, List.length_drop]
  split <;> simp <;> omega
theorem Fit.shortR {l : List Rw} (h : Fit l) : ∀ r ∈ l, r.key.length ≤ 20 ∧ r.val.length ≤ 20 := by
  intro r hr
  have := (h.good r hr).1
  unfold sizedR at this
  simp only [Bool.and_eq_true, decide_eq_true_eq] at this
  exact ⟨this.1.2, this.2⟩
/-- What Set answers. -/
def setN (l cs : List Rw) : List Rw × Int := if chkT l ≠ 0 then ([], chkT l) else if 60 < cs.length ∨ goodC cs = false then ([], 1) else if 40 < (sets l cs).length then ([], 10) else (sets l cs, 0)
theorem sized_short {r : Rw} (h : sizedR r = true) : r.key.length ≤ 20 ∧ r.val.length ≤ 20 := by
  unfold sizedR at h
  simp only [Bool.and_eq_true, decide_eq_true_eq] at h
  exact ⟨h.1.2, h.2⟩
theorem sets_len : ∀ {cs l : List Rw}, (sets l cs).length ≤ l.length + cs.length
  | [], l => by simp [sets]
  | c :: cs, l => by
    have h1 := sets_len (cs := cs) (l := setR c l)
    have h2 := setR_len c l
    rw [sets_cons]
    simp only [List.length_cons]
    split at h2 <;> omega
theorem sets_short {l cs : List Rw} (hl : Fit l) (hc : goodC cs = true) : ∀ r ∈ sets l cs, r.key.length ≤ 20 ∧ r.val.length ≤ 20 := by
  intro r hr
  rcases mem_sets hr with h | ⟨h, _⟩
  · exact hl.shortR r h
  · exact sized_short (List.all_eq_true.1 hc r h)
end Go.Proofs.Ytmlgaedhfannmaa
