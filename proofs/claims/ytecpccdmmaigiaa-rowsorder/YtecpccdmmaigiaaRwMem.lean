/- Sorted tables: how rows lie in memory. -/
import Derived.Test.YtecpccdmmaigiaaRwM
import Derived.Test.YtecpccdmmaigiaaBunA
namespace Go.Proofs.Ytecpccdmmaigiaa
set_option linter.unusedVariables false
set_option linter.unusedSimpArgs false
open Go.RowKit

/-- The two cells of a row; those of a list of rows. -/
def rc (r : Rw) : List Value := [str r.key, str r.val]
def pcR (l : List Rw) : List Value := l.flatMap rc
theorem pcR_nil : pcR [] = [] := rfl
theorem pcR_cons (r : Rw) (l : List Rw) : pcR (r :: l) = rc r ++ pcR l := rfl
theorem pcR_len : ∀ l : List Rw, (pcR l).length = l.length * 2
  | [] => rfl
  | r :: l => by rw [pcR_cons, List.length_append, pcR_len l]; simp [rc]; omega
theorem pcR_app (l m : List Rw) : pcR (l ++ m) = pcR l ++ pcR m := by unfold pcR; rw [List.flatMap_append]
theorem pcR_one : ∀ (l : List Rw), ∀ u ∈ pcR l, u.oneCell' = true
  | [], u, h => by simp [pcR] at h
  | r :: l, u, h => by
    rw [pcR_cons] at h
    rcases List.mem_append.1 h with h | h
    · simp [rc] at h
      rcases h with rfl | rfl <;> rfl
    · exact pcR_one l u h
theorem rc_one (r : Rw) : ∀ u ∈ rc r, u.oneCell' = true := by
  have := pcR_one [r]
  simpa [pcR] using this
theorem rc_len (r : Rw) : (rc r).length = 2 := rfl
theorem pcR_take : ∀ (l : List Rw) (k : Nat), (pcR l).take (k * 2) = pcR (l.take k)
  | [], k => by simp [pcR]
  | r :: l, 0 => by simp [pcR]
  | r :: l, k + 1 => by
    rw [pcR_cons, List.take_succ_cons, pcR_cons, ← pcR_take l k, show (k + 1) * 2 = (rc r).length + k * 2 by rw [rc_len]; omega, List.take_append]
    rw [List.take_of_length_le (by omega)]
    congr 2
    omega
theorem pcR_drop : ∀ (l : List Rw) (k : Nat), (pcR l).drop (k * 2) = pcR (l.drop k)
  | [], k => by simp [pcR]
  | r :: l, 0 => by simp
  | r :: l, k + 1 => by
    rw [pcR_cons, List.drop_succ_cons, ← pcR_drop l k, show (k + 1) * 2 = (rc r).length + k * 2 by rw [rc_len]; omega, List.drop_append]
    rw [List.drop_of_length_le (by omega), List.nil_append]
    congr 1
    omega
theorem pcR_at : ∀ {l : List Rw} {i : Nat} (hi : i < l.length), (pcR l)[i * 2]? = some (str l[i].key) ∧ (pcR l)[i * 2 + 1]? = some (str l[i].val)
  | [], i, hi => by simp at hi
  | r :: l, 0, _ => ⟨rfl, rfl⟩
  | r :: l, i + 1, hi => by
    have h := pcR_at (l := l) (i := i) (by simpa using hi)
    rw [pcR_cons]
    have hl := rc_len r
    rw [List.getElem?_append_right (by omega), List.getElem?_append_right (by omega), hl, show (i + 1) * 2 - 2 = i * 2 by omega, show (i + 1) * 2 + 1 - 2 = i * 2 + 1 by omega]
    simpa using h

/-- No string is longer than a string may be. -/
def Short (l : List Rw) : Prop := ∀ r ∈ l, r.key.length ≤ 9223372036854775807 ∧ r.val.length ≤ 9223372036854775807
/-- A list of rows; all of it lies below block B. -/
def RIn (w : World) (B : Nat) (A : Option Addr) (n c : Nat) (l : List Rw) : Prop :=
  l.length = n ∧ n ≤ c ∧ (A = none → c = 0) ∧ Holds w B 2 A n (pcR l)
section
variable {w w' : World} {B B' n c : Nat} {A : Option Addr} {l : List Rw}
theorem RIn.below (h : RIn w B A n c l) (hb : Below B w w') : RIn w' B A n c l := ⟨h.1, h.2.1, h.2.2.1, h.2.2.2.below hb⟩
theorem RIn.wider (h : RIn w B A n c l) (hB : B ≤ B') : RIn w B' A n c l := ⟨h.1, h.2.1, h.2.2.1, h.2.2.2.wider hB⟩
theorem RIn.empty : RIn w B none 0 0 [] := ⟨rfl, Nat.le_refl _, fun _ => rfl, Holds.empty⟩
/-- At place i. -/
theorem RIn.at_ (h : RIn w B A n c l) {i : Nat} (hi : i < l.length) :
    ∃ b off, A = some ⟨b, off, none⟩ ∧ b < B ∧ w.cell? ⟨b, off + i * 2, none⟩ = some (str l[i].key) ∧ w.cell? ⟨b, off + i * 2 + 1, none⟩ = some (str l[i].val) := by
  obtain ⟨h1, h2, h3, h4⟩ := h
  obtain ⟨b, off, rfl, hb, hcell⟩ := h4.2 (by omega)
  obtain ⟨k1, k2⟩ := pcR_at hi
  exact ⟨b, off, rfl, hb, hcell _ _ k1, by rw [Nat.add_assoc]; exact hcell _ _ k2⟩
/-- A row of the call's own. -/
theorem RIn.own {base e : Nat} {v : Value} (h : w.ownsRow base e 2 v n (pcR l)) : ∃ A c, v = .slice A n c ∧ RIn w w.heap.size A n c l := by
  obtain ⟨A, c, rfl, hA⟩ := own_form h
  have hl : l.length = n := by have := h.1; rw [pcR_len] at this; omega
  refine ⟨A, c, rfl, hl, ?_, fun hA' => (hA hA').2, Holds.own h⟩
  rcases h.2 with ⟨hv, h0⟩ | ⟨g, c', cur, hv, hb, hg, hnc, hrest⟩
  · injection hv; omega
  · injection hv; omega
end
end Go.Proofs.Ytecpccdmmaigiaa
