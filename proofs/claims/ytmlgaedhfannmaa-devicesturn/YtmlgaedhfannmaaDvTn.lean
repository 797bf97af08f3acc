/- Device lists: two changes that change places, in memory. -/
import Derived.Test.YtmlgaedhfannmaaDvLt
import Derived.Test.YtmlgaedhfannmaaDvDo
namespace Go.Proofs.Ytmlgaedhfannmaa
set_option linter.unusedVariables false
set_option linter.unusedSimpArgs false
open Go.RowKit
theorem swap_split : ∀ {l : List Uc} {k : Nat} (h : k + 1 < l.length), ∃ (p : List Uc) (c d : Uc) (q : List Uc), l = p ++ c :: d :: q ∧ (l.set k l[k + 1]).set (k + 1) l[k] = p ++ d :: c :: q ∧ l[k] = c ∧ l[k + 1] = d
  | [], k, h => by simp at h
  | [x], k, h => by simp at h
  | c :: d :: q, 0, h => ⟨[], c, d, q, rfl, rfl, rfl, rfl⟩
  | x :: y :: l, k + 1, h => by
    have h' : k + 1 < (y :: l).length := by simpa using h
    obtain ⟨p, c, d, q, e1, e2, e3, e4⟩ := swap_split h'
    refine ⟨x :: p, c, d, q, by rw [e1]; rfl, ?_, e3, e4⟩
    rw [List.cons_append, ← e2]
    rfl
/-- The list with the changes at k and k + 1 in each other's place. -/
def swp (l : List Uc) (k : Nat) (h : k + 1 < l.length) : List Uc := (l.set k l[k + 1]).set (k + 1) l[k]
theorem swp_all {l : List Uc} {k : Nat} (h : k + 1 < l.length) (h6 : ∀ c ∈ l, Six c) (hne : l[k].key ≠ l[k + 1].key) :
    (∀ c ∈ swp l k h, c ∈ l) ∧ tabD (swp l k h) = tabD l ∧ (upsD (swp l k h)).length = (upsD l).length := by
  obtain ⟨p, c, d, q, e1, e2, e3, e4⟩ := swap_split h
  have hs : swp l k h = p ++ d :: c :: q := e2
  rw [e3, e4] at hne
  rw [hs]
  have hm : ∀ x ∈ p ++ d :: c :: q, x ∈ l := fun x hx => by
    rw [e1]
    simp at hx ⊢
    rcases hx with hx | hx | hx | hx
    · exact .inl hx
    · exact .inr (.inr (.inl hx))
    · exact .inr (.inl hx)
    · exact .inr (.inr (.inr hx))
  refine ⟨hm, ?_, ?_⟩
  · rw [e1]; exact (turn_tab hne).symm
  · rw [e1]
    exact (turn_len hne (by rw [← e1]; exact h6) (fun x hx => h6 x (hm x hx))).symm
theorem pcU_set : ∀ (l : List Uc) (i : Nat) (_ : i < l.length) (x : Uc), (((((pcK ucL l).set (i * 5) (.int .i64 x.st)).set (i * 5 + 1) (.int .i64 x.pv)).set (i * 5 + 2) (str x.key)).set (i * 5 + 3) (str x.val)).set (i * 5 + 4) (.bool x.gone) = pcK ucL (l.set i x)
  | [], i, h, _ => by simp at h
  | y :: l, 0, _, x => by simp [pcK_cons, ucL]
  | y :: l, i + 1, h, x => by
    have ih := pcU_set l i (by simpa using h) x
    rw [List.set_cons_succ, pcK_cons, pcK_cons, ← ih, List.set_append_right _ _ (by rw [ucL_len]; omega), ucL_len, show (i + 1) * 5 - 5 = i * 5 by omega, List.set_append_right _ _ (by rw [ucL_len]; omega), ucL_len, show (i + 1) * 5 + 1 - 5 = i * 5 + 1 by omega,
      List.set_append_right _ _ (by rw [ucL_len]; omega), ucL_len, show (i + 1) * 5 + 2 - 5 = i * 5 + 2 by omega, List.set_append_right _ _ (by rw [ucL_len]; omega), ucL_len, show (i + 1) * 5 + 3 - 5 = i * 5 + 3 by omega, List.set_append_right _ _ (by rw [ucL_len]; omega), ucL_len, show (i + 1) * 5 + 4 - 5 = i * 5 + 4 by omega]
/-- A change put in the place of another. -/
theorem uc_own_set {w : World} {base e n c g i : Nat} {l : List Uc} (h : w.ownsRow base e 5 (.slice (some ⟨g, 0, none⟩) n c) n (pcK ucL l)) (hi : i < l.length) (x : Uc) :
    (((((w.setCell ⟨g, i * 5, none⟩ (.int .i64 x.st)).setCell ⟨g, i * 5 + 1, none⟩ (.int .i64 x.pv)).setCell ⟨g, i * 5 + 2, none⟩ (str x.key)).setCell ⟨g, i * 5 + 3, none⟩ (str x.val)).setCell ⟨g, i * 5 + 4, none⟩ (.bool x.gone)).ownsRow base e 5 (.slice (some ⟨g, 0, none⟩) n c) n (pcK ucL (l.set i x)) := by
  rw [← pcU_set l i hi x]
  exact dv_own_cell (dv_own_cell (dv_own_cell (dv_own_cell (dv_own_cell h _) _) _) _) _
theorem uc_below_set {w0 w : World} {N g i : Nat} (h : Below N w0 w) (hg : N ≤ g) (x : Uc) :
    Below N w0 (((((w.setCell ⟨g, i * 5, none⟩ (.int .i64 x.st)).setCell ⟨g, i * 5 + 1, none⟩ (.int .i64 x.pv)).setCell ⟨g, i * 5 + 2, none⟩ (str x.key)).setCell ⟨g, i * 5 + 3, none⟩ (str x.val)).setCell ⟨g, i * 5 + 4, none⟩ (.bool x.gone)) :=
  ((((h.setCell (p := ⟨g, i * 5, none⟩) hg _).setCell (p := ⟨g, i * 5 + 1, none⟩) hg _).setCell (p := ⟨g, i * 5 + 2, none⟩) hg _).setCell (p := ⟨g, i * 5 + 3, none⟩) hg _).setCell (p := ⟨g, i * 5 + 4, none⟩) hg _
end Go.Proofs.Ytmlgaedhfannmaa
