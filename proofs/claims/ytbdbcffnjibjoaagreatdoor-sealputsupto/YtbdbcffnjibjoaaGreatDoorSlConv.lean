/- '[]byte(s)' at a string that is known: a slice of the call's own. -/
import Derived.Test.YtbdbcffnjibjoaaGreatDoorBunA
import Derived.Test.YtbdbcffnjibjoaaGreatDoorChecked
import Derived.Laws.IdiomStrings
namespace Go.Proofs.YtbdbcffnjibjoaaGreatDoor
set_option linter.unusedVariables false
set_option linter.unusedSimpArgs false
open Go.RowKit
theorem conv_bytes (W : World) (l : List UInt8) (g : Nat) (hg : g = W.heap.size) : ∃ c w', (convert 9 40 (str l)).run Tryz.prog W = .ok (.slice (some ⟨g, 0, none⟩) l.length c) w' ∧ Holds w' w'.heap.size 1 (some ⟨g, 0, none⟩) l.length (l.map bv) ∧ Below W.heap.size W w' := by
  subst hg
  refine ⟨_, _, run_bytes_of_string W 9 40 5 ⟨l.toArray⟩ Tryz.underlying9 Tryz.underlying40 Tryz.underlying5, ?_, ?_⟩
  · refine ⟨by simp, fun _ => ⟨W.heap.size, 0, rfl, by simp, fun j u hu => ?_⟩⟩
    have hj : j < l.length := by have := (List.getElem?_eq_some_iff.1 hu).1; simpa using this
    have h2 := bytesRow_at ⟨l.toArray⟩ (grownCap W l.length 0 5) j (by simpa using hj)
    have h3 : u = .int .u8 (l[j].toNat : Int) := by
      simp [List.getElem?_eq_getElem hj] at hu
      rw [← hu]; rfl
    rw [Nat.zero_add, h3]
    have h4 : (W.drew.alloc (.cells (bytesRow ⟨l.toArray⟩ (grownCap W l.length 0 5)) 5 ((bytesRow ⟨l.toArray⟩ (grownCap W l.length 0 5)).size, (bytesRow ⟨l.toArray⟩ (grownCap W l.length 0 5)).size + 1))).cell? ⟨W.heap.size, j, none⟩ = (bytesRow ⟨l.toArray⟩ (grownCap W l.length 0 5))[j]? := by
      refine cell_of_row _ _ _ _ 5 ((bytesRow ⟨l.toArray⟩ (grownCap W l.length 0 5)).size, (bytesRow ⟨l.toArray⟩ (grownCap W l.length 0 5)).size + 1) ?_
      show (W.heap.push _)[W.heap.size]? = _
      simp
    exact h4.trans (by rw [h2]; simp)
  · exact (Below.refl W.heap.size W).drew.alloc (Nat.le_refl _) _
end Go.Proofs.YtbdbcffnjibjoaaGreatDoor
