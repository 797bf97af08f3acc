/- Sorted tables: what begins so, as the program tests it. Nothing of the program is named here. -/
import Derived.Test.YtecpccdmmaigiaaRwM
namespace Go.Proofs.Ytecpccdmmaigiaa
set_option linter.unusedVariables false
set_option linter.unusedSimpArgs false
theorem pre_short {h s : List UInt8} (hl : ¬ h.length ≤ s.length) : h.isPrefixOf s = false := by
  cases hp : h.isPrefixOf s with
  | false => rfl
  | true => exact absurd (List.IsPrefix.length_le (List.isPrefixOf_iff_prefix.1 hp)) hl
theorem pre_take (h s : List UInt8) : (s.take h.length == h) = h.isPrefixOf s := by
  rw [Bool.eq_iff_iff, beq_iff_eq, List.isPrefixOf_iff_prefix, List.prefix_iff_eq_take]
  exact ⟨fun e => e.symm, fun e => e.symm⟩
theorem bl_leq2 (a b : List UInt8) : (Op.bytesLess a b || a == b) = !Op.bytesLess b a := by
  cases h1 : Op.bytesLess a b
  · cases h2 : Op.bytesLess b a
    · have := bl_total a b h1 h2
      subst this
      simp
    · have hne : a ≠ b := fun e => by subst e; rw [h1] at h2; cases h2
      simpa using hne
  · rw [bl_asym h1]; rfl
end Go.Proofs.Ytecpccdmmaigiaa
