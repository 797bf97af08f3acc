/- Picked: what the call returns. -/
import Derived.Test.YtbdbcffnjibjoaaGreatDoorRows
import Derived.Test.YtbdbcffnjibjoaaGreatDoorBunA
namespace Go.Proofs.YtbdbcffnjibjoaaGreatDoor
set_option linter.unusedVariables false
set_option linter.unusedSimpArgs false
open Go.RowKit
theorem tmod_pick (a n : Int) (hn : 0 < n) : (a.tmod n < 0 → a.tmod n + n = a % n) ∧ (¬ a.tmod n < 0 → a.tmod n = a % n) ∧ -n < a.tmod n ∧ a.tmod n < n := by
  have h0 := Int.emod_nonneg a (Int.ne_of_gt hn)
  have h1 := Int.emod_lt_of_pos a hn
  have h2 := Int.tmod_eq_emod (a := a) (b := n)
  have h3 : (n.natAbs : Int) = n := by omega
  have hd : n ∣ a → a % n = 0 := fun h => Int.emod_eq_zero_of_dvd h
  by_cases hc : 0 ≤ a ∨ n ∣ a
  · rw [if_pos hc] at h2
    refine ⟨by omega, by omega, by omega, by omega⟩
  · rw [if_neg hc] at h2
    have : a % n ≠ 0 := fun h => hc (.inr (Int.dvd_of_emod_eq_zero h))
    refine ⟨by omega, by omega, by omega, by omega⟩
end Go.Proofs.YtbdbcffnjibjoaaGreatDoor
