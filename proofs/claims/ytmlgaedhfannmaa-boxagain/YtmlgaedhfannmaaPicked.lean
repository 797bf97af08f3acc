/- Picked: what the call returns. -/
import Derived.Test.YtmlgaedhfannmaaRows
import Derived.Test.YtmlgaedhfannmaaBunA
namespace Go.Proofs.Ytmlgaedhfannmaa
set_option linter.unusedVariables false
set_option linter.unusedSimpArgs false
open Go.RowKit
theorem tmod_pick (a n : Int) (hn : 0 < n) : (a.tmod n < 0 → a.tmod n + n = a % n) ∧ (¬ a.tmod n < 0 → a.tmod n = a % n) ∧ -n < a.tmod n ∧ a.tmod n < n := by
  have h0 := Int.emod_nonneg a (Int.ne_of_gt hn)
  have h1 := Int.emod_lt_of_pos a hn
  have h2 := Int.tmod_eq_emod (a := a) (b := n)
  have h3 : (n.natAbs : Int) = n := by omega
  have hd : n ∣ a → a % n = 0 := fun h => Int.emod_eq_zero_of_dvd h
  by_cases hc : 0 ≤ a ∨ n ∣ a
  · rw [if_pos hc] at h2
    refine ⟨by omega, by omega, by omega, by omega⟩
  · rw [if_neg hc] at h2
    have : a % n ≠ 0 := fun h => hc (.inr (Int.dvd_of_emod_eq_zero h))
    refine ⟨by omega, by omega, by omega, by omega⟩
theorem picked_any (a n : Int) (w : World) (hn : 0 < n) (hn2 : n ≤ 1048576) :
    Calls Try.prog 22 #[.int .i64 a, .int .i64 n] w fun e w' => e = .returned (.int .i64 (a % n)) ∧ w = w' := by
  obtain ⟨h1, h2, h3, h4⟩ := tmod_pick a n hn
  have hnz : (n == 0) = false := by rw [beq_eq_false_iff_ne]; omega
  by_cases hlt : a.tmod n < 0
  · have Hr := Lib.hid (h1 hlt)
    clear h1 h2
    go_enter Try.func22, Try.ntmps22
    go_wp2
    go_ret
    exact ⟨by rw [← Hr.out]; rfl, rfl⟩
  · have Hr := Lib.hid (h2 hlt)
    clear h1 h2
    go_enter Try.func22, Try.ntmps22
    go_wp2
    go_ret
    exact ⟨by rw [← Hr.out]; rfl, rfl⟩
end Go.Proofs.Ytmlgaedhfannmaa
