/- Slots of a state, for regions that draw; Picked as a call that leaves the world. -/
import Derived.Test.YtmlgaedhfannmaaPicked
import Derived.Test.YtmlgaedhfannmaaRgI
import Derived.Test.YtmlgaedhfannmaaBunRA
import Derived.Test.YtmlgaedhfannmaaBunA
namespace Go.Proofs.Ytmlgaedhfannmaa
set_option linter.unusedVariables false
set_option linter.unusedSimpArgs false
open Go.RowKit
/-- Slot k of a state. -/
def Ts (a : Act) (k : Nat) : Value := (a.tmps[k]?).getD undef
theorem Ts_put (a : Act) (k j : Nat) (v : Value) (hk : k < a.tmps.size) : Ts (a.put (some k) v) j = if j = k then v else Ts a j := by
  unfold Ts Act.put
  simp only [Array.getElem?_setIfInBounds]
  by_cases h : j = k
  · subst h; simp [hk]
  · rw [if_neg (fun e => h e.symm), if_neg h]
theorem Ts_self (a : Act) (k : Nat) (v : Value) (hk : k < a.tmps.size) : Ts (a.put (some k) v) k = v := by rw [Ts_put a k k v hk, if_pos rfl]
theorem Ts_ne (a : Act) (k j : Nat) (v : Value) (h : j ≠ k) : Ts (a.put (some k) v) j = Ts a j := by
  unfold Ts Act.put
  simp only [Array.getElem?_setIfInBounds]
  rw [if_neg (fun e => h e.symm)]
theorem ts_size (a : Act) (k : Nat) (v : Value) : (a.put (some k) v).tmps.size = a.tmps.size := by unfold Act.put; simp
theorem ts_cons {α : Type} {l : List α} {n : Nat} (h : l.length = n + 1) : ∃ x r, l = x :: r ∧ r.length = n := by
  cases l with
  | nil => simp at h
  | cons x r => exact ⟨x, r, rfl, by simpa using h⟩
theorem picked_k (a n : Int) (w : World) (hn : 0 < n) (hn2 : n ≤ 1048576) :
    Calls Try.prog 22 #[.int .i64 a, .int .i64 n] w fun e w' => e = .returned (.int .i64 (a % n)) ∧ w' = w :=
  (picked_any a n w hn hn2).mono fun _ _ h => ⟨h.1, h.2.symm⟩
/-- What is picked, as a number. -/
theorem pick_nat (a : Int) (m : Nat) (hm : 0 < m) : ∃ p : Nat, a % (m : Int) = (p : Int) ∧ p < m :=
  ⟨(a % (m : Int)).toNat, by have := Int.emod_nonneg a (show (m : Int) ≠ 0 by omega); omega, by have := Int.emod_nonneg a (show (m : Int) ≠ 0 by omega); have := Int.emod_lt_of_pos a (show (0 : Int) < (m : Int) by omega); omega⟩
/-- A quotient by a small number does not turn over. -/
theorem quo_in (z : Int) (m : Int) (h1 : -9223372036854775808 ≤ z) (h2 : z ≤ 9223372036854775807) (hm : 2 ≤ m) : IntKind.i64.wrap (z.tdiv m) = z.tdiv m := by
  have h5 : -9223372036854775808 ≤ z.tdiv m ∧ z.tdiv m ≤ 9223372036854775807 := by
    have ha : (z.tdiv m).natAbs ≤ z.natAbs / 2 := by rw [Int.natAbs_tdiv]; exact Nat.div_le_div_left (by omega) (by decide)
    omega
  exact IntWalk.i64_in _ h5
end Go.Proofs.Ytmlgaedhfannmaa
