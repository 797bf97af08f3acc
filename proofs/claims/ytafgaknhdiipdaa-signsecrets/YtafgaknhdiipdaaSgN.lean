/- The equation that Secret solves: mathematics. -/
import Derived.Test.YtafgaknhdiipdaaSgM
namespace Go.Proofs.Ytafgaknhdiipdaa
set_option linter.unusedVariables false
set_option linter.unusedSimpArgs false
theorem dvd_mod {x z u : Nat} : ((3911 : Int) ∣ (x : Int) * z - u) ↔ x * z % 3911 = u % 3911 := by
  constructor
  · rintro ⟨k, hk⟩
    have : ((x * z : Nat) : Int) = u + 3911 * k := by rw [Int.natCast_mul]; omega
    generalize x * z = y at *
    omega
  · intro h
    have : (x : Int) * z = ((x * z : Nat) : Int) := by rw [Int.natCast_mul]
    rw [this]
    generalize x * z = y at *
    omega
/-- The secret that Secret reckons is the one number below Order that the equation holds for. -/
theorem secret_iff {x a b s t : Nat} (hx : x < 3911) (ha : a < 3911) (hb : b < 3911) (hs : s < 3911) (ht : t < 3911) (h0 : (a + 3911 - b) % 3911 ≠ 0) :
    ((3911 : Int) ∣ (x : Int) * a - x * b - (s - t)) ↔ x = (s + 3911 - t) % 3911 * (pw ((a + 3911 - b) % 3911) 3909 % 3911) % 3911 := by
  have ez : ∃ k : Int, (a : Int) - b = ((a + 3911 - b) % 3911 : Nat) + 3911 * k := ⟨((a : Int) - b - ((a + 3911 - b) % 3911 : Nat)) / 3911, by omega⟩
  have eu : ∃ k : Int, (s : Int) - t = ((s + 3911 - t) % 3911 : Nat) + 3911 * k := ⟨((s : Int) - t - ((s + 3911 - t) % 3911 : Nat)) / 3911, by omega⟩
  have hz := Nat.mod_lt (a + 3911 - b) (show 0 < 3911 by decide)
  generalize (a + 3911 - b) % 3911 = z at *
  generalize (s + 3911 - t) % 3911 = u at *
  obtain ⟨k, hk⟩ := ez
  obtain ⟨j, hj⟩ := eu
  have hzz : z % 3911 ≠ 0 := by omega
  have e : (x : Int) * a - x * b - (s - t) = ((x : Int) * z - u) + 3911 * (x * k - j) := by
    rw [← Int.mul_sub, hk, hj, Int.mul_add, Int.mul_left_comm, Int.mul_sub]; omega
  rw [e, Int.dvd_add_left (Int.dvd_mul_right _ _), dvd_mod]
  have hv : z * (pw z 3909 % 3911) % 3911 = 1 := by
    have h1 : z * (pw z 3909 % 3911) % 3911 = z * pw z 3909 % 3911 := mulmod rfl (Nat.mod_mod _ _)
    rw [h1, show z * pw z 3909 = pw z 3910 from (Nat.mul_comm _ _).trans (pw_succ z 3909).symm]
    exact inv_one hzz
  generalize pw z 3909 % 3911 = v at *
  have key : ∀ y : Nat, y * (z * v) % 3911 = y % 3911 := fun y => by rw [Nat.mul_mod, hv, Nat.mul_one, Nat.mod_mod]
  constructor
  · intro h
    have h1 : x * z * v % 3911 = u * v % 3911 := mulmod h rfl
    rw [Nat.mul_assoc, key] at h1
    rw [← h1, Nat.mod_eq_of_lt hx]
  · intro h
    have h1 : x * z % 3911 = u * v * z % 3911 := mulmod (by rw [h, Nat.mod_mod]) rfl
    rw [h1, Nat.mul_assoc, Nat.mul_comm v z, key]
end Go.Proofs.Ytafgaknhdiipdaa
