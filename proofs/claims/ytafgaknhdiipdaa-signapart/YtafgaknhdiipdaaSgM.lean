/- Package sign, the numbers: powers modulo 7823 and 3911, the hash; what the kernel checks of them, and what follows. Nothing of the program is named here. -/
import Derived.Test.YtafgaknhdiipdaaMem
namespace Go.Proofs.Ytafgaknhdiipdaa
set_option linter.unusedVariables false
set_option linter.unusedSimpArgs false
/-! ### what is checked number by number -/
def okAll (p : Nat → Bool) : Nat → Bool
  | 0 => true
  | n + 1 => p n && okAll p n
theorem okAll_at {p : Nat → Bool} {n : Nat} (h : okAll p n = true) {k : Nat} (hk : k < n) : p k = true := by
  induction n with
  | zero => omega
  | succ n ih =>
    rw [okAll, Bool.and_eq_true] at h
    by_cases hkn : k = n
    · subst hkn; exact h.1
    · exact ih h.2 (by omega)
/-- A power: n to the power of e. (By a recursion that the elaborator does not unfold.) -/
def pw (n e : Nat) : Nat := if h : e = 0 then 1 else pw n (e - 1) * n
  termination_by e
theorem pw_eq (n e : Nat) : pw n e = n ^ e := by
  induction e with
  | zero => rw [pw, dif_pos rfl, Nat.pow_zero]
  | succ e ih => rw [pw, dif_neg (by omega), Nat.add_sub_cancel, ih, Nat.pow_succ]
theorem pw_zero (n : Nat) : pw n 0 = 1 := by rw [pw_eq, Nat.pow_zero]
theorem pw_succ (n e : Nat) : pw n (e + 1) = pw n e * n := by rw [pw_eq, pw_eq, Nat.pow_succ]
theorem pw_add (n a b : Nat) : pw n (a + b) = pw n a * pw n b := by rw [pw_eq, pw_eq, pw_eq, Nat.pow_add]
theorem pw_mul (n a b : Nat) : pw n (a * b) = pw (pw n a) b := by rw [pw_eq, pw_eq, pw_eq, Nat.pow_mul]
theorem pw_mod (n e m : Nat) : pw (n % m) e % m = pw n e % m := by rw [pw_eq, pw_eq, ← Nat.pow_mod]
theorem pw_one (e : Nat) : pw 1 e = 1 := by rw [pw_eq, Nat.one_pow]
theorem pw_two (n : Nat) : pw n 2 = n * n := by rw [pw_eq, Nat.pow_two]
def chk (n e m : Nat) : Bool := Nat.beq (Nat.mod (Nat.pow n e) m) 1
theorem chk_iff (n e m : Nat) : chk n e m = true ↔ pw n e % m = 1 := by
  rw [pw_eq]
  unfold chk
  exact ⟨fun h => Nat.eq_of_beq_eq_true h, fun h => by rw [show Nat.mod (Nat.pow n e) m = 1 from h]; rfl⟩
def chkA (e : Nat) : Bool := Nat.beq e 0 || !(chk 4 e 7823)
def chkB (d : Nat) : Bool := Nat.beq d 0 || chk d 3910 3911
def chkC (i : Nat) : Bool := Nat.beq i 0 || chk i 7822 7823
set_option maxRecDepth 100000 in
theorem allA : okAll chkA 3911 = true := by decide +kernel
set_option maxRecDepth 100000 in
theorem allB : okAll chkB 3911 = true := by decide +kernel
set_option maxRecDepth 100000 in
theorem allC : okAll chkC 3912 = true := by decide +kernel
theorem four_chk : chk 4 3911 7823 = true := by decide +kernel
theorem four_ne {e : Nat} (h0 : 0 < e) (he : e < 3911) : pw 4 e % 7823 ≠ 1 := by
  have h := okAll_at allA he
  unfold chkA at h
  intro hx
  rw [(chk_iff 4 e 7823).2 hx] at h
  have h1 : Nat.beq e 0 = true := by simpa using h
  have := Nat.eq_of_beq_eq_true h1
  omega
theorem inv_one {d : Nat} (h0 : d % 3911 ≠ 0) : pw d 3910 % 3911 = 1 := by
  have h := okAll_at allB (Nat.mod_lt d (show 0 < 3911 by decide))
  unfold chkB at h
  rw [Bool.or_eq_true] at h
  rcases h with h | h
  · exact absurd (Nat.eq_of_beq_eq_true h) h0
  · have := (chk_iff _ _ _).1 h
    rwa [pw_mod] at this
theorem sq_one {i : Nat} (h0 : 0 < i) (hi : i < 3912) : pw i 7822 % 7823 = 1 := by
  have h := okAll_at allC hi
  unfold chkC at h
  rw [Bool.or_eq_true] at h
  rcases h with h | h
  · have := Nat.eq_of_beq_eq_true h; omega
  · exact (chk_iff _ _ _).1 h
theorem four_full : pw 4 3911 % 7823 = 1 := (chk_iff _ _ _).1 four_chk

/-! ### powers of 4 -/
theorem mulmod {a b c d m : Nat} (h1 : a % m = b % m) (h2 : c % m = d % m) : a * c % m = b * d % m := by
  rw [Nat.mul_mod, h1, h2, ← Nat.mul_mod]
theorem powmod {a b m : Nat} (h : a % m = b % m) (e : Nat) : pw a e % m = pw b e % m := by
  rw [← pw_mod, h, pw_mod]
theorem four_mul (k : Nat) : pw 4 (3911 * k) % 7823 = 1 := by
  rw [pw_mul, ← pw_mod, four_full, pw_one]
theorem four_mod (n : Nat) : pw 4 (n % 3911) % 7823 = pw 4 n % 7823 := by
  conv => rhs; rw [← Nat.div_add_mod n 3911, pw_add, Nat.mul_mod, four_mul, Nat.one_mul, Nat.mod_mod]
theorem four_inj {a b : Nat} (h : pw 4 a % 7823 = pw 4 b % 7823) : a % 3911 = b % 3911 := by
  have key : ∀ a b : Nat, a < 3911 → b < 3911 → a ≤ b → pw 4 a % 7823 = pw 4 b % 7823 → a = b := by
    intro a b ha hb hab h
    have h1 : pw 4 a * pw 4 (3911 - a) % 7823 = pw 4 b * pw 4 (3911 - a) % 7823 := mulmod h rfl
    rw [← pw_add, ← pw_add, show a + (3911 - a) = 3911 by omega, show b + (3911 - a) = 3911 * 1 + (b - a) by omega,
      four_full, pw_add, Nat.mul_mod, four_mul, Nat.one_mul, Nat.mod_mod] at h1
    rcases Nat.eq_zero_or_pos (b - a) with h0 | h0
    · omega
    · exact absurd h1.symm (four_ne h0 (by omega))
  rw [← four_mod a, ← four_mod b] at h
  have la := Nat.mod_lt a (show 0 < 3911 by decide)
  have lb := Nat.mod_lt b (show 0 < 3911 by decide)
  rcases Nat.le_total (a % 3911) (b % 3911) with hle | hle
  · exact key _ _ la lb hle h
  · exact (key _ _ lb la hle h.symm).symm
theorem four_eq {a b : Nat} : pw 4 a % 7823 = pw 4 b % 7823 ↔ a % 3911 = b % 3911 :=
  ⟨four_inj, fun h => by rw [← four_mod a, h, four_mod]⟩
theorem four_pow (x h : Nat) : pw (pw 4 x % 7823) h % 7823 = pw 4 (x * h) % 7823 := by
  rw [pw_mod, pw_mul]
theorem four_times (a b : Nat) : (pw 4 a % 7823) * (pw 4 b % 7823) % 7823 = pw 4 (a + b) % 7823 := by
  rw [← Nat.mul_mod, pw_add]
/-- R times a power of a key, where both are powers of 4. -/
theorem four_right (k x h : Nat) : (pw 4 k % 7823) * (pw (pw 4 x % 7823) h % 7823) % 7823 = pw 4 (k + x * h) % 7823 := by
  rw [four_pow, four_times]

/-! ### what divides by a hash -/
theorem mul_cancel {x y h : Nat} (h0 : h % 3911 ≠ 0) (he : x * h % 3911 = y * h % 3911) : x % 3911 = y % 3911 := by
  have key : ∀ x : Nat, x * h * pw h 3909 % 3911 = x % 3911 := by
    intro x
    rw [Nat.mul_assoc, show h * pw h 3909 = pw h 3910 from (Nat.mul_comm _ _).trans (pw_succ h 3909).symm, Nat.mul_mod, inv_one h0, Nat.mul_one, Nat.mod_mod]
  rw [← key x, ← key y]
  exact mulmod he rfl

/-! ### public keys -/
def isPub (y : Int) : Bool := decide (2 ≤ y ∧ y < 7823) && decide (pw y.toNat 3911 % 7823 = 1)
def isSec (x : Int) : Bool := decide (1 ≤ x ∧ x < 3911)
def okS (s : Int) : Bool := decide (0 ≤ s ∧ s < 3911)
/-- the document's own way to say it: a square -/
def isSq (y : Int) : Prop := ∃ i : Nat, 2 ≤ i ∧ i < 3912 ∧ i * i % 7823 = y.toNat
theorem pub_sq {y : Int} (h2 : 2 ≤ y) (hy : y < 7823) : isSq y ↔ pw y.toNat 3911 % 7823 = 1 := by
  obtain ⟨n, rfl⟩ : ∃ n : Nat, y = n := ⟨y.toNat, by omega⟩
  rw [Int.toNat_natCast]
  unfold isSq
  rw [Int.toNat_natCast]
  constructor
  · rintro ⟨i, hi, hi2, he⟩
    rw [← he, pw_mod, ← pw_two, ← pw_mul]
    exact sq_one (by omega) hi2
  · intro h
    have hl := Nat.mod_lt (pw n 1956) (show 0 < 7823 by decide)
    have hsq : (pw n 1956 % 7823) * (pw n 1956 % 7823) % 7823 = n := by
      rw [← Nat.mul_mod, ← pw_add, show 1956 + 1956 = 3911 + 1 from rfl, pw_succ, Nat.mul_mod, h, Nat.one_mul, Nat.mod_mod, Nat.mod_eq_of_lt (by omega)]
    generalize pw n 1956 % 7823 = i at *
    by_cases hle : i < 3912
    · refine ⟨i, ?_, hle, hsq⟩
      match i, hsq with
      | 0, hsq => simp at hsq; omega
      | 1, hsq => simp at hsq; omega
      | i + 2, _ => omega
    · have hs2 : (7823 - i) * (7823 - i) % 7823 = n := by
        rw [← hsq]
        obtain ⟨j, hj⟩ : ∃ j, j = 7823 - i := ⟨_, rfl⟩
        have hi : i = 7823 - j := by omega
        rw [← hj]
        have hij : i + j = 7823 := by omega
        have e1 : i * i + i * j = 7823 * i := by rw [← Nat.mul_add, hij, Nat.mul_comm]
        have e2 : j * j + i * j = 7823 * j := by rw [← Nat.add_mul, Nat.add_comm, hij]
        omega
      refine ⟨7823 - i, ?_, by omega, hs2⟩
      rcases Nat.lt_or_ge (7823 - i) 2 with hlt | hge
      · have : 7823 - i = 1 := by omega
        rw [this] at hs2
        simp at hs2; omega
      · exact hge
theorem four_pub {k : Nat} (h0 : k % 3911 ≠ 0) : isPub ((pw 4 k % 7823 : Nat) : Int) = true := by
  have hl := Nat.mod_lt (pw 4 k) (show 0 < 7823 by decide)
  have hp : pw (pw 4 k % 7823) 3911 % 7823 = 1 := by rw [four_pow, Nat.mul_comm, four_mul]
  have h1 : pw 4 k % 7823 ≠ 1 := fun h => h0 (by
    have := four_inj (a := k) (b := 0) (by rw [h, pw_zero])
    simpa using this)
  have h00 : pw 4 k % 7823 ≠ 0 := fun h => by rw [h, pw_succ 0 3910, Nat.mul_zero] at hp; simp at hp
  unfold isPub
  rw [Int.toNat_natCast, decide_eq_true hp, Bool.and_true, decide_eq_true_eq]
  omega

/-! ### the hash -/
def hsh (r : Nat) (t : List UInt8) : Nat := t.foldl (fun h c => (h * 257 + c.toNat + 1) % 3911) (r % 3911)
theorem hsh_nil (r : Nat) : hsh r [] = r % 3911 := rfl
theorem hsh_app (r : Nat) (s t : List UInt8) : hsh r (s ++ t) = hsh (hsh r s) t := by
  have hl : ∀ (t : List UInt8) (r : Nat), r < 3911 → t.foldl (fun h c => (h * 257 + c.toNat + 1) % 3911) r < 3911 := by
    intro t
    induction t with
    | nil => intro r hr; exact hr
    | cons c t ih => intro r _; exact ih _ (Nat.mod_lt _ (by decide))
  have : hsh r s < 3911 := hl s _ (Nat.mod_lt _ (by decide))
  unfold hsh at *
  rw [List.foldl_append, Nat.mod_eq_of_lt this]
theorem hsh_lt (r : Nat) (t : List UInt8) : hsh r t < 3911 := by
  have hl : ∀ (t : List UInt8) (r : Nat), r < 3911 → t.foldl (fun h c => (h * 257 + c.toNat + 1) % 3911) r < 3911 := by
    intro t
    induction t with
    | nil => intro r hr; exact hr
    | cons c t ih => intro r _; exact ih _ (Nat.mod_lt _ (by decide))
  exact hl t _ (Nat.mod_lt _ (by decide))
theorem hsh_snoc (r : Nat) (t : List UInt8) (k : Nat) (hk : k < t.length) : hsh r (t.take (k + 1)) = (hsh r (t.take k) * 257 + t[k].toNat + 1) % 3911 := by
  rw [List.take_succ_eq_append_getElem hk, hsh_app]
  have h := Nat.mod_eq_of_lt (hsh_lt r (t.take k))
  generalize hsh r (t.take k) = x at *
  unfold hsh
  simp only [List.foldl_cons, List.foldl_nil]
  rw [h]
end Go.Proofs.Ytafgaknhdiipdaa
