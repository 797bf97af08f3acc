/- Joined texts: SgM, SgN, SgW, SgX, SgY, SgC, SgS, SgR, SgQ, SgP. -/
import Derived.Test.YtbdbcffnjibjoaaGreatDoorBunA
import Derived.Test.YtbdbcffnjibjoaaGreatDoorRows
import Derived.BigQuiet
import Derived.WalkSmall
import Derived.Outline
/- Package sign, the numbers: powers modulo 7823 and 3911, the hash; what the kernel checks of them, and what follows. Nothing of the program is named here. -/
namespace Go.Proofs.YtbdbcffnjibjoaaGreatDoor
set_option linter.unusedVariables false
set_option linter.unusedSimpArgs false
/-! ### what is checked number by number -/
def okAll (p : Nat → Bool) : Nat → Bool
  | 0 => true
  | n + 1 => p n && okAll p n
theorem okAll_at {p : Nat → Bool} {n : Nat} (h : okAll p n = true) {k : Nat} (hk : k < n) : p k = true := by
  induction n with
  | zero => omega
  | succ n ih =>
    rw [okAll, Bool.and_eq_true] at h
    by_cases hkn : k = n
    · subst hkn; exact h.1
    · exact ih h.2 (by omega)
/-- A power: n to the power of e. (By a recursion that the elaborator does not unfold.) -/
def pw (n e : Nat) : Nat := if h : e = 0 then 1 else pw n (e - 1) * n
  termination_by e
theorem pw_eq (n e : Nat) : pw n e = n ^ e := by
  induction e with
  | zero => rw [pw, dif_pos rfl, Nat.pow_zero]
  | succ e ih => rw [pw, dif_neg (by omega), Nat.add_sub_cancel, ih, Nat.pow_succ]
theorem pw_zero (n : Nat) : pw n 0 = 1 := by rw [pw_eq, Nat.pow_zero]
theorem pw_succ (n e : Nat) : pw n (e + 1) = pw n e * n := by rw [pw_eq, pw_eq, Nat.pow_succ]
theorem pw_add (n a b : Nat) : pw n (a + b) = pw n a * pw n b := by rw [pw_eq, pw_eq, pw_eq, Nat.pow_add]
theorem pw_mul (n a b : Nat) : pw n (a * b) = pw (pw n a) b := by rw [pw_eq, pw_eq, pw_eq, Nat.pow_mul]
theorem pw_mod (n e m : Nat) : pw (n % m) e % m = pw n e % m := by rw [pw_eq, pw_eq, ← Nat.pow_mod]
theorem pw_one (e : Nat) : pw 1 e = 1 := by rw [pw_eq, Nat.one_pow]
theorem pw_two (n : Nat) : pw n 2 = n * n := by rw [pw_eq, Nat.pow_two]
def chk (n e m : Nat) : Bool := Nat.beq (Nat.mod (Nat.pow n e) m) 1
theorem chk_iff (n e m : Nat) : chk n e m = true ↔ pw n e % m = 1 := by
  rw [pw_eq]
  unfold chk
  exact ⟨fun h => Nat.eq_of_beq_eq_true h, fun h => by rw [show Nat.mod (Nat.pow n e) m = 1 from h]; rfl⟩
def chkA (e : Nat) : Bool := Nat.beq e 0 || !(chk 4 e 7823)
def chkB (d : Nat) : Bool := Nat.beq d 0 || chk d 3910 3911
def chkC (i : Nat) : Bool := Nat.beq i 0 || chk i 7822 7823
set_option maxRecDepth 100000 in
theorem allA : okAll chkA 3911 = true := by decide +kernel
set_option maxRecDepth 100000 in
theorem allB : okAll chkB 3911 = true := by decide +kernel
set_option maxRecDepth 100000 in
theorem allC : okAll chkC 3912 = true := by decide +kernel
theorem four_chk : chk 4 3911 7823 = true := by decide +kernel
theorem four_ne {e : Nat} (h0 : 0 < e) (he : e < 3911) : pw 4 e % 7823 ≠ 1 := by
  have h := okAll_at allA he
  unfold chkA at h
  intro hx
  rw [(chk_iff 4 e 7823).2 hx] at h
  have h1 : Nat.beq e 0 = true := by simpa using h
  have := Nat.eq_of_beq_eq_true h1
  omega
theorem inv_one {d : Nat} (h0 : d % 3911 ≠ 0) : pw d 3910 % 3911 = 1 := by
  have h := okAll_at allB (Nat.mod_lt d (show 0 < 3911 by decide))
  unfold chkB at h
  rw [Bool.or_eq_true] at h
  rcases h with h | h
  · exact absurd (Nat.eq_of_beq_eq_true h) h0
  · have := (chk_iff _ _ _).1 h
    rwa [pw_mod] at this
theorem sq_one {i : Nat} (h0 : 0 < i) (hi : i < 3912) : pw i 7822 % 7823 = 1 := by
  have h := okAll_at allC hi
  unfold chkC at h
  rw [Bool.or_eq_true] at h
  rcases h with h | h
  · have := Nat.eq_of_beq_eq_true h; omega
  · exact (chk_iff _ _ _).1 h
theorem four_full : pw 4 3911 % 7823 = 1 := (chk_iff _ _ _).1 four_chk

/-! ### powers of 4 -/
theorem mulmod {a b c d m : Nat} (h1 : a % m = b % m) (h2 : c % m = d % m) : a * c % m = b * d % m := by
  rw [Nat.mul_mod, h1, h2, ← Nat.mul_mod]
theorem powmod {a b m : Nat} (h : a % m = b % m) (e : Nat) : pw a e % m = pw b e % m := by
  rw [← pw_mod, h, pw_mod]
theorem four_mul (k : Nat) : pw 4 (3911 * k) % 7823 = 1 := by
  rw [pw_mul, ← pw_mod, four_full, pw_one]
theorem four_mod (n : Nat) : pw 4 (n % 3911) % 7823 = pw 4 n % 7823 := by
  conv => rhs; rw [← Nat.div_add_mod n 3911, pw_add, Nat.mul_mod, four_mul, Nat.one_mul, Nat.mod_mod]
theorem four_inj {a b : Nat} (h : pw 4 a % 7823 = pw 4 b % 7823) : a % 3911 = b % 3911 := by
  have key : ∀ a b : Nat, a < 3911 → b < 3911 → a ≤ b → pw 4 a % 7823 = pw 4 b % 7823 → a = b := by
    intro a b ha hb hab h
    have h1 : pw 4 a * pw 4 (3911 - a) % 7823 = pw 4 b * pw 4 (3911 - a) % 7823 := mulmod h rfl
    rw [← pw_add, ← pw_add, show a + (3911 - a) = 3911 by omega, show b + (3911 - a) = 3911 * 1 + (b - a) by omega,
      four_full, pw_add, Nat.mul_mod, four_mul, Nat.one_mul, Nat.mod_mod] at h1
    rcases Nat.eq_zero_or_pos (b - a) with h0 | h0
    · omega
    · exact absurd h1.symm (four_ne h0 (by omega))
  rw [← four_mod a, ← four_mod b] at h
  have la := Nat.mod_lt a (show 0 < 3911 by decide)
  have lb := Nat.mod_lt b (show 0 < 3911 by decide)
  rcases Nat.le_total (a % 3911) (b % 3911) with hle | hle
  · exact key _ _ la lb hle h
  · exact (key _ _ lb la hle h.symm).symm
theorem four_eq {a b : Nat} : pw 4 a % 7823 = pw 4 b % 7823 ↔ a % 3911 = b % 3911 :=
  ⟨four_inj, fun h => by rw [← four_mod a, h, four_mod]⟩
theorem four_pow (x h : Nat) : pw (pw 4 x % 7823) h % 7823 = pw 4 (x * h) % 7823 := by
  rw [pw_mod, pw_mul]
theorem four_times (a b : Nat) : (pw 4 a % 7823) * (pw 4 b % 7823) % 7823 = pw 4 (a + b) % 7823 := by
  rw [← Nat.mul_mod, pw_add]
/-- R times a power of a key, where both are powers of 4. -/
theorem four_right (k x h : Nat) : (pw 4 k % 7823) * (pw (pw 4 x % 7823) h % 7823) % 7823 = pw 4 (k + x * h) % 7823 := by
  rw [four_pow, four_times]

/-! ### what divides by a hash -/
theorem mul_cancel {x y h : Nat} (h0 : h % 3911 ≠ 0) (he : x * h % 3911 = y * h % 3911) : x % 3911 = y % 3911 := by
  have key : ∀ x : Nat, x * h * pw h 3909 % 3911 = x % 3911 := by
    intro x
    rw [Nat.mul_assoc, show h * pw h 3909 = pw h 3910 from (Nat.mul_comm _ _).trans (pw_succ h 3909).symm, Nat.mul_mod, inv_one h0, Nat.mul_one, Nat.mod_mod]
  rw [← key x, ← key y]
  exact mulmod he rfl

/-! ### public keys -/
def isPub (y : Int) : Bool := decide (2 ≤ y ∧ y < 7823) && decide (pw y.toNat 3911 % 7823 = 1)
def isSec (x : Int) : Bool := decide (1 ≤ x ∧ x < 3911)
def okS (s : Int) : Bool := decide (0 ≤ s ∧ s < 3911)
/-- the document's own way to say it: a square -/
def isSq (y : Int) : Prop := ∃ i : Nat, 2 ≤ i ∧ i < 3912 ∧ i * i % 7823 = y.toNat
theorem pub_sq {y : Int} (h2 : 2 ≤ y) (hy : y < 7823) : isSq y ↔ pw y.toNat 3911 % 7823 = 1 := by
  obtain ⟨n, rfl⟩ : ∃ n : Nat, y = n := ⟨y.toNat, by omega⟩
  rw [Int.toNat_natCast]
  unfold isSq
  rw [Int.toNat_natCast]
  constructor
  · rintro ⟨i, hi, hi2, he⟩
    rw [← he, pw_mod, ← pw_two, ← pw_mul]
    exact sq_one (by omega) hi2
  · intro h
    have hl := Nat.mod_lt (pw n 1956) (show 0 < 7823 by decide)
    have hsq : (pw n 1956 % 7823) * (pw n 1956 % 7823) % 7823 = n := by
      rw [← Nat.mul_mod, ← pw_add, show 1956 + 1956 = 3911 + 1 from rfl, pw_succ, Nat.mul_mod, h, Nat.one_mul, Nat.mod_mod, Nat.mod_eq_of_lt (by omega)]
    generalize pw n 1956 % 7823 = i at *
    by_cases hle : i < 3912
    · refine ⟨i, ?_, hle, hsq⟩
      match i, hsq with
      | 0, hsq => simp at hsq; omega
      | 1, hsq => simp at hsq; omega
      | i + 2, _ => omega
    · have hs2 : (7823 - i) * (7823 - i) % 7823 = n := by
        rw [← hsq]
        obtain ⟨j, hj⟩ : ∃ j, j = 7823 - i := ⟨_, rfl⟩
        have hi : i = 7823 - j := by omega
        rw [← hj]
        have hij : i + j = 7823 := by omega
        have e1 : i * i + i * j = 7823 * i := by rw [← Nat.mul_add, hij, Nat.mul_comm]
        have e2 : j * j + i * j = 7823 * j := by rw [← Nat.add_mul, Nat.add_comm, hij]
        omega
      refine ⟨7823 - i, ?_, by omega, hs2⟩
      rcases Nat.lt_or_ge (7823 - i) 2 with hlt | hge
      · have : 7823 - i = 1 := by omega
        rw [this] at hs2
        simp at hs2; omega
      · exact hge
theorem four_pub {k : Nat} (h0 : k % 3911 ≠ 0) : isPub ((pw 4 k % 7823 : Nat) : Int) = true := by
  have hl := Nat.mod_lt (pw 4 k) (show 0 < 7823 by decide)
  have hp : pw (pw 4 k % 7823) 3911 % 7823 = 1 := by rw [four_pow, Nat.mul_comm, four_mul]
  have h1 : pw 4 k % 7823 ≠ 1 := fun h => h0 (by
    have := four_inj (a := k) (b := 0) (by rw [h, pw_zero])
    simpa using this)
  have h00 : pw 4 k % 7823 ≠ 0 := fun h => by rw [h, pw_succ 0 3910, Nat.mul_zero] at hp; simp at hp
  unfold isPub
  rw [Int.toNat_natCast, decide_eq_true hp, Bool.and_true, decide_eq_true_eq]
  omega

/-! ### the hash -/
def hsh (r : Nat) (t : List UInt8) : Nat := t.foldl (fun h c => (h * 257 + c.toNat + 1) % 3911) (r % 3911)
theorem hsh_nil (r : Nat) : hsh r [] = r % 3911 := rfl
theorem hsh_app (r : Nat) (s t : List UInt8) : hsh r (s ++ t) = hsh (hsh r s) t := by
  have hl : ∀ (t : List UInt8) (r : Nat), r < 3911 → t.foldl (fun h c => (h * 257 + c.toNat + 1) % 3911) r < 3911 := by
    intro t
    induction t with
    | nil => intro r hr; exact hr
    | cons c t ih => intro r _; exact ih _ (Nat.mod_lt _ (by decide))
  have : hsh r s < 3911 := hl s _ (Nat.mod_lt _ (by decide))
  unfold hsh at *
  rw [List.foldl_append, Nat.mod_eq_of_lt this]
theorem hsh_lt (r : Nat) (t : List UInt8) : hsh r t < 3911 := by
  have hl : ∀ (t : List UInt8) (r : Nat), r < 3911 → t.foldl (fun h c => (h * 257 + c.toNat + 1) % 3911) r < 3911 := by
    intro t
    induction t with
    | nil => intro r hr; exact hr
    | cons c t ih => intro r _; exact ih _ (Nat.mod_lt _ (by decide))
  exact hl t _ (Nat.mod_lt _ (by decide))
theorem hsh_snoc (r : Nat) (t : List UInt8) (k : Nat) (hk : k < t.length) : hsh r (t.take (k + 1)) = (hsh r (t.take k) * 257 + t[k].toNat + 1) % 3911 := by
  rw [List.take_succ_eq_append_getElem hk, hsh_app]
  have h := Nat.mod_eq_of_lt (hsh_lt r (t.take k))
  generalize hsh r (t.take k) = x at *
  unfold hsh
  simp only [List.foldl_cons, List.foldl_nil]
  rw [h]
end Go.Proofs.YtbdbcffnjibjoaaGreatDoor

/- The equation that Secret solves: mathematics. -/
namespace Go.Proofs.YtbdbcffnjibjoaaGreatDoor
set_option linter.unusedVariables false
set_option linter.unusedSimpArgs false
theorem dvd_mod {x z u : Nat} : ((3911 : Int) ∣ (x : Int) * z - u) ↔ x * z % 3911 = u % 3911 := by
  constructor
  · rintro ⟨k, hk⟩
    have : ((x * z : Nat) : Int) = u + 3911 * k := by rw [Int.natCast_mul]; omega
    generalize x * z = y at *
    omega
  · intro h
    have : (x : Int) * z = ((x * z : Nat) : Int) := by rw [Int.natCast_mul]
    rw [this]
    generalize x * z = y at *
    omega
/-- The secret that Secret reckons is the one number below Order that the equation holds for. -/
theorem secret_iff {x a b s t : Nat} (hx : x < 3911) (ha : a < 3911) (hb : b < 3911) (hs : s < 3911) (ht : t < 3911) (h0 : (a + 3911 - b) % 3911 ≠ 0) :
    ((3911 : Int) ∣ (x : Int) * a - x * b - (s - t)) ↔ x = (s + 3911 - t) % 3911 * (pw ((a + 3911 - b) % 3911) 3909 % 3911) % 3911 := by
  have ez : ∃ k : Int, (a : Int) - b = ((a + 3911 - b) % 3911 : Nat) + 3911 * k := ⟨((a : Int) - b - ((a + 3911 - b) % 3911 : Nat)) / 3911, by omega⟩
  have eu : ∃ k : Int, (s : Int) - t = ((s + 3911 - t) % 3911 : Nat) + 3911 * k := ⟨((s : Int) - t - ((s + 3911 - t) % 3911 : Nat)) / 3911, by omega⟩
  have hz := Nat.mod_lt (a + 3911 - b) (show 0 < 3911 by decide)
  generalize (a + 3911 - b) % 3911 = z at *
  generalize (s + 3911 - t) % 3911 = u at *
  obtain ⟨k, hk⟩ := ez
  obtain ⟨j, hj⟩ := eu
  have hzz : z % 3911 ≠ 0 := by omega
  have e : (x : Int) * a - x * b - (s - t) = ((x : Int) * z - u) + 3911 * (x * k - j) := by
    rw [← Int.mul_sub, hk, hj, Int.mul_add, Int.mul_left_comm, Int.mul_sub]; omega
  rw [e, Int.dvd_add_left (Int.dvd_mul_right _ _), dvd_mod]
  have hv : z * (pw z 3909 % 3911) % 3911 = 1 := by
    have h1 : z * (pw z 3909 % 3911) % 3911 = z * pw z 3909 % 3911 := mulmod rfl (Nat.mod_mod _ _)
    rw [h1, show z * pw z 3909 = pw z 3910 from (Nat.mul_comm _ _).trans (pw_succ z 3909).symm]
    exact inv_one hzz
  generalize pw z 3909 % 3911 = v at *
  have key : ∀ y : Nat, y * (z * v) % 3911 = y % 3911 := fun y => by rw [Nat.mul_mod, hv, Nat.mul_one, Nat.mod_mod]
  constructor
  · intro h
    have h1 : x * z * v % 3911 = u * v % 3911 := mulmod h rfl
    rw [Nat.mul_assoc, key] at h1
    rw [← h1, Nat.mod_eq_of_lt hx]
  · intro h
    have h1 : x * z % 3911 = u * v * z % 3911 := mulmod (by rw [h, Nat.mod_mod]) rfl
    rw [h1, Nat.mul_assoc, Nat.mul_comm v z, key]
end Go.Proofs.YtbdbcffnjibjoaaGreatDoor

/- Package sign: what each inner call returns. -/
namespace Go.Proofs.YtbdbcffnjibjoaaGreatDoor
set_option linter.unusedVariables false
set_option linter.unusedSimpArgs false
open Go.RowKit
theorem pow_odd {r n e m : Nat} (h : e % 2 = 1) : r * n % m * pw (n * n % m) (e / 2) % m = r * pw n e % m := by
  have e1 : pw n e = n * pw (n * n) (e / 2) := by
    conv => lhs; rw [← Nat.div_add_mod e 2, h, pw_succ, pw_mul, pw_two, Nat.mul_comm]
  rw [e1, ← Nat.mul_assoc]
  exact mulmod (Nat.mod_mod _ _) (pw_mod _ _ _)
theorem pow_even {r n e m : Nat} (h : e % 2 = 0) : r * pw (n * n % m) (e / 2) % m = r * pw n e % m := by
  have e1 : pw n e = pw (n * n) (e / 2) := by
    conv => lhs; rw [← Nat.div_add_mod e 2, h, Nat.add_zero, pw_mul, pw_two]
  rw [e1]
  exact mulmod rfl (pw_mod _ _ _)
theorem prod_lt {a b : Nat} (ha : a < 7823) (hb : b < 7823) : (a : Int) * (b : Int) ≤ 61199329 ∧ 0 ≤ (a : Int) * (b : Int) := by
  have h1 : a * b ≤ 7823 * 7823 := Nat.mul_le_mul (by omega) (by omega)
  have h2 : (a : Int) * (b : Int) = ((a * b : Nat) : Int) := by simp
  omega
def PowR (x m : Nat) (w : World) (gk : Nat) (vn ve vr : Value) (wr : World) : Prop :=
  ∃ n e r : Nat, vn = .int .i64 n ∧ ve = .int .i64 e ∧ vr = .int .i64 r ∧ gk = e ∧ n < 7823 ∧ r < m ∧ e ≤ 1048576 ∧ r * pw n e % m = x ∧ wr = w
set_option maxHeartbeats 1000000 in
theorem power_any (n e m : Nat) (w : World) (hn : n < 7823) (he : e ≤ 1048576) (hm : 1 < m) (hm2 : m ≤ 7823) :
    Calls Tryz.prog 27 #[.int .i64 n, .int .i64 e, .int .i64 m] w fun x w' => x = .returned (.int .i64 ((pw n e % m : Nat) : Int)) ∧ w = w' := by
  go_enter Tryz.func27, Tryz.ntmps27
  go_wp2
  obtain ⟨x, hx⟩ : ∃ x, x = pw n e % m := ⟨_, rfl⟩
  go_loopg [0, 1, 7] e (PowR x m w)
  case atStart => exact ⟨n, e, 1, rfl, rfl, rfl, rfl, hn, by omega, he, by rw [Nat.one_mul, hx], rfl⟩
  case round =>
    have Hx := Lib.hid hx
    clear hx hn he
    obtain ⟨n1, e1, r, rfl, rfl, rfl, hgk, hn1, hr, he1, hi, rfl⟩ := hrel
    have Hi := Lib.hid hi
    have Hgk := Lib.hid hgk
    clear hi hgk
    rcases Nat.eq_zero_or_pos e1 with h0 | h0
    · subst h0
      go_wp2
      go_ret
      refine ⟨?_, rfl⟩
      have := Hi.out
      rw [pw_zero, Nat.mul_one, Nat.mod_eq_of_lt hr] at this
      rw [← Hx.out, this]
      rfl
    · have p1 := prod_lt hn1 hn1
      have p2 := prod_lt (Nat.lt_of_lt_of_le hr hm2) hn1
      have l1 := Nat.mod_lt (n1 * n1) (show 0 < m by omega)
      have l2 := Nat.mod_lt (r * n1) (show 0 < m by omega)
      rcases Nat.mod_two_eq_zero_or_one e1 with h2 | h2
      · have Hp := Lib.hid (pow_even (r := r) (n := n1) (m := m) h2)
        go_wp2
        go_roundg (e1 / 2)
        case measure => have := Hgk.out; omega
        case rel => exact ⟨n1 * n1 % m, e1 / 2, r, by go_num, by go_num, rfl, rfl, by omega, hr, by omega, Hp.out.trans Hi.out, rfl⟩
      · have Hp := Lib.hid (pow_odd (r := r) (n := n1) (m := m) h2)
        go_wp2
        go_roundg (e1 / 2)
        case measure => have := Hgk.out; omega
        case rel => exact ⟨n1 * n1 % m, e1 / 2, r * n1 % m, by go_num, by go_num, by go_num, rfl, by omega, l2, by omega, Hp.out.trans Hi.out, rfl⟩
end Go.Proofs.YtbdbcffnjibjoaaGreatDoor

/- Package sign: what each inner call returns, further. -/
namespace Go.Proofs.YtbdbcffnjibjoaaGreatDoor
set_option linter.unusedVariables false
set_option linter.unusedSimpArgs false
open Go.RowKit
theorem ret_i64 {a b : Int} (h : a = b) : Ending.returned (.int .i64 a) = .returned (.int .i64 b) := by rw [h]
def HashR (r : Nat) (l : List UInt8) (n : Nat) (w : World) (gk : Nat) (vh vi : Value) (wr : World) : Prop :=
  ∃ k h q : Nat, vh = .int .i64 h ∧ vi = .int .i64 k ∧ k ≤ n ∧ gk = n - k ∧ h = hsh r (l.take k) ∧ h < 3911 ∧ wr = w.drewN q
theorem isSecret_any (x : Int) (w : World) :
    Calls Tryz.prog 25 #[.int .i64 x] w fun e w' => e = .returned (.bool (isSec x)) ∧ w = w' := by
  have h : isSec x = (decide (1 ≤ x) && decide (x < 3911)) := by unfold isSec; simp
  have H := Lib.hid h
  clear h
  go_enter Tryz.func25, Tryz.ntmps25
  go_wp2
  all_goals
    go_ret
    exact ⟨ret_bool (by rw [H.out]; (first | (simp [*]; done) | (simp [*]; omega))), rfl⟩
theorem isLong_any (A : Option Addr) (n c : Nat) (w : World) :
    Calls Tryz.prog 26 #[.slice A n c] w fun e w' => e = .returned (.bool (decide (600 < n))) ∧ w = w' := by
  go_enter Tryz.func26, Tryz.ntmps26
  go_wp2
  go_ret
  exact ⟨ret_bool (by simp; omega), rfl⟩
theorem hash_any (r : Nat) (A : Option Addr) (n c : Nat) (l : List UInt8) (w : World) (hr : r < 7823) (hh : Holds w w.heap.size 1 A n (l.map bv)) (hn : n ≤ 600) :
    Calls Tryz.prog 28 #[.int .i64 r, .slice A n c] w fun e w' => e = .returned (.int .i64 (hsh r l : Nat)) ∧ ∃ k, w' = w.drewN k := by
  have hl := hh.len
  go_enter Tryz.func28, Tryz.ntmps28
  go_wp2
  go_loopg [5, 12] n (HashR r l n w)
  case atStart => exact ⟨0, r % 3911, 0, by go_num, rfl, by omega, by omega, by rw [List.take_zero]; rfl, by omega, rfl⟩
  case round =>
    obtain ⟨k, h, q, rfl, rfl, hk, hgk, hi, hlt, rfl⟩ := hrel
    have Hgk := Lib.hid hgk
    have Hi := Lib.hid hi
    clear hgk hi
    by_cases hkn : k < n
    · obtain ⟨b, off, hkl, rfl, _, hc1⟩ := hh.byte hkn
      have Hs := Lib.hid (hsh_snoc r l k hkl)
      have hcl := l[k].toNat_lt
      generalize l[k].toNat = x at *
      go_wp2
      all_goals
        go_roundg (n - (k + 1))
        case measure => have := Hgk.out; omega
        case rel => exact ⟨k + 1, (h * 257 + x + 1) % 3911, _, by go_num, by go_num, by omega, rfl, by rw [Hs.out, ← Hi.out], Nat.mod_lt _ (by decide), rfl⟩
    · have hkn' : k = n := by omega
      subst hkn'
      go_wp2
      go_ret
      refine ⟨ret_i64 ?_, _, rfl⟩
      have := Hi.out
      rw [List.take_of_length_le (by omega)] at this
      rw [this]
end Go.Proofs.YtbdbcffnjibjoaaGreatDoor

/- Package sign: what each public call returns. -/
namespace Go.Proofs.YtbdbcffnjibjoaaGreatDoor
set_option linter.unusedVariables false
set_option linter.unusedSimpArgs false
open Go.RowKit
/-- What Public, Hash, Make, Check and Secret return, as the document says it. -/
def publicR (x : Int) : Nat × Int := if isSec x then (pw 4 x.toNat % 7823, 0) else (0, 2)
def hashR (r : Int) (n : Nat) (l : List UInt8) : Nat × Int := if 0 ≤ r ∧ r < 7823 then (if 600 < n then (0, 1) else (hsh r.toNat l, 0)) else (0, 2)
def makeR (x k : Int) (n : Nat) (l : List UInt8) : Nat × Nat × Int :=
  if isSec x && isSec k then (if 600 < n then (0, 0, 1) else (pw 4 k.toNat % 7823, (k.toNat + x.toNat * hsh (pw 4 k.toNat % 7823) l) % 3911, 0)) else (0, 0, 2)
def checkR (p : Int) (n : Nat) (l : List UInt8) (r s : Int) : Int :=
  if isPub p && (isPub r && okS s) then (if 600 < n then 1 else if pw 4 s.toNat % 7823 = r.toNat * (pw p.toNat (hsh r.toNat l) % 7823) % 7823 then 0 else 9) else 2
def intsV (a : Nat) (e : Int) : Value := .tuple #[.int .i64 a, .int .i64 e]
theorem sec_nat {x : Int} (h : isSec x = true) : ∃ n : Nat, x = n ∧ 1 ≤ n ∧ n < 3911 := by
  have hx : 1 ≤ x ∧ x < 3911 := by simpa [isSec] using h
  exact ⟨x.toNat, by omega, by omega, by omega⟩
theorem pub_nat {x : Int} (h : isPub x = true) : ∃ n : Nat, x = n ∧ 2 ≤ n ∧ n < 7823 ∧ pw n 3911 % 7823 = 1 := by
  unfold isPub at h
  rw [Bool.and_eq_true, decide_eq_true_eq, decide_eq_true_eq] at h
  exact ⟨x.toNat, by omega, by omega, by omega, h.2⟩
theorem okS_nat {x : Int} (h : okS x = true) : ∃ n : Nat, x = n ∧ n < 3911 := by
  have hx : 0 ≤ x ∧ x < 3911 := by simpa [okS] using h
  exact ⟨x.toNat, by omega, by omega⟩
def signV (r s : Nat) : Value := .agg #[.int .i64 r, .int .i64 s]
def makeV (m : Nat × Nat × Int) : Value := .tuple #[signV m.1 m.2.1, .int .i64 m.2.2]
theorem prod_lt' {a b : Nat} (ha : a < 3911) (hb : b < 3911) : (a : Int) * (b : Int) ≤ 61199329 ∧ 0 ≤ (a : Int) * (b : Int) := prod_lt (by omega) (by omega)
/-- The end of a function whose first result is a signature in memory. -/
theorem ret_sign {fn : Func} {R : Ending → World → Prop} {a : Act} {W : World} {g : Nat} {s1 s2 : Tmp} {b x0 x1 : Value}
    (hf : fn.results = #[.cell s1 37, .tmp s2]) (h1 : a.tmps.getD s1 undef = .pointer (some ⟨g, 0, none⟩)) (h2 : a.tmps.getD s2 undef = b)
    (c0 : W.cell? ⟨g, 0, none⟩ = some x0) (c1 : W.cell? ⟨g, 1, none⟩ = some x1) (hd : a.defers = []) (hR : R (.returned (.tuple #[.agg #[x0, x1], b])) W) : bodyPost Tryz.prog fn R .ret a W := by
  refine bodyPost_ret ?_ hd hR
  simp only [Array.getD_eq_getD_getElem?] at h1 h2
  simp [results, hf, h1, h2, go_sem, c0, c1]
set_option maxRecDepth 100000 in
theorem make_any (x k : Int) (A : Option Addr) (n c : Nat) (l : List UInt8) (w : World) (hh : Holds w w.heap.size 1 A n (l.map bv)) :
    Calls Tryz.prog 9 #[.int .i64 x, .int .i64 k, .slice A n c] w fun e w' => e = .returned (makeV (makeR x k n l)) ∧ Below w.heap.size w w' := by
  have hbz := (Below.refl w.heap.size w).alloc (Nat.le_refl _) (.cells #[.int .i64 0, .int .i64 0] 37)
  cases hx : isSec x
  · have H := Lib.hid (show makeR x k n l = (0, 0, 2) by unfold makeR; rw [hx]; rfl)
    rw [H.out]
    go_enter Tryz.func9, Tryz.ntmps9
    go_wp2_with fail
    refine (isSecret_any x _).mono ?_
    rintro e w1 ⟨rfl, rfl⟩
    rw [hx]
    go_wp2
    refine ret_sign (by rfl) (by rfl) (by rfl) (x0 := .int .i64 0) (x1 := .int .i64 0) ?_ ?_ (by rfl) ?_
    · simp [go_sem]
    · simp [go_sem]
    · exact ⟨rfl, hbz⟩
  cases hk : isSec k
  · have H := Lib.hid (show makeR x k n l = (0, 0, 2) by unfold makeR; rw [hx, hk]; rfl)
    rw [H.out]
    go_enter Tryz.func9, Tryz.ntmps9
    go_wp2_with fail
    refine (isSecret_any x _).mono ?_
    rintro e w1 ⟨rfl, rfl⟩
    rw [hx]
    go_wp2_with fail
    refine (isSecret_any k _).mono ?_
    rintro e w1 ⟨rfl, rfl⟩
    rw [hk]
    go_wp2
    refine ret_sign (by rfl) (by rfl) (by rfl) (x0 := .int .i64 0) (x1 := .int .i64 0) ?_ ?_ (by rfl) ?_
    · simp [go_sem]
    · simp [go_sem]
    · exact ⟨rfl, hbz⟩
  by_cases hn : 600 < n
  · have H := Lib.hid (show makeR x k n l = (0, 0, 1) by unfold makeR; rw [hx, hk, Bool.true_and, if_pos rfl, if_pos hn])
    have hd : decide (600 < n) = true := decide_eq_true hn
    rw [H.out]
    go_enter Tryz.func9, Tryz.ntmps9
    go_wp2_with fail
    refine (isSecret_any x _).mono ?_
    rintro e w1 ⟨rfl, rfl⟩
    rw [hx]
    go_wp2_with fail
    refine (isSecret_any k _).mono ?_
    rintro e w1 ⟨rfl, rfl⟩
    rw [hk]
    go_wp2_with fail
    refine (isLong_any A n c _).mono ?_
    rintro e w1 ⟨rfl, rfl⟩
    rw [hd]
    go_wp2
    refine ret_sign (by rfl) (by rfl) (by rfl) (x0 := .int .i64 0) (x1 := .int .i64 0) ?_ ?_ (by rfl) ?_
    · simp [go_sem]
    · simp [go_sem]
    · exact ⟨rfl, hbz⟩
  · have H := Lib.hid (show makeR x k n l = (pw 4 k.toNat % 7823, (k.toNat + x.toNat * hsh (pw 4 k.toNat % 7823) l) % 3911, 0) by unfold makeR; rw [hx, hk, Bool.true_and, if_pos rfl, if_neg hn])
    have hd : decide (600 < n) = false := decide_eq_false hn
    rw [H.out]
    clear H
    obtain ⟨a, rfl, ha1, ha2⟩ := sec_nat hx
    obtain ⟨b, rfl, hb1, hb2⟩ := sec_nat hk
    rw [Int.toNat_natCast, Int.toNat_natCast]
    have hrl := Nat.mod_lt (pw 4 b) (show 0 < 7823 by decide)
    obtain ⟨r, hr⟩ : ∃ r, pw 4 b % 7823 = r := ⟨_, rfl⟩
    rw [hr] at hrl ⊢
    have hpl := prod_lt' ha2 (hsh_lt r l)
    have hHl := hsh_lt r l
    obtain ⟨h, hhr⟩ : ∃ h, hsh r l = h := ⟨_, rfl⟩
    rw [hhr] at hpl hHl ⊢
    have Hr := Lib.hid hr
    have Hh := Lib.hid hhr
    clear hr hhr
    go_enter Tryz.func9, Tryz.ntmps9
    go_wp2_with fail
    refine (isSecret_any a _).mono ?_
    rintro e w1 ⟨rfl, rfl⟩
    rw [hx]
    go_wp2_with fail
    refine (isSecret_any b _).mono ?_
    rintro e w1 ⟨rfl, rfl⟩
    rw [hk]
    go_wp2_with fail
    refine (isLong_any A n c _).mono ?_
    rintro e w1 ⟨rfl, rfl⟩
    rw [hd]
    go_wp2_with fail
    refine (power_any 4 b 7823 _ (by decide) (by omega) (by decide) (by decide)).mono ?_
    rintro e w1 ⟨rfl, rfl⟩
    rw [Hr.out]
    have hA := Lib.hid ((hh.alloc (Nat.le_refl _) (.cells #[.int .i64 0, .int .i64 0] 37)).wider (show w.heap.size ≤ (w.alloc (.cells #[.int .i64 0, .int .i64 0] 37)).heap.size by simp))
    go_wp2_with fail
    refine (hash_any r A n c l _ hrl (hA.out) (by omega)).mono ?_
    rintro e w1 ⟨rfl, q, rfl⟩
    rw [Hh.out]
    go_wp2_with fail
    refine ret_sign (by rfl) (by rfl) (by rfl) (x0 := .int .i64 r) (x1 := .int .i64 ((b + a * h) % 3911 : Nat)) ?_ ?_ (by rfl) ?_
    · simp [go_sem]
    · simp [go_sem]
    · exact ⟨rfl, ((below_drewN hbz q).setCell (Nat.le_refl _) _).setCell (Nat.le_refl _) _⟩
end Go.Proofs.YtbdbcffnjibjoaaGreatDoor

/- Package sign: what Check returns. -/
namespace Go.Proofs.YtbdbcffnjibjoaaGreatDoor
set_option linter.unusedVariables false
set_option linter.unusedSimpArgs false
open Go.RowKit
theorem holds_alloc {w : World} {A : Option Addr} {n : Nat} {xs : List Value} (h : Holds w w.heap.size 1 A n xs) (o : Obj) : Holds (w.alloc o) (w.alloc o).heap.size 1 A n xs :=
  (h.alloc (Nat.le_refl _) o).wider (by simp)
theorem size_alloc (w : World) (o : Obj) : w.heap.size ≤ (w.alloc o).heap.size := by simp
end Go.Proofs.YtbdbcffnjibjoaaGreatDoor

/- Package sign: what Secret returns. -/
namespace Go.Proofs.YtbdbcffnjibjoaaGreatDoor
set_option linter.unusedVariables false
set_option linter.unusedSimpArgs false
open Go.RowKit
def secretR (n m : Nat) (l1 l2 : List UInt8) (r s r2 s2 : Int) : Nat × Int :=
  if (isPub r && okS s) && (isPub r2 && okS s2) then
    if 600 < n ∨ 600 < m then (0, 1) else if r = r2 then
      if (hsh r.toNat l1 + 3911 - hsh r2.toNat l2) % 3911 = 0 then (0, 8)
      else ((s.toNat + 3911 - s2.toNat) % 3911 * (pw ((hsh r.toNat l1 + 3911 - hsh r2.toNat l2) % 3911) 3909 % 3911) % 3911, 0)
    else (0, 4)
  else (0, 2)
def sgn (r s : Int) : Obj := .cells #[.int .i64 r, .int .i64 s] 37
end Go.Proofs.YtbdbcffnjibjoaaGreatDoor

/- The document's own functions of signatures: what each call returns. -/
namespace Go.Proofs.YtbdbcffnjibjoaaGreatDoor
set_option linter.unusedVariables false
set_option linter.unusedSimpArgs false
open Go.RowKit
theorem refIsSecret_any (x : Int) (w : World) :
    Calls Tryz.prog 39 #[.int .i64 x] w fun e w' => e = .returned (.bool (isSec x)) ∧ w = w' := by
  have h : isSec x = (decide (0 < x) && decide (x < 3911)) := by unfold isSec; rw [Bool.decide_and]; congr 1
  have H := Lib.hid h
  clear h
  go_enter Tryz.func39, Tryz.ntmps39
  go_wp2
  all_goals
    go_ret
    exact ⟨ret_bool (by rw [H.out]; (first | (simp [*]; done) | (simp [*]; omega))), rfl⟩
def TimesR (n often : Nat) (w : World) (gk : Nat) (vo vi : Value) (wr : World) : Prop :=
  ∃ i o : Nat, vo = .int .i64 o ∧ vi = .int .i64 i ∧ i ≤ often ∧ gk = often - i ∧ o < 7823 ∧ o = pw n i % 7823 ∧ wr = w
theorem times_any (n often : Nat) (w : World) (hn : n < 7823) (ho : often ≤ 1048576) :
    Calls Tryz.prog 40 #[.int .i64 n, .int .i64 often] w fun e w' => e = .returned (.int .i64 (pw n often % 7823 : Nat)) ∧ w = w' := by
  go_enter Tryz.func40, Tryz.ntmps40
  go_wp2
  go_loopg [5, 6] often (TimesR n often w)
  case atStart => exact ⟨0, 1, rfl, rfl, by omega, by omega, by omega, by rw [pw_zero], rfl⟩
  case round =>
    obtain ⟨i, o, rfl, rfl, hi, hgk, hol, hoe, rfl⟩ := hrel
    have Hgk := Lib.hid hgk
    have Ho := Lib.hid hoe
    clear hgk hoe
    have hpl := prod_lt hol hn
    by_cases hlt : i < often
    · go_wp2
      go_roundg (often - (i + 1))
      case measure => have := Hgk.out; omega
      case rel => exact ⟨i + 1, o * n % 7823, by go_num, by go_num, by omega, rfl, Nat.mod_lt _ (by decide), by rw [pw_succ]; exact mulmod (by rw [Ho.out, Nat.mod_mod]) rfl, rfl⟩
    · have : i = often := by omega
      subst this
      go_wp2
      go_ret
      exact ⟨by rw [← Ho.out]; rfl, rfl⟩
/-- What the search for a square root has not found yet. -/
def KeyR (n T : Nat) (w : World) (gk : Nat) (vi : Value) (wr : World) : Prop :=
  ∃ i : Nat, vi = .int .i64 i ∧ 2 ≤ i ∧ i ≤ 3912 ∧ gk = T - i ∧ (∀ j, 2 ≤ j → j < i → j * j % 7823 ≠ n) ∧ wr = w
end Go.Proofs.YtbdbcffnjibjoaaGreatDoor

/- The document's own functions of signatures, further: SignHash, SignPublic, SignMake, signMay, SignCheck. -/
namespace Go.Proofs.YtbdbcffnjibjoaaGreatDoor
set_option linter.unusedVariables false
set_option linter.unusedSimpArgs false
open Go.RowKit
set_option maxRecDepth 100000 in
theorem refHash_any (r : Int) (A : Option Addr) (n c : Nat) (l : List UInt8) (w : World) (hh : Holds w w.heap.size 1 A n (l.map bv)) :
    Calls Tryz.prog 41 #[.int .i64 r, .slice A n c] w fun e w' => e = .returned (intsV (hashR r n l).1 (hashR r n l).2) ∧ ∃ k, w' = w.drewN k := by
  by_cases hr : 0 ≤ r ∧ r < 7823
  · obtain ⟨r0, r1⟩ := hr
    by_cases hn : 600 < n
    · have H := Lib.hid (show hashR r n l = (0, 1) by unfold hashR; rw [if_pos ⟨r0, r1⟩, if_pos hn])
      rw [H.out]
      go_enter Tryz.func41, Tryz.ntmps41
      go_wp2
      go_ret2
      exact ⟨rfl, 0, rfl⟩
    · have H := Lib.hid (show hashR r n l = (hsh r.toNat l, 0) by unfold hashR; rw [if_pos ⟨r0, r1⟩, if_neg hn])
      rw [H.out]
      clear H
      obtain ⟨m, rfl⟩ : ∃ m : Nat, r = m := ⟨r.toNat, by omega⟩
      rw [Int.toNat_natCast]
      have hl := hh.len
      go_enter Tryz.func41, Tryz.ntmps41
      go_wp2
      go_loopg [6, 7] n (HashR m l n w)
      case atStart => exact ⟨0, m % 3911, 0, by go_num, rfl, by omega, by omega, by rw [List.take_zero]; rfl, by omega, rfl⟩
      case round =>
        obtain ⟨k, h, q, rfl, rfl, hk, hgk, hi, hlt, rfl⟩ := hrel
        have Hgk := Lib.hid hgk
        have Hi := Lib.hid hi
        clear hgk hi
        by_cases hkn : k < n
        · obtain ⟨b, off, hkl, rfl, _, hc1⟩ := hh.byte hkn
          have Hs := Lib.hid (hsh_snoc m l k hkl)
          have hcl := l[k].toNat_lt
          generalize l[k].toNat = x at *
          go_wp2
          all_goals
            go_roundg (n - (k + 1))
            case measure => have := Hgk.out; omega
            case rel => exact ⟨k + 1, (h * 257 + x + 1) % 3911, _, congrArg (Value.int .i64) (by omega), by go_num, by omega, rfl, by rw [Hs.out, ← Hi.out], Nat.mod_lt _ (by decide), rfl⟩
        · have hkn' : k = n := by omega
          subst hkn'
          go_wp2
          go_ret2
          refine ⟨?_, _, rfl⟩
          have := Hi.out
          rw [List.take_of_length_le (by omega)] at this
          rw [this]
          rfl
  · have H := Lib.hid (show hashR r n l = (0, 2) by unfold hashR; rw [if_neg hr])
    rw [H.out]
    by_cases h0 : 0 ≤ r
    · have h1 : 7823 ≤ r := by omega
      go_enter Tryz.func41, Tryz.ntmps41
      go_wp2
      go_ret2
      exact ⟨rfl, 0, rfl⟩
    · have h1 : r < 0 := by omega
      go_enter Tryz.func41, Tryz.ntmps41
      go_wp2
      go_ret2
      exact ⟨rfl, 0, rfl⟩
end Go.Proofs.YtbdbcffnjibjoaaGreatDoor

/- The document's own functions of signatures, further: SignMake, SignCheck, SignSecret. -/
namespace Go.Proofs.YtbdbcffnjibjoaaGreatDoor
set_option linter.unusedVariables false
set_option linter.unusedSimpArgs false
open Go.RowKit
theorem hashR_key {r n : Nat} {l : List UInt8} (hr : r < 7823) (hn : ¬ 600 < n) : hashR r n l = (hsh r l, 0) := by
  unfold hashR; rw [if_pos ⟨by omega, by omega⟩, if_neg hn, Int.toNat_natCast]
set_option maxRecDepth 100000 in
theorem refMake_any (x k : Int) (A : Option Addr) (n c : Nat) (l : List UInt8) (w : World) (hh : Holds w w.heap.size 1 A n (l.map bv)) :
    Calls Tryz.prog 17 #[.int .i64 x, .int .i64 k, .slice A n c] w fun e w' => e = .returned (makeV (makeR x k n l)) ∧ Below w.heap.size w w' := by
  have hbz := (Below.refl w.heap.size w).alloc (Nat.le_refl _) (.cells #[.int .i64 0, .int .i64 0] 37)
  cases hx : isSec x
  · have H := Lib.hid (show makeR x k n l = (0, 0, 2) by unfold makeR; rw [hx]; rfl)
    rw [H.out]
    go_enter Tryz.func17, Tryz.ntmps17
    go_wp2_with fail
    refine (refIsSecret_any x _).mono ?_
    rintro e w1 ⟨rfl, rfl⟩
    rw [hx]
    go_wp2
    refine ret_sign (by rfl) (by rfl) (by rfl) (x0 := .int .i64 0) (x1 := .int .i64 0) ?_ ?_ (by rfl) ?_
    · simp [go_sem]
    · simp [go_sem]
    · exact ⟨rfl, hbz⟩
  cases hk : isSec k
  · have H := Lib.hid (show makeR x k n l = (0, 0, 2) by unfold makeR; rw [hx, hk]; rfl)
    rw [H.out]
    go_enter Tryz.func17, Tryz.ntmps17
    go_wp2_with fail
    refine (refIsSecret_any x _).mono ?_
    rintro e w1 ⟨rfl, rfl⟩
    rw [hx]
    go_wp2_with fail
    refine (refIsSecret_any k _).mono ?_
    rintro e w1 ⟨rfl, rfl⟩
    rw [hk]
    go_wp2
    refine ret_sign (by rfl) (by rfl) (by rfl) (x0 := .int .i64 0) (x1 := .int .i64 0) ?_ ?_ (by rfl) ?_
    · simp [go_sem]
    · simp [go_sem]
    · exact ⟨rfl, hbz⟩
  by_cases hn : 600 < n
  · have H := Lib.hid (show makeR x k n l = (0, 0, 1) by unfold makeR; rw [hx, hk, Bool.true_and, if_pos rfl, if_pos hn])
    rw [H.out]
    go_enter Tryz.func17, Tryz.ntmps17
    go_wp2_with fail
    refine (refIsSecret_any x _).mono ?_
    rintro e w1 ⟨rfl, rfl⟩
    rw [hx]
    go_wp2_with fail
    refine (refIsSecret_any k _).mono ?_
    rintro e w1 ⟨rfl, rfl⟩
    rw [hk]
    go_wp2
    refine ret_sign (by rfl) (by rfl) (by rfl) (x0 := .int .i64 0) (x1 := .int .i64 0) ?_ ?_ (by rfl) ?_
    · simp [go_sem]
    · simp [go_sem]
    · exact ⟨rfl, hbz⟩
  · have H := Lib.hid (show makeR x k n l = (pw 4 k.toNat % 7823, (k.toNat + x.toNat * hsh (pw 4 k.toNat % 7823) l) % 3911, 0) by unfold makeR; rw [hx, hk, Bool.true_and, if_pos rfl, if_neg hn])
    rw [H.out]
    clear H
    obtain ⟨a, rfl, ha1, ha2⟩ := sec_nat hx
    obtain ⟨b, rfl, hb1, hb2⟩ := sec_nat hk
    rw [Int.toNat_natCast, Int.toNat_natCast]
    have hrl := Nat.mod_lt (pw 4 b) (show 0 < 7823 by decide)
    obtain ⟨r, hr⟩ : ∃ r, pw 4 b % 7823 = r := ⟨_, rfl⟩
    rw [hr] at hrl ⊢
    have hpl := prod_lt' ha2 (hsh_lt r l)
    have hHl := hsh_lt r l
    have hR := hashR_key (l := l) hrl hn
    obtain ⟨h, hhr⟩ : ∃ h, hsh r l = h := ⟨_, rfl⟩
    rw [hhr] at hpl hHl hR ⊢
    have Hr := Lib.hid hr
    have HR := Lib.hid hR
    clear hr hhr hR
    have hA := Lib.hid (holds_alloc hh (.cells #[.int .i64 0, .int .i64 0] 37))
    go_enter Tryz.func17, Tryz.ntmps17
    go_wp2_with fail
    refine (refIsSecret_any a _).mono ?_
    rintro e w1 ⟨rfl, rfl⟩
    rw [hx]
    go_wp2_with fail
    refine (refIsSecret_any b _).mono ?_
    rintro e w1 ⟨rfl, rfl⟩
    rw [hk]
    go_wp2_with fail
    refine (times_any 4 b _ (by decide) (by omega)).mono ?_
    rintro e w1 ⟨rfl, rfl⟩
    rw [Hr.out]
    go_wp2_with fail
    refine (refHash_any r A n c l _ hA.out).mono ?_
    rintro e w1 ⟨rfl, q, rfl⟩
    rw [HR.out]
    simp only [intsV]
    go_wp2_with fail
    refine ret_sign (by rfl) (by rfl) (by rfl) (x0 := .int .i64 r) (x1 := .int .i64 ((b + a * h) % 3911 : Nat)) ?_ ?_ (by rfl) ?_
    · simp [go_sem]
    · simp [go_sem]
    · exact ⟨rfl, ((below_drewN hbz q).setCell (Nat.le_refl _) _).setCell (Nat.le_refl _) _⟩
end Go.Proofs.YtbdbcffnjibjoaaGreatDoor
