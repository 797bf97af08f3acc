/- Package sign: what each inner call returns. -/
import Derived.Test.YtafgaknhdiipdaaSgM
import Derived.Test.YtafgaknhdiipdaaRows
import Derived.Test.YtafgaknhdiipdaaSmall
import Derived.BigQuiet
import Derived.WalkSmall
import Derived.Outline
namespace Go.Proofs.Ytafgaknhdiipdaa
set_option linter.unusedVariables false
set_option linter.unusedSimpArgs false
open Go.RowKit
theorem pow_odd {r n e m : Nat} (h : e % 2 = 1) : r * n % m * pw (n * n % m) (e / 2) % m = r * pw n e % m := by
  have e1 : pw n e = n * pw (n * n) (e / 2) := by
    conv => lhs; rw [← Nat.div_add_mod e 2, h, pw_succ, pw_mul, pw_two, Nat.mul_comm]
  rw [e1, ← Nat.mul_assoc]
  exact mulmod (Nat.mod_mod _ _) (pw_mod _ _ _)
theorem pow_even {r n e m : Nat} (h : e % 2 = 0) : r * pw (n * n % m) (e / 2) % m = r * pw n e % m := by
  have e1 : pw n e = pw (n * n) (e / 2) := by
    conv => lhs; rw [← Nat.div_add_mod e 2, h, Nat.add_zero, pw_mul, pw_two]
  rw [e1]
  exact mulmod rfl (pw_mod _ _ _)
theorem prod_lt {a b : Nat} (ha : a < 7823) (hb : b < 7823) : (a : Int) * (b : Int) ≤ 61199329 ∧ 0 ≤ (a : Int) * (b : Int) := by
  have h1 : a * b ≤ 7823 * 7823 := Nat.mul_le_mul (by omega) (by omega)
  have h2 : (a : Int) * (b : Int) = ((a * b : Nat) : Int) := by simp
  omega
def PowR (x m : Nat) (w : World) (gk : Nat) (vn ve vr : Value) (wr : World) : Prop :=
  ∃ n e r : Nat, vn = .int .i64 n ∧ ve = .int .i64 e ∧ vr = .int .i64 r ∧ gk = e ∧ n < 7823 ∧ r < m ∧ e ≤ 1048576 ∧ r * pw n e % m = x ∧ wr = w
set_option maxHeartbeats 1000000 in
theorem power_any (n e m : Nat) (w : World) (hn : n < 7823) (he : e ≤ 1048576) (hm : 1 < m) (hm2 : m ≤ 7823) :
    Calls Try.prog 29 #[.int .i64 n, .int .i64 e, .int .i64 m] w fun x w' => x = .returned (.int .i64 ((pw n e % m : Nat) : Int)) ∧ w = w' := by
  go_enter Try.func29, Try.ntmps29
  go_wp2
  obtain ⟨x, hx⟩ : ∃ x, x = pw n e % m := ⟨_, rfl⟩
  go_loopg [0, 1, 7] e (PowR x m w)
  case atStart => exact ⟨n, e, 1, rfl, rfl, rfl, rfl, hn, by omega, he, by rw [Nat.one_mul, hx], rfl⟩
  case round =>
    have Hx := Lib.hid hx
    clear hx hn he
    obtain ⟨n1, e1, r, rfl, rfl, rfl, hgk, hn1, hr, he1, hi, rfl⟩ := hrel
    have Hi := Lib.hid hi
    have Hgk := Lib.hid hgk
    clear hi hgk
    rcases Nat.eq_zero_or_pos e1 with h0 | h0
    · subst h0
      go_wp2
      go_ret
      refine ⟨?_, rfl⟩
      have := Hi.out
      rw [pw_zero, Nat.mul_one, Nat.mod_eq_of_lt hr] at this
      rw [← Hx.out, this]
      rfl
    · have p1 := prod_lt hn1 hn1
      have p2 := prod_lt (Nat.lt_of_lt_of_le hr hm2) hn1
      have l1 := Nat.mod_lt (n1 * n1) (show 0 < m by omega)
      have l2 := Nat.mod_lt (r * n1) (show 0 < m by omega)
      rcases Nat.mod_two_eq_zero_or_one e1 with h2 | h2
      · have Hp := Lib.hid (pow_even (r := r) (n := n1) (m := m) h2)
        go_wp2
        go_roundg (e1 / 2)
        case measure => have := Hgk.out; omega
        case rel => exact ⟨n1 * n1 % m, e1 / 2, r, by go_num, by go_num, rfl, rfl, by omega, hr, by omega, Hp.out.trans Hi.out, rfl⟩
      · have Hp := Lib.hid (pow_odd (r := r) (n := n1) (m := m) h2)
        go_wp2
        go_roundg (e1 / 2)
        case measure => have := Hgk.out; omega
        case rel => exact ⟨n1 * n1 % m, e1 / 2, r * n1 % m, by go_num, by go_num, by go_num, rfl, by omega, l2, by omega, Hp.out.trans Hi.out, rfl⟩
end Go.Proofs.Ytafgaknhdiipdaa
