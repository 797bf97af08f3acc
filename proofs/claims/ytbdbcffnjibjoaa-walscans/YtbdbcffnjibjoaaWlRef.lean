/- Package wal: the reference's two sums. -/
import Derived.Test.YtbdbcffnjibjoaaWlSum
namespace Go.Proofs.Ytbdbcffnjibjoaa
set_option linter.unusedVariables false
set_option linter.unusedSimpArgs false
open Go.RowKit
theorem sumA_le (l : List UInt8) : sumA l ≤ l.length * 256 := by
  induction l with
  | nil => simp [sumA]
  | cons x r ih =>
    have := x.toNat_lt
    simp only [sumA, List.length_cons, Nat.add_mul]
    omega
/-- The reference's second sum of the first k of n bytes: each byte as often as there are bytes from it on, to the end of all. -/
def sumC (n : Nat) : Nat → List UInt8 → Nat
  | _, [] => 0
  | i, x :: r => (n - i) * (x.toNat + 1) + sumC n (i + 1) r
theorem sumC_snoc (n i : Nat) (l : List UInt8) (x : UInt8) : sumC n i (l ++ [x]) = sumC n i l + (n - (i + l.length)) * (x.toNat + 1) := by
  induction l generalizing i with
  | nil => simp [sumC]
  | cons y r ih =>
    simp only [List.cons_append, sumC, ih, List.length_cons]
    rw [show i + 1 + r.length = i + (r.length + 1) by omega]
    omega
theorem sumC_eq (n i : Nat) (l : List UInt8) (h : i + l.length = n) : sumC n i l = sumB l := by
  induction l generalizing i with
  | nil => rfl
  | cons y r ih =>
    simp only [List.length_cons] at h
    simp only [sumC, sumB]
    rw [ih (i + 1) (by omega), show n - i = r.length + 1 by omega]
    omega
theorem sumC_le (n i : Nat) (l : List UInt8) (h : i + l.length ≤ n) : sumC n i l ≤ l.length * (n * 256) := by
  induction l generalizing i with
  | nil => simp [sumC]
  | cons y r ih =>
    simp only [List.length_cons] at h
    have h1 := ih (i + 1) (by omega)
    have h2 : (n - i) * (y.toNat + 1) ≤ n * 256 := Nat.mul_le_mul (by omega) (by have := y.toNat_lt; omega)
    simp only [sumC, List.length_cons, Nat.add_mul]
    omega
def RsR (w : World) (l : List UInt8) (n : Nat) (gk : Nat) (va vb vi : Value) (wr : World) : Prop :=
  ∃ (k a b : Nat), vi = .int .i64 k ∧ va = .int .i64 a ∧ vb = .int .i64 b ∧ k ≤ n ∧ gk = n - k ∧ a = sumA (l.take k) ∧ b = sumC n 0 (l.take k) ∧ a ≤ 256000 ∧ b ≤ 256000000 ∧ w = wr
theorem walSums_any (A : Option Addr) (n c : Nat) (l : List UInt8) (w : World) (hh : Holds w w.heap.size 1 A n (l.map bv)) (hn : n ≤ 1000) :
    Calls Try.prog 25 #[.slice A n c] w fun e w' => e = .returned (.tuple #[.int .i64 ((sums l).1 : Nat), .int .i64 ((sums l).2 : Nat)]) ∧ w = w' := by
  have hl := hh.len
  have Hh := Lib.hid hh
  have Hl := Lib.hid hl
  clear hh hl
  go_enter Try.func25, Try.ntmps25
  go_wp2
  go_loopg [4, 5, 10] n (RsR w l n)
  case atStart => exact ⟨0, 0, 0, rfl, rfl, rfl, by omega, by omega, rfl, rfl, by omega, by omega, rfl⟩
  case round =>
    obtain ⟨k, a, b, rfl, rfl, rfl, hk, hgk, ha, hb, ha2, hb2, rfl⟩ := hrel
    have Hgk := Lib.hid hgk
    have Ha := Lib.hid ha
    have Hb := Lib.hid hb
    clear hgk ha hb
    by_cases hkn : k < n
    · obtain ⟨b', off, hkl, rfl, hbb, hc1⟩ := Hh.out.byte hkn
      have Hs1 := Lib.hid (show sumA (l.take (k + 1)) = a + (l[k].toNat + 1) by rw [List.take_succ_eq_append_getElem hkl, sumA_snoc, Ha.out])
      have Hs2 := Lib.hid (show sumC n 0 (l.take (k + 1)) = b + (n - k) * (l[k].toNat + 1) by
        rw [List.take_succ_eq_append_getElem hkl, sumC_snoc, Hb.out, Nat.zero_add, List.length_take, Nat.min_eq_left (by omega)])
      have hla : sumA (l.take (k + 1)) ≤ 256000 := Nat.le_trans (sumA_le _) (by rw [List.length_take]; omega)
      have hlc : sumC n 0 (l.take (k + 1)) ≤ 256000000 := by
        refine Nat.le_trans (sumC_le _ _ _ (by rw [List.length_take]; omega)) ?_
        have : (l.take (k + 1)).length * (n * 256) ≤ 1000 * (1000 * 256) := Nat.mul_le_mul (by rw [List.length_take]; omega) (by omega)
        omega
      have hcl := l[k].toNat_lt
      have Hla := Lib.hid hla
      have Hlc := Lib.hid hlc
      clear hla hlc
      generalize l[k].toNat = x at *
      obtain ⟨d, hd⟩ : ∃ d, n = k + d := ⟨n - k, by omega⟩
      have hdx : d * (x + 1) ≤ 1000 * 256 := Nat.mul_le_mul (by omega) (by omega)
      have hm : ((n : Int) - k) * ((x : Int) + 1) = ((d * (x + 1) : Nat) : Int) := by subst hd; rw [show ((k + d : Nat) : Int) - k = (d : Nat) by omega]; simp
      have hm1 : 0 ≤ ((n : Int) - k) * ((x : Int) + 1) := by rw [hm]; omega
      have hm2 : ((n : Int) - k) * ((x : Int) + 1) ≤ 256000 := by rw [hm]; omega
      have Hm := Lib.hid hm
      have Hd := Lib.hid (show n - k = d by omega)
      clear hm hd hdx
      go_wp2
      go_roundg (n - (k + 1))
      case measure => have := Hgk.out; omega
      case rel =>
        have h1 := Hs1.out
        have h2 := Hs2.out
        rw [Hd.out] at h2
        refine ⟨k + 1, a + (x + 1), b + d * (x + 1), by go_num, by go_num, ?_, by omega, rfl, h1.symm, h2.symm, by have := Hla.out; omega, by have := Hlc.out; omega, rfl⟩
        have := Hm.out
        go_num
    · have hkn' : k = n := by omega
      subst hkn'
      go_wp2
      go_ret2
      have e : sums l = (a % 251, b % 251) := by
        rw [sums_eq, Ha.out, Hb.out, List.take_of_length_le (by rw [Hl.out]; omega), sumC_eq k 0 l (by rw [Hl.out]; omega)]
      exact ⟨by rw [e]; simp, rfl⟩
end Go.Proofs.Ytbdbcffnjibjoaa
