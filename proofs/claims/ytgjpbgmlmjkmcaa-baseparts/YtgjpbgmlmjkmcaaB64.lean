/- The plain mathematics of unpadded Base64: the encoder as a machine of three states, the same three bytes at a time, and the way back. No program is named here. -/
import Derived.WalkKit
import Derived.Laws.BitsAllLaws
import Derived.Laws.BitsLemmas
namespace Go.Proofs.Ytgjpbgmlmjkmcaa
open Go.RowKit

/-! ### numbers -/
theorem ofInt64 (a : Nat) (ha : a < 9223372036854775808) : (BitVec.ofInt 64 (a : Int)).toNat = a := by
  rw [BitVec.ofInt_natCast, BitVec.toNat_ofNat]; exact Nat.mod_eq_of_lt (by omega)
theorem and64 (a b : Nat) (ha : a < 9223372036854775808) (hb : b < 9223372036854775808) : bits .and .i64 (a : Int) (b : Int) = ((a &&& b : Nat) : Int) := by
  have hx : a &&& b < 2 ^ 63 := Nat.and_lt_two_pow _ (by omega)
  show IntKind.i64.wrap ((BitVec.ofInt 64 (a : Int) &&& BitVec.ofInt 64 (b : Int)).toNat : Int) = _
  rw [BitVec.toNat_and, ofInt64 a ha, ofInt64 b hb, IntKind.wrap_i64]
  omega
theorem or64 (a b : Nat) (ha : a < 9223372036854775808) (hb : b < 9223372036854775808) : bits .or .i64 (a : Int) (b : Int) = ((a ||| b : Nat) : Int) := by
  have hx : a ||| b < 2 ^ 63 := Nat.or_lt_two_pow (by omega) (by omega)
  show IntKind.i64.wrap ((BitVec.ofInt 64 (a : Int) ||| BitVec.ofInt 64 (b : Int)).toNat : Int) = _
  rw [BitVec.toNat_or, ofInt64 a ha, ofInt64 b hb, IntKind.wrap_i64]
  omega
/-- The lowest k bits. -/
theorem and_low (a k : Nat) (ha : a < 9223372036854775808) (hk : k ≤ 62) : bits .and .i64 (a : Int) ((2 ^ k - 1 : Nat) : Int) = ((a % 2 ^ k : Nat) : Int) := by
  have h : 2 ^ k ≤ 2 ^ 62 := Nat.pow_le_pow_right (by decide) hk
  rw [and64 a _ ha (by omega), Nat.and_two_pow_sub_one_eq_mod]
/-- Two numbers that share no bit. -/
theorem or_low (a b k : Nat) (hb : b < 2 ^ k) (h : a * 2 ^ k + b < 9223372036854775808) : bits .or .i64 ((a * 2 ^ k : Nat) : Int) (b : Int) = ((a * 2 ^ k + b : Nat) : Int) := by
  rw [or64 _ _ (by omega) (by omega), Nat.mul_comm, ← Nat.two_pow_add_eq_or_of_lt hb]

/-! ### the digits -/
def digitsOf : List UInt8 := [65, 66, 67, 68, 69, 70, 71, 72, 73, 74, 75, 76, 77, 78, 79, 80, 81, 82, 83, 84, 85, 86, 87, 88, 89, 90, 97, 98, 99, 100, 101, 102, 103, 104, 105, 106, 107, 108, 109, 110, 111, 112, 113, 114, 115, 116, 117, 118, 119, 120, 121, 122, 48, 49, 50, 51, 52, 53, 54, 55, 56, 57, 43, 47]
def digits64 : ByteArray := ⟨digitsOf.toArray⟩
def dgt (n : Nat) : UInt8 := digitsOf.getD n 0
def dgtV (i : Int) : Int := (dgt i.toNat).toNat
theorem digits64_size : digits64.size = 64 := by decide +kernel

/-! ### encoding -/
/-- s bytes of a group have been read; h: what is left of the last one. -/
def encS : Nat → Nat → List UInt8 → List Nat
  | 0, _, [] => []
  | 1, h, [] => [h * 16]
  | _, h, [] => [h * 4]
  | 0, _, c :: r => (c.toNat / 4) :: encS 1 (c.toNat % 4) r
  | 1, h, c :: r => (h * 16 + c.toNat / 16) :: encS 2 (c.toNat % 16) r
  | _, h, c :: r => (h * 4 + c.toNat / 64) :: (c.toNat % 64) :: encS 0 0 r

/-- n bits of h wait. -/
def encN (h : Nat) : Nat → List UInt8 → List Nat
  | 12, r => (h / 64) :: (h % 64) :: encS 0 0 r
  | 10, r => (h / 16) :: encS 2 (h % 16) r
  | 8, r => (h / 4) :: encS 1 (h % 4) r
  | 6, r => h :: encS 0 0 r
  | 4, r => encS 2 h r
  | 2, r => encS 1 h r
  | _, r => encS 0 0 r

theorem encN_byte (h n : Nat) (c : UInt8) (r : List UInt8) (hn : n = 0 ∨ n = 2 ∨ n = 4) (hh : h < 2 ^ n) : encN h n (c :: r) = encN (h * 256 + c.toNat) (n + 8) r := by
  have hc : c.toNat < 256 := c.toNat_lt
  rcases hn with rfl | rfl | rfl
  · have h0 : h = 0 := by simp at hh; exact hh
    subst h0
    simp [encN, encS]
  · simp only [encN, encS]
    rw [show (h * 256 + c.toNat) / 16 = h * 16 + c.toNat / 16 from by omega, show (h * 256 + c.toNat) % 16 = c.toNat % 16 from by omega]
  · simp only [encN, encS]
    rw [show (h * 256 + c.toNat) / 64 = h * 4 + c.toNat / 64 from by omega, show (h * 256 + c.toNat) % 64 = c.toNat % 64 from by omega]

theorem encN_digit (h n : Nat) (r : List UInt8) (hn : n = 6 ∨ n = 8 ∨ n = 10 ∨ n = 12) : encN h n r = (h / 2 ^ (n - 6)) :: encN (h % 2 ^ (n - 6)) (n - 6) r := by
  rcases hn with rfl | rfl | rfl | rfl <;> simp [encN]

theorem encN_end (h n : Nat) (hn : n = 2 ∨ n = 4) : encN h n [] = [h * 2 ^ (6 - n)] := by
  rcases hn with rfl | rfl <;> simp [encN, encS]

/-- Three bytes at a time. -/
def b64 : List UInt8 → List Nat
  | [] => []
  | [a] => [a.toNat / 4, a.toNat % 4 * 16]
  | [a, b] => [a.toNat / 4, a.toNat % 4 * 16 + b.toNat / 16, b.toNat % 16 * 4]
  | a :: b :: c :: r => [a.toNat / 4, a.toNat % 4 * 16 + b.toNat / 16, b.toNat % 16 * 4 + c.toNat / 64, c.toNat % 64] ++ b64 r

theorem encS_b64 : ∀ l : List UInt8, encS 0 0 l = b64 l
  | [] => rfl
  | [a] => rfl
  | [a, b] => rfl
  | a :: b :: c :: r => by simp [encS, b64, encS_b64 r]

/-- The text of bytes. -/
def enc (l : List UInt8) : List UInt8 := (b64 l).map dgt

theorem b64_lt : ∀ l : List UInt8, ∀ d ∈ b64 l, d < 64
  | [] => by simp [b64]
  | [a] => by
    have := a.toNat_lt
    simp only [b64, List.mem_cons, List.not_mem_nil, or_false]; rintro d (rfl | rfl) <;> omega
  | [a, b] => by
    have := a.toNat_lt
    have := b.toNat_lt
    simp only [b64, List.mem_cons, List.not_mem_nil, or_false]; rintro d (rfl | rfl | rfl) <;> omega
  | a :: b :: c :: r => by
    have := a.toNat_lt
    have := b.toNat_lt
    have := c.toNat_lt
    have ih := b64_lt r
    simp only [b64, List.cons_append, List.nil_append, List.mem_cons]; rintro d (rfl | rfl | rfl | rfl | h)
    · omega
    · omega
    · omega
    · omega
    · exact ih d h

theorem b64_length : ∀ l : List UInt8, (b64 l).length = (4 * l.length + 2) / 3
  | [] => rfl
  | [a] => by simp [b64]
  | [a, b] => by simp [b64]
  | a :: b :: c :: r => by simp [b64, b64_length r]; omega

theorem b64_append : ∀ (l r : List UInt8), l.length % 3 = 0 → b64 (l ++ r) = b64 l ++ b64 r
  | [], r, _ => by simp [b64]
  | [a], r, h => by simp at h
  | [a, b], r, h => by simp at h
  | a :: b :: c :: l, r, h => by
    have : l.length % 3 = 0 := by simp at h; omega
    simp [b64, b64_append l r this]

theorem enc_length (l : List UInt8) : (enc l).length = (4 * l.length + 2) / 3 := by simp [enc, b64_length]
theorem enc_append (l r : List UInt8) (h : l.length % 3 = 0) : enc (l ++ r) = enc l ++ enc r := by simp [enc, b64_append l r h]
end Go.Proofs.Ytgjpbgmlmjkmcaa
