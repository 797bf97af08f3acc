/- Joined texts: B64, B64Dec, B64Bits. -/
import Derived.WalkKit
import Derived.Laws.BitsAllLaws
import Derived.Laws.BitsLemmas
/- The plain mathematics of unpadded Base64: the encoder as a machine of three states, the same three bytes at a time, and the way back. No program is named here. -/
namespace Go.Proofs.YtbdbcffnjibjoaaGreatDoor
set_option linter.unusedVariables false
set_option linter.unusedSimpArgs false
open Go.RowKit

/-! ### numbers -/
theorem ofInt64 (a : Nat) (ha : a < 9223372036854775808) : (BitVec.ofInt 64 (a : Int)).toNat = a := by
  rw [BitVec.ofInt_natCast, BitVec.toNat_ofNat]; exact Nat.mod_eq_of_lt (by omega)
theorem and64 (a b : Nat) (ha : a < 9223372036854775808) (hb : b < 9223372036854775808) : bits .and .i64 (a : Int) (b : Int) = ((a &&& b : Nat) : Int) := by
  have hx : a &&& b < 2 ^ 63 := Nat.and_lt_two_pow _ (by omega)
  show IntKind.i64.wrap ((BitVec.ofInt 64 (a : Int) &&& BitVec.ofInt 64 (b : Int)).toNat : Int) = _
  rw [BitVec.toNat_and, ofInt64 a ha, ofInt64 b hb, IntKind.wrap_i64]
  omega
theorem or64 (a b : Nat) (ha : a < 9223372036854775808) (hb : b < 9223372036854775808) : bits .or .i64 (a : Int) (b : Int) = ((a ||| b : Nat) : Int) := by
  have hx : a ||| b < 2 ^ 63 := Nat.or_lt_two_pow (by omega) (by omega)
  show IntKind.i64.wrap ((BitVec.ofInt 64 (a : Int) ||| BitVec.ofInt 64 (b : Int)).toNat : Int) = _
  rw [BitVec.toNat_or, ofInt64 a ha, ofInt64 b hb, IntKind.wrap_i64]
  omega
/-- The lowest k bits. -/
theorem and_low (a k : Nat) (ha : a < 9223372036854775808) (hk : k ≤ 62) : bits .and .i64 (a : Int) ((2 ^ k - 1 : Nat) : Int) = ((a % 2 ^ k : Nat) : Int) := by
  have h : 2 ^ k ≤ 2 ^ 62 := Nat.pow_le_pow_right (by decide) hk
  rw [and64 a _ ha (by omega), Nat.and_two_pow_sub_one_eq_mod]
/-- Two numbers that share no bit. -/
theorem or_low (a b k : Nat) (hb : b < 2 ^ k) (h : a * 2 ^ k + b < 9223372036854775808) : bits .or .i64 ((a * 2 ^ k : Nat) : Int) (b : Int) = ((a * 2 ^ k + b : Nat) : Int) := by
  rw [or64 _ _ (by omega) (by omega), Nat.mul_comm, ← Nat.two_pow_add_eq_or_of_lt hb]

/-! ### the digits -/
def digitsOf : List UInt8 := [65, 66, 67, 68, 69, 70, 71, 72, 73, 74, 75, 76, 77, 78, 79, 80, 81, 82, 83, 84, 85, 86, 87, 88, 89, 90, 97, 98, 99, 100, 101, 102, 103, 104, 105, 106, 107, 108, 109, 110, 111, 112, 113, 114, 115, 116, 117, 118, 119, 120, 121, 122, 48, 49, 50, 51, 52, 53, 54, 55, 56, 57, 43, 47]
def digits64 : ByteArray := ⟨digitsOf.toArray⟩
def dgt (n : Nat) : UInt8 := digitsOf.getD n 0
def dgtV (i : Int) : Int := (dgt i.toNat).toNat
theorem digits64_size : digits64.size = 64 := by decide +kernel

/-! ### encoding -/
/-- s bytes of a group have been read; h: what is left of the last one. -/
def encS : Nat → Nat → List UInt8 → List Nat
  | 0, _, [] => []
  | 1, h, [] => [h * 16]
  | _, h, [] => [h * 4]
  | 0, _, c :: r => (c.toNat / 4) :: encS 1 (c.toNat % 4) r
  | 1, h, c :: r => (h * 16 + c.toNat / 16) :: encS 2 (c.toNat % 16) r
  | _, h, c :: r => (h * 4 + c.toNat / 64) :: (c.toNat % 64) :: encS 0 0 r

/-- n bits of h wait. -/
def encN (h : Nat) : Nat → List UInt8 → List Nat
  | 12, r => (h / 64) :: (h % 64) :: encS 0 0 r
  | 10, r => (h / 16) :: encS 2 (h % 16) r
  | 8, r => (h / 4) :: encS 1 (h % 4) r
  | 6, r => h :: encS 0 0 r
  | 4, r => encS 2 h r
  | 2, r => encS 1 h r
  | _, r => encS 0 0 r

theorem encN_byte (h n : Nat) (c : UInt8) (r : List UInt8) (hn : n = 0 ∨ n = 2 ∨ n = 4) (hh : h < 2 ^ n) : encN h n (c :: r) = encN (h * 256 + c.toNat) (n + 8) r := by
  have hc : c.toNat < 256 := c.toNat_lt
  rcases hn with rfl | rfl | rfl
  · have h0 : h = 0 := by simp at hh; exact hh
    subst h0
    simp [encN, encS]
  · simp only [encN, encS]
    rw [show (h * 256 + c.toNat) / 16 = h * 16 + c.toNat / 16 from by omega, show (h * 256 + c.toNat) % 16 = c.toNat % 16 from by omega]
  · simp only [encN, encS]
    rw [show (h * 256 + c.toNat) / 64 = h * 4 + c.toNat / 64 from by omega, show (h * 256 + c.toNat) % 64 = c.toNat % 64 from by omega]

theorem encN_digit (h n : Nat) (r : List UInt8) (hn : n = 6 ∨ n = 8 ∨ n = 10 ∨ n = 12) : encN h n r = (h / 2 ^ (n - 6)) :: encN (h % 2 ^ (n - 6)) (n - 6) r := by
  rcases hn with rfl | rfl | rfl | rfl <;> simp [encN]

theorem encN_end (h n : Nat) (hn : n = 2 ∨ n = 4) : encN h n [] = [h * 2 ^ (6 - n)] := by
  rcases hn with rfl | rfl <;> simp [encN, encS]

/-- Three bytes at a time. -/
def b64 : List UInt8 → List Nat
  | [] => []
  | [a] => [a.toNat / 4, a.toNat % 4 * 16]
  | [a, b] => [a.toNat / 4, a.toNat % 4 * 16 + b.toNat / 16, b.toNat % 16 * 4]
  | a :: b :: c :: r => [a.toNat / 4, a.toNat % 4 * 16 + b.toNat / 16, b.toNat % 16 * 4 + c.toNat / 64, c.toNat % 64] ++ b64 r

theorem encS_b64 : ∀ l : List UInt8, encS 0 0 l = b64 l
  | [] => rfl
  | [a] => rfl
  | [a, b] => rfl
  | a :: b :: c :: r => by simp [encS, b64, encS_b64 r]

/-- The text of bytes. -/
def enc (l : List UInt8) : List UInt8 := (b64 l).map dgt

theorem b64_lt : ∀ l : List UInt8, ∀ d ∈ b64 l, d < 64
  | [] => by simp [b64]
  | [a] => by
    have := a.toNat_lt
    simp only [b64, List.mem_cons, List.not_mem_nil, or_false]; rintro d (rfl | rfl) <;> omega
  | [a, b] => by
    have := a.toNat_lt
    have := b.toNat_lt
    simp only [b64, List.mem_cons, List.not_mem_nil, or_false]; rintro d (rfl | rfl | rfl) <;> omega
  | a :: b :: c :: r => by
    have := a.toNat_lt
    have := b.toNat_lt
    have := c.toNat_lt
    have ih := b64_lt r
    simp only [b64, List.cons_append, List.nil_append, List.mem_cons]; rintro d (rfl | rfl | rfl | rfl | h)
    · omega
    · omega
    · omega
    · omega
    · exact ih d h

theorem b64_length : ∀ l : List UInt8, (b64 l).length = (4 * l.length + 2) / 3
  | [] => rfl
  | [a] => by simp [b64]
  | [a, b] => by simp [b64]
  | a :: b :: c :: r => by simp [b64, b64_length r]; omega

theorem b64_append : ∀ (l r : List UInt8), l.length % 3 = 0 → b64 (l ++ r) = b64 l ++ b64 r
  | [], r, _ => by simp [b64]
  | [a], r, h => by simp at h
  | [a, b], r, h => by simp at h
  | a :: b :: c :: l, r, h => by
    have : l.length % 3 = 0 := by simp at h; omega
    simp [b64, b64_append l r this]

theorem enc_length (l : List UInt8) : (enc l).length = (4 * l.length + 2) / 3 := by simp [enc, b64_length]
theorem enc_append (l r : List UInt8) (h : l.length % 3 = 0) : enc (l ++ r) = enc l ++ enc r := by simp [enc, b64_append l r h]
end Go.Proofs.YtbdbcffnjibjoaaGreatDoor

/- The plain mathematics of decoding unpadded Base64. No program is named here. -/
namespace Go.Proofs.YtbdbcffnjibjoaaGreatDoor
set_option linter.unusedVariables false
set_option linter.unusedSimpArgs false
open Go.RowKit

/-- The value of a digit. -/
def dval (c : UInt8) : Option Nat := digitsOf.findIdx? (· == c)
theorem dval_dgt (d : Nat) (h : d < 64) : dval (dgt d) = some d := by
  have : ∀ d : Fin 64, dval (dgt d.val) = some d.val := by decide +kernel
  exact this ⟨d, h⟩
theorem dgt_of_dval (c : UInt8) (d : Nat) (h : dval c = some d) : d < 64 ∧ dgt d = c := by
  have : ∀ c : Fin 256, (dval (UInt8.ofNat c.val)).all (fun d => decide (d < 64) && dgt d == UInt8.ofNat c.val) = true := by decide +kernel
  have hc := this ⟨c.toNat, c.toNat_lt⟩
  have e : UInt8.ofNat c.toNat = c := UInt8.ofNat_toNat
  simpa [e, h] using hc
theorem firstIdx_digits (c : UInt8) : firstIdx digits64 c = match dval c with | some d => (d : Int) | none => -1 := by
  have : ∀ c : Fin 256, firstIdx digits64 (UInt8.ofNat c.val) = match dval (UInt8.ofNat c.val) with | some d => (d : Int) | none => -1 := by decide +kernel
  have hc := this ⟨c.toNat, c.toNat_lt⟩
  have e : UInt8.ofNat c.toNat = c := UInt8.ofNat_toNat
  simpa only [e] using hc

/-- n bits of h wait; the rest is read. -/
def dec (h n : Nat) : List UInt8 → Option (List UInt8)
  | [] => if 6 ≤ n ∨ h ≠ 0 then none else some []
  | c :: r => match dval c with
    | none => none
    | some d => if 8 ≤ n + 6 then (dec ((h * 64 + d) % 2 ^ (n - 2)) (n - 2) r).map (UInt8.ofNat ((h * 64 + d) / 2 ^ (n - 2)) :: ·) else dec (h * 64 + d) (n + 6) r

theorem dec_cons_none (h n : Nat) (c : UInt8) (r : List UInt8) (hc : dval c = none) : dec h n (c :: r) = none := by simp [dec, hc]
theorem dec_cons_far (h n d : Nat) (c : UInt8) (r : List UInt8) (hc : dval c = some d) (hn : 8 ≤ n + 6) :
    dec h n (c :: r) = (dec ((h * 64 + d) % 2 ^ (n - 2)) (n - 2) r).map (UInt8.ofNat ((h * 64 + d) / 2 ^ (n - 2)) :: ·) := by simp only [dec, hc, if_pos hn]
theorem dec_cons_near (h n d : Nat) (c : UInt8) (r : List UInt8) (hc : dval c = some d) (hn : ¬ 8 ≤ n + 6) : dec h n (c :: r) = dec (h * 64 + d) (n + 6) r := by simp only [dec, hc, if_neg hn]

theorem map_dgt_cons (d : Nat) (r : List Nat) : (d :: r).map dgt = dgt d :: r.map dgt := rfl

/-- What is encoded is decoded. -/
theorem dec_enc : ∀ l : List UInt8, dec 0 0 ((b64 l).map dgt) = some l
  | [] => by simp [b64, dec]
  | [a] => by
    have ha := a.toNat_lt
    simp only [b64, map_dgt_cons]
    rw [dec_cons_near 0 0 _ _ _ (dval_dgt _ (by omega)) (by omega), dec_cons_far _ _ _ _ _ (dval_dgt _ (by omega)) (by omega)]
    simp only [List.map_nil, dec]
    rw [if_neg (by omega)]
    rw [show (0 * 64 + a.toNat / 4) * 64 + a.toNat % 4 * 16 = a.toNat * 16 from by omega]
    simp
  | [a, b] => by
    have ha := a.toNat_lt
    have hb := b.toNat_lt
    simp only [b64, map_dgt_cons]
    rw [dec_cons_near 0 0 _ _ _ (dval_dgt _ (by omega)) (by omega), dec_cons_far _ _ _ _ _ (dval_dgt _ (by omega)) (by omega), dec_cons_far _ _ _ _ _ (dval_dgt _ (by omega)) (by omega)]
    simp only [List.map_nil, dec]
    rw [show (0 * 64 + a.toNat / 4) * 64 + (a.toNat % 4 * 16 + b.toNat / 16) = a.toNat * 16 + b.toNat / 16 from by omega]
    rw [show (a.toNat * 16 + b.toNat / 16) % 2 ^ (0 + 6 - 2) = b.toNat / 16 from by omega, show (a.toNat * 16 + b.toNat / 16) / 2 ^ (0 + 6 - 2) = a.toNat from by omega]
    rw [show b.toNat / 16 * 64 + b.toNat % 16 * 4 = b.toNat * 4 from by omega]
    rw [if_neg (by omega)]
    simp
  | a :: b :: c :: r => by
    have ha := a.toNat_lt
    have hb := b.toNat_lt
    have hc := c.toNat_lt
    have ih := dec_enc r
    simp only [b64, List.cons_append, List.nil_append, map_dgt_cons]
    rw [dec_cons_near 0 0 _ _ _ (dval_dgt _ (by omega)) (by omega), dec_cons_far _ _ _ _ _ (dval_dgt _ (by omega)) (by omega), dec_cons_far _ _ _ _ _ (dval_dgt _ (by omega)) (by omega), dec_cons_far _ _ _ _ _ (dval_dgt _ (by omega)) (by omega)]
    rw [show (0 * 64 + a.toNat / 4) * 64 + (a.toNat % 4 * 16 + b.toNat / 16) = a.toNat * 16 + b.toNat / 16 from by omega]
    rw [show (a.toNat * 16 + b.toNat / 16) % 2 ^ (0 + 6 - 2) = b.toNat / 16 from by omega, show (a.toNat * 16 + b.toNat / 16) / 2 ^ (0 + 6 - 2) = a.toNat from by omega]
    rw [show b.toNat / 16 * 64 + (b.toNat % 16 * 4 + c.toNat / 64) = b.toNat * 4 + c.toNat / 64 from by omega]
    rw [show (b.toNat * 4 + c.toNat / 64) % 2 ^ (0 + 6 - 2 - 2) = c.toNat / 64 from by omega, show (b.toNat * 4 + c.toNat / 64) / 2 ^ (0 + 6 - 2 - 2) = b.toNat from by omega]
    rw [show c.toNat / 64 * 64 + c.toNat % 64 = c.toNat from by omega]
    simp only [show 0 + 6 - 2 - 2 - 2 = 0 from rfl, Nat.pow_zero, Nat.mod_one, Nat.div_one, ih]
    simp

/-- What is decoded is the encoding of what comes of it. -/
theorem enc_dec : ∀ (s l : List UInt8), dec 0 0 s = some l → (b64 l).map dgt = s
  | [], l, h => by
    simp [dec] at h; subst h; rfl
  | [c1], l, h => by
    simp only [dec] at h
    split at h
    · cases h
    · simp at h
  | [c1, c2], l, h => by
    cases h1 : dval c1 with
    | none => rw [dec_cons_none _ _ _ _ h1] at h; cases h
    | some d1 =>
      rw [dec_cons_near 0 0 d1 _ _ h1 (by omega)] at h
      cases h2 : dval c2 with
      | none => rw [dec_cons_none _ _ _ _ h2] at h; cases h
      | some d2 =>
        obtain ⟨b1, e1⟩ := dgt_of_dval c1 d1 h1
        obtain ⟨b2, e2⟩ := dgt_of_dval c2 d2 h2
        rw [dec_cons_far _ _ d2 _ _ h2 (by omega)] at h
        simp only [dec] at h
        split at h
        · simp at h
        · rename_i hz
          simp at h
          subst h
          have hm : (d1 * 64 + d2) % 16 = 0 := by
            have : ¬ ((0 * 64 + d1) * 64 + d2) % 2 ^ (0 + 6 - 2) ≠ 0 := fun hh => hz (.inr hh)
            simp at this; omega
          simp only [b64, UInt8.toNat_ofNat', List.map_cons, List.map_nil]
          rw [← e1, ← e2]
          congr 2
          · omega
          · congr 1
            omega
  | [c1, c2, c3], l, h => by
    cases h1 : dval c1 with
    | none => rw [dec_cons_none _ _ _ _ h1] at h; cases h
    | some d1 =>
      rw [dec_cons_near 0 0 d1 _ _ h1 (by omega)] at h
      cases h2 : dval c2 with
      | none => rw [dec_cons_none _ _ _ _ h2] at h; cases h
      | some d2 =>
        rw [dec_cons_far _ _ d2 _ _ h2 (by omega)] at h
        cases h3 : dval c3 with
        | none => rw [dec_cons_none _ _ _ _ h3] at h; cases h
        | some d3 =>
          obtain ⟨b1, e1⟩ := dgt_of_dval c1 d1 h1
          obtain ⟨b2, e2⟩ := dgt_of_dval c2 d2 h2
          obtain ⟨b3, e3⟩ := dgt_of_dval c3 d3 h3
          rw [dec_cons_far _ _ d3 _ _ h3 (by omega)] at h
          simp only [dec] at h
          split at h
          · simp at h
          · rename_i hz
            simp at h
            subst h
            have hm : d3 % 4 = 0 := by
              have : ¬ ((((0 * 64 + d1) * 64 + d2) % 2 ^ (0 + 6 - 2)) * 64 + d3) % 2 ^ (0 + 6 - 2 - 2) ≠ 0 := fun hh => hz (.inr hh)
              simp at this; omega
            simp only [b64, UInt8.toNat_ofNat', List.map_cons, List.map_nil]
            rw [← e1, ← e2, ← e3]
            refine congr (congrArg List.cons ?_) (congr (congrArg List.cons ?_) (congr (congrArg List.cons ?_) rfl)) <;> congr 1 <;> omega
  | c1 :: c2 :: c3 :: c4 :: r, l, h => by
    cases h1 : dval c1 with
    | none => rw [dec_cons_none _ _ _ _ h1] at h; cases h
    | some d1 =>
      rw [dec_cons_near 0 0 d1 _ _ h1 (by omega)] at h
      cases h2 : dval c2 with
      | none => rw [dec_cons_none _ _ _ _ h2] at h; cases h
      | some d2 =>
        rw [dec_cons_far _ _ d2 _ _ h2 (by omega)] at h
        cases h3 : dval c3 with
        | none => rw [dec_cons_none _ _ _ _ h3] at h; cases h
        | some d3 =>
          rw [dec_cons_far _ _ d3 _ _ h3 (by omega)] at h
          cases h4 : dval c4 with
          | none => rw [dec_cons_none _ _ _ _ h4] at h; cases h
          | some d4 =>
            obtain ⟨b1, e1⟩ := dgt_of_dval c1 d1 h1
            obtain ⟨b2, e2⟩ := dgt_of_dval c2 d2 h2
            obtain ⟨b3, e3⟩ := dgt_of_dval c3 d3 h3
            obtain ⟨b4, e4⟩ := dgt_of_dval c4 d4 h4
            rw [dec_cons_far _ _ d4 _ _ h4 (by omega)] at h
            simp only [show 0 + 6 - 2 - 2 - 2 = 0 from rfl, Nat.pow_zero, Nat.mod_one, Nat.div_one] at h
            cases hr : dec 0 0 r with
            | none => rw [hr] at h; simp at h
            | some l' =>
              rw [hr] at h
              simp only [Option.map_some, Option.some.injEq] at h
              subst h
              have ih := enc_dec r l' hr
              simp only [b64, UInt8.toNat_ofNat', List.cons_append, List.nil_append, List.map_cons, ih]
              rw [← e1, ← e2, ← e3, ← e4]
              refine congr (congrArg List.cons ?_) (congr (congrArg List.cons ?_) (congr (congrArg List.cons ?_) (congr (congrArg List.cons ?_) rfl))) <;> congr 1 <;> omega

theorem dec_iff (s l : List UInt8) : dec 0 0 s = some l ↔ enc l = s := ⟨enc_dec s l, fun h => by rw [← h]; exact dec_enc l⟩
theorem enc_inj (l r : List UInt8) (h : enc l = enc r) : l = r := by
  have := dec_enc l
  have h2 := dec_enc r
  unfold enc at h
  rw [h, h2] at this
  injection this with this
  exact this.symm
end Go.Proofs.YtbdbcffnjibjoaaGreatDoor

/- The plain mathematics of decoding by bits. No program is named here. -/
namespace Go.Proofs.YtbdbcffnjibjoaaGreatDoor
set_option linter.unusedVariables false
set_option linter.unusedSimpArgs false
open Go.RowKit

def bits6 (d : Nat) : List Nat := [d / 32 % 2, d / 16 % 2, d / 8 % 2, d / 4 % 2, d / 2 % 2, d % 2]
def bitsOf (ds : List Nat) : List Nat := ds.flatMap bits6
def val8 (bs : List Nat) : Nat := bs.foldl (fun n b => 2 * n + b) 0
def chunk8 : List Nat → List Nat
  | b0 :: b1 :: b2 :: b3 :: b4 :: b5 :: b6 :: b7 :: r => val8 [b0, b1, b2, b3, b4, b5, b6, b7] :: chunk8 r
  | _ => []

theorem chunk8_step (l : List Nat) (h : 8 ≤ l.length) : chunk8 l = val8 (l.take 8) :: chunk8 (l.drop 8) := by
  match l, h with
  | b0 :: b1 :: b2 :: b3 :: b4 :: b5 :: b6 :: b7 :: r, _ => rfl
theorem chunk8_end (l : List Nat) (h : l.length < 8) : chunk8 l = [] := by
  match l, h with
  | [], _ | [_], _ | [_, _], _ | [_, _, _], _ | [_, _, _, _], _ | [_, _, _, _, _], _ | [_, _, _, _, _, _], _ | [_, _, _, _, _, _, _], _ => rfl
  | _ :: _ :: _ :: _ :: _ :: _ :: _ :: _ :: _, h => simp at h; omega
theorem bits6_lt (d : Nat) : ∀ b ∈ bits6 d, b < 2 := by
  simp only [bits6, List.mem_cons, List.not_mem_nil, or_false]
  rintro b (rfl | rfl | rfl | rfl | rfl | rfl) <;> omega
theorem bitsOf_lt (ds : List Nat) : ∀ b ∈ bitsOf ds, b < 2 := by
  intro b hb
  obtain ⟨d, _, h⟩ := List.mem_flatMap.1 hb
  exact bits6_lt d b h
theorem bitsOf_length (ds : List Nat) : (bitsOf ds).length = 6 * ds.length := by
  induction ds with
  | nil => rfl
  | cons d r ih =>
    have : bitsOf (d :: r) = bits6 d ++ bitsOf r := rfl
    rw [this, List.length_append, ih]
    simp [bits6]; omega
theorem bitsOf_snoc (ds : List Nat) (d : Nat) : bitsOf (ds ++ [d]) = bitsOf ds ++ bits6 d := by simp [bitsOf, List.flatMap_append]
theorem foldl_bits (bs : List Nat) : ∀ n, bs.foldl (fun n b => 2 * n + b) n = n * 2 ^ bs.length + val8 bs := by
  induction bs with
  | nil => intro n; simp [val8]
  | cons b r ih =>
    intro n
    have e : val8 (b :: r) = b * 2 ^ r.length + val8 r := by unfold val8; rw [List.foldl_cons, ih]; simp [val8]
    rw [List.foldl_cons, ih, e, List.length_cons, Nat.pow_succ, Nat.add_mul, Nat.add_assoc]
    congr 1
    rw [Nat.mul_comm 2 n, Nat.mul_assoc, Nat.mul_comm 2 (2 ^ r.length)]
theorem val8_lt (bs : List Nat) (h : ∀ b ∈ bs, b < 2) : val8 bs < 2 ^ bs.length := by
  induction bs with
  | nil => simp [val8]
  | cons b r ih =>
    have e : val8 (b :: r) = b * 2 ^ r.length + val8 r := by unfold val8; rw [List.foldl_cons, foldl_bits]; simp [val8]
    have h1 := h b (by simp)
    have h2 := ih fun x hx => h x (by simp [hx])
    rw [e, List.length_cons, Nat.pow_succ]
    have : b * 2 ^ r.length ≤ 1 * 2 ^ r.length := Nat.mul_le_mul_right _ (by omega)
    omega
theorem val8_snoc (bs : List Nat) (b : Nat) : val8 (bs ++ [b]) = 2 * val8 bs + b := by simp [val8]

theorem v6 (d : Nat) (h : d < 64) : d / 32 % 2 * 32 + d / 16 % 2 * 16 + d / 8 % 2 * 8 + d / 4 % 2 * 4 + d / 2 % 2 * 2 + d % 2 = d := by
  have : ∀ d : Fin 64, d.val / 32 % 2 * 32 + d.val / 16 % 2 * 16 + d.val / 8 % 2 * 8 + d.val / 4 % 2 * 4 + d.val / 2 % 2 * 2 + d.val % 2 = d.val := by decide +kernel
  exact this ⟨d, h⟩
theorem v8 (b0 b1 b2 b3 b4 b5 b6 b7 : Nat) : val8 [b0, b1, b2, b3, b4, b5, b6, b7] = b0 * 128 + b1 * 64 + b2 * 32 + b3 * 16 + b4 * 8 + b5 * 4 + b6 * 2 + b7 := by
  simp only [val8, List.foldl_cons, List.foldl_nil]; omega
/-- Four digits are three bytes. -/
theorem chunk_four (d e f g : Nat) (hd : d < 64) (he : e < 64) (hf : f < 64) (hg : g < 64) (r : List Nat) :
    chunk8 (bits6 d ++ bits6 e ++ bits6 f ++ bits6 g ++ r) = (d * 4 + e / 16) :: (e % 16 * 16 + f / 4) :: (f % 4 * 64 + g) :: chunk8 r := by
  have h1 := v6 d hd
  have h2 := v6 e he
  have h3 := v6 f hf
  have h4 := v6 g hg
  have e1 : e / 16 = e / 32 % 2 * 2 + e / 16 % 2 := by omega
  have e2 : e % 16 = e / 8 % 2 * 8 + e / 4 % 2 * 4 + e / 2 % 2 * 2 + e % 2 := by omega
  have e3 : f / 4 = f / 32 % 2 * 8 + f / 16 % 2 * 4 + f / 8 % 2 * 2 + f / 4 % 2 := by omega
  have e4 : f % 4 = f / 2 % 2 * 2 + f % 2 := by omega
  simp only [bits6, List.cons_append, List.nil_append, chunk8, v8]
  refine congr (congrArg List.cons ?_) (congr (congrArg List.cons ?_) (congr (congrArg List.cons ?_) rfl))
  · omega
  · omega
  · omega
theorem chunk_b64 : ∀ l : List UInt8, chunk8 (bitsOf (b64 l)) = l.map UInt8.toNat
  | [] => rfl
  | [a] => by
    have ha := a.toNat_lt
    have h1 := v6 (a.toNat / 4) (by omega)
    simp only [b64, bitsOf, List.flatMap_cons, List.flatMap_nil, bits6, List.cons_append, List.nil_append, chunk8, List.map_cons, List.map_nil, v8]
    congr 1
    have e1 : a.toNat % 4 * 16 / 32 % 2 = a.toNat / 2 % 2 := by omega
    have e2 : a.toNat % 4 * 16 / 16 % 2 = a.toNat % 2 := by omega
    omega
  | [a, b] => by
    have ha := a.toNat_lt
    have hb := b.toNat_lt
    have h := chunk_four (a.toNat / 4) (a.toNat % 4 * 16 + b.toNat / 16) (b.toNat % 16 * 4) 0 (by omega) (by omega) (by omega) (by omega) []
    have e : bitsOf (b64 [a, b]) = bits6 (a.toNat / 4) ++ bits6 (a.toNat % 4 * 16 + b.toNat / 16) ++ bits6 (b.toNat % 16 * 4) := by simp [b64, bitsOf]
    rw [e]
    have h2 : chunk8 (bits6 (a.toNat / 4) ++ bits6 (a.toNat % 4 * 16 + b.toNat / 16) ++ bits6 (b.toNat % 16 * 4)) =
        (chunk8 (bits6 (a.toNat / 4) ++ bits6 (a.toNat % 4 * 16 + b.toNat / 16) ++ bits6 (b.toNat % 16 * 4) ++ bits6 0 ++ [])).take 2 := by
      simp only [bits6, List.cons_append, List.nil_append, chunk8]
      rfl
    rw [h2, h]
    simp only [List.take_succ_cons, List.take_zero, List.map_cons, List.map_nil]
    refine congr (congrArg List.cons ?_) (congr (congrArg List.cons ?_) rfl) <;> omega
  | a :: b :: c :: r => by
    have ha := a.toNat_lt
    have hb := b.toNat_lt
    have hc := c.toNat_lt
    have ih := chunk_b64 r
    have e : bitsOf (b64 (a :: b :: c :: r)) = bits6 (a.toNat / 4) ++ bits6 (a.toNat % 4 * 16 + b.toNat / 16) ++ bits6 (b.toNat % 16 * 4 + c.toNat / 64) ++ bits6 (c.toNat % 64) ++ bitsOf (b64 r) := by
      simp [b64, bitsOf]
    rw [e, chunk_four _ _ _ _ (by omega) (by omega) (by omega) (by omega), ih]
    simp only [List.map_cons]
    refine congr (congrArg List.cons ?_) (congr (congrArg List.cons ?_) (congr (congrArg List.cons ?_) rfl)) <;> omega

theorem dec_none_at : ∀ (s : List UInt8) (h n k : Nat) (hk : k < s.length), dval s[k] = none → dec h n s = none
  | c :: r, h, n, 0, hk, hd => dec_cons_none h n c r hd
  | c :: r, h, n, k + 1, hk, hd => by
    cases hc : dval c with
    | none => exact dec_cons_none h n c r hc
    | some d =>
      have ih := fun h' n' => dec_none_at r h' n' k (by simpa using hk) (by simpa using hd)
      by_cases h8 : 8 ≤ n + 6
      · rw [dec_cons_far h n d c r hc h8, ih]; rfl
      · rw [dec_cons_near h n d c r hc h8, ih]

theorem map_dgt_inj : ∀ (ds es : List Nat), (∀ d ∈ ds, d < 64) → (∀ d ∈ es, d < 64) → ds.map dgt = es.map dgt → ds = es
  | [], [], _, _, _ => rfl
  | [], _ :: _, _, _, h => by simp at h
  | _ :: _, [], _, _, h => by simp at h
  | d :: ds, e :: es, h1, h2, h => by
    simp only [List.map_cons, List.cons.injEq] at h
    have a := dval_dgt d (h1 d (by simp))
    have b := dval_dgt e (h2 e (by simp))
    rw [h.1, b] at a
    injection a with a
    rw [a, map_dgt_inj ds es (fun x hx => h1 x (by simp [hx])) (fun x hx => h2 x (by simp [hx])) h.2]

/-- What the bits come to is what is decoded, or its encoding is another text. -/
theorem dec_bits (s : List UInt8) (ds : List Nat) (hd : ∀ d ∈ ds, d < 64) (hs : ds.map dgt = s) (out : List UInt8) (ho : out = (chunk8 (bitsOf ds)).map UInt8.ofNat) :
    (enc out = s → dec 0 0 s = some out) ∧ (enc out ≠ s → dec 0 0 s = none) := by
  refine ⟨fun h => (dec_iff s out).2 h, fun h => ?_⟩
  cases hl : dec 0 0 s with
  | none => rfl
  | some l =>
    exfalso
    have he := (dec_iff s l).1 hl
    have e1 : ds = b64 l := map_dgt_inj ds (b64 l) hd (b64_lt l) (by rw [hs, ← he]; rfl)
    rw [e1, chunk_b64] at ho
    have : out = l := by rw [ho]; simp [Function.comp_def]
    rw [this] at h
    exact h he

/-- The place among the first j digits, or -1. -/
def fnd (c : UInt8) (j : Nat) : Int := match dval c with | some d => if d < j then (d : Int) else -1 | none => -1
theorem fnd_hit (c : UInt8) (j : Nat) (hj : j < 64) (h : dgt j = c) : fnd c (j + 1) = j := by
  have := dval_dgt j hj
  rw [h] at this
  simp only [fnd, this, if_pos (Nat.lt_succ_self j)]
theorem fnd_miss (c : UInt8) (j : Nat) (h : dgt j ≠ c) : fnd c (j + 1) = fnd c j := by
  unfold fnd
  cases hc : dval c with
  | none => rfl
  | some d =>
    have := dgt_of_dval c d hc
    have hne : d ≠ j := fun e => h (by rw [← e]; exact this.2)
    simp only
    by_cases hd : d < j
    · rw [if_pos hd, if_pos (by omega)]
    · rw [if_neg hd, if_neg (by omega)]
theorem fnd_none (c : UInt8) (h : dval c = none) (j : Nat) : fnd c j = -1 := by simp only [fnd, h]
theorem fnd_some (c : UInt8) (d : Nat) (h : dval c = some d) : fnd c 64 = d := by simp only [fnd, h, if_pos (dgt_of_dval c d h).1]
end Go.Proofs.YtbdbcffnjibjoaaGreatDoor
