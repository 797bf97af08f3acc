/- The plain mathematics of decoding unpadded Base64. No program is named here. -/
import Derived.Test.YtgjpbgmlmjkmcaaB64
namespace Go.Proofs.Ytgjpbgmlmjkmcaa
open Go.RowKit

/-- The value of a digit. -/
def dval (c : UInt8) : Option Nat := digitsOf.findIdx? (· == c)
theorem dval_dgt (d : Nat) (h : d < 64) : dval (dgt d) = some d := by
  have : ∀ d : Fin 64, dval (dgt d.val) = some d.val := by decide +kernel
  exact this ⟨d, h⟩
theorem dgt_of_dval (c : UInt8) (d : Nat) (h : dval c = some d) : d < 64 ∧ dgt d = c := by
  have : ∀ c : Fin 256, (dval (UInt8.ofNat c.val)).all (fun d => decide (d < 64) && dgt d == UInt8.ofNat c.val) = true := by decide +kernel
  have hc := this ⟨c.toNat, c.toNat_lt⟩
  have e : UInt8.ofNat c.toNat = c := UInt8.ofNat_toNat
  simpa [e, h] using hc
theorem firstIdx_digits (c : UInt8) : firstIdx digits64 c = match dval c with | some d => (d : Int) | none => -1 := by
  have : ∀ c : Fin 256, firstIdx digits64 (UInt8.ofNat c.val) = match dval (UInt8.ofNat c.val) with | some d => (d : Int) | none => -1 := by decide +kernel
  have hc := this ⟨c.toNat, c.toNat_lt⟩
  have e : UInt8.ofNat c.toNat = c := UInt8.ofNat_toNat
  simpa only [e] using hc

/-- n bits of h wait; the rest is read. -/
def dec (h n : Nat) : List UInt8 → Option (List UInt8)
  | [] => if 6 ≤ n ∨ h ≠ 0 then none else some []
  | c :: r => match dval c with
    | none => none
    | some d => if 8 ≤ n + 6 then (dec ((h * 64 + d) % 2 ^ (n - 2)) (n - 2) r).map (UInt8.ofNat ((h * 64 + d) / 2 ^ (n - 2)) :: ·) else dec (h * 64 + d) (n + 6) r

theorem dec_cons_none (h n : Nat) (c : UInt8) (r : List UInt8) (hc : dval c = none) : dec h n (c :: r) = none := by simp [dec, hc]
theorem dec_cons_far (h n d : Nat) (c : UInt8) (r : List UInt8) (hc : dval c = some d) (hn : 8 ≤ n + 6) :
    dec h n (c :: r) = (dec ((h * 64 + d) % 2 ^ (n - 2)) (n - 2) r).map (UInt8.ofNat ((h * 64 + d) / 2 ^ (n - 2)) :: ·) := by simp only [dec, hc, if_pos hn]
theorem dec_cons_near (h n d : Nat) (c : UInt8) (r : List UInt8) (hc : dval c = some d) (hn : ¬ 8 ≤ n + 6) : dec h n (c :: r) = dec (h * 64 + d) (n + 6) r := by simp only [dec, hc, if_neg hn]

theorem map_dgt_cons (d : Nat) (r : List Nat) : (d :: r).map dgt = dgt d :: r.map dgt := rfl

/-- What is encoded is decoded. -/
theorem dec_enc : ∀ l : List UInt8, dec 0 0 ((b64 l).map dgt) = some l
  | [] => by simp [b64, dec]
  | [a] => by
    have ha := a.toNat_lt
    simp only [b64, map_dgt_cons]
    rw [dec_cons_near 0 0 _ _ _ (dval_dgt _ (by omega)) (by omega), dec_cons_far _ _ _ _ _ (dval_dgt _ (by omega)) (by omega)]
    simp only [List.map_nil, dec]
    rw [if_neg (by omega)]
    rw [show (0 * 64 + a.toNat / 4) * 64 + a.toNat % 4 * 16 = a.toNat * 16 from by omega]
    simp
  | [a, b] => by
    have ha := a.toNat_lt
    have hb := b.toNat_lt
    simp only [b64, map_dgt_cons]
    rw [dec_cons_near 0 0 _ _ _ (dval_dgt _ (by omega)) (by omega), dec_cons_far _ _ _ _ _ (dval_dgt _ (by omega)) (by omega), dec_cons_far _ _ _ _ _ (dval_dgt _ (by omega)) (by omega)]
    simp only [List.map_nil, dec]
    rw [show (0 * 64 + a.toNat / 4) * 64 + (a.toNat % 4 * 16 + b.toNat / 16) = a.toNat * 16 + b.toNat / 16 from by omega]
    rw [show (a.toNat * 16 + b.toNat / 16) % 2 ^ (0 + 6 - 2) = b.toNat / 16 from by omega, show (a.toNat * 16 + b.toNat / 16) / 2 ^ (0 + 6 - 2) = a.toNat from by omega]
    rw [show b.toNat / 16 * 64 + b.toNat % 16 * 4 = b.toNat * 4 from by omega]
    rw [if_neg (by omega)]
    simp
  | a :: b :: c :: r => by
    have ha := a.toNat_lt
    have hb := b.toNat_lt
    have hc := c.toNat_lt
    have ih := dec_enc r
    simp only [b64, List.cons_append, List.nil_append, map_dgt_cons]
    rw [dec_cons_near 0 0 _ _ _ (dval_dgt _ (by omega)) (by omega), dec_cons_far _ _ _ _ _ (dval_dgt _ (by omega)) (by omega), dec_cons_far _ _ _ _ _ (dval_dgt _ (by omega)) (by omega), dec_cons_far _ _ _ _ _ (dval_dgt _ (by omega)) (by omega)]
    rw [show (0 * 64 + a.toNat / 4) * 64 + (a.toNat % 4 * 16 + b.toNat / 16) = a.toNat * 16 + b.toNat / 16 from by omega]
    rw [show (a.toNat * 16 + b.toNat / 16) % 2 ^ (0 + 6 - 2) = b.toNat / 16 from by omega, show (a.toNat * 16 + b.toNat / 16) / 2 ^ (0 + 6 - 2) = a.toNat from by omega]
    rw [show b.toNat / 16 * 64 + (b.toNat % 16 * 4 + c.toNat / 64) = b.toNat * 4 + c.toNat / 64 from by omega]
    rw [show (b.toNat * 4 + c.toNat / 64) % 2 ^ (0 + 6 - 2 - 2) = c.toNat / 64 from by omega, show (b.toNat * 4 + c.toNat / 64) / 2 ^ (0 + 6 - 2 - 2) = b.toNat from by omega]
    rw [show c.toNat / 64 * 64 + c.toNat % 64 = c.toNat from by omega]
    simp only [show 0 + 6 - 2 - 2 - 2 = 0 from rfl, Nat.pow_zero, Nat.mod_one, Nat.div_one, ih]
    simp

/-- What is decoded is the encoding of what comes of it. -/
theorem enc_dec : ∀ (s l : List UInt8), dec 0 0 s = some l → (b64 l).map dgt = s
  | [], l, h => by
    simp [dec] at h; subst h; rfl
  | [c1], l, h => by
    simp only [dec] at h
    split at h
    · cases h
    · simp at h
  | [c1, c2], l, h => by
    cases h1 : dval c1 with
    | none => rw [dec_cons_none _ _ _ _ h1] at h; cases h
    | some d1 =>
      rw [dec_cons_near 0 0 d1 _ _ h1 (by omega)] at h
      cases h2 : dval c2 with
      | none => rw [dec_cons_none _ _ _ _ h2] at h; cases h
      | some d2 =>
        obtain ⟨b1, e1⟩ := dgt_of_dval c1 d1 h1
        obtain ⟨b2, e2⟩ := dgt_of_dval c2 d2 h2
        rw [dec_cons_far _ _ d2 _ _ h2 (by omega)] at h
        simp only [dec] at h
        split at h
        · simp at h
        · rename_i hz
          simp at h
          subst h
          have hm : (d1 * 64 + d2) % 16 = 0 := by
            have : ¬ ((0 * 64 + d1) * 64 + d2) % 2 ^ (0 + 6 - 2) ≠ 0 := fun hh => hz (.inr hh)
            simp at this; omega
          simp only [b64, UInt8.toNat_ofNat', List.map_cons, List.map_nil]
          rw [← e1, ← e2]
          congr 2
          · omega
          · congr 1
            omega
  | [c1, c2, c3], l, h => by
    cases h1 : dval c1 with
    | none => rw [dec_cons_none _ _ _ _ h1] at h; cases h
    | some d1 =>
      rw [dec_cons_near 0 0 d1 _ _ h1 (by omega)] at h
      cases h2 : dval c2 with
      | none => rw [dec_cons_none _ _ _ _ h2] at h; cases h
      | some d2 =>
        rw [dec_cons_far _ _ d2 _ _ h2 (by omega)] at h
        cases h3 : dval c3 with
        | none => rw [dec_cons_none _ _ _ _ h3] at h; cases h
        | some d3 =>
          obtain ⟨b1, e1⟩ := dgt_of_dval c1 d1 h1
          obtain ⟨b2, e2⟩ := dgt_of_dval c2 d2 h2
          obtain ⟨b3, e3⟩ := dgt_of_dval c3 d3 h3
          rw [dec_cons_far _ _ d3 _ _ h3 (by omega)] at h
          simp only [dec] at h
          split at h
          · simp at h
          · rename_i hz
            simp at h
            subst h
            have hm : d3 % 4 = 0 := by
              have : ¬ ((((0 * 64 + d1) * 64 + d2) % 2 ^ (0 + 6 - 2)) * 64 + d3) % 2 ^ (0 + 6 - 2 - 2) ≠ 0 := fun hh => hz (.inr hh)
              simp at this; omega
            simp only [b64, UInt8.toNat_ofNat', List.map_cons, List.map_nil]
            rw [← e1, ← e2, ← e3]
            refine congr (congrArg List.cons ?_) (congr (congrArg List.cons ?_) (congr (congrArg List.cons ?_) rfl)) <;> congr 1 <;> omega
  | c1 :: c2 :: c3 :: c4 :: r, l, h => by
    cases h1 : dval c1 with
    | none => rw [dec_cons_none _ _ _ _ h1] at h; cases h
    | some d1 =>
      rw [dec_cons_near 0 0 d1 _ _ h1 (by omega)] at h
      cases h2 : dval c2 with
      | none => rw [dec_cons_none _ _ _ _ h2] at h; cases h
      | some d2 =>
        rw [dec_cons_far _ _ d2 _ _ h2 (by omega)] at h
        cases h3 : dval c3 with
        | none => rw [dec_cons_none _ _ _ _ h3] at h; cases h
        | some d3 =>
          rw [dec_cons_far _ _ d3 _ _ h3 (by omega)] at h
          cases h4 : dval c4 with
          | none => rw [dec_cons_none _ _ _ _ h4] at h; cases h
          | some d4 =>
            obtain ⟨b1, e1⟩ := dgt_of_dval c1 d1 h1
            obtain ⟨b2, e2⟩ := dgt_of_dval c2 d2 h2
            obtain ⟨b3, e3⟩ := dgt_of_dval c3 d3 h3
            obtain ⟨b4, e4⟩ := dgt_of_dval c4 d4 h4
            rw [dec_cons_far _ _ d4 _ _ h4 (by omega)] at h
            simp only [show 0 + 6 - 2 - 2 - 2 = 0 from rfl, Nat.pow_zero, Nat.mod_one, Nat.div_one] at h
            cases hr : dec 0 0 r with
            | none => rw [hr] at h; simp at h
            | some l' =>
              rw [hr] at h
              simp only [Option.map_some, Option.some.injEq] at h
              subst h
              have ih := enc_dec r l' hr
              simp only [b64, UInt8.toNat_ofNat', List.cons_append, List.nil_append, List.map_cons, ih]
              rw [← e1, ← e2, ← e3, ← e4]
              refine congr (congrArg List.cons ?_) (congr (congrArg List.cons ?_) (congr (congrArg List.cons ?_) (congr (congrArg List.cons ?_) rfl))) <;> congr 1 <;> omega

theorem dec_iff (s l : List UInt8) : dec 0 0 s = some l ↔ enc l = s := ⟨enc_dec s l, fun h => by rw [← h]; exact dec_enc l⟩
theorem enc_inj (l r : List UInt8) (h : enc l = enc r) : l = r := by
  have := dec_enc l
  have h2 := dec_enc r
  unfold enc at h
  rw [h, h2] at this
  injection this with this
  exact this.symm
end Go.Proofs.Ytgjpbgmlmjkmcaa
