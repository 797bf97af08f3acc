/- Package wal: the first frame, test by test. -/
import Derived.Test.YtbdbcffnjibjoaaWlM
namespace Go.Proofs.Ytbdbcffnjibjoaa
set_option linter.unusedVariables false
set_option linter.unusedSimpArgs false
open Go.RowKit
theorem ff_no1 {x f : UInt8} {rest : List UInt8} (h : ¬ (1 ≤ x.toNat ∧ x.toNat ≤ 60)) : ff (x :: f :: rest) = none := by
  simp only [ff]; rw [if_neg]; rintro ⟨h1, h2, _⟩; exact h ⟨h1, h2⟩
theorem ff_no2 {x f : UInt8} {rest : List UInt8} (h : 1 < f.toNat) : ff (x :: f :: rest) = none := by
  simp only [ff]; rw [if_neg]; rintro ⟨_, _, h1, _⟩; omega
theorem ff_no3 {x f : UInt8} {rest : List UInt8} (h : rest.length < x.toNat + 2) : ff (x :: f :: rest) = none := by
  simp only [ff]; rw [if_neg]; rintro ⟨_, _, _, h1, _⟩; omega
theorem ff_no0 {b : List UInt8} (h : b.length < 5) : ff b = none := by
  match b, h with
  | [], _ => rfl
  | [x], _ => rfl
  | x :: f :: rest, h =>
    simp only [ff]; rw [if_neg]; rintro ⟨h1, _, _, h2, _⟩; simp at h; omega
theorem two_of (l : List UInt8) (n : Nat) (h : n + 2 ≤ l.length) : (l.drop n).take 2 = [l[n]'(by omega), l[n + 1]'(by omega)] := by
  rw [List.drop_eq_getElem_cons (show n < l.length by omega), List.drop_eq_getElem_cons (show n + 1 < l.length by omega)]
  rfl
theorem u8_is {a : UInt8} {n : Nat} (hn : n < 251) : a = UInt8.ofNat n ↔ a.toNat = n := by
  constructor
  · intro h; rw [h, UInt8.toNat_ofNat', Nat.mod_eq_of_lt (by omega)]
  · exact u8_ofNat
theorem ff_sum {x f : UInt8} {rest : List UInt8} (h1 : 1 ≤ x.toNat) (h2 : x.toNat ≤ 60) (h3 : f.toNat ≤ 1) (h4 : x.toNat + 2 ≤ rest.length) :
    ff (x :: f :: rest) = if (sums (x :: f :: rest.take x.toNat)).1 = (rest[x.toNat]'(by omega)).toNat ∧ (sums (x :: f :: rest.take x.toNat)).2 = (rest[x.toNat + 1]'(by omega)).toNat then some (rest.take x.toNat, f.toNat == 1, rest.drop (x.toNat + 2)) else none := by
  have hs := sums_lt (x :: f :: rest.take x.toNat)
  simp only [ff, two_of rest x.toNat h4]
  by_cases hc : (sums (x :: f :: rest.take x.toNat)).1 = (rest[x.toNat]'(by omega)).toNat ∧ (sums (x :: f :: rest.take x.toNat)).2 = (rest[x.toNat + 1]'(by omega)).toNat
  · rw [if_pos hc, if_pos]
    refine ⟨h1, h2, h3, h4, ?_⟩
    rw [(u8_is hs.1).2 hc.1.symm, (u8_is hs.2).2 hc.2.symm]
  · rw [if_neg hc, if_neg]
    rintro ⟨_, _, _, _, h⟩
    injection h with e1 h
    injection h with e2 _
    exact hc ⟨((u8_is hs.1).1 e1).symm, ((u8_is hs.2).1 e2).symm⟩
end Go.Proofs.Ytbdbcffnjibjoaa
