/- The plain mathematics of decoding by bits. No program is named here. -/
import Derived.Test.YtgjpbgmlmjkmcaaB64Dec
namespace Go.Proofs.Ytgjpbgmlmjkmcaa
open Go.RowKit

def bits6 (d : Nat) : List Nat := [d / 32 % 2, d / 16 % 2, d / 8 % 2, d / 4 % 2, d / 2 % 2, d % 2]
def bitsOf (ds : List Nat) : List Nat := ds.flatMap bits6
def val8 (bs : List Nat) : Nat := bs.foldl (fun n b => 2 * n + b) 0
def chunk8 : List Nat → List Nat
  | b0 :: b1 :: b2 :: b3 :: b4 :: b5 :: b6 :: b7 :: r => val8 [b0, b1, b2, b3, b4, b5, b6, b7] :: chunk8 r
  | _ => []

theorem chunk8_step (l : List Nat) (h : 8 ≤ l.length) : chunk8 l = val8 (l.take 8) :: chunk8 (l.drop 8) := by
  match l, h with
  | b0 :: b1 :: b2 :: b3 :: b4 :: b5 :: b6 :: b7 :: r, _ => rfl
theorem chunk8_end (l : List Nat) (h : l.length < 8) : chunk8 l = [] := by
  match l, h with
  | [], _ | [_], _ | [_, _], _ | [_, _, _], _ | [_, _, _, _], _ | [_, _, _, _, _], _ | [_, _, _, _, _, _], _ | [_, _, _, _, _, _, _], _ => rfl
  | _ :: _ :: _ :: _ :: _ :: _ :: _ :: _ :: _, h => simp at h; omega
theorem bits6_lt (d : Nat) : ∀ b ∈ bits6 d, b < 2 := by
  simp only [bits6, List.mem_cons, List.not_mem_nil, or_false]
  rintro b (rfl | rfl | rfl | rfl | rfl | rfl) <;> omega
theorem bitsOf_lt (ds : List Nat) : ∀ b ∈ bitsOf ds, b < 2 := by
  intro b hb
  obtain ⟨d, _, h⟩ := List.mem_flatMap.1 hb
  exact bits6_lt d b h
theorem bitsOf_length (ds : List Nat) : (bitsOf ds).length = 6 * ds.length := by
  induction ds with
  | nil => rfl
  | cons d r ih =>
    have : bitsOf (d :: r) = bits6 d ++ bitsOf r := rfl
    rw [this, List.length_append, ih]
    simp [bits6]; omega
theorem bitsOf_snoc (ds : List Nat) (d : Nat) : bitsOf (ds ++ [d]) = bitsOf ds ++ bits6 d := by simp [bitsOf, List.flatMap_append]
theorem foldl_bits (bs : List Nat) : ∀ n, bs.foldl (fun n b => 2 * n + b) n = n * 2 ^ bs.length + val8 bs := by
  induction bs with
  | nil => intro n; simp [val8]
  | cons b r ih =>
    intro n
    have e : val8 (b :: r) = b * 2 ^ r.length + val8 r := by unfold val8; rw [List.foldl_cons, ih]; simp [val8]
    rw [List.foldl_cons, ih, e, List.length_cons, Nat.pow_succ, Nat.add_mul, Nat.add_assoc]
    congr 1
    rw [Nat.mul_comm 2 n, Nat.mul_assoc, Nat.mul_comm 2 (2 ^ r.length)]
theorem val8_lt (bs : List Nat) (h : ∀ b ∈ bs, b < 2) : val8 bs < 2 ^ bs.length := by
  induction bs with
  | nil => simp [val8]
  | cons b r ih =>
    have e : val8 (b :: r) = b * 2 ^ r.length + val8 r := by unfold val8; rw [List.foldl_cons, foldl_bits]; simp [val8]
    have h1 := h b (by simp)
    have h2 := ih fun x hx => h x (by simp [hx])
    rw [e, List.length_cons, Nat.pow_succ]
    have : b * 2 ^ r.length ≤ 1 * 2 ^ r.length := Nat.mul_le_mul_right _ (by omega)
    omega
theorem val8_snoc (bs : List Nat) (b : Nat) : val8 (bs ++ [b]) = 2 * val8 bs + b := by simp [val8]

theorem v6 (d : Nat) (h : d < 64) : d / 32 % 2 * 32 + d / 16 % 2 * 16 + d / 8 % 2 * 8 + d / 4 % 2 * 4 + d / 2 % 2 * 2 + d % 2 = d := by
  have : ∀ d : Fin 64, d.val / 32 % 2 * 32 + d.val / 16 % 2 * 16 + d.val / 8 % 2 * 8 + d.val / 4 % 2 * 4 + d.val / 2 % 2 * 2 + d.val % 2 = d.val := by decide +kernel
  exact this ⟨d, h⟩
theorem v8 (b0 b1 b2 b3 b4 b5 b6 b7 : Nat) : val8 [b0, b1, b2, b3, b4, b5, b6, b7] = b0 * 128 + b1 * 64 + b2 * 32 + b3 * 16 + b4 * 8 + b5 * 4 + b6 * 2 + b7 := by
  simp only [val8, List.foldl_cons, List.foldl_nil]; omega
/-- Four digits are three bytes. -/
theorem chunk_four (d e f g : Nat) (hd : d < 64) (he : e < 64) (hf : f < 64) (hg : g < 64) (r : List Nat) :
    chunk8 (bits6 d ++ bits6 e ++ bits6 f ++ bits6 g ++ r) = (d * 4 + e / 16) :: (e % 16 * 16 + f / 4) :: (f % 4 * 64 + g) :: chunk8 r := by
  have h1 := v6 d hd
  have h2 := v6 e he
  have h3 := v6 f hf
  have h4 := v6 g hg
  have e1 : e / 16 = e / 32 % 2 * 2 + e / 16 % 2 := by omega
  have e2 : e % 16 = e / 8 % 2 * 8 + e / 4 % 2 * 4 + e / 2 % 2 * 2 + e % 2 := by omega
  have e3 : f / 4 = f / 32 % 2 * 8 + f / 16 % 2 * 4 + f / 8 % 2 * 2 + f / 4 % 2 := by omega
  have e4 : f % 4 = f / 2 % 2 * 2 + f % 2 := by omega
  simp only [bits6, List.cons_append, List.nil_append, chunk8, v8]
  refine congr (congrArg List.cons ?_) (congr (congrArg List.cons ?_) (congr (congrArg List.cons ?_) rfl))
  · omega
  · omega
  · omega
theorem chunk_b64 : ∀ l : List UInt8, chunk8 (bitsOf (b64 l)) = l.map UInt8.toNat
  | [] => rfl
  | [a] => by
    have ha := a.toNat_lt
    have h1 := v6 (a.toNat / 4) (by omega)
    simp only [b64, bitsOf, List.flatMap_cons, List.flatMap_nil, bits6, List.cons_append, List.nil_append, chunk8, List.map_cons, List.map_nil, v8]
    congr 1
    have e1 : a.toNat % 4 * 16 / 32 % 2 = a.toNat / 2 % 2 := by omega
    have e2 : a.toNat % 4 * 16 / 16 % 2 = a.toNat % 2 := by omega
    omega
  | [a, b] => by
    have ha := a.toNat_lt
    have hb := b.toNat_lt
    have h := chunk_four (a.toNat / 4) (a.toNat % 4 * 16 + b.toNat / 16) (b.toNat % 16 * 4) 0 (by omega) (by omega) (by omega) (by omega) []
    have e : bitsOf (b64 [a, b]) = bits6 (a.toNat / 4) ++ bits6 (a.toNat % 4 * 16 + b.toNat / 16) ++ bits6 (b.toNat % 16 * 4) := by simp [b64, bitsOf]
    rw [e]
    have h2 : chunk8 (bits6 (a.toNat / 4) ++ bits6 (a.toNat % 4 * 16 + b.toNat / 16) ++ bits6 (b.toNat % 16 * 4)) =
        (chunk8 (bits6 (a.toNat / 4) ++ bits6 (a.toNat % 4 * 16 + b.toNat / 16) ++ bits6 (b.toNat % 16 * 4) ++ bits6 0 ++ [])).take 2 := by
      simp only [bits6, List.cons_append, List.nil_append, chunk8]
      rfl
    rw [h2, h]
    simp only [List.take_succ_cons, List.take_zero, List.map_cons, List.map_nil]
    refine congr (congrArg List.cons ?_) (congr (congrArg List.cons ?_) rfl) <;> omega
  | a :: b :: c :: r => by
    have ha := a.toNat_lt
    have hb := b.toNat_lt
    have hc := c.toNat_lt
    have ih := chunk_b64 r
    have e : bitsOf (b64 (a :: b :: c :: r)) = bits6 (a.toNat / 4) ++ bits6 (a.toNat % 4 * 16 + b.toNat / 16) ++ bits6 (b.toNat % 16 * 4 + c.toNat / 64) ++ bits6 (c.toNat % 64) ++ bitsOf (b64 r) := by
      simp [b64, bitsOf]
    rw [e, chunk_four _ _ _ _ (by omega) (by omega) (by omega) (by omega), ih]
    simp only [List.map_cons]
    refine congr (congrArg List.cons ?_) (congr (congrArg List.cons ?_) (congr (congrArg List.cons ?_) rfl)) <;> omega

theorem dec_none_at : ∀ (s : List UInt8) (h n k : Nat) (hk : k < s.length), dval s[k] = none → dec h n s = none
  | c :: r, h, n, 0, hk, hd => dec_cons_none h n c r hd
  | c :: r, h, n, k + 1, hk, hd => by
    cases hc : dval c with
    | none => exact dec_cons_none h n c r hc
    | some d =>
      have ih := fun h' n' => dec_none_at r h' n' k (by simpa using hk) (by simpa using hd)
      by_cases h8 : 8 ≤ n + 6
      · rw [dec_cons_far h n d c r hc h8, ih]; rfl
      · rw [dec_cons_near h n d c r hc h8, ih]

theorem map_dgt_inj : ∀ (ds es : List Nat), (∀ d ∈ ds, d < 64) → (∀ d ∈ es, d < 64) → ds.map dgt = es.map dgt → ds = es
  | [], [], _, _, _ => rfl
  | [], _ :: _, _, _, h => by simp at h
  | _ :: _, [], _, _, h => by simp at h
  | d :: ds, e :: es, h1, h2, h => by
    simp only [List.map_cons, List.cons.injEq] at h
    have a := dval_dgt d (h1 d (by simp))
    have b := dval_dgt e (h2 e (by simp))
    rw [h.1, b] at a
    injection a with a
    rw [a, map_dgt_inj ds es (fun x hx => h1 x (by simp [hx])) (fun x hx => h2 x (by simp [hx])) h.2]

/-- What the bits come to is what is decoded, or its encoding is another text. -/
theorem dec_bits (s : List UInt8) (ds : List Nat) (hd : ∀ d ∈ ds, d < 64) (hs : ds.map dgt = s) (out : List UInt8) (ho : out = (chunk8 (bitsOf ds)).map UInt8.ofNat) :
    (enc out = s → dec 0 0 s = some out) ∧ (enc out ≠ s → dec 0 0 s = none) := by
  refine ⟨fun h => (dec_iff s out).2 h, fun h => ?_⟩
  cases hl : dec 0 0 s with
  | none => rfl
  | some l =>
    exfalso
    have he := (dec_iff s l).1 hl
    have e1 : ds = b64 l := map_dgt_inj ds (b64 l) hd (b64_lt l) (by rw [hs, ← he]; rfl)
    rw [e1, chunk_b64] at ho
    have : out = l := by rw [ho]; simp [Function.comp_def]
    rw [this] at h
    exact h he

/-- The place among the first j digits, or -1. -/
def fnd (c : UInt8) (j : Nat) : Int := match dval c with | some d => if d < j then (d : Int) else -1 | none => -1
theorem fnd_hit (c : UInt8) (j : Nat) (hj : j < 64) (h : dgt j = c) : fnd c (j + 1) = j := by
  have := dval_dgt j hj
  rw [h] at this
  simp only [fnd, this, if_pos (Nat.lt_succ_self j)]
theorem fnd_miss (c : UInt8) (j : Nat) (h : dgt j ≠ c) : fnd c (j + 1) = fnd c j := by
  unfold fnd
  cases hc : dval c with
  | none => rfl
  | some d =>
    have := dgt_of_dval c d hc
    have hne : d ≠ j := fun e => h (by rw [← e]; exact this.2)
    simp only
    by_cases hd : d < j
    · rw [if_pos hd, if_pos (by omega)]
    · rw [if_neg hd, if_neg (by omega)]
theorem fnd_none (c : UInt8) (h : dval c = none) (j : Nat) : fnd c j = -1 := by simp only [fnd, h]
theorem fnd_some (c : UInt8) (d : Nat) (h : dval c = some d) : fnd c 64 = d := by simp only [fnd, h, if_pos (dgt_of_dval c d h).1]
end Go.Proofs.Ytgjpbgmlmjkmcaa
