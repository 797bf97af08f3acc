/- What package json reads: the readers as plain functions on what is left of the text. Nothing of the program is named here. -/
import Derived.Test.YtikjpniobihanaaDoorJv
import Derived.Lib.Strings
import Derived.Lib.Bytealg
namespace Go.Proofs.YtikjpniobihanaaDoor
set_option linter.unusedVariables false
set_option linter.unusedSimpArgs false

def isWs (c : UInt8) : Bool := c == 32 || c == 9 || c == 10 || c == 13
def skip (r : List UInt8) : List UInt8 := r.dropWhile isWs
def escL : List UInt8 := [34, 92, 8, 9, 10, 12, 13]
def letL : List UInt8 := [34, 92, 98, 116, 110, 102, 114]
def hexL : List UInt8 := [48, 49, 50, 51, 52, 53, 54, 55, 56, 57, 97, 98, 99, 100, 101, 102]
def hexU : List UInt8 := [48, 49, 50, 51, 52, 53, 54, 55, 56, 57, 65, 66, 67, 68, 69, 70]
/-- What a hexadecimal digit is worth; -1: it is none. -/
def hexV (c : UInt8) : Int := max (Lib.indexByte hexL c) (Lib.indexByte hexU c)
theorem hexV_bd : ∀ c : UInt8, -1 ≤ hexV c ∧ hexV c < 16 := by
  intro c
  have : ∀ n : Fin 256, -1 ≤ hexV (UInt8.ofNat n.val) ∧ hexV (UInt8.ofNat n.val) < 16 := by decide +kernel
  have h := this ⟨c.toNat, c.toNat_lt⟩
  simpa using h
def codeGo : Nat → Int → List UInt8 → Option (Int × List UInt8)
  | 0, n, r => some (n, r)
  | _ + 1, _, [] => none
  | k + 1, n, c :: r => if hexV c < 0 then none else codeGo k (16 * n + hexV c) r
def codeR (r : List UInt8) : Option (UInt8 × List UInt8) :=
  match codeGo 4 0 r with
  | none => none
  | some (n, q) => if n < 128 then some (UInt8.ofNat n.toNat, q) else none
/-- The byte that a letter behind a backslash stands for. -/
def unlet (c : UInt8) : Option UInt8 := if Lib.indexByte letL c < 0 then none else escL[(Lib.indexByte letL c).toNat]?
def escR : List UInt8 → Option (UInt8 × List UInt8)
  | [] => none
  | c :: r => if c = 47 then some (47, r) else if c = 117 then codeR r else match unlet c with | none => none | some x => some (x, r)

theorem codeGo_len : ∀ (k : Nat) (n : Int) (r : List UInt8) (m : Int) (q : List UInt8), codeGo k n r = some (m, q) → q.length + k = r.length
  | 0, n, r, m, q, h => by simp [codeGo] at h; rw [h.2]; rfl
  | k + 1, n, [], m, q, h => by simp [codeGo] at h
  | k + 1, n, c :: r, m, q, h => by
    unfold codeGo at h
    split at h
    · cases h
    · have := codeGo_len k _ r m q h
      simp; omega
theorem codeR_len (r : List UInt8) (x : UInt8) (q : List UInt8) (h : codeR r = some (x, q)) : q.length + 4 = r.length := by
  unfold codeR at h
  split at h
  · cases h
  · rename_i n q' he
    split at h
    · simp at h
      obtain ⟨_, rfl⟩ := h
      exact codeGo_len 4 0 r n _ he
    · cases h
theorem escR_cons (c : UInt8) (r : List UInt8) : escR (c :: r) = if c = 47 then some (47, r) else if c = 117 then codeR r else match unlet c with | none => none | some x => some (x, r) := rfl
theorem escR_len (r : List UInt8) (x : UInt8) (q : List UInt8) (h : escR r = some (x, q)) : q.length < r.length := by
  cases r with
  | nil => simp [escR] at h
  | cons c r =>
    rw [escR_cons] at h
    by_cases h1 : c = 47
    · rw [if_pos h1] at h; simp at h; obtain ⟨_, rfl⟩ := h; simp
    rw [if_neg h1] at h
    by_cases h2 : c = 117
    · rw [if_pos h2] at h; have := codeR_len _ _ _ h; simp; omega
    rw [if_neg h2] at h
    cases hu : unlet c with
    | none => rw [hu] at h; cases h
    | some y => rw [hu] at h; simp at h; obtain ⟨_, rfl⟩ := h; simp

/-- The rest of a string, behind its opening quote: its bytes, and what is left. -/
def strR : List UInt8 → Option (List UInt8 × List UInt8)
  | [] => none
  | c :: r =>
    if c.toNat < 32 then none
    else if c = 34 then some ([], r)
    else if c = 92 then
      match h : escR r with
      | none => none
      | some (x, q) => (strR q).map fun z => (x :: z.1, z.2)
    else (strR r).map fun z => (c :: z.1, z.2)
termination_by r => r.length
decreasing_by
  · have := escR_len r x q h; simp; omega
  · simp
theorem strR_nil : strR [] = none := by rw [strR]
theorem strR_low {c : UInt8} {r : List UInt8} (h : c.toNat < 32) : strR (c :: r) = none := by rw [strR, if_pos h]
theorem strR_end (r : List UInt8) : strR (34 :: r) = some ([], r) := by rw [strR, if_neg (by decide), if_pos rfl]
theorem strR_esc (r : List UInt8) : strR (92 :: r) = match escR r with | none => none | some (x, q) => (strR q).map fun z => (x :: z.1, z.2) := by
  rw [strR, if_neg (by decide), if_neg (by decide), if_pos rfl]
  split <;> rename_i h <;> simp [h]
theorem strR_cons {c : UInt8} {r : List UInt8} (h : ¬ c.toNat < 32) (h1 : c ≠ 34) (h2 : c ≠ 92) : strR (c :: r) = (strR r).map fun z => (c :: z.1, z.2) := by
  rw [strR, if_neg h, if_neg h1, if_neg h2]
theorem strR_len : ∀ (r t q : List UInt8), strR r = some (t, q) → q.length + t.length + 1 ≤ r.length := by
  intro r
  induction hn : r.length using Nat.strongRecOn generalizing r with
  | _ n ih =>
  intro t q h
  cases r with
  | nil => rw [strR_nil] at h; cases h
  | cons c r =>
    by_cases h1 : c.toNat < 32
    · rw [strR_low h1] at h; cases h
    by_cases h2 : c = 34
    · subst h2; rw [strR_end] at h; simp at h; obtain ⟨rfl, rfl⟩ := h; simp at hn ⊢; omega
    by_cases h3 : c = 92
    · subst h3
      rw [strR_esc] at h
      split at h
      · cases h
      · rename_i x q' he
        have hl := escR_len _ _ _ he
        simp only [Option.map_eq_some_iff] at h
        obtain ⟨z, hz, hzz⟩ := h
        have := ih q'.length (by simp at hn; omega) q' rfl z.1 z.2 hz
        simp at hzz hn
        obtain ⟨rfl, rfl⟩ := hzz
        simp; omega
    · rw [strR_cons h1 h2 h3] at h
      simp only [Option.map_eq_some_iff] at h
      obtain ⟨z, hz, hzz⟩ := h
      have := ih r.length (by simp at hn; omega) r rfl z.1 z.2 hz
      simp at hzz hn
      obtain ⟨rfl, rfl⟩ := hzz
      simp; omega

theorem hasPrefix_one (c : UInt8) (r : List UInt8) : Lib.hasPrefix r [c] = true ↔ r.head? = some c := by
  cases r with
  | nil => simp [Lib.hasPrefix]
  | cons d r => simp [Lib.hasPrefix]; exact ⟨fun h => h.symm, fun h => h.symm⟩
theorem hasPrefix_not {c : UInt8} {r : List UInt8} (h : ¬ r.head? = some c) : Lib.hasPrefix r [c] = false := by
  cases hp : Lib.hasPrefix r [c]
  · rfl
  · exact absurd ((hasPrefix_one c r).1 hp) h
theorem head_cons {c : UInt8} {r : List UInt8} (h : r.head? = some c) : ∃ r1, r = c :: r1 := by
  cases r with
  | nil => simp at h
  | cons d r1 => simp at h; exact ⟨r1, by rw [h]⟩

/-! ### numbers -/
def isDig (c : UInt8) : Bool := decide (48 ≤ c.toNat) && decide (c.toNat ≤ 57)
/-- The digits on end, kept at the limit. -/
def digGo : Int → List UInt8 → Int
  | n, [] => n
  | n, c :: r => digGo (min (10 * n + (c.toNat - 48)) 9007199254740992) r
def numR (r : List UInt8) : Option (Int × List UInt8) :=
  if r.head? = some 48 then some (0, r.tail)
  else
    let neg := decide (r.head? = some 45)
    let r1 := if neg then r.tail else r
    let ds := r1.takeWhile isDig
    if ds = [] ∨ ds.head? = some 48 then none
    else some (if neg then -(digGo 0 ds) else digGo 0 ds, r1.dropWhile isDig)

/-! ### arrays, objects, values -/
/-- The elements of an array, from the first on; pv reads a value; k: more than there are. -/
def arrL (pv : List UInt8 → Option (JV × List UInt8)) : Nat → List UInt8 → Option (List JV × List UInt8)
  | 0, _ => none
  | k + 1, r =>
    match pv r with
    | none => none
    | some (v, r1) =>
      match skip r1 with
      | 93 :: r2 => some ([v], skip r2)
      | 44 :: r2 => (arrL pv k (skip r2)).map fun z => (v :: z.1, z.2)
      | _ => none
/-- Where a key belongs. -/
def place (ks : List (List UInt8)) (k : List UInt8) : Nat := (ks.takeWhile fun x => Op.bytesLess x k).length
def objL (pv : List UInt8 → Option (JV × List UInt8)) : Nat → List (List UInt8) → List JV → List UInt8 → Option (List (List UInt8) × List JV × List UInt8)
  | 0, _, _, _ => none
  | k + 1, ks, ps, r =>
    match r with
    | 34 :: r0 =>
      match strR r0 with
      | none => none
      | some (key, r1) =>
        match skip r1 with
        | 58 :: r2 =>
          match pv (skip r2) with
          | none => none
          | some (v, r3) =>
            if key ∈ ks then none
            else
              match skip r3 with
              | 125 :: r4 => some (ks.insertIdx (place ks key) key, ps.insertIdx (place ks key) v, skip r4)
              | 44 :: r4 => objL pv k (ks.insertIdx (place ks key) key) (ps.insertIdx (place ks key) v) (skip r4)
              | _ => none
        | _ => none
    | _ => none
def pv : Nat → List UInt8 → Option (JV × List UInt8)
  | 0, _ => none
  | n + 1, r =>
    if Lib.hasPrefix r tNull then some (.mk 1 0 [] [] [], r.drop 4)
    else if Lib.hasPrefix r tFalse then some (.mk 2 0 [] [] [], r.drop 5)
    else if Lib.hasPrefix r tTrue then some (.mk 3 0 [] [] [], r.drop 4)
    else if Lib.hasPrefix r [34] then (strR r.tail).map fun z => (.mk 5 0 z.1 [] [], z.2)
    else
      match skip r with
      | 91 :: r1 =>
        match skip r1 with
        | 93 :: r2 => some (.mk 6 0 [] [] [], skip r2)
        | r2 => (arrL (pv n) (r2.length + 1) r2).map fun z => (.mk 6 0 [] [] z.1, z.2)
      | 123 :: r1 =>
        match skip r1 with
        | 125 :: r2 => some (.mk 7 0 [] [] [], skip r2)
        | r2 => (objL (pv n) (r2.length + 1) [] [] r2).map fun z => (.mk 7 0 [] z.1 z.2.1, z.2.2)
      | r1 => (numR r1).map fun z => (.mk 4 z.1 [] [] [], z.2)
end Go.Proofs.YtikjpniobihanaaDoor
