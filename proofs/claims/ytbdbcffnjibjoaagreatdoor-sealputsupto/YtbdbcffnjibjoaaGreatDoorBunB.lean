/- Joined texts: JSpec, JLen, JCount, JBack, JBackN, JSort, JGen. -/
import Derived.Test.YtbdbcffnjibjoaaGreatDoorBunA
import Derived.Lib.Strings
import Derived.Lib.Bytealg
/- What package json reads: the readers as plain functions on what is left of the text. Nothing of the program is named here. -/
namespace Go.Proofs.YtbdbcffnjibjoaaGreatDoor
set_option linter.unusedVariables false
set_option linter.unusedSimpArgs false

def isWs (c : UInt8) : Bool := c == 32 || c == 9 || c == 10 || c == 13
def skip (r : List UInt8) : List UInt8 := r.dropWhile isWs
def escL : List UInt8 := [34, 92, 8, 9, 10, 12, 13]
def letL : List UInt8 := [34, 92, 98, 116, 110, 102, 114]
def hexL : List UInt8 := [48, 49, 50, 51, 52, 53, 54, 55, 56, 57, 97, 98, 99, 100, 101, 102]
def hexU : List UInt8 := [48, 49, 50, 51, 52, 53, 54, 55, 56, 57, 65, 66, 67, 68, 69, 70]
/-- What a hexadecimal digit is worth; -1: it is none. -/
def hexV (c : UInt8) : Int := max (Lib.indexByte hexL c) (Lib.indexByte hexU c)
theorem hexV_bd : ∀ c : UInt8, -1 ≤ hexV c ∧ hexV c < 16 := by
  intro c
  have : ∀ n : Fin 256, -1 ≤ hexV (UInt8.ofNat n.val) ∧ hexV (UInt8.ofNat n.val) < 16 := by decide +kernel
  have h := this ⟨c.toNat, c.toNat_lt⟩
  simpa using h
def codeGo : Nat → Int → List UInt8 → Option (Int × List UInt8)
  | 0, n, r => some (n, r)
  | _ + 1, _, [] => none
  | k + 1, n, c :: r => if hexV c < 0 then none else codeGo k (16 * n + hexV c) r
def codeR (r : List UInt8) : Option (UInt8 × List UInt8) :=
  match codeGo 4 0 r with
  | none => none
  | some (n, q) => if n < 128 then some (UInt8.ofNat n.toNat, q) else none
/-- The byte that a letter behind a backslash stands for. -/
def unlet (c : UInt8) : Option UInt8 := if Lib.indexByte letL c < 0 then none else escL[(Lib.indexByte letL c).toNat]?
def escR : List UInt8 → Option (UInt8 × List UInt8)
  | [] => none
  | c :: r => if c = 47 then some (47, r) else if c = 117 then codeR r else match unlet c with | none => none | some x => some (x, r)

theorem codeGo_len : ∀ (k : Nat) (n : Int) (r : List UInt8) (m : Int) (q : List UInt8), codeGo k n r = some (m, q) → q.length + k = r.length
  | 0, n, r, m, q, h => by simp [codeGo] at h; rw [h.2]; rfl
  | k + 1, n, [], m, q, h => by simp [codeGo] at h
  | k + 1, n, c :: r, m, q, h => by
    unfold codeGo at h
    split at h
    · cases h
    · have := codeGo_len k _ r m q h
      simp; omega
theorem codeR_len (r : List UInt8) (x : UInt8) (q : List UInt8) (h : codeR r = some (x, q)) : q.length + 4 = r.length := by
  unfold codeR at h
  split at h
  · cases h
  · rename_i n q' he
    split at h
    · simp at h
      obtain ⟨_, rfl⟩ := h
      exact codeGo_len 4 0 r n _ he
    · cases h
theorem escR_cons (c : UInt8) (r : List UInt8) : escR (c :: r) = if c = 47 then some (47, r) else if c = 117 then codeR r else match unlet c with | none => none | some x => some (x, r) := rfl
theorem escR_len (r : List UInt8) (x : UInt8) (q : List UInt8) (h : escR r = some (x, q)) : q.length < r.length := by
  cases r with
  | nil => simp [escR] at h
  | cons c r =>
    rw [escR_cons] at h
    by_cases h1 : c = 47
    · rw [if_pos h1] at h; simp at h; obtain ⟨_, rfl⟩ := h; simp
    rw [if_neg h1] at h
    by_cases h2 : c = 117
    · rw [if_pos h2] at h; have := codeR_len _ _ _ h; simp; omega
    rw [if_neg h2] at h
    cases hu : unlet c with
    | none => rw [hu] at h; cases h
    | some y => rw [hu] at h; simp at h; obtain ⟨_, rfl⟩ := h; simp

/-- The rest of a string, behind its opening quote: its bytes, and what is left. -/
def strR : List UInt8 → Option (List UInt8 × List UInt8)
  | [] => none
  | c :: r =>
    if c.toNat < 32 then none
    else if c = 34 then some ([], r)
    else if c = 92 then
      match h : escR r with
      | none => none
      | some (x, q) => (strR q).map fun z => (x :: z.1, z.2)
    else (strR r).map fun z => (c :: z.1, z.2)
termination_by r => r.length
decreasing_by
  · have := escR_len r x q h; simp; omega
  · simp
theorem strR_nil : strR [] = none := by rw [strR]
theorem strR_low {c : UInt8} {r : List UInt8} (h : c.toNat < 32) : strR (c :: r) = none := by rw [strR, if_pos h]
theorem strR_end (r : List UInt8) : strR (34 :: r) = some ([], r) := by rw [strR, if_neg (by decide), if_pos rfl]
theorem strR_esc (r : List UInt8) : strR (92 :: r) = match escR r with | none => none | some (x, q) => (strR q).map fun z => (x :: z.1, z.2) := by
  rw [strR, if_neg (by decide), if_neg (by decide), if_pos rfl]
  split <;> rename_i h <;> simp [h]
theorem strR_cons {c : UInt8} {r : List UInt8} (h : ¬ c.toNat < 32) (h1 : c ≠ 34) (h2 : c ≠ 92) : strR (c :: r) = (strR r).map fun z => (c :: z.1, z.2) := by
  rw [strR, if_neg h, if_neg h1, if_neg h2]
theorem strR_len : ∀ (r t q : List UInt8), strR r = some (t, q) → q.length + t.length + 1 ≤ r.length := by
  intro r
  induction hn : r.length using Nat.strongRecOn generalizing r with
  | _ n ih =>
  intro t q h
  cases r with
  | nil => rw [strR_nil] at h; cases h
  | cons c r =>
    by_cases h1 : c.toNat < 32
    · rw [strR_low h1] at h; cases h
    by_cases h2 : c = 34
    · subst h2; rw [strR_end] at h; simp at h; obtain ⟨rfl, rfl⟩ := h; simp at hn ⊢; omega
    by_cases h3 : c = 92
    · subst h3
      rw [strR_esc] at h
      split at h
      · cases h
      · rename_i x q' he
        have hl := escR_len _ _ _ he
        simp only [Option.map_eq_some_iff] at h
        obtain ⟨z, hz, hzz⟩ := h
        have := ih q'.length (by simp at hn; omega) q' rfl z.1 z.2 hz
        simp at hzz hn
        obtain ⟨rfl, rfl⟩ := hzz
        simp; omega
    · rw [strR_cons h1 h2 h3] at h
      simp only [Option.map_eq_some_iff] at h
      obtain ⟨z, hz, hzz⟩ := h
      have := ih r.length (by simp at hn; omega) r rfl z.1 z.2 hz
      simp at hzz hn
      obtain ⟨rfl, rfl⟩ := hzz
      simp; omega

theorem hasPrefix_one (c : UInt8) (r : List UInt8) : Lib.hasPrefix r [c] = true ↔ r.head? = some c := by
  cases r with
  | nil => simp [Lib.hasPrefix]
  | cons d r => simp [Lib.hasPrefix]; exact ⟨fun h => h.symm, fun h => h.symm⟩
theorem hasPrefix_not {c : UInt8} {r : List UInt8} (h : ¬ r.head? = some c) : Lib.hasPrefix r [c] = false := by
  cases hp : Lib.hasPrefix r [c]
  · rfl
  · exact absurd ((hasPrefix_one c r).1 hp) h
theorem head_cons {c : UInt8} {r : List UInt8} (h : r.head? = some c) : ∃ r1, r = c :: r1 := by
  cases r with
  | nil => simp at h
  | cons d r1 => simp at h; exact ⟨r1, by rw [h]⟩

/-! ### numbers -/
def isDig (c : UInt8) : Bool := decide (48 ≤ c.toNat) && decide (c.toNat ≤ 57)
/-- The digits on end, kept at the limit. -/
def digGo : Int → List UInt8 → Int
  | n, [] => n
  | n, c :: r => digGo (min (10 * n + (c.toNat - 48)) 9007199254740992) r
def numR (r : List UInt8) : Option (Int × List UInt8) :=
  if r.head? = some 48 then some (0, r.tail)
  else
    let neg := decide (r.head? = some 45)
    let r1 := if neg then r.tail else r
    let ds := r1.takeWhile isDig
    if ds = [] ∨ ds.head? = some 48 then none
    else some (if neg then -(digGo 0 ds) else digGo 0 ds, r1.dropWhile isDig)

/-! ### arrays, objects, values -/
/-- The elements of an array, from the first on; pv reads a value; k: more than there are. -/
def arrL (pv : List UInt8 → Option (JV × List UInt8)) : Nat → List UInt8 → Option (List JV × List UInt8)
  | 0, _ => none
  | k + 1, r =>
    match pv r with
    | none => none
    | some (v, r1) =>
      match skip r1 with
      | 93 :: r2 => some ([v], skip r2)
      | 44 :: r2 => (arrL pv k (skip r2)).map fun z => (v :: z.1, z.2)
      | _ => none
/-- Where a key belongs. -/
def place (ks : List (List UInt8)) (k : List UInt8) : Nat := (ks.takeWhile fun x => Op.bytesLess x k).length
def objL (pv : List UInt8 → Option (JV × List UInt8)) : Nat → List (List UInt8) → List JV → List UInt8 → Option (List (List UInt8) × List JV × List UInt8)
  | 0, _, _, _ => none
  | k + 1, ks, ps, r =>
    match r with
    | 34 :: r0 =>
      match strR r0 with
      | none => none
      | some (key, r1) =>
        match skip r1 with
        | 58 :: r2 =>
          match pv (skip r2) with
          | none => none
          | some (v, r3) =>
            if key ∈ ks then none
            else
              match skip r3 with
              | 125 :: r4 => some (ks.insertIdx (place ks key) key, ps.insertIdx (place ks key) v, skip r4)
              | 44 :: r4 => objL pv k (ks.insertIdx (place ks key) key) (ps.insertIdx (place ks key) v) (skip r4)
              | _ => none
        | _ => none
    | _ => none
def pv : Nat → List UInt8 → Option (JV × List UInt8)
  | 0, _ => none
  | n + 1, r =>
    if Lib.hasPrefix r tNull then some (.mk 1 0 [] [] [], r.drop 4)
    else if Lib.hasPrefix r tFalse then some (.mk 2 0 [] [] [], r.drop 5)
    else if Lib.hasPrefix r tTrue then some (.mk 3 0 [] [] [], r.drop 4)
    else if Lib.hasPrefix r [34] then (strR r.tail).map fun z => (.mk 5 0 z.1 [] [], z.2)
    else
      match skip r with
      | 91 :: r1 =>
        match skip r1 with
        | 93 :: r2 => some (.mk 6 0 [] [] [], skip r2)
        | r2 => (arrL (pv n) (r2.length + 1) r2).map fun z => (.mk 6 0 [] [] z.1, z.2)
      | 123 :: r1 =>
        match skip r1 with
        | 125 :: r2 => some (.mk 7 0 [] [] [], skip r2)
        | r2 => (objL (pv n) (r2.length + 1) [] [] r2).map fun z => (.mk 7 0 [] z.1 z.2.1, z.2.2)
      | r1 => (numR r1).map fun z => (.mk 4 z.1 [] [] [], z.2)
end Go.Proofs.YtbdbcffnjibjoaaGreatDoor

/- What json's readers consume. Nothing of the program is named here. -/
namespace Go.Proofs.YtbdbcffnjibjoaaGreatDoor
set_option linter.unusedVariables false
set_option linter.unusedSimpArgs false

theorem skip_len (r : List UInt8) : (skip r).length ≤ r.length := List.Sublist.length_le (List.dropWhile_sublist _)
theorem skip_skip (r : List UInt8) : skip (skip r) = skip r := by
  unfold skip
  induction r with
  | nil => rfl
  | cons c r ih =>
    rw [List.dropWhile_cons]
    split
    · exact ih
    · rename_i h; rw [List.dropWhile_cons, if_neg h]

def arrR (n : Nat) (r : List UInt8) : Option (List JV × List UInt8) :=
  match skip r with
  | 93 :: r2 => some ([], skip r2)
  | r2 => arrL (pv n) (r2.length + 1) r2

def Shrinks (f : List UInt8 → Option (JV × List UInt8)) : Prop := ∀ r v q, f r = some (v, q) → q.length < r.length

theorem arrL_succ (f : List UInt8 → Option (JV × List UInt8)) (k : Nat) (r : List UInt8) : arrL f (k + 1) r =
    match f r with
    | none => none
    | some (v, r1) =>
      match skip r1 with
      | 93 :: r2 => some ([v], skip r2)
      | 44 :: r2 => (arrL f k (skip r2)).map fun z => (v :: z.1, z.2)
      | _ => none := rfl
/-- One element, and what stands behind it. -/
theorem arrL_none {f : List UInt8 → Option (JV × List UInt8)} {k : Nat} {r : List UInt8} (h : f r = none) : arrL f (k + 1) r = none := by rw [arrL_succ, h]
theorem arrL_end {f : List UInt8 → Option (JV × List UInt8)} {k : Nat} {r r1 r2 : List UInt8} {v : JV} (h : f r = some (v, r1)) (h2 : skip r1 = 93 :: r2) : arrL f (k + 1) r = some ([v], skip r2) := by rw [arrL_succ, h]; simp only [h2]
theorem arrL_more {f : List UInt8 → Option (JV × List UInt8)} {k : Nat} {r r1 r2 : List UInt8} {v : JV} (h : f r = some (v, r1)) (h2 : skip r1 = 44 :: r2) : arrL f (k + 1) r = (arrL f k (skip r2)).map fun z => (v :: z.1, z.2) := by rw [arrL_succ, h]; simp only [h2]
theorem arrL_bad {f : List UInt8 → Option (JV × List UInt8)} {k : Nat} {r r1 : List UInt8} {v : JV} (h : f r = some (v, r1)) (h2 : ¬ (skip r1).head? = some 93) (h3 : ¬ (skip r1).head? = some 44) : arrL f (k + 1) r = none := by
  rw [arrL_succ, h]
  simp only
  split
  · rename_i r2 e; rw [e] at h2; simp at h2
  · rename_i r2 e; rw [e] at h3; simp at h3
  · rfl
theorem arrL_cases (f : List UInt8 → Option (JV × List UInt8)) (r : List UInt8) :
    f r = none ∨ (∃ v r1 r2, f r = some (v, r1) ∧ skip r1 = 93 :: r2) ∨ (∃ v r1 r2, f r = some (v, r1) ∧ skip r1 = 44 :: r2) ∨ (∃ v r1, f r = some (v, r1) ∧ ¬ (skip r1).head? = some 93 ∧ ¬ (skip r1).head? = some 44) := by
  cases h : f r with
  | none => exact .inl rfl
  | some x =>
    obtain ⟨v, r1⟩ := x
    by_cases h1 : (skip r1).head? = some 93
    · obtain ⟨r2, h2⟩ := head_cons h1; exact .inr (.inl ⟨v, r1, r2, rfl, h2⟩)
    by_cases h3 : (skip r1).head? = some 44
    · obtain ⟨r2, h2⟩ := head_cons h3; exact .inr (.inr (.inl ⟨v, r1, r2, rfl, h2⟩))
    · exact .inr (.inr (.inr ⟨v, r1, rfl, h1, h3⟩))

theorem skip_cons_len {r : List UInt8} {c : UInt8} {r2 : List UInt8} (h : skip r = c :: r2) : (skip r2).length < r.length := by
  have h1 := skip_len r
  have h2 := skip_len r2
  rw [h] at h1; simp at h1; omega

theorem arrL_fuel {f : List UInt8 → Option (JV × List UInt8)} (hf : Shrinks f) : ∀ (m : Nat) (r : List UInt8) (k : Nat), r.length ≤ m → r.length < k → arrL f k r = arrL f (r.length + 1) r := by
  intro m
  induction m with
  | zero =>
    intro r k h1 h2
    obtain ⟨k, rfl⟩ : ∃ k', k = k' + 1 := ⟨k - 1, by omega⟩
    have h0 : r = [] := List.eq_nil_of_length_eq_zero (by omega)
    rcases arrL_cases f r with h | ⟨v, r1, r2, h, h3⟩ | ⟨v, r1, r2, h, h3⟩ | ⟨v, r1, h, h3, h4⟩
    · rw [arrL_none h, arrL_none h]
    · rw [arrL_end h h3, arrL_end h h3]
    · have := hf _ _ _ h; omega
    · rw [arrL_bad h h3 h4, arrL_bad h h3 h4]
  | succ m ih =>
    intro r k h1 h2
    obtain ⟨k, rfl⟩ : ∃ k', k = k' + 1 := ⟨k - 1, by omega⟩
    rcases arrL_cases f r with h | ⟨v, r1, r2, h, h3⟩ | ⟨v, r1, r2, h, h3⟩ | ⟨v, r1, h, h3, h4⟩
    · rw [arrL_none h, arrL_none h]
    · rw [arrL_end h h3, arrL_end h h3]
    · have hs := hf _ _ _ h
      have hs2 := skip_cons_len h3
      rw [arrL_more h h3, arrL_more h h3, ih (skip r2) k (by omega) (by omega), ih (skip r2) r.length (by omega) (by omega)]
    · rw [arrL_bad h h3 h4, arrL_bad h h3 h4]
theorem arrL_len {f : List UInt8 → Option (JV × List UInt8)} (hf : Shrinks f) : ∀ (k : Nat) (r : List UInt8) (ps : List JV) (q : List UInt8), arrL f k r = some (ps, q) → q.length < r.length := by
  intro k
  induction k with
  | zero => intro r ps q h; cases h
  | succ k ih =>
    intro r ps q h0
    rcases arrL_cases f r with h | ⟨v, r1, r2, h, h3⟩ | ⟨v, r1, r2, h, h3⟩ | ⟨v, r1, h, h3, h4⟩
    · rw [arrL_none h] at h0; cases h0
    · rw [arrL_end h h3] at h0
      simp at h0
      have hs := hf _ _ _ h
      have hs2 := skip_cons_len h3
      rw [← h0.2]; omega
    · rw [arrL_more h h3] at h0
      simp only [Option.map_eq_some_iff] at h0
      obtain ⟨z, hz, hzz⟩ := h0
      have := ih _ z.1 z.2 hz
      have hs := hf _ _ _ h
      have hs2 := skip_cons_len h3
      simp at hzz
      rw [← hzz.2]; omega
    · rw [arrL_bad h h3 h4] at h0; cases h0

theorem drop_len {p : UInt8 → Bool} (r : List UInt8) : (r.dropWhile p).length ≤ r.length := List.Sublist.length_le (List.dropWhile_sublist _)
theorem numR_eq {r : List UInt8} (h0 : ¬ r.head? = some 48) (neg : Bool) (hneg : neg = decide (r.head? = some 45)) (r1 : List UInt8) (hr1 : r1 = if neg = true then r.tail else r) :
    numR r = if r1.takeWhile isDig = [] ∨ (r1.takeWhile isDig).head? = some 48 then none else some (if neg = true then -(digGo 0 (r1.takeWhile isDig)) else digGo 0 (r1.takeWhile isDig), r1.dropWhile isDig) := by
  rw [numR, if_neg h0, hr1, hneg]
theorem numR_len (r : List UInt8) (m : Int) (q : List UInt8) (h : numR r = some (m, q)) : q.length < r.length := by
  by_cases h0 : r.head? = some 48
  · obtain ⟨r1, rfl⟩ := head_cons h0
    simp [numR] at h; rw [← h.2]; simp
  obtain ⟨neg, hneg⟩ : ∃ neg, neg = decide (r.head? = some 45) := ⟨_, rfl⟩
  obtain ⟨r1, hr1⟩ : ∃ r1, r1 = if neg = true then r.tail else r := ⟨_, rfl⟩
  have hle : r1.length ≤ r.length := by rw [hr1]; split <;> simp
  rw [numR_eq h0 neg hneg r1 hr1] at h
  by_cases hc : r1.takeWhile isDig = [] ∨ (r1.takeWhile isDig).head? = some 48
  · rw [if_pos hc] at h; cases h
  · rw [if_neg hc] at h
    simp only [Option.some.injEq, Prod.mk.injEq] at h
    rw [← h.2]
    have h1 := congrArg List.length (List.takeWhile_append_dropWhile (p := isDig) (l := r1))
    rw [List.length_append] at h1
    have : 0 < (r1.takeWhile isDig).length := List.length_pos_iff.2 (fun e => hc (.inl e))
    omega

/-! ### objects -/
inductive ObjStep (f : List UInt8 → Option (JV × List UInt8)) (ks : List (List UInt8)) (r : List UInt8) : Prop
  | bad (h : ∀ k ps, objL f (k + 1) ks ps r = none)
  | last (key : List UInt8) (v : JV) (r0 r1 r2 r3 r4 : List UInt8) (h0 : r = 34 :: r0) (h1 : strR r0 = some (key, r1)) (h2 : skip r1 = 58 :: r2) (h3 : f (skip r2) = some (v, r3)) (h4 : key ∉ ks) (h5 : skip r3 = 125 :: r4)
  | more (key : List UInt8) (v : JV) (r0 r1 r2 r3 r4 : List UInt8) (h0 : r = 34 :: r0) (h1 : strR r0 = some (key, r1)) (h2 : skip r1 = 58 :: r2) (h3 : f (skip r2) = some (v, r3)) (h4 : key ∉ ks) (h5 : skip r3 = 44 :: r4)
theorem objL_succ (f : List UInt8 → Option (JV × List UInt8)) (k : Nat) (ks : List (List UInt8)) (ps : List JV) (r0 : List UInt8) : objL f (k + 1) ks ps (34 :: r0) =
      match strR r0 with
      | none => none
      | some (key, r1) =>
        match skip r1 with
        | 58 :: r2 =>
          match f (skip r2) with
          | none => none
          | some (v, r3) =>
            if key ∈ ks then none
            else
              match skip r3 with
              | 125 :: r4 => some (ks.insertIdx (place ks key) key, ps.insertIdx (place ks key) v, skip r4)
              | 44 :: r4 => objL f k (ks.insertIdx (place ks key) key) (ps.insertIdx (place ks key) v) (skip r4)
              | _ => none
        | _ => none := rfl
theorem objL_noquote {f : List UInt8 → Option (JV × List UInt8)} {k : Nat} {ks : List (List UInt8)} {ps : List JV} {r : List UInt8} (h : ¬ r.head? = some 34) : objL f (k + 1) ks ps r = none := by
  unfold objL
  split
  · simp at h
  · rfl
theorem objL_last {f : List UInt8 → Option (JV × List UInt8)} {k : Nat} {ks : List (List UInt8)} {ps : List JV} {key : List UInt8} {v : JV} {r0 r1 r2 r3 r4 : List UInt8} (h1 : strR r0 = some (key, r1)) (h2 : skip r1 = 58 :: r2) (h3 : f (skip r2) = some (v, r3)) (h4 : key ∉ ks) (h5 : skip r3 = 125 :: r4) :
    objL f (k + 1) ks ps (34 :: r0) = some (ks.insertIdx (place ks key) key, ps.insertIdx (place ks key) v, skip r4) := by
  rw [objL_succ, h1]; simp only [h2, h3, if_neg h4, h5]
theorem objL_more {f : List UInt8 → Option (JV × List UInt8)} {k : Nat} {ks : List (List UInt8)} {ps : List JV} {key : List UInt8} {v : JV} {r0 r1 r2 r3 r4 : List UInt8} (h1 : strR r0 = some (key, r1)) (h2 : skip r1 = 58 :: r2) (h3 : f (skip r2) = some (v, r3)) (h4 : key ∉ ks) (h5 : skip r3 = 44 :: r4) :
    objL f (k + 1) ks ps (34 :: r0) = objL f k (ks.insertIdx (place ks key) key) (ps.insertIdx (place ks key) v) (skip r4) := by
  rw [objL_succ, h1]; simp only [h2, h3, if_neg h4, h5]
theorem objL_badStr {f : List UInt8 → Option (JV × List UInt8)} {k : Nat} {ks : List (List UInt8)} {ps : List JV} {r0 : List UInt8} (h1 : strR r0 = none) : objL f (k + 1) ks ps (34 :: r0) = none := by rw [objL_succ, h1]
theorem objL_badColon {f : List UInt8 → Option (JV × List UInt8)} {k : Nat} {ks : List (List UInt8)} {ps : List JV} {key r0 r1 : List UInt8} (h1 : strR r0 = some (key, r1)) (h2 : ¬ (skip r1).head? = some 58) : objL f (k + 1) ks ps (34 :: r0) = none := by
  rw [objL_succ, h1]
  simp only
  split
  · rename_i e; rw [e] at h2; simp at h2
  · rfl
theorem objL_badVal {f : List UInt8 → Option (JV × List UInt8)} {k : Nat} {ks : List (List UInt8)} {ps : List JV} {key r0 r1 r2 : List UInt8} (h1 : strR r0 = some (key, r1)) (h2 : skip r1 = 58 :: r2) (h3 : f (skip r2) = none) : objL f (k + 1) ks ps (34 :: r0) = none := by
  rw [objL_succ, h1]; simp only [h2, h3]
theorem objL_twice {f : List UInt8 → Option (JV × List UInt8)} {k : Nat} {ks : List (List UInt8)} {ps : List JV} {key : List UInt8} {v : JV} {r0 r1 r2 r3 : List UInt8} (h1 : strR r0 = some (key, r1)) (h2 : skip r1 = 58 :: r2) (h3 : f (skip r2) = some (v, r3)) (h4 : key ∈ ks) :
    objL f (k + 1) ks ps (34 :: r0) = none := by rw [objL_succ, h1]; simp only [h2, h3, if_pos h4]
theorem objL_badEnd {f : List UInt8 → Option (JV × List UInt8)} {k : Nat} {ks : List (List UInt8)} {ps : List JV} {key : List UInt8} {v : JV} {r0 r1 r2 r3 : List UInt8} (h1 : strR r0 = some (key, r1)) (h2 : skip r1 = 58 :: r2) (h3 : f (skip r2) = some (v, r3)) (h4 : ¬ (skip r3).head? = some 125) (h5 : ¬ (skip r3).head? = some 44) :
    objL f (k + 1) ks ps (34 :: r0) = none := by
  rw [objL_succ, h1]
  simp only [h2, h3]
  split
  · rfl
  · split
    · rename_i e; rw [e] at h4; simp at h4
    · rename_i e; rw [e] at h5; simp at h5
    · rfl
theorem objStep (f : List UInt8 → Option (JV × List UInt8)) (ks : List (List UInt8)) (r : List UInt8) : ObjStep f ks r := by
  by_cases h0 : r.head? = some 34
  · obtain ⟨r0, rfl⟩ := head_cons h0
    cases h1 : strR r0 with
    | none => exact .bad fun k ps => objL_badStr h1
    | some x =>
      obtain ⟨key, r1⟩ := x
      by_cases h2 : (skip r1).head? = some 58
      · obtain ⟨r2, h2⟩ := head_cons h2
        cases h3 : f (skip r2) with
        | none => exact .bad fun k ps => objL_badVal h1 h2 h3
        | some y =>
          obtain ⟨v, r3⟩ := y
          by_cases h4 : key ∈ ks
          · exact .bad fun k ps => objL_twice h1 h2 h3 h4
          by_cases h5 : (skip r3).head? = some 125
          · obtain ⟨r4, h5⟩ := head_cons h5
            exact .last key v r0 r1 r2 r3 r4 rfl h1 h2 h3 h4 h5
          by_cases h6 : (skip r3).head? = some 44
          · obtain ⟨r4, h6⟩ := head_cons h6
            exact .more key v r0 r1 r2 r3 r4 rfl h1 h2 h3 h4 h6
          · exact .bad fun k ps => objL_badEnd h1 h2 h3 h5 h6
      · exact .bad fun k ps => objL_badColon h1 h2
  · exact .bad fun k ps => objL_noquote h0
theorem obj_len {f : List UInt8 → Option (JV × List UInt8)} (hf : Shrinks f) {key : List UInt8} {v : JV} {r0 r1 r2 r3 r4 : List UInt8} {c : UInt8} (h1 : strR r0 = some (key, r1)) (h2 : skip r1 = 58 :: r2) (h3 : f (skip r2) = some (v, r3)) (h5 : skip r3 = c :: r4) :
    (skip r4).length < (34 :: r0).length := by
  have a1 := strR_len _ _ _ h1
  have a2 := skip_cons_len h2
  have a3 := hf _ _ _ h3
  have a4 := skip_cons_len h5
  simp; omega
theorem objL_fuel {f : List UInt8 → Option (JV × List UInt8)} (hf : Shrinks f) : ∀ (m : Nat) (r : List UInt8) (k : Nat) (ks : List (List UInt8)) (ps : List JV), r.length ≤ m → r.length < k → objL f k ks ps r = objL f (r.length + 1) ks ps r := by
  intro m
  induction m with
  | zero =>
    intro r k ks ps h1 h2
    obtain ⟨k, rfl⟩ : ∃ k', k = k' + 1 := ⟨k - 1, by omega⟩
    have h0 : r = [] := List.eq_nil_of_length_eq_zero (by omega)
    subst h0
    rw [objL_noquote (by simp), objL_noquote (by simp)]
  | succ m ih =>
    intro r k ks ps h1 h2
    obtain ⟨k, rfl⟩ : ∃ k', k = k' + 1 := ⟨k - 1, by omega⟩
    cases objStep f ks r with
    | bad h => rw [h, h]
    | last key v r0 r1 r2 r3 r4 h0 e1 e2 e3 e4 e5 => subst h0; rw [objL_last e1 e2 e3 e4 e5, objL_last e1 e2 e3 e4 e5]
    | more key v r0 r1 r2 r3 r4 h0 e1 e2 e3 e4 e5 =>
      subst h0
      have hs := obj_len hf e1 e2 e3 e5
      rw [objL_more e1 e2 e3 e4 e5, objL_more e1 e2 e3 e4 e5, ih (skip r4) k _ _ (by simp at *; omega) (by simp at *; omega)]
      exact (ih (skip r4) _ _ _ (by simp at *; omega) hs).symm
theorem objL_len {f : List UInt8 → Option (JV × List UInt8)} (hf : Shrinks f) : ∀ (k : Nat) (r : List UInt8) (ks : List (List UInt8)) (ps : List JV) (ks' : List (List UInt8)) (ps' : List JV) (q : List UInt8), objL f k ks ps r = some (ks', ps', q) → q.length < r.length := by
  intro k
  induction k with
  | zero => intro r ks ps ks' ps' q h; cases h
  | succ k ih =>
    intro r ks ps ks' ps' q h
    cases objStep f ks r with
    | bad h' => rw [h'] at h; cases h
    | last key v r0 r1 r2 r3 r4 h0 e1 e2 e3 e4 e5 =>
      subst h0
      rw [objL_last e1 e2 e3 e4 e5] at h
      simp at h
      have := obj_len hf e1 e2 e3 e5
      rw [← h.2.2]; exact this
    | more key v r0 r1 r2 r3 r4 h0 e1 e2 e3 e4 e5 =>
      subst h0
      rw [objL_more e1 e2 e3 e4 e5] at h
      have := ih _ _ _ _ _ _ h
      have := obj_len hf e1 e2 e3 e5
      omega

def objR (n : Nat) (r : List UInt8) : Option (List (List UInt8) × List JV × List UInt8) :=
  match skip r with
  | 125 :: r2 => some ([], [], skip r2)
  | r2 => objL (pv n) (r2.length + 1) [] [] r2
theorem arrR_end {n : Nat} {r r2 : List UInt8} (h : skip r = 93 :: r2) : arrR n r = some ([], skip r2) := by simp only [arrR, h]
theorem arrR_more {n : Nat} {r : List UInt8} (h : ¬ (skip r).head? = some 93) : arrR n r = arrL (pv n) ((skip r).length + 1) (skip r) := by
  unfold arrR
  split
  · rename_i e; rw [e] at h; simp at h
  · rfl
theorem objR_end {n : Nat} {r r2 : List UInt8} (h : skip r = 125 :: r2) : objR n r = some ([], [], skip r2) := by simp only [objR, h]
theorem objR_more {n : Nat} {r : List UInt8} (h : ¬ (skip r).head? = some 125) : objR n r = objL (pv n) ((skip r).length + 1) [] [] (skip r) := by
  unfold objR
  split
  · rename_i e; rw [e] at h; simp at h
  · rfl

/-! ### one value, case by case -/
theorem pv_null {n : Nat} {r : List UInt8} (h : Lib.hasPrefix r tNull = true) : pv (n + 1) r = some (.mk 1 0 [] [] [], r.drop 4) := by rw [pv, if_pos h]
theorem pv_false {n : Nat} {r : List UInt8} (h1 : Lib.hasPrefix r tNull = false) (h : Lib.hasPrefix r tFalse = true) : pv (n + 1) r = some (.mk 2 0 [] [] [], r.drop 5) := by rw [pv, if_neg (by simp [h1]), if_pos h]
theorem pv_true {n : Nat} {r : List UInt8} (h1 : Lib.hasPrefix r tNull = false) (h2 : Lib.hasPrefix r tFalse = false) (h : Lib.hasPrefix r tTrue = true) : pv (n + 1) r = some (.mk 3 0 [] [] [], r.drop 4) := by rw [pv, if_neg (by simp [h1]), if_neg (by simp [h2]), if_pos h]
theorem pv_str {n : Nat} {r : List UInt8} (h1 : Lib.hasPrefix r tNull = false) (h2 : Lib.hasPrefix r tFalse = false) (h3 : Lib.hasPrefix r tTrue = false) (h : Lib.hasPrefix r [34] = true) :
    pv (n + 1) r = (strR r.tail).map fun z => (.mk 5 0 z.1 [] [], z.2) := by rw [pv, if_neg (by simp [h1]), if_neg (by simp [h2]), if_neg (by simp [h3]), if_pos h]
section
variable {n : Nat} {r : List UInt8} (h1 : Lib.hasPrefix r tNull = false) (h2 : Lib.hasPrefix r tFalse = false) (h3 : Lib.hasPrefix r tTrue = false) (h4 : Lib.hasPrefix r [34] = false)
include h1 h2 h3 h4
theorem pv_arr {r1 : List UInt8} (h : skip r = 91 :: r1) : pv (n + 1) r = (arrR n r1).map fun z => (.mk 6 0 [] [] z.1, z.2) := by
  rw [pv, if_neg (by simp [h1]), if_neg (by simp [h2]), if_neg (by simp [h3]), if_neg (by simp [h4]), h]
  simp only [arrR]
  generalize skip r1 = x
  split <;> first | rfl | (split <;> first | rfl | simp_all)
theorem pv_obj {r1 : List UInt8} (h : skip r = 123 :: r1) : pv (n + 1) r = (objR n r1).map fun z => (.mk 7 0 [] z.1 z.2.1, z.2.2) := by
  rw [pv, if_neg (by simp [h1]), if_neg (by simp [h2]), if_neg (by simp [h3]), if_neg (by simp [h4]), h]
  simp only [objR]
  generalize skip r1 = x
  split <;> first | rfl | (split <;> first | rfl | simp_all)
theorem pv_num (h : ¬ (skip r).head? = some 91) (h' : ¬ (skip r).head? = some 123) : pv (n + 1) r = (numR (skip r)).map fun z => (.mk 4 z.1 [] [] [], z.2) := by
  rw [pv, if_neg (by simp [h1]), if_neg (by simp [h2]), if_neg (by simp [h3]), if_neg (by simp [h4])]
  split
  · rename_i e; rw [e] at h; simp at h
  · rename_i e; rw [e] at h'; simp at h'
  · rfl
end
theorem hasPrefix_len {r p : List UInt8} (h : Lib.hasPrefix r p = true) : ∃ q, r = p ++ q := by
  obtain ⟨q, hq⟩ := List.isPrefixOf_iff_prefix.1 h
  exact ⟨q, hq.symm⟩
theorem pv_shrinks : ∀ n, Shrinks (pv n)
  | 0 => fun r v q h => by cases h
  | n + 1 => fun r v q h => by
    have ih := pv_shrinks n
    cases h1 : Lib.hasPrefix r tNull with
    | true => rw [pv_null h1] at h; obtain ⟨q', rfl⟩ := hasPrefix_len h1; simp [tNull] at h ⊢; rw [← h.2]; omega
    | false =>
    cases h2 : Lib.hasPrefix r tFalse with
    | true => rw [pv_false h1 h2] at h; obtain ⟨q', rfl⟩ := hasPrefix_len h2; simp [tFalse] at h ⊢; rw [← h.2]; omega
    | false =>
    cases h3 : Lib.hasPrefix r tTrue with
    | true => rw [pv_true h1 h2 h3] at h; obtain ⟨q', rfl⟩ := hasPrefix_len h3; simp [tTrue] at h ⊢; rw [← h.2]; omega
    | false =>
    cases h4 : Lib.hasPrefix r [34] with
    | true =>
      rw [pv_str h1 h2 h3 h4] at h
      simp only [Option.map_eq_some_iff] at h
      obtain ⟨z, hz, hzz⟩ := h
      have := strR_len _ _ _ hz
      simp at hzz this
      rw [← hzz.2]; omega
    | false =>
    by_cases h5 : (skip r).head? = some 91
    · obtain ⟨r1, h5⟩ := head_cons h5
      rw [pv_arr h1 h2 h3 h4 h5] at h
      simp only [Option.map_eq_some_iff] at h
      obtain ⟨z, hz, hzz⟩ := h
      have a1 := skip_cons_len h5
      by_cases h6 : (skip r1).head? = some 93
      · obtain ⟨r2, h6⟩ := head_cons h6
        rw [arrR_end h6] at hz
        have a2 := skip_cons_len h6
        have a3 := skip_len r
        rw [h5] at a3
        simp at hz hzz a3
        rw [← hzz.2, ← hz]; simp; omega
      · rw [arrR_more h6] at hz
        have := arrL_len ih _ _ z.1 z.2 hz
        simp at hzz
        rw [← hzz.2]; omega
    by_cases h6 : (skip r).head? = some 123
    · obtain ⟨r1, h6⟩ := head_cons h6
      rw [pv_obj h1 h2 h3 h4 h6] at h
      simp only [Option.map_eq_some_iff] at h
      obtain ⟨z, hz, hzz⟩ := h
      have a1 := skip_cons_len h6
      by_cases h7 : (skip r1).head? = some 125
      · obtain ⟨r2, h7⟩ := head_cons h7
        rw [objR_end h7] at hz
        have a2 := skip_cons_len h7
        have a3 := skip_len r
        rw [h6] at a3
        simp at hz hzz a3
        rw [← hzz.2, ← hz]; simp; omega
      · rw [objR_more h7] at hz
        have := objL_len ih _ _ _ _ z.1 z.2.1 z.2.2 hz
        simp at hzz
        rw [← hzz.2]; omega
    · rw [pv_num h1 h2 h3 h4 h5 h6] at h
      simp only [Option.map_eq_some_iff] at h
      obtain ⟨z, hz, hzz⟩ := h
      have a1 := numR_len _ z.1 z.2 hz
      have a2 := skip_len r
      simp at hzz
      rw [← hzz.2]; omega
end Go.Proofs.YtbdbcffnjibjoaaGreatDoor

/- How many values a text holds, at most. Nothing of the program is named here. -/
namespace Go.Proofs.YtbdbcffnjibjoaaGreatDoor
set_option linter.unusedVariables false
set_option linter.unusedSimpArgs false

def Counts (f : List UInt8 → Option (JV × List UInt8)) : Prop := ∀ r v q, f r = some (v, q) → count v + q.length ≤ r.length
theorem arrL_count {f : List UInt8 → Option (JV × List UInt8)} (hf : Counts f) : ∀ (k : Nat) (r : List UInt8) (ps : List JV) (q : List UInt8), arrL f k r = some (ps, q) → counts ps + q.length + 1 ≤ r.length := by
  intro k
  induction k with
  | zero => intro r ps q h; cases h
  | succ k ih =>
    intro r ps q h0
    rcases arrL_cases f r with h | ⟨v, r1, r2, h, h3⟩ | ⟨v, r1, r2, h, h3⟩ | ⟨v, r1, h, h3, h4⟩
    · rw [arrL_none h] at h0; cases h0
    · rw [arrL_end h h3] at h0
      simp at h0
      have hs := hf _ _ _ h
      have hs2 := skip_cons_len h3
      obtain ⟨rfl, rfl⟩ := h0
      simp [counts]; omega
    · rw [arrL_more h h3] at h0
      simp only [Option.map_eq_some_iff] at h0
      obtain ⟨z, hz, hzz⟩ := h0
      have := ih _ z.1 z.2 hz
      have hs := hf _ _ _ h
      have hs2 := skip_cons_len h3
      simp at hzz
      obtain ⟨rfl, rfl⟩ := hzz
      simp [counts]; omega
    · rw [arrL_bad h h3 h4] at h0; cases h0
theorem counts_insert : ∀ (ps : List JV) (i : Nat) (v : JV), counts (ps.insertIdx i v) ≤ counts ps + count v
  | ps, 0, v => by simp [counts]; omega
  | [], i + 1, v => by simp [counts]
  | p :: ps, i + 1, v => by
    have := counts_insert ps i v
    simp [counts]; omega
theorem objL_count {f : List UInt8 → Option (JV × List UInt8)} (hf : Counts f) : ∀ (k : Nat) (r : List UInt8) (ks : List (List UInt8)) (ps : List JV) (ks' : List (List UInt8)) (ps' : List JV) (q : List UInt8),
    objL f k ks ps r = some (ks', ps', q) → counts ps' + q.length + 1 ≤ r.length + counts ps := by
  intro k
  induction k with
  | zero => intro r ks ps ks' ps' q h; cases h
  | succ k ih =>
    intro r ks ps ks' ps' q h
    cases objStep f ks r with
    | bad h' => rw [h'] at h; cases h
    | last key v r0 r1 r2 r3 r4 h0 e1 e2 e3 e4 e5 =>
      subst h0
      rw [objL_last e1 e2 e3 e4 e5] at h
      simp at h
      obtain ⟨_, rfl, rfl⟩ := h
      have a1 := strR_len _ _ _ e1
      have a2 := skip_cons_len e2
      have a3 := hf _ _ _ e3
      have a4 := skip_cons_len e5
      have a5 := counts_insert ps (place ks key) v
      simp; omega
    | more key v r0 r1 r2 r3 r4 h0 e1 e2 e3 e4 e5 =>
      subst h0
      rw [objL_more e1 e2 e3 e4 e5] at h
      have a0 := ih _ _ _ _ _ _ h
      have a1 := strR_len _ _ _ e1
      have a2 := skip_cons_len e2
      have a3 := hf _ _ _ e3
      have a4 := skip_cons_len e5
      have a5 := counts_insert ps (place ks key) v
      simp; omega
theorem pv_counts : ∀ n, Counts (pv n)
  | 0 => fun r v q h => by cases h
  | n + 1 => fun r v q h => by
    have ih := pv_counts n
    have hsh := pv_shrinks (n + 1) r v q h
    cases h1 : Lib.hasPrefix r tNull with
    | true => rw [pv_null h1] at h; simp at h; obtain ⟨rfl, rfl⟩ := h; simp [count, counts]; simp at hsh; omega
    | false =>
    cases h2 : Lib.hasPrefix r tFalse with
    | true => rw [pv_false h1 h2] at h; simp at h; obtain ⟨rfl, rfl⟩ := h; simp [count, counts]; simp at hsh; omega
    | false =>
    cases h3 : Lib.hasPrefix r tTrue with
    | true => rw [pv_true h1 h2 h3] at h; simp at h; obtain ⟨rfl, rfl⟩ := h; simp [count, counts]; simp at hsh; omega
    | false =>
    cases h4 : Lib.hasPrefix r [34] with
    | true =>
      rw [pv_str h1 h2 h3 h4] at h
      simp only [Option.map_eq_some_iff] at h
      obtain ⟨z, hz, hzz⟩ := h
      simp at hzz
      obtain ⟨rfl, rfl⟩ := hzz
      simp [count, counts]; omega
    | false =>
    by_cases h5 : (skip r).head? = some 91
    · obtain ⟨r1, h5⟩ := head_cons h5
      rw [pv_arr h1 h2 h3 h4 h5] at h
      simp only [Option.map_eq_some_iff] at h
      obtain ⟨z, hz, hzz⟩ := h
      have a1 := skip_cons_len h5
      simp at hzz
      obtain ⟨rfl, rfl⟩ := hzz
      by_cases h6 : (skip r1).head? = some 93
      · obtain ⟨r2, h6⟩ := head_cons h6
        rw [arrR_end h6] at hz
        simp at hz
        rw [← hz] at hsh ⊢
        simp [count, counts]; simp at hsh; omega
      · rw [arrR_more h6] at hz
        have := arrL_count ih _ _ z.1 z.2 hz
        simp [count]; omega
    by_cases h6 : (skip r).head? = some 123
    · obtain ⟨r1, h6⟩ := head_cons h6
      rw [pv_obj h1 h2 h3 h4 h6] at h
      simp only [Option.map_eq_some_iff] at h
      obtain ⟨z, hz, hzz⟩ := h
      have a1 := skip_cons_len h6
      simp at hzz
      obtain ⟨rfl, rfl⟩ := hzz
      by_cases h7 : (skip r1).head? = some 125
      · obtain ⟨r2, h7⟩ := head_cons h7
        rw [objR_end h7] at hz
        simp at hz
        rw [← hz] at hsh ⊢
        simp [count, counts]; simp at hsh; omega
      · rw [objR_more h7] at hz
        have := objL_count ih _ _ _ _ z.1 z.2.1 z.2.2 hz
        simp [counts] at this
        simp [count]; omega
    · rw [pv_num h1 h2 h3 h4 h5 h6] at h
      simp only [Option.map_eq_some_iff] at h
      obtain ⟨z, hz, hzz⟩ := h
      simp at hzz
      obtain ⟨rfl, rfl⟩ := hzz
      simp [count, counts]; omega

/-- The value of a whole text. -/
def readR (s : List UInt8) : Option JV :=
  match pv (s.length + 1) (skip s) with
  | none => none
  | some (v, r) => if skip r = [] then some v else none
theorem readR_none {s : List UInt8} (h : pv (s.length + 1) (skip s) = none) : readR s = none := by simp [readR, h]
theorem readR_some {s r : List UInt8} {v : JV} (h : pv (s.length + 1) (skip s) = some (v, r)) : readR s = if skip r = [] then some v else none := by simp [readR, h]
theorem readR_count {s : List UInt8} {v : JV} (h : readR s = some v) : count v ≤ s.length := by
  unfold readR at h
  split at h
  · cases h
  · rename_i v' r he
    split at h
    · simp at h; subst h
      have := pv_counts _ _ _ _ he
      have := skip_len s
      omega
    · cases h
end Go.Proofs.YtbdbcffnjibjoaaGreatDoor

/- A value comes back from its text. Nothing of the program is named here. -/
namespace Go.Proofs.YtbdbcffnjibjoaaGreatDoor
set_option linter.unusedVariables false
set_option linter.unusedSimpArgs false

mutual
/-- Right in form, however deep. -/
def Fine : JV → Prop
  | .mk k n t ks ps => alone (.mk k n t ks ps) 0 = 0 ∧ Fines ps
def Fines : List JV → Prop
  | [] => True
  | p :: r => Fine p ∧ Fines r
end
theorem alone_zero {v : JV} {d : Nat} (h : alone v d = 0) : alone v 0 = 0 := by
  unfold alone at h ⊢
  by_cases h6 : 6 ≤ d
  · rw [if_pos h6] at h; cases h
  · rw [if_neg h6] at h; rw [if_neg (by omega)]; exact h
mutual
theorem fine_of : ∀ (d : Nat) (v : JV), fault d v = 0 → Fine v
  | d, .mk k n t ks ps, h => by
    obtain ⟨h1, h2⟩ := fault_parts h
    unfold Fine
    exact ⟨alone_zero h1, fines_of (d + 1) ps h2⟩
theorem fines_of : ∀ (d : Nat) (ps : List JV), faults d ps = 0 → Fines ps
  | d, [], _ => by unfold Fines; trivial
  | d, p :: r, h => by
    obtain ⟨h1, h2⟩ := faults_cons h
    unfold Fines
    exact ⟨fine_of d p h1, fines_of d r h2⟩
end
/-- What may stand behind a value: no digit, no blank. -/
def Ends (r : List UInt8) : Prop := skip r = r ∧ ∀ c q, r = c :: q → isDig c = false
theorem Ends.nil : Ends [] := ⟨rfl, fun c q h => by cases h⟩
theorem Ends.cons {c : UInt8} {q : List UInt8} (h1 : isWs c = false) (h2 : isDig c = false) : Ends (c :: q) :=
  ⟨by simp [skip, List.dropWhile_cons, h1], fun c' q' h => by injection h with h _; rw [← h]; exact h2⟩
theorem skip_non {c : UInt8} {q : List UInt8} (h1 : isWs c = false) : skip (c :: q) = c :: q := by simp [skip, List.dropWhile_cons, h1]

/-! ### strings -/
theorem hexV_hexD (n : Nat) (h : n < 16) : hexV (hexD n) = n := by
  have : ∀ j : Fin 16, hexV (hexD j.val) = (j.val : Int) := by decide +kernel
  exact this ⟨n, h⟩
theorem code_back (c : UInt8) (h : c.toNat < 32) (r : List UInt8) : codeR (48 :: 48 :: hexD (c.toNat / 16) :: hexD (c.toNat % 16) :: r) = some (c, r) := by
  have h0 : hexV 48 = 0 := by decide +kernel
  have h1 := hexV_hexD (c.toNat / 16) (by omega)
  have h2 := hexV_hexD (c.toNat % 16) (by omega)
  have hg : codeGo 4 0 (48 :: 48 :: hexD (c.toNat / 16) :: hexD (c.toNat % 16) :: r) = some ((c.toNat : Int), r) := by
    simp only [codeGo, h0, h1, h2]
    rw [if_neg (by omega), if_neg (by omega), if_neg (by omega), if_neg (by omega)]
    congr 2
    omega
  unfold codeR
  rw [hg]
  simp only
  rw [if_pos (by omega)]
  simp
theorem strR_byte (c : UInt8) (r : List UInt8) : strR (esc c ++ r) = (strR r).map fun z => (c :: z.1, z.2) := by
  unfold esc
  by_cases h1 : c = 34
  · subst h1; rw [if_pos rfl]; show strR (92 :: 34 :: r) = _; rw [strR_esc]; rfl
  rw [if_neg h1]
  by_cases h2 : c = 92
  · subst h2; rw [if_pos rfl]; show strR (92 :: 92 :: r) = _; rw [strR_esc]; rfl
  rw [if_neg h2]
  by_cases h3 : c = 8
  · subst h3; rw [if_pos rfl]; show strR (92 :: 98 :: r) = _; rw [strR_esc]; rfl
  rw [if_neg h3]
  by_cases h4 : c = 9
  · subst h4; rw [if_pos rfl]; show strR (92 :: 116 :: r) = _; rw [strR_esc]; rfl
  rw [if_neg h4]
  by_cases h5 : c = 10
  · subst h5; rw [if_pos rfl]; show strR (92 :: 110 :: r) = _; rw [strR_esc]; rfl
  rw [if_neg h5]
  by_cases h6 : c = 12
  · subst h6; rw [if_pos rfl]; show strR (92 :: 102 :: r) = _; rw [strR_esc]; rfl
  rw [if_neg h6]
  by_cases h7 : c = 13
  · subst h7; rw [if_pos rfl]; show strR (92 :: 114 :: r) = _; rw [strR_esc]; rfl
  rw [if_neg h7]
  by_cases h8 : c.toNat < 32
  · rw [if_pos h8]
    show strR (92 :: 117 :: 48 :: 48 :: hexD (c.toNat / 16) :: hexD (c.toNat % 16) :: r) = _
    rw [strR_esc, escR_cons, if_neg (by decide), if_pos rfl, code_back c h8]
  · rw [if_neg h8]
    exact strR_cons h8 h1 h2
theorem strR_quo : ∀ (t r : List UInt8), strR (t.flatMap esc ++ 34 :: r) = some (t, r)
  | [], r => strR_end r
  | c :: t, r => by
    rw [List.flatMap_cons, List.append_assoc, strR_byte, strR_quo t r]
    rfl
theorem esc_ge (c : UInt8) : ∀ x ∈ esc c, 32 ≤ x.toNat := by
  have : ∀ n : Fin 256, (esc (UInt8.ofNat n.val)).all (fun x => decide (32 ≤ x.toNat)) = true := by decide +kernel
  have h := this ⟨c.toNat, c.toNat_lt⟩
  simp only [UInt8.ofNat_toNat] at h
  intro x hx
  simpa using List.all_eq_true.1 h x hx
theorem quo_ge (t : List UInt8) : ∀ x ∈ quo t, 32 ≤ x.toNat := by
  intro x hx
  simp only [quo, List.mem_cons, List.mem_append, List.mem_flatMap, List.not_mem_nil, or_false] at hx
  rcases hx with rfl | ⟨c, _, hc⟩ | rfl
  · decide
  · exact esc_ge c x hc
  · decide
theorem esc_pos (c : UInt8) : 1 ≤ (esc c).length := by
  unfold esc; repeat' split
  all_goals simp
theorem esc_sum : ∀ (t : List UInt8), t.length ≤ (t.flatMap esc).length ∧ (t.flatMap esc).length ≤ 6 * t.length
  | [] => by simp
  | c :: t => by
    have h1 := esc_sum t
    have h2 := esc_pos c
    have h3 := esc_le c
    simp only [List.flatMap_cons, List.length_append, List.length_cons]
    omega
theorem quo_len (t : List UInt8) : t.length + 2 ≤ (quo t).length ∧ (quo t).length ≤ 6 * t.length + 2 := by
  have := esc_sum t
  simp only [quo, List.length_cons, List.length_append, List.length_nil]
  omega
end Go.Proofs.YtbdbcffnjibjoaaGreatDoor

/- Numbers, arrays and objects come back from their texts. Nothing of the program is named here. -/
namespace Go.Proofs.YtbdbcffnjibjoaaGreatDoor
set_option linter.unusedVariables false
set_option linter.unusedSimpArgs false

theorem dig_is (k : Nat) (h : k < 10) : isDig (UInt8.ofNat (48 + k)) = true ∧ (UInt8.ofNat (48 + k)).toNat = 48 + k ∧ (UInt8.ofNat (48 + k) = 48 ↔ k = 0) := by
  have : ∀ j : Fin 10, isDig (UInt8.ofNat (48 + j.val)) = true ∧ (UInt8.ofNat (48 + j.val)).toNat = 48 + j.val ∧ (UInt8.ofNat (48 + j.val) = 48 ↔ j.val = 0) := by decide +kernel
  exact this ⟨k, h⟩
theorem dec_all (u : Nat) : ∀ c ∈ Lib.decDigits u, isDig c = true := by
  induction u using Nat.strongRecOn with
  | _ u ih =>
    by_cases h : u < 10
    · rw [Lib.decDigits, dif_pos h]
      intro c hc
      rw [List.mem_singleton] at hc; subst hc
      exact (dig_is u h).1
    · rw [Lib.decDigits, dif_neg h]
      intro c hc
      rcases List.mem_append.1 hc with hc | hc
      · exact ih (u / 10) (by omega) c hc
      · rw [List.mem_singleton] at hc; subst hc
        exact (dig_is (u % 10) (by omega)).1
theorem dec_head (u : Nat) (h0 : 0 < u) : ∃ c q, Lib.decDigits u = c :: q ∧ c ≠ 48 := by
  induction u using Nat.strongRecOn with
  | _ u ih =>
    by_cases h : u < 10
    · exact ⟨_, [], by rw [Lib.decDigits, dif_pos h], fun e => by have := (dig_is u h).2.2.1 e; omega⟩
    · obtain ⟨c, q, h1, h2⟩ := ih (u / 10) (by omega) (by omega)
      exact ⟨c, q ++ [UInt8.ofNat (48 + u % 10)], by rw [Lib.decDigits, dif_neg h, h1]; rfl, h2⟩
theorem digGo_app : ∀ (a b : List UInt8) (n : Int), digGo n (a ++ b) = digGo (digGo n a) b
  | [], b, n => rfl
  | c :: a, b, n => by show digGo _ (a ++ b) = _; rw [digGo_app a b]; rfl
theorem digGo_dec (u : Nat) (hu : u ≤ 9007199254740992) : digGo 0 (Lib.decDigits u) = u := by
  induction u using Nat.strongRecOn with
  | _ u ih =>
    by_cases h : u < 10
    · rw [Lib.decDigits, dif_pos h]
      have := (dig_is u h).2.1
      simp only [digGo, this]
      omega
    · rw [Lib.decDigits, dif_neg h, digGo_app, ih (u / 10) (by omega) (by omega)]
      have := (dig_is (u % 10) (by omega)).2.1
      simp only [digGo, this]
      omega
theorem takeWhile_all {p : UInt8 → Bool} : ∀ (a r : List UInt8), (∀ c ∈ a, p c = true) → (∀ c q, r = c :: q → p c = false) → (a ++ r).takeWhile p = a ∧ (a ++ r).dropWhile p = r
  | [], r, _, h => by
    cases r with
    | nil => simp
    | cons c q => simp [h c q rfl]
  | c :: a, r, h1, h2 => by
    have := takeWhile_all a r (fun x hx => h1 x (by simp [hx])) h2
    simp [h1 c (by simp), this.1, this.2]
theorem numR_back (n : Int) (h0 : -9007199254740992 < n) (h1 : n < 9007199254740992) (r : List UInt8) (hr : Ends r) : numR (Lib.itoa n ++ r) = some (n, r) := by
  by_cases hneg : n < 0
  · obtain ⟨u, rfl⟩ : ∃ u : Nat, n = -(u : Int) := ⟨n.natAbs, by omega⟩
    rw [Lib.itoa_neg u (by omega)]
    obtain ⟨c, q, hc, hc48⟩ := dec_head u (by omega)
    obtain ⟨ht, hd⟩ := takeWhile_all (Lib.decDigits u) r (dec_all u) hr.2
    rw [numR_eq (by simp) true (by simp) (Lib.decDigits u ++ r) (by simp), ht, hd, hc, if_neg (by simp; exact hc48), ← hc, digGo_dec u (by omega)]
    simp
  · obtain ⟨u, rfl⟩ : ∃ u : Nat, n = u := ⟨n.toNat, by omega⟩
    rw [Lib.itoa_nonneg]
    by_cases hu : u = 0
    · subst hu
      have : Lib.decDigits 0 = [48] := by rw [Lib.decDigits, dif_pos (by omega)]; rfl
      rw [this]
      simp [numR]
    · obtain ⟨c, q, hc, hc48⟩ := dec_head u (by omega)
      obtain ⟨ht, hd⟩ := takeWhile_all (Lib.decDigits u) r (dec_all u) hr.2
      have hdc : isDig c = true := dec_all u c (by rw [hc]; simp)
      have hc45 : c ≠ 45 := fun e => by subst e; revert hdc; decide
      have hh : (Lib.decDigits u ++ r).head? = some c := by rw [hc]; rfl
      rw [numR_eq (by rw [hh]; simpa using hc48) false (by rw [hh]; simpa using hc45) (Lib.decDigits u ++ r) (by simp), ht, hd, hc, if_neg (by simp; exact hc48), ← hc, digGo_dec u (by omega)]
      simp

/-- The first sign of a text. -/
def startC (c : UInt8) : Bool := c == 110 || c == 102 || c == 116 || c == 34 || c == 91 || c == 123 || c == 45 || isDig c
theorem start_ws : ∀ c : UInt8, startC c = true → isWs c = false := by
  intro c
  have : ∀ n : Fin 256, startC (UInt8.ofNat n.val) = true → isWs (UInt8.ofNat n.val) = false := by decide +kernel
  have h := this ⟨c.toNat, c.toNat_lt⟩
  simpa using h
theorem itoa_head (n : Int) : ∃ c q, Lib.itoa n = c :: q ∧ (c = 45 ∨ isDig c = true) := by
  unfold Lib.itoa
  split
  · exact ⟨45, _, rfl, .inl rfl⟩
  · have hne : Lib.decDigits n.toNat ≠ [] := by
      intro e
      have := Lib.decDigits_length n.toNat
      rw [e] at this
      have := Lib.nDigits_pos n.toNat
      simp at *; omega
    obtain ⟨c, q, hc⟩ := List.exists_cons_of_ne_nil hne
    exact ⟨c, q, hc, .inr (dec_all _ c (by rw [hc]; simp))⟩
theorem jtext_head (v : JV) (hf : Fine v) : ∃ c q, jtext v = c :: q ∧ startC c = true := by
  cases v with
  | mk k n t ks ps =>
    unfold Fine at hf
    obtain ⟨_, h1, h7, _⟩ := alone_facts hf.1
    rcases (by omega : k = 1 ∨ k = 2 ∨ k = 3 ∨ k = 4 ∨ k = 5 ∨ k = 6 ∨ k = 7) with rfl | rfl | rfl | rfl | rfl | rfl | rfl
    · exact ⟨110, [117, 108, 108], by rw [jtext]; rfl, by decide⟩
    · exact ⟨102, [97, 108, 115, 101], by rw [jtext]; rfl, by decide⟩
    · exact ⟨116, [114, 117, 101], by rw [jtext]; rfl, by decide⟩
    · obtain ⟨c, q, hc, h⟩ := itoa_head n
      refine ⟨c, q, by rw [jtext]; simpa using hc, ?_⟩
      rcases h with rfl | h
      · decide
      · simp [startC, h]
    · exact ⟨34, _, by rw [jtext]; rfl, by decide⟩
    · exact ⟨91, _, by rw [jtext]; rfl, by decide⟩
    · exact ⟨123, _, by rw [jtext]; rfl, by decide⟩
theorem skip_text (v : JV) (hf : Fine v) (r : List UInt8) : skip (jtext v ++ r) = jtext v ++ r := by
  obtain ⟨c, q, h, hs⟩ := jtext_head v hf
  rw [h]
  exact skip_non (start_ws c hs)
/-- No word begins with another sign. -/
theorem pre_head {c d : UInt8} {p q : List UInt8} (h : d ≠ c) : Lib.hasPrefix (c :: q) (d :: p) = false := by
  simp only [Lib.hasPrefix, List.isPrefixOf]
  rw [show (d == c) = false by simpa using h]; rfl
theorem ends_93 (r : List UInt8) : Ends (93 :: r) := Ends.cons (by decide) (by decide)
theorem ends_44 (r : List UInt8) : Ends (44 :: r) := Ends.cons (by decide) (by decide)
theorem ends_125 (r : List UInt8) : Ends (125 :: r) := Ends.cons (by decide) (by decide)

/-- The elements of an array. -/
theorem arrL_back (f : List UInt8 → Option (JV × List UInt8)) : ∀ (ps : List JV) (k : Nat) (r : List UInt8), ps ≠ [] → Fines ps → ps.length ≤ k → Ends r →
    (∀ p ∈ ps, ∀ q, Ends q → f (jtext p ++ q) = some (p, q)) → arrL f k (jarr true ps ++ 93 :: r) = some (ps, r)
  | [], k, r, h, _, _, _, _ => absurd rfl h
  | p :: ps, 0, r, _, _, hk, _, _ => by simp at hk
  | [p], k + 1, r, _, hf, hk, hr, hp => by
    have e : jarr true [p] ++ 93 :: r = jtext p ++ 93 :: r := by simp [jarr, sep]
    rw [e, arrL_end (hp p (by simp) _ (ends_93 r)) (ends_93 r).1, hr.1]
  | p :: p2 :: ps, k + 1, r, _, hf, hk, hr, hp => by
    unfold Fines at hf
    have e : jarr true (p :: p2 :: ps) ++ 93 :: r = jtext p ++ 44 :: (jarr true (p2 :: ps) ++ 93 :: r) := by simp [jarr, sep]
    have hsk : skip (jarr true (p2 :: ps) ++ 93 :: r) = jarr true (p2 :: ps) ++ 93 :: r := by
      have hf2 := hf.2
      unfold Fines at hf2
      have e2 : jarr true (p2 :: ps) ++ 93 :: r = jtext p2 ++ (jarr false ps ++ 93 :: r) := by simp [jarr, sep]
      rw [e2]; exact skip_text p2 hf2.1 _
    rw [e, arrL_more (hp p (by simp) _ (ends_44 _)) (ends_44 _).1, hsk, arrL_back f (p2 :: ps) k r (by simp) hf.2 (by simpa using hk) hr (fun x hx => hp x (by simp [hx]))]
    rfl
theorem place_end {ks : List (List UInt8)} {k : List UInt8} (h : ∀ x ∈ ks, Op.bytesLess x k = true) : place ks k = ks.length := by
  unfold place
  congr 1
  induction ks with
  | nil => rfl
  | cons a ks ih => rw [List.takeWhile_cons, if_pos (h a (by simp)), ih fun x hx => h x (by simp [hx])]
theorem bytesLess_irrefl : ∀ a : List UInt8, Op.bytesLess a a = false
  | [] => rfl
  | c :: a => by simp [Op.bytesLess, bytesLess_irrefl a]
theorem insert_end {α : Type} (l : List α) (x : α) : l.insertIdx l.length x = l ++ [x] := by
  induction l with
  | nil => rfl
  | cons a l ih => simp [ih]
theorem bytesLess_trans : ∀ a b c : List UInt8, Op.bytesLess a b = true → Op.bytesLess b c = true → Op.bytesLess a c = true
  | a, [], c, h, _ => by cases a <;> simp [Op.bytesLess] at h
  | a, _ :: _, [], _, h => by simp [Op.bytesLess] at h
  | [], x :: b, y :: c, _, _ => by simp [Op.bytesLess]
  | z :: a, x :: b, y :: c, h1, h2 => by
    simp only [Op.bytesLess, Bool.or_eq_true, Bool.and_eq_true, decide_eq_true_eq, beq_iff_eq] at *
    rcases h1 with h1 | ⟨rfl, h1⟩
    · rcases h2 with h2 | ⟨rfl, h2⟩
      · exact .inl (UInt8.lt_trans h1 h2)
      · exact .inl h1
    · rcases h2 with h2 | ⟨rfl, h2⟩
      · exact .inl h2
      · exact .inr ⟨rfl, bytesLess_trans a b c h1 h2⟩

/-- The members of an object, behind those that are there. -/
theorem objL_back (f : List UInt8 → Option (JV × List UInt8)) : ∀ (ks : List (List UInt8)) (ps : List JV) (k : Nat) (r : List UInt8) (ks0 : List (List UInt8)) (ps0 : List JV), ks ≠ [] → ks.length = ps.length → Fines ps → ps.length ≤ k → Ends r → ks0.length = ps0.length →
    incr ks = true → (∀ x ∈ ks0, ∀ y ∈ ks, Op.bytesLess x y = true) → (∀ a b c : List UInt8, Op.bytesLess a b = true → Op.bytesLess b c = true → Op.bytesLess a c = true) →
    (∀ p ∈ ps, ∀ q, Ends q → f (jtext p ++ q) = some (p, q)) → objL f k ks0 ps0 (jobj true ks ps ++ 125 :: r) = some (ks0 ++ ks, ps0 ++ ps, r) := by
  intro ks
  induction ks with
  | nil => intro ps k r ks0 ps0 h; exact absurd rfl h
  | cons key ks ih =>
    intro ps k r ks0 ps0 _ hlen hf hk hr hl0 hinc hlt htr hp
    cases ps with
    | nil => simp at hlen
    | cons p ps =>
    cases k with
    | zero => simp at hk
    | succ k =>
    have hf' := hf
    unfold Fines at hf
    have hnot : key ∉ ks0 := fun hm => by
      have := hlt key hm key (by simp)
      rw [bytesLess_irrefl] at this; cases this
    have hpl := place_end (fun x hx => hlt x hx key (by simp))
    have hstr : ∀ q, strR (key.flatMap esc ++ 34 :: q) = some (key, q) := fun q => strR_quo key q
    have h58 : ∀ q, skip (58 :: q) = 58 :: q := fun q => skip_non (by decide)
    cases ks with
    | nil =>
      have hps : ps = [] := List.eq_nil_of_length_eq_zero (by simpa using hlen.symm)
      subst hps
      have e : jobj true [key] [p] ++ 125 :: r = 34 :: (key.flatMap esc ++ 34 :: 58 :: (jtext p ++ 125 :: r)) := by simp [jobj, sep, quo]
      rw [e, objL_last (hstr _) (h58 _) (by rw [skip_text p hf.1]; exact hp p (by simp) _ (ends_125 r)) hnot (ends_125 r).1, hr.1, hpl, insert_end, hl0, insert_end]
    | cons key2 ks =>
      cases ps with
      | nil => simp at hlen
      | cons p2 ps =>
      have e : jobj true (key :: key2 :: ks) (p :: p2 :: ps) ++ 125 :: r = 34 :: (key.flatMap esc ++ 34 :: 58 :: (jtext p ++ 44 :: (jobj true (key2 :: ks) (p2 :: ps) ++ 125 :: r))) := by simp [jobj, sep, quo]
      have hsk : skip (jobj true (key2 :: ks) (p2 :: ps) ++ 125 :: r) = jobj true (key2 :: ks) (p2 :: ps) ++ 125 :: r := by
        have e2 : jobj true (key2 :: ks) (p2 :: ps) ++ 125 :: r = 34 :: (key2.flatMap esc ++ 34 :: 58 :: (jtext p2 ++ (jobj false ks ps ++ 125 :: r))) := by simp [jobj, sep, quo]
        rw [e2]; exact skip_non (by decide)
      simp only [incr, Bool.and_eq_true] at hinc
      have hall : ∀ y ∈ key2 :: ks, Op.bytesLess key y = true := by
        have key_lt : ∀ (l : List (List UInt8)) (a : List UInt8), Op.bytesLess key a = true → incr (a :: l) = true → ∀ y ∈ a :: l, Op.bytesLess key y = true := by
          intro l
          induction l with
          | nil => intro a h1 _ y hy; simp at hy; subst hy; exact h1
          | cons b l ih2 =>
            intro a h1 h2 y hy
            simp only [incr, Bool.and_eq_true] at h2
            rcases List.mem_cons.1 hy with rfl | hy
            · exact h1
            · exact ih2 b (htr _ _ _ h1 h2.1) h2.2 y hy
        exact key_lt ks key2 hinc.1 hinc.2
      rw [e, objL_more (hstr _) (h58 _) (by rw [skip_text p hf.1]; exact hp p (by simp) _ (ends_44 _)) hnot (ends_44 _).1, hsk, hpl, insert_end, hl0, insert_end,
        ih (p2 :: ps) k r (ks0 ++ [key]) (ps0 ++ [p]) (by simp) (by simpa using hlen) hf.2 (by simpa using hk) hr (by simp [hl0]) hinc.2 ?_ htr (fun x hx => hp x (by simp [hx]))]
      · simp
      · intro x hx y hy
        rcases List.mem_append.1 hx with hx | hx
        · exact hlt x hx y (by simp at hy ⊢; exact .inr hy)
        · simp at hx; subst hx; exact hall y hy
theorem unused_facts {k n : Int} {t : List UInt8} {ks : List (List UInt8)} {ps : List JV} (h : unused (.mk k n t ks ps) = false) : (k ≠ 4 → n = 0) ∧ (k ≠ 5 → t = []) ∧ (k ≠ 7 → ks = []) ∧ (k ≠ 6 → k ≠ 7 → ps = []) := by
  simp only [unused, JV.num, JV.kind, JV.text, JV.keys, JV.parts, Bool.or_eq_false_iff, Bool.and_eq_false_iff, bne_eq_false_iff_eq, Bool.not_eq_false', List.isEmpty_iff, decide_eq_false_iff_not] at h
  obtain ⟨⟨⟨h1, h2⟩, h3⟩, h4⟩ := h
  refine ⟨fun h => ?_, fun h => ?_, fun h => ?_, fun h h' => ?_⟩
  · rcases h1 with h1 | h1
    · exact h1
    · exact absurd h1 h
  · rcases h2 with h2 | h2
    · exact h2
    · exact absurd h2 h
  · rcases h3 with h3 | h3
    · exact List.eq_nil_of_length_eq_zero (by have := of_decide_eq_false h3; omega)
    · exact absurd h3 h
  · rcases h4 with h4 | h4 | h4
    · exact List.eq_nil_of_length_eq_zero (by have := of_decide_eq_false h4; omega)
    · exact absurd h4 h
    · exact absurd h4 h'
theorem jarr_le : ∀ (f : Bool) (ps : List JV) (x : JV), x ∈ ps → (jtext x).length ≤ (jarr f ps).length
  | f, [], x, h => by cases h
  | f, p :: ps, x, h => by
    rw [jarr]
    rcases List.mem_cons.1 h with rfl | h
    · simp; omega
    · have := jarr_le false ps x h; simp; omega
theorem jobj_le : ∀ (f : Bool) (ks : List (List UInt8)) (ps : List JV) (x : JV), ks.length = ps.length → x ∈ ps → (jtext x).length ≤ (jobj f ks ps).length
  | f, ks, [], x, _, h => by cases h
  | f, [], p :: ps, x, hl, h => by simp at hl
  | f, k :: ks, p :: ps, x, hl, h => by
    rw [jobj]
    rcases List.mem_cons.1 h with rfl | h
    · simp; omega
    · have := jobj_le false ks ps x (by simpa using hl) h; simp; omega
theorem jarr_many : ∀ (f : Bool) (ps : List JV), Fines ps → ps.length ≤ (jarr f ps).length
  | f, [], _ => by simp
  | f, p :: ps, h => by
    unfold Fines at h
    obtain ⟨c, q, hc, _⟩ := jtext_head p h.1
    have := jarr_many false ps h.2
    rw [jarr, hc]; simp; omega
theorem jobj_many : ∀ (f : Bool) (ks : List (List UInt8)) (ps : List JV), ks.length = ps.length → ps.length ≤ (jobj f ks ps).length
  | f, ks, [], _ => by simp
  | f, [], p :: ps, h => by simp at h
  | f, k :: ks, p :: ps, h => by
    have := jobj_many false ks ps (by simpa using h)
    rw [jobj]; simp [quo]; omega
theorem fines_mem : ∀ {ps : List JV} {x : JV}, Fines ps → x ∈ ps → Fine x
  | [], x, _, h => by cases h
  | p :: ps, x, hf, h => by
    unfold Fines at hf
    rcases List.mem_cons.1 h with rfl | h
    · exact hf.1
    · exact fines_mem hf.2 h

/-- A value, from its text. -/
theorem pv_text : ∀ (n : Nat) (v : JV) (r : List UInt8), (jtext v).length < n → Fine v → Ends r → pv n (jtext v ++ r) = some (v, r) := by
  intro n
  induction n with
  | zero => intro v r h; omega
  | succ n ih =>
    intro v r hn hf hr
    cases v with
    | mk k num t ks ps =>
      have hf' := hf
      unfold Fine at hf
      obtain ⟨ha, hfs⟩ := hf
      obtain ⟨_, hk1, hk7, hobj, hn1, hn2, hu⟩ := alone_facts ha
      obtain ⟨u1, u2, u3, u4⟩ := unused_facts hu
      rcases (by omega : k = 1 ∨ k = 2 ∨ k = 3 ∨ k = 4 ∨ k = 5 ∨ k = 6 ∨ k = 7) with rfl | rfl | rfl | rfl | rfl | rfl | rfl
      · obtain rfl := u1 (by decide); obtain rfl := u2 (by decide); obtain rfl := u3 (by decide); obtain rfl := u4 (by decide) (by decide)
        have e : jtext (.mk 1 0 [] [] []) ++ r = 110 :: 117 :: 108 :: 108 :: r := by rw [jtext]; rfl
        rw [e, pv_null (by rfl)]; rfl
      · obtain rfl := u1 (by decide); obtain rfl := u2 (by decide); obtain rfl := u3 (by decide); obtain rfl := u4 (by decide) (by decide)
        have e : jtext (.mk 2 0 [] [] []) ++ r = 102 :: 97 :: 108 :: 115 :: 101 :: r := by rw [jtext]; rfl
        rw [e, pv_false (by rfl) (by rfl)]; rfl
      · obtain rfl := u1 (by decide); obtain rfl := u2 (by decide); obtain rfl := u3 (by decide); obtain rfl := u4 (by decide) (by decide)
        have e : jtext (.mk 3 0 [] [] []) ++ r = 116 :: 114 :: 117 :: 101 :: r := by rw [jtext]; rfl
        rw [e, pv_true (by rfl) (by rfl) (by rfl)]; rfl
      · obtain rfl := u2 (by decide); obtain rfl := u3 (by decide); obtain rfl := u4 (by decide) (by decide)
        have e : jtext (.mk 4 num [] [] []) = Lib.itoa num := by rw [jtext]; rfl
        obtain ⟨c, q, hc, hd⟩ := itoa_head num
        have hcs : c ≠ 110 ∧ c ≠ 102 ∧ c ≠ 116 ∧ c ≠ 34 ∧ c ≠ 91 ∧ c ≠ 123 ∧ isWs c = false := by
          rcases hd with rfl | hd
          · decide
          · refine ⟨?_, ?_, ?_, ?_, ?_, ?_, ?_⟩
            any_goals (rintro rfl; revert hd; decide)
            exact start_ws c (by simp [startC, hd])
        obtain ⟨c1, c2, c3, c4, c5, c6, c7⟩ := hcs
        have hcr : Lib.itoa num ++ r = c :: (q ++ r) := by rw [hc]; rfl
        have hsk : skip (Lib.itoa num ++ r) = Lib.itoa num ++ r := by rw [hcr]; exact skip_non c7
        have hh : (Lib.itoa num ++ r).head? = some c := by rw [hcr]; rfl
        rw [e, pv_num (by rw [hcr]; exact pre_head (Ne.symm c1)) (by rw [hcr]; exact pre_head (Ne.symm c2)) (by rw [hcr]; exact pre_head (Ne.symm c3)) (by rw [hcr]; exact pre_head (Ne.symm c4))
          (by rw [hsk, hh]; simpa using c5) (by rw [hsk, hh]; simpa using c6), hsk, numR_back num hn1 hn2 r hr]
        rfl
      · obtain rfl := u1 (by decide); obtain rfl := u3 (by decide); obtain rfl := u4 (by decide) (by decide)
        have e : jtext (.mk 5 0 t [] []) ++ r = 34 :: (t.flatMap esc ++ 34 :: r) := by rw [jtext]; simp [quo]
        rw [e, pv_str (pre_head (by decide)) (pre_head (by decide)) (pre_head (by decide)) ((hasPrefix_one _ _).2 rfl)]
        show Option.map _ (strR (t.flatMap esc ++ 34 :: r)) = _
        rw [strR_quo]
        rfl
      · obtain rfl := u1 (by decide); obtain rfl := u2 (by decide); obtain rfl := u3 (by decide)
        have e0 : jtext (.mk 6 0 [] [] ps) = 91 :: (jarr true ps ++ [93]) := by rw [jtext]; rfl
        have e : jtext (.mk 6 0 [] [] ps) ++ r = 91 :: (jarr true ps ++ 93 :: r) := by rw [e0]; simp
        rw [e0] at hn
        simp at hn
        rw [e, pv_arr (r1 := jarr true ps ++ 93 :: r) (pre_head (by decide)) (pre_head (by decide)) (pre_head (by decide)) (hasPrefix_not (by simp)) (skip_non (by decide))]
        cases ps with
        | nil =>
          have : arrR n (93 :: r) = some ([], skip r) := arrR_end (skip_non (by decide))
          show Option.map _ (arrR n (93 :: r)) = _
          rw [this, hr.1]; rfl
        | cons p ps =>
          have hp : Fine p := by unfold Fines at hfs; exact hfs.1
          have e2 : jarr true (p :: ps) ++ 93 :: r = jtext p ++ (jarr false ps ++ 93 :: r) := by simp [jarr, sep]
          have hsk : skip (jarr true (p :: ps) ++ 93 :: r) = jarr true (p :: ps) ++ 93 :: r := by
            rw [e2]; exact skip_text p hp _
          have hhd : ¬ (skip (jarr true (p :: ps) ++ 93 :: r)).head? = some 93 := by
            rw [hsk]
            obtain ⟨c, q, hc, hs⟩ := jtext_head p hp
            rw [e2, hc]
            simp; rintro rfl; revert hs; decide
          have hmany := jarr_many true (p :: ps) hfs
          rw [arrR_more hhd, hsk, arrL_back (pv n) (p :: ps) _ r (by simp) hfs (by rw [List.length_append]; omega) hr ?_]
          · rfl
          · intro x hx q hq
            have h1 := jarr_le true (p :: ps) x hx
            exact ih x q (by omega) (fines_mem hfs hx) hq
      · obtain rfl := u1 (by decide); obtain rfl := u2 (by decide)
        obtain ⟨hlen, hinc⟩ := hobj rfl
        have e0 : jtext (.mk 7 0 [] ks ps) = 123 :: (jobj true ks ps ++ [125]) := by rw [jtext]; rfl
        have e : jtext (.mk 7 0 [] ks ps) ++ r = 123 :: (jobj true ks ps ++ 125 :: r) := by rw [e0]; simp
        rw [e0] at hn
        simp at hn
        rw [e, pv_obj (r1 := jobj true ks ps ++ 125 :: r) (pre_head (by decide)) (pre_head (by decide)) (pre_head (by decide)) (hasPrefix_not (by simp)) (skip_non (by decide))]
        cases ks with
        | nil =>
          have hps : ps = [] := List.eq_nil_of_length_eq_zero (by simpa using hlen.symm)
          subst hps
          have : objR n (125 :: r) = some ([], [], skip r) := objR_end (skip_non (by decide))
          show Option.map _ (objR n (125 :: r)) = _
          rw [this, hr.1]; rfl
        | cons key ks =>
          cases ps with
          | nil => simp at hlen
          | cons p ps =>
          have e2 : jobj true (key :: ks) (p :: ps) ++ 125 :: r = 34 :: (key.flatMap esc ++ 34 :: 58 :: (jtext p ++ (jobj false ks ps ++ 125 :: r))) := by simp [jobj, sep, quo]
          have hsk : skip (jobj true (key :: ks) (p :: ps) ++ 125 :: r) = jobj true (key :: ks) (p :: ps) ++ 125 :: r := by
            rw [e2]; exact skip_non (by decide)
          have hhd : ¬ (skip (jobj true (key :: ks) (p :: ps) ++ 125 :: r)).head? = some 125 := by rw [hsk, e2]; simp
          have hmany := jobj_many true (key :: ks) (p :: ps) hlen
          rw [objR_more hhd, hsk, objL_back (pv n) (key :: ks) (p :: ps) _ r [] [] (by simp) hlen hfs (by rw [List.length_append]; omega) hr rfl hinc (by simp) bytesLess_trans ?_]
          · rfl
          · intro x hx q hq
            have h1 := jobj_le true (key :: ks) (p :: ps) x hlen hx
            exact ih x q (by omega) (fines_mem hfs hx) hq
/-- A whole text. -/
theorem readR_text (v : JV) (hf : Fine v) : readR (jtext v) = some v := by
  have h := pv_text ((jtext v).length + 1) v [] (by omega) hf Ends.nil
  have hs := skip_text v hf []
  simp only [List.append_nil] at h hs
  rw [← hs] at h
  rw [hs, ← hs] at h
  rw [readR_some (s := jtext v) (r := []) (by rw [hs] at h ⊢; exact h)]
  rfl
end Go.Proofs.YtbdbcffnjibjoaaGreatDoor

/- Rows of keys in increasing order: where a key belongs. Nothing of the program is named here. -/
namespace Go.Proofs.YtbdbcffnjibjoaaGreatDoor
set_option linter.unusedVariables false
set_option linter.unusedSimpArgs false

theorem bytesLess_total : ∀ a b : List UInt8, Op.bytesLess a b = false → Op.bytesLess b a = false → a = b
  | [], [], _, _ => rfl
  | [], _ :: _, h, _ => by simp [Op.bytesLess] at h
  | _ :: _, [], _, h => by simp [Op.bytesLess] at h
  | x :: a, y :: b, h1, h2 => by
    simp only [Op.bytesLess, Bool.or_eq_false_iff, Bool.and_eq_false_iff, decide_eq_false_iff_not, beq_eq_false_iff_ne] at h1 h2
    have hxy : x = y := by
      have e1 : ¬ x.toNat < y.toNat := by simpa [UInt8.lt_iff_toNat_lt] using h1.1
      have e2 : ¬ y.toNat < x.toNat := by simpa [UInt8.lt_iff_toNat_lt] using h2.1
      exact UInt8.toNat_inj.1 (by omega)
    subst hxy
    rw [bytesLess_total a b (by simpa using h1.2) (by simpa using h2.2)]
theorem incr_cons {a : List UInt8} : ∀ {l : List (List UInt8)}, incr (a :: l) = true ↔ (∀ x ∈ l, Op.bytesLess a x = true) ∧ incr l = true
  | [] => by simp [incr]
  | b :: l => by
    rw [show incr (a :: b :: l) = (Op.bytesLess a b && incr (b :: l)) from rfl, Bool.and_eq_true]
    constructor
    · rintro ⟨h1, h2⟩
      refine ⟨fun x hx => ?_, h2⟩
      rcases List.mem_cons.1 hx with rfl | hx
      · exact h1
      · exact bytesLess_trans _ _ _ h1 ((incr_cons.1 h2).1 x hx)
    · rintro ⟨h1, h2⟩
      exact ⟨h1 b (by simp), h2⟩
theorem place_cons (a : List UInt8) (r : List (List UInt8)) (k : List UInt8) : place (a :: r) k = if Op.bytesLess a k = true then place r k + 1 else 0 := by
  unfold place
  rw [List.takeWhile_cons]
  split <;> simp
theorem place_le (ks : List (List UInt8)) (k : List UInt8) : place ks k ≤ ks.length := List.Sublist.length_le (List.takeWhile_sublist _)
theorem place_lt : ∀ {ks : List (List UInt8)} {k : List UInt8} {j : Nat}, j < place ks k → ∃ x, ks[j]? = some x ∧ Op.bytesLess x k = true
  | [], k, j, h => by simp [place] at h
  | a :: r, k, j, h => by
    rw [place_cons] at h
    split at h
    · rename_i ha
      cases j with
      | zero => exact ⟨a, rfl, ha⟩
      | succ j => simpa using place_lt (ks := r) (k := k) (j := j) (by omega)
    · omega
theorem place_ge : ∀ {ks : List (List UInt8)} {k : List UInt8} {j : Nat} {x : List UInt8}, incr ks = true → place ks k ≤ j → ks[j]? = some x → Op.bytesLess x k = false
  | [], k, j, x, _, _, h => by simp at h
  | a :: r, k, j, x, hi, hp, h => by
    rw [place_cons] at hp
    obtain ⟨h1, h2⟩ := incr_cons.1 hi
    split at hp
    · cases j with
      | zero => omega
      | succ j => exact place_ge (ks := r) (j := j) h2 (by omega) (by simpa using h)
    · rename_i ha
      have ha : Op.bytesLess a k = false := by simpa using ha
      cases j with
      | zero => simp at h; subst h; exact ha
      | succ j =>
        have hm : x ∈ r := List.mem_of_getElem? (by simpa using h : r[j]? = some x)
        cases hx : Op.bytesLess x k with
        | false => rfl
        | true => rw [bytesLess_trans _ _ _ (h1 x hm) hx] at ha; cases ha
theorem place_mem {ks : List (List UInt8)} {k : List UInt8} (hi : incr ks = true) : k ∈ ks ↔ ks[place ks k]? = some k := by
  refine ⟨fun hm => ?_, fun h => List.mem_of_getElem? h⟩
  induction ks with
  | nil => simp at hm
  | cons a r ih =>
    obtain ⟨h1, h2⟩ := incr_cons.1 hi
    rw [place_cons]
    rcases List.mem_cons.1 hm with rfl | hm
    · rw [bytesLess_irrefl]; rfl
    · rw [if_pos (h1 k hm)]
      simpa using ih h2 hm
theorem incr_insert {k : List UInt8} : ∀ {ks : List (List UInt8)}, incr ks = true → k ∉ ks → incr (ks.insertIdx (place ks k) k) = true
  | [], _, _ => by simp [place, incr]
  | a :: r, hi, hm => by
    obtain ⟨h1, h2⟩ := incr_cons.1 hi
    have hr : k ∉ r := fun h => hm (by simp [h])
    rw [place_cons]
    split
    · rename_i ha
      rw [List.insertIdx_succ_cons]
      refine incr_cons.2 ⟨fun x hx => ?_, incr_insert h2 hr⟩
      rcases List.mem_insertIdx (by have := place_le r k; omega) |>.1 hx with rfl | hx
      · exact ha
      · exact h1 x hx
    · rename_i ha
      have ha : Op.bytesLess a k = false := by simpa using ha
      rw [List.insertIdx_zero]
      have hka : Op.bytesLess k a = true := by
        cases h : Op.bytesLess k a with
        | true => rfl
        | false => exact absurd (bytesLess_total _ _ h ha) (fun e => hm (by simp [e]))
      refine incr_cons.2 ⟨fun x hx => ?_, hi⟩
      rcases List.mem_cons.1 hx with rfl | hx
      · exact hka
      · exact bytesLess_trans _ _ _ hka (h1 x hx)
/-- An element put in, as parts. -/
theorem insertIdx_parts {α : Type} (x : α) : ∀ (l : List α) (i : Nat), i ≤ l.length → l.insertIdx i x = l.take i ++ [x] ++ l.drop i
  | l, 0, _ => by simp
  | [], i + 1, h => by simp at h
  | a :: l, i + 1, h => by
    rw [List.insertIdx_succ_cons, insertIdx_parts x l i (by simpa using h)]; rfl
end Go.Proofs.YtbdbcffnjibjoaaGreatDoor

/- What ValueOf of the statements makes, as values. Nothing of the program is named here. -/
namespace Go.Proofs.YtbdbcffnjibjoaaGreatDoor
set_option linter.unusedVariables false
set_option linter.unusedSimpArgs false

/-- Right wherever it is laid, with so many levels left. -/
def OkAt (deep : Nat) (v : JV) : Prop := ∀ d, d + deep ≤ 6 → fault d v = 0
theorem okAt_of {k n : Int} {t : List UInt8} {ks : List (List UInt8)} {ps : List JV} {deep : Nat} (h1 : 1 ≤ deep) (ha : alone (.mk k n t ks ps) 0 = 0) (hp : ∀ d, d + deep ≤ 6 → faults (d + 1) ps = 0) : OkAt deep (.mk k n t ks ps) := by
  intro d hd
  have h6 : ¬ 6 ≤ d := by omega
  have hz : alone (.mk k n t ks ps) d = 0 := by
    unfold alone at ha ⊢
    rw [if_neg (by omega)] at ha
    rw [if_neg h6]; exact ha
  unfold fault
  rw [if_neg (by simp [hz])]
  exact hp d hd
theorem faults_of {d : Nat} : ∀ {ps : List JV}, (∀ p ∈ ps, fault d p = 0) → faults d ps = 0
  | [], _ => by unfold faults; rfl
  | p :: r, h => by
    unfold faults
    rw [if_neg (by simp [h p (by simp)])]
    exact faults_of fun x hx => h x (by simp [hx])
theorem alone_word (k : Int) (h : 1 ≤ k ∧ k ≤ 3) : alone (.mk k 0 [] [] []) 0 = 0 := by
  show (if (6 : Nat) ≤ 0 then (5 : Int) else if k < 1 ∨ 7 < k then 3 else if unused (.mk k 0 [] [] []) = true then 4
      else if k = 7 ∧ (([] : List (List UInt8)).length ≠ ([] : List JV).length ∨ incr [] = false) then 4 else if (0 : Int) ≤ -9007199254740992 ∨ 9007199254740992 ≤ (0 : Int) then 2 else 0) = 0
  rw [if_neg (by omega), if_neg (by omega), if_neg (by simp [unused, JV.kind, JV.num, JV.text, JV.keys, JV.parts]), if_neg (by omega), if_neg (by omega)]
theorem alone_num (n : Int) (h0 : -9007199254740992 < n) (h1 : n < 9007199254740992) : alone (.mk 4 n [] [] []) 0 = 0 := by
  show (if (6 : Nat) ≤ 0 then (5 : Int) else if (4 : Int) < 1 ∨ 7 < (4 : Int) then 3 else if unused (.mk 4 n [] [] []) = true then 4
      else if (4 : Int) = 7 ∧ (([] : List (List UInt8)).length ≠ ([] : List JV).length ∨ incr [] = false) then 4 else if n ≤ -9007199254740992 ∨ 9007199254740992 ≤ n then 2 else 0) = 0
  rw [if_neg (by omega), if_neg (by omega), if_neg (by simp [unused, JV.kind, JV.num, JV.text, JV.keys, JV.parts]), if_neg (by omega), if_neg (by omega)]
theorem alone_str (t : List UInt8) : alone (.mk 5 0 t [] []) 0 = 0 := by
  show (if (6 : Nat) ≤ 0 then (5 : Int) else if (5 : Int) < 1 ∨ 7 < (5 : Int) then 3 else if unused (.mk 5 0 t [] []) = true then 4
      else if (5 : Int) = 7 ∧ (([] : List (List UInt8)).length ≠ ([] : List JV).length ∨ incr [] = false) then 4 else if (0 : Int) ≤ -9007199254740992 ∨ 9007199254740992 ≤ (0 : Int) then 2 else 0) = 0
  rw [if_neg (by omega), if_neg (by omega), if_neg (by simp [unused, JV.kind, JV.num, JV.text, JV.keys, JV.parts]), if_neg (by omega), if_neg (by omega)]
theorem alone_arr (ps : List JV) : alone (.mk 6 0 [] [] ps) 0 = 0 := by
  show (if (6 : Nat) ≤ 0 then (5 : Int) else if (6 : Int) < 1 ∨ 7 < (6 : Int) then 3 else if unused (.mk 6 0 [] [] ps) = true then 4
      else if (6 : Int) = 7 ∧ (([] : List (List UInt8)).length ≠ ps.length ∨ incr [] = false) then 4 else if (0 : Int) ≤ -9007199254740992 ∨ 9007199254740992 ≤ (0 : Int) then 2 else 0) = 0
  rw [if_neg (by omega), if_neg (by omega), if_neg (by simp [unused, JV.kind, JV.num, JV.text, JV.keys, JV.parts]), if_neg (by omega), if_neg (by omega)]
theorem alone_obj (ks : List (List UInt8)) (ps : List JV) (hl : ks.length = ps.length) (hi : incr ks = true) : alone (.mk 7 0 [] ks ps) 0 = 0 := by
  show (if (6 : Nat) ≤ 0 then (5 : Int) else if (7 : Int) < 1 ∨ 7 < (7 : Int) then 3 else if unused (.mk 7 0 [] ks ps) = true then 4
      else if (7 : Int) = 7 ∧ (ks.length ≠ ps.length ∨ incr ks = false) then 4 else if (0 : Int) ≤ -9007199254740992 ∨ 9007199254740992 ≤ (0 : Int) then 2 else 0) = 0
  rw [if_neg (by omega), if_neg (by omega), if_neg (by simp [unused, JV.kind, JV.num, JV.text, JV.keys, JV.parts]), if_neg (by simp [hl, hi]), if_neg (by omega)]
def keyL : List (List UInt8) := [[97], [98, 34], [107, 101, 121], [122]]
theorem keyL_incr (m : Nat) : incr (keyL.take m) = true := by
  match m with
  | 0 => rfl
  | 1 => rfl
  | 2 => decide
  | 3 => decide
  | 4 => decide
  | m + 5 => rw [List.take_of_length_le (by simp [keyL])]; decide
theorem counts_snoc : ∀ (ps : List JV) (v : JV), counts (ps ++ [v]) = counts ps + count v
  | [], v => by simp [counts]
  | p :: ps, v => by simp [counts, counts_snoc ps v]; omega
/-- How many values there are at most, with so many levels. -/
def cnt3 : Nat → Nat
  | 0 => 0
  | d + 1 => 3 * cnt3 d + 1
theorem cnt3_pos (d : Nat) (h : 1 ≤ d) : 1 ≤ cnt3 d := by
  match d with
  | d + 1 => unfold cnt3; omega
theorem cnt3_pred (d : Nat) (h : 1 ≤ d) : cnt3 d = 3 * cnt3 (d - 1) + 1 := by
  match d with
  | d + 1 => rfl
end Go.Proofs.YtbdbcffnjibjoaaGreatDoor
