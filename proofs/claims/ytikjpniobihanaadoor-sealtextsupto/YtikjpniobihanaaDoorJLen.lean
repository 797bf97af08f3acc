/- What json's readers consume. Nothing of the program is named here. -/
import Derived.Test.YtikjpniobihanaaDoorJSpec
namespace Go.Proofs.YtikjpniobihanaaDoor
set_option linter.unusedVariables false
set_option linter.unusedSimpArgs false

theorem skip_len (r : List UInt8) : (skip r).length ≤ r.length := List.Sublist.length_le (List.dropWhile_sublist _)
theorem skip_skip (r : List UInt8) : skip (skip r) = skip r := by
  unfold skip
  induction r with
  | nil => rfl
  | cons c r ih =>
    rw [List.dropWhile_cons]
    split
    · exact ih
    · rename_i h; rw [List.dropWhile_cons, if_neg h]

def arrR (n : Nat) (r : List UInt8) : Option (List JV × List UInt8) :=
  match skip r with
  | 93 :: r2 => some ([], skip r2)
  | r2 => arrL (pv n) (r2.length + 1) r2

def Shrinks (f : List UInt8 → Option (JV × List UInt8)) : Prop := ∀ r v q, f r = some (v, q) → q.length < r.length

theorem arrL_succ (f : List UInt8 → Option (JV × List UInt8)) (k : Nat) (r : List UInt8) : arrL f (k + 1) r =
    match f r with
    | none => none
    | some (v, r1) =>
      match skip r1 with
      | 93 :: r2 => some ([v], skip r2)
      | 44 :: r2 => (arrL f k (skip r2)).map fun z => (v :: z.1, z.2)
      | _ => none := rfl
/-- One element, and what stands behind it. -/
theorem arrL_none {f : List UInt8 → Option (JV × List UInt8)} {k : Nat} {r : List UInt8} (h : f r = none) : arrL f (k + 1) r = none := by rw [arrL_succ, h]
theorem arrL_end {f : List UInt8 → Option (JV × List UInt8)} {k : Nat} {r r1 r2 : List UInt8} {v : JV} (h : f r = some (v, r1)) (h2 : skip r1 = 93 :: r2) : arrL f (k + 1) r = some ([v], skip r2) := by rw [arrL_succ, h]; simp only [h2]
theorem arrL_more {f : List UInt8 → Option (JV × List UInt8)} {k : Nat} {r r1 r2 : List UInt8} {v : JV} (h : f r = some (v, r1)) (h2 : skip r1 = 44 :: r2) : arrL f (k + 1) r = (arrL f k (skip r2)).map fun z => (v :: z.1, z.2) := by rw [arrL_succ, h]; simp only [h2]
theorem arrL_bad {f : List UInt8 → Option (JV × List UInt8)} {k : Nat} {r r1 : List UInt8} {v : JV} (h : f r = some (v, r1)) (h2 : ¬ (skip r1).head? = some 93) (h3 : ¬ (skip r1).head? = some 44) : arrL f (k + 1) r = none := by
  rw [arrL_succ, h]
  simp only
  split
  · rename_i r2 e; rw [e] at h2; simp at h2
  · rename_i r2 e; rw [e] at h3; simp at h3
  · rfl
theorem arrL_cases (f : List UInt8 → Option (JV × List UInt8)) (r : List UInt8) :
    f r = none ∨ (∃ v r1 r2, f r = some (v, r1) ∧ skip r1 = 93 :: r2) ∨ (∃ v r1 r2, f r = some (v, r1) ∧ skip r1 = 44 :: r2) ∨ (∃ v r1, f r = some (v, r1) ∧ ¬ (skip r1).head? = some 93 ∧ ¬ (skip r1).head? = some 44) := by
  cases h : f r with
  | none => exact .inl rfl
  | some x =>
    obtain ⟨v, r1⟩ := x
    by_cases h1 : (skip r1).head? = some 93
    · obtain ⟨r2, h2⟩ := head_cons h1; exact .inr (.inl ⟨v, r1, r2, rfl, h2⟩)
    by_cases h3 : (skip r1).head? = some 44
    · obtain ⟨r2, h2⟩ := head_cons h3; exact .inr (.inr (.inl ⟨v, r1, r2, rfl, h2⟩))
    · exact .inr (.inr (.inr ⟨v, r1, rfl, h1, h3⟩))

theorem skip_cons_len {r : List UInt8} {c : UInt8} {r2 : List UInt8} (h : skip r = c :: r2) : (skip r2).length < r.length := by
  have h1 := skip_len r
  have h2 := skip_len r2
  rw [h] at h1; simp at h1; omega

theorem arrL_fuel {f : List UInt8 → Option (JV × List UInt8)} (hf : Shrinks f) : ∀ (m : Nat) (r : List UInt8) (k : Nat), r.length ≤ m → r.length < k → arrL f k r = arrL f (r.length + 1) r := by
  intro m
  induction m with
  | zero =>
    intro r k h1 h2
    obtain ⟨k, rfl⟩ : ∃ k', k = k' + 1 := ⟨k - 1, by omega⟩
    have h0 : r = [] := List.eq_nil_of_length_eq_zero (by omega)
    rcases arrL_cases f r with h | ⟨v, r1, r2, h, h3⟩ | ⟨v, r1, r2, h, h3⟩ | ⟨v, r1, h, h3, h4⟩
    · rw [arrL_none h, arrL_none h]
    · rw [arrL_end h h3, arrL_end h h3]
    · have := hf _ _ _ h; omega
    · rw [arrL_bad h h3 h4, arrL_bad h h3 h4]
  | succ m ih =>
    intro r k h1 h2
    obtain ⟨k, rfl⟩ : ∃ k', k = k' + 1 := ⟨k - 1, by omega⟩
    rcases arrL_cases f r with h | ⟨v, r1, r2, h, h3⟩ | ⟨v, r1, r2, h, h3⟩ | ⟨v, r1, h, h3, h4⟩
    · rw [arrL_none h, arrL_none h]
    · rw [arrL_end h h3, arrL_end h h3]
    · have hs := hf _ _ _ h
      have hs2 := skip_cons_len h3
      rw [arrL_more h h3, arrL_more h h3, ih (skip r2) k (by omega) (by omega), ih (skip r2) r.length (by omega) (by omega)]
    · rw [arrL_bad h h3 h4, arrL_bad h h3 h4]
theorem arrL_len {f : List UInt8 → Option (JV × List UInt8)} (hf : Shrinks f) : ∀ (k : Nat) (r : List UInt8) (ps : List JV) (q : List UInt8), arrL f k r = some (ps, q) → q.length < r.length := by
  intro k
  induction k with
  | zero => intro r ps q h; cases h
  | succ k ih =>
    intro r ps q h0
    rcases arrL_cases f r with h | ⟨v, r1, r2, h, h3⟩ | ⟨v, r1, r2, h, h3⟩ | ⟨v, r1, h, h3, h4⟩
    · rw [arrL_none h] at h0; cases h0
    · rw [arrL_end h h3] at h0
      simp at h0
      have hs := hf _ _ _ h
      have hs2 := skip_cons_len h3
      rw [← h0.2]; omega
    · rw [arrL_more h h3] at h0
      simp only [Option.map_eq_some_iff] at h0
      obtain ⟨z, hz, hzz⟩ := h0
      have := ih _ z.1 z.2 hz
      have hs := hf _ _ _ h
      have hs2 := skip_cons_len h3
      simp at hzz
      rw [← hzz.2]; omega
    · rw [arrL_bad h h3 h4] at h0; cases h0

theorem drop_len {p : UInt8 → Bool} (r : List UInt8) : (r.dropWhile p).length ≤ r.length := List.Sublist.length_le (List.dropWhile_sublist _)
theorem numR_eq {r : List UInt8} (h0 : ¬ r.head? = some 48) (neg : Bool) (hneg : neg = decide (r.head? = some 45)) (r1 : List UInt8) (hr1 : r1 = if neg = true then r.tail else r) :
    numR r = if r1.takeWhile isDig = [] ∨ (r1.takeWhile isDig).head? = some 48 then none else some (if neg = true then -(digGo 0 (r1.takeWhile isDig)) else digGo 0 (r1.takeWhile isDig), r1.dropWhile isDig) := by
  rw [numR, if_neg h0, hr1, hneg]
theorem numR_len (r : List UInt8) (m : Int) (q : List UInt8) (h : numR r = some (m, q)) : q.length < r.length := by
  by_cases h0 : r.head? = some 48
  · obtain ⟨r1, rfl⟩ := head_cons h0
    simp [numR] at h; rw [← h.2]; simp
  obtain ⟨neg, hneg⟩ : ∃ neg, neg = decide (r.head? = some 45) := ⟨_, rfl⟩
  obtain ⟨r1, hr1⟩ : ∃ r1, r1 = if neg = true then r.tail else r := ⟨_, rfl⟩
  have hle : r1.length ≤ r.length := by rw [hr1]; split <;> simp
  rw [numR_eq h0 neg hneg r1 hr1] at h
  by_cases hc : r1.takeWhile isDig = [] ∨ (r1.takeWhile isDig).head? = some 48
  · rw [if_pos hc] at h; cases h
  · rw [if_neg hc] at h
    simp only [Option.some.injEq, Prod.mk.injEq] at h
    rw [← h.2]
    have h1 := congrArg List.length (List.takeWhile_append_dropWhile (p := isDig) (l := r1))
    rw [List.length_append] at h1
    have : 0 < (r1.takeWhile isDig).length := List.length_pos_iff.2 (fun e => hc (.inl e))
    omega

/-! ### objects -/
inductive ObjStep (f : List UInt8 → Option (JV × List UInt8)) (ks : List (List UInt8)) (r : List UInt8) : Prop
  | bad (h : ∀ k ps, objL f (k + 1) ks ps r = none)
  | last (key : List UInt8) (v : JV) (r0 r1 r2 r3 r4 : List UInt8) (h0 : r = 34 :: r0) (h1 : strR r0 = some (key, r1)) (h2 : skip r1 = 58 :: r2) (h3 : f (skip r2) = some (v, r3)) (h4 : key ∉ ks) (h5 : skip r3 = 125 :: r4)
  | more (key : List UInt8) (v : JV) (r0 r1 r2 r3 r4 : List UInt8) (h0 : r = 34 :: r0) (h1 : strR r0 = some (key, r1)) (h2 : skip r1 = 58 :: r2) (h3 : f (skip r2) = some (v, r3)) (h4 : key ∉ ks) (h5 : skip r3 = 44 :: r4)
theorem objL_succ (f : List UInt8 → Option (JV × List UInt8)) (k : Nat) (ks : List (List UInt8)) (ps : List JV) (r0 : List UInt8) : objL f (k + 1) ks ps (34 :: r0) =
      match strR r0 with
      | none => none
      | some (key, r1) =>
        match skip r1 with
        | 58 :: r2 =>
          match f (skip r2) with
          | none => none
          | some (v, r3) =>
            if key ∈ ks then none
            else
              match skip r3 with
              | 125 :: r4 => some (ks.insertIdx (place ks key) key, ps.insertIdx (place ks key) v, skip r4)
              | 44 :: r4 => objL f k (ks.insertIdx (place ks key) key) (ps.insertIdx (place ks key) v) (skip r4)
              | _ => none
        | _ => none := rfl
theorem objL_noquote {f : List UInt8 → Option (JV × List UInt8)} {k : Nat} {ks : List (List UInt8)} {ps : List JV} {r : List UInt8} (h : ¬ r.head? = some 34) : objL f (k + 1) ks ps r = none := by
  unfold objL
  split
  · simp at h
  · rfl
theorem objL_last {f : List UInt8 → Option (JV × List UInt8)} {k : Nat} {ks : List (List UInt8)} {ps : List JV} {key : List UInt8} {v : JV} {r0 r1 r2 r3 r4 : List UInt8} (h1 : strR r0 = some (key, r1)) (h2 : skip r1 = 58 :: r2) (h3 : f (skip r2) = some (v, r3)) (h4 : key ∉ ks) (h5 : skip r3 = 125 :: r4) :
    objL f (k + 1) ks ps (34 :: r0) = some (ks.insertIdx (place ks key) key, ps.insertIdx (place ks key) v, skip r4) := by
  rw [objL_succ, h1]; simp only [h2, h3, if_neg h4, h5]
theorem objL_more {f : List UInt8 → Option (JV × List UInt8)} {k : Nat} {ks : List (List UInt8)} {ps : List JV} {key : List UInt8} {v : JV} {r0 r1 r2 r3 r4 : List UInt8} (h1 : strR r0 = some (key, r1)) (h2 : skip r1 = 58 :: r2) (h3 : f (skip r2) = some (v, r3)) (h4 : key ∉ ks) (h5 : skip r3 = 44 :: r4) :
    objL f (k + 1) ks ps (34 :: r0) = objL f k (ks.insertIdx (place ks key) key) (ps.insertIdx (place ks key) v) (skip r4) := by
  rw [objL_succ, h1]; simp only [h2, h3, if_neg h4, h5]
theorem objL_badStr {f : List UInt8 → Option (JV × List UInt8)} {k : Nat} {ks : List (List UInt8)} {ps : List JV} {r0 : List UInt8} (h1 : strR r0 = none) : objL f (k + 1) ks ps (34 :: r0) = none := by rw [objL_succ, h1]
theorem objL_badColon {f : List UInt8 → Option (JV × List UInt8)} {k : Nat} {ks : List (List UInt8)} {ps : List JV} {key r0 r1 : List UInt8} (h1 : strR r0 = some (key, r1)) (h2 : ¬ (skip r1).head? = some 58) : objL f (k + 1) ks ps (34 :: r0) = none := by
  rw [objL_succ, h1]
  simp only
  split
  · rename_i e; rw [e] at h2; simp at h2
  · rfl
theorem objL_badVal {f : List UInt8 → Option (JV × List UInt8)} {k : Nat} {ks : List (List UInt8)} {ps : List JV} {key r0 r1 r2 : List UInt8} (h1 : strR r0 = some (key, r1)) (h2 : skip r1 = 58 :: r2) (h3 : f (skip r2) = none) : objL f (k + 1) ks ps (34 :: r0) = none := by
  rw [objL_succ, h1]; simp only [h2, h3]
theorem objL_twice {f : List UInt8 → Option (JV × List UInt8)} {k : Nat} {ks : List (List UInt8)} {ps : List JV} {key : List UInt8} {v : JV} {r0 r1 r2 r3 : List UInt8} (h1 : strR r0 = some (key, r1)) (h2 : skip r1 = 58 :: r2) (h3 : f (skip r2) = some (v, r3)) (h4 : key ∈ ks) :
    objL f (k + 1) ks ps (34 :: r0) = none := by rw [objL_succ, h1]; simp only [h2, h3, if_pos h4]
theorem objL_badEnd {f : List UInt8 → Option (JV × List UInt8)} {k : Nat} {ks : List (List UInt8)} {ps : List JV} {key : List UInt8} {v : JV} {r0 r1 r2 r3 : List UInt8} (h1 : strR r0 = some (key, r1)) (h2 : skip r1 = 58 :: r2) (h3 : f (skip r2) = some (v, r3)) (h4 : ¬ (skip r3).head? = some 125) (h5 : ¬ (skip r3).head? = some 44) :
    objL f (k + 1) ks ps (34 :: r0) = none := by
  rw [objL_succ, h1]
  simp only [h2, h3]
  split
  · rfl
  · split
    · rename_i e; rw [e] at h4; simp at h4
    · rename_i e; rw [e] at h5; simp at h5
    · rfl
theorem objStep (f : List UInt8 → Option (JV × List UInt8)) (ks : List (List UInt8)) (r : List UInt8) : ObjStep f ks r := by
  by_cases h0 : r.head? = some 34
  · obtain ⟨r0, rfl⟩ := head_cons h0
    cases h1 : strR r0 with
    | none => exact .bad fun k ps => objL_badStr h1
    | some x =>
      obtain ⟨key, r1⟩ := x
      by_cases h2 : (skip r1).head? = some 58
      · obtain ⟨r2, h2⟩ := head_cons h2
        cases h3 : f (skip r2) with
        | none => exact .bad fun k ps => objL_badVal h1 h2 h3
        | some y =>
          obtain ⟨v, r3⟩ := y
          by_cases h4 : key ∈ ks
          · exact .bad fun k ps => objL_twice h1 h2 h3 h4
          by_cases h5 : (skip r3).head? = some 125
          · obtain ⟨r4, h5⟩ := head_cons h5
            exact .last key v r0 r1 r2 r3 r4 rfl h1 h2 h3 h4 h5
          by_cases h6 : (skip r3).head? = some 44
          · obtain ⟨r4, h6⟩ := head_cons h6
            exact .more key v r0 r1 r2 r3 r4 rfl h1 h2 h3 h4 h6
          · exact .bad fun k ps => objL_badEnd h1 h2 h3 h5 h6
      · exact .bad fun k ps => objL_badColon h1 h2
  · exact .bad fun k ps => objL_noquote h0
theorem obj_len {f : List UInt8 → Option (JV × List UInt8)} (hf : Shrinks f) {key : List UInt8} {v : JV} {r0 r1 r2 r3 r4 : List UInt8} {c : UInt8} (h1 : strR r0 = some (key, r1)) (h2 : skip r1 = 58 :: r2) (h3 : f (skip r2) = some (v, r3)) (h5 : skip r3 = c :: r4) :
    (skip r4).length < (34 :: r0).length := by
  have a1 := strR_len _ _ _ h1
  have a2 := skip_cons_len h2
  have a3 := hf _ _ _ h3
  have a4 := skip_cons_len h5
  simp; omega
theorem objL_fuel {f : List UInt8 → Option (JV × List UInt8)} (hf : Shrinks f) : ∀ (m : Nat) (r : List UInt8) (k : Nat) (ks : List (List UInt8)) (ps : List JV), r.length ≤ m → r.length < k → objL f k ks ps r = objL f (r.length + 1) ks ps r := by
  intro m
  induction m with
  | zero =>
    intro r k ks ps h1 h2
    obtain ⟨k, rfl⟩ : ∃ k', k = k' + 1 := ⟨k - 1, by omega⟩
    have h0 : r = [] := List.eq_nil_of_length_eq_zero (by omega)
    subst h0
    rw [objL_noquote (by simp), objL_noquote (by simp)]
  | succ m ih =>
    intro r k ks ps h1 h2
    obtain ⟨k, rfl⟩ : ∃ k', k = k' + 1 := ⟨k - 1, by omega⟩
    cases objStep f ks r with
    | bad h => rw [h, h]
    | last key v r0 r1 r2 r3 r4 h0 e1 e2 e3 e4 e5 => subst h0; rw [objL_last e1 e2 e3 e4 e5, objL_last e1 e2 e3 e4 e5]
    | more key v r0 r1 r2 r3 r4 h0 e1 e2 e3 e4 e5 =>
      subst h0
      have hs := obj_len hf e1 e2 e3 e5
      rw [objL_more e1 e2 e3 e4 e5, objL_more e1 e2 e3 e4 e5, ih (skip r4) k _ _ (by simp at *; omega) (by simp at *; omega)]
      exact (ih (skip r4) _ _ _ (by simp at *; omega) hs).symm
theorem objL_len {f : List UInt8 → Option (JV × List UInt8)} (hf : Shrinks f) : ∀ (k : Nat) (r : List UInt8) (ks : List (List UInt8)) (ps : List JV) (ks' : List (List UInt8)) (ps' : List JV) (q : List UInt8), objL f k ks ps r = some (ks', ps', q) → q.length < r.length := by
  intro k
  induction k with
  | zero => intro r ks ps ks' ps' q h; cases h
  | succ k ih =>
    intro r ks ps ks' ps' q h
    cases objStep f ks r with
    | bad h' => rw [h'] at h; cases h
    | last key v r0 r1 r2 r3 r4 h0 e1 e2 e3 e4 e5 =>
      subst h0
      rw [objL_last e1 e2 e3 e4 e5] at h
      simp at h
      have := obj_len hf e1 e2 e3 e5
      rw [← h.2.2]; exact this
    | more key v r0 r1 r2 r3 r4 h0 e1 e2 e3 e4 e5 =>
      subst h0
      rw [objL_more e1 e2 e3 e4 e5] at h
      have := ih _ _ _ _ _ _ h
      have := obj_len hf e1 e2 e3 e5
      omega

def objR (n : Nat) (r : List UInt8) : Option (List (List UInt8) × List JV × List UInt8) :=
  match skip r with
  | 125 :: r2 => some ([], [], skip r2)
  | r2 => objL (pv n) (r2.length + 1) [] [] r2
theorem arrR_end {n : Nat} {r r2 : List UInt8} (h : skip r = 93 :: r2) : arrR n r = some ([], skip r2) := by simp only [arrR, h]
theorem arrR_more {n : Nat} {r : List UInt8} (h : ¬ (skip r).head? = some 93) : arrR n r = arrL (pv n) ((skip r).length + 1) (skip r) := by
  unfold arrR
  split
  · rename_i e; rw [e] at h; simp at h
  · rfl
theorem objR_end {n : Nat} {r r2 : List UInt8} (h : skip r = 125 :: r2) : objR n r = some ([], [], skip r2) := by simp only [objR, h]
theorem objR_more {n : Nat} {r : List UInt8} (h : ¬ (skip r).head? = some 125) : objR n r = objL (pv n) ((skip r).length + 1) [] [] (skip r) := by
  unfold objR
  split
  · rename_i e; rw [e] at h; simp at h
  · rfl

/-! ### one value, case by case -/
theorem pv_null {n : Nat} {r : List UInt8} (h : Lib.hasPrefix r tNull = true) : pv (n + 1) r = some (.mk 1 0 [] [] [], r.drop 4) := by rw [pv, if_pos h]
theorem pv_false {n : Nat} {r : List UInt8} (h1 : Lib.hasPrefix r tNull = false) (h : Lib.hasPrefix r tFalse = true) : pv (n + 1) r = some (.mk 2 0 [] [] [], r.drop 5) := by rw [pv, if_neg (by simp [h1]), if_pos h]
theorem pv_true {n : Nat} {r : List UInt8} (h1 : Lib.hasPrefix r tNull = false) (h2 : Lib.hasPrefix r tFalse = false) (h : Lib.hasPrefix r tTrue = true) : pv (n + 1) r = some (.mk 3 0 [] [] [], r.drop 4) := by rw [pv, if_neg (by simp [h1]), if_neg (by simp [h2]), if_pos h]
theorem pv_str {n : Nat} {r : List UInt8} (h1 : Lib.hasPrefix r tNull = false) (h2 : Lib.hasPrefix r tFalse = false) (h3 : Lib.hasPrefix r tTrue = false) (h : Lib.hasPrefix r [34] = true) :
    pv (n + 1) r = (strR r.tail).map fun z => (.mk 5 0 z.1 [] [], z.2) := by rw [pv, if_neg (by simp [h1]), if_neg (by simp [h2]), if_neg (by simp [h3]), if_pos h]
section
variable {n : Nat} {r : List UInt8} (h1 : Lib.hasPrefix r tNull = false) (h2 : Lib.hasPrefix r tFalse = false) (h3 : Lib.hasPrefix r tTrue = false) (h4 : Lib.hasPrefix r [34] = false)
include h1 h2 h3 h4
theorem pv_arr {r1 : List UInt8} (h : skip r = 91 :: r1) : pv (n + 1) r = (arrR n r1).map fun z => (.mk 6 0 [] [] z.1, z.2) := by
  rw [pv, if_neg (by simp [h1]), if_neg (by simp [h2]), if_neg (by simp [h3]), if_neg (by simp [h4]), h]
  simp only [arrR]
  generalize skip r1 = x
  split <;> first | rfl | (split <;> first | rfl | simp_all)
theorem pv_obj {r1 : List UInt8} (h : skip r = 123 :: r1) : pv (n + 1) r = (objR n r1).map fun z => (.mk 7 0 [] z.1 z.2.1, z.2.2) := by
  rw [pv, if_neg (by simp [h1]), if_neg (by simp [h2]), if_neg (by simp [h3]), if_neg (by simp [h4]), h]
  simp only [objR]
  generalize skip r1 = x
  split <;> first | rfl | (split <;> first | rfl | simp_all)
theorem pv_num (h : ¬ (skip r).head? = some 91) (h' : ¬ (skip r).head? = some 123) : pv (n + 1) r = (numR (skip r)).map fun z => (.mk 4 z.1 [] [] [], z.2) := by
  rw [pv, if_neg (by simp [h1]), if_neg (by simp [h2]), if_neg (by simp [h3]), if_neg (by simp [h4])]
  split
  · rename_i e; rw [e] at h; simp at h
  · rename_i e; rw [e] at h'; simp at h'
  · rfl
end
theorem hasPrefix_len {r p : List UInt8} (h : Lib.hasPrefix r p = true) : ∃ q, r = p ++ q := by
  obtain ⟨q, hq⟩ := List.isPrefixOf_iff_prefix.1 h
  exact ⟨q, hq.symm⟩
theorem pv_shrinks : ∀ n, Shrinks (pv n)
  | 0 => fun r v q h => by cases h
  | n + 1 => fun r v q h => by
    have ih := pv_shrinks n
    cases h1 : Lib.hasPrefix r tNull with
    | true => rw [pv_null h1] at h; obtain ⟨q', rfl⟩ := hasPrefix_len h1; simp [tNull] at h ⊢; rw [← h.2]; omega
    | false =>
    cases h2 : Lib.hasPrefix r tFalse with
    | true => rw [pv_false h1 h2] at h; obtain ⟨q', rfl⟩ := hasPrefix_len h2; simp [tFalse] at h ⊢; rw [← h.2]; omega
    | false =>
    cases h3 : Lib.hasPrefix r tTrue with
    | true => rw [pv_true h1 h2 h3] at h; obtain ⟨q', rfl⟩ := hasPrefix_len h3; simp [tTrue] at h ⊢; rw [← h.2]; omega
    | false =>
    cases h4 : Lib.hasPrefix r [34] with
    | true =>
      rw [pv_str h1 h2 h3 h4] at h
      simp only [Option.map_eq_some_iff] at h
      obtain ⟨z, hz, hzz⟩ := h
      have := strR_len _ _ _ hz
      simp at hzz this
      rw [← hzz.2]; omega
    | false =>
    by_cases h5 : (skip r).head? = some 91
    · obtain ⟨r1, h5⟩ := head_cons h5
      rw [pv_arr h1 h2 h3 h4 h5] at h
      simp only [Option.map_eq_some_iff] at h
      obtain ⟨z, hz, hzz⟩ := h
      have a1 := skip_cons_len h5
      by_cases h6 : (skip r1).head? = some 93
      · obtain ⟨r2, h6⟩ := head_cons h6
        rw [arrR_end h6] at hz
        have a2 := skip_cons_len h6
        have a3 := skip_len r
        rw [h5] at a3
        simp at hz hzz a3
        rw [← hzz.2, ← hz]; simp; omega
      · rw [arrR_more h6] at hz
        have := arrL_len ih _ _ z.1 z.2 hz
        simp at hzz
        rw [← hzz.2]; omega
    by_cases h6 : (skip r).head? = some 123
    · obtain ⟨r1, h6⟩ := head_cons h6
      rw [pv_obj h1 h2 h3 h4 h6] at h
      simp only [Option.map_eq_some_iff] at h
      obtain ⟨z, hz, hzz⟩ := h
      have a1 := skip_cons_len h6
      by_cases h7 : (skip r1).head? = some 125
      · obtain ⟨r2, h7⟩ := head_cons h7
        rw [objR_end h7] at hz
        have a2 := skip_cons_len h7
        have a3 := skip_len r
        rw [h6] at a3
        simp at hz hzz a3
        rw [← hzz.2, ← hz]; simp; omega
      · rw [objR_more h7] at hz
        have := objL_len ih _ _ _ _ z.1 z.2.1 z.2.2 hz
        simp at hzz
        rw [← hzz.2]; omega
    · rw [pv_num h1 h2 h3 h4 h5 h6] at h
      simp only [Option.map_eq_some_iff] at h
      obtain ⟨z, hz, hzz⟩ := h
      have a1 := numR_len _ z.1 z.2 hz
      have a2 := skip_len r
      simp at hzz
      rw [← hzz.2]; omega
end Go.Proofs.YtikjpniobihanaaDoor
