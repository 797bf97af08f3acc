/- How many values a text holds, at most. Nothing of the program is named here. -/
import Derived.Test.YtikjpniobihanaaDoorJLen
namespace Go.Proofs.YtikjpniobihanaaDoor
set_option linter.unusedVariables false
set_option linter.unusedSimpArgs false

def Counts (f : List UInt8 → Option (JV × List UInt8)) : Prop := ∀ r v q, f r = some (v, q) → count v + q.length ≤ r.length
theorem arrL_count {f : List UInt8 → Option (JV × List UInt8)} (hf : Counts f) : ∀ (k : Nat) (r : List UInt8) (ps : List JV) (q : List UInt8), arrL f k r = some (ps, q) → counts ps + q.length + 1 ≤ r.length := by
  intro k
  induction k with
  | zero => intro r ps q h; cases h
  | succ k ih =>
    intro r ps q h0
    rcases arrL_cases f r with h | ⟨v, r1, r2, h, h3⟩ | ⟨v, r1, r2, h, h3⟩ | ⟨v, r1, h, h3, h4⟩
    · rw [arrL_none h] at h0; cases h0
    · rw [arrL_end h h3] at h0
      simp at h0
      have hs := hf _ _ _ h
      have hs2 := skip_cons_len h3
      obtain ⟨rfl, rfl⟩ := h0
      simp [counts]; omega
    · rw [arrL_more h h3] at h0
      simp only [Option.map_eq_some_iff] at h0
      obtain ⟨z, hz, hzz⟩ := h0
      have := ih _ z.1 z.2 hz
      have hs := hf _ _ _ h
      have hs2 := skip_cons_len h3
      simp at hzz
      obtain ⟨rfl, rfl⟩ := hzz
      simp [counts]; omega
    · rw [arrL_bad h h3 h4] at h0; cases h0
theorem counts_insert : ∀ (ps : List JV) (i : Nat) (v : JV), counts (ps.insertIdx i v) ≤ counts ps + count v
  | ps, 0, v => by simp [counts]; omega
  | [], i + 1, v => by simp [counts]
  | p :: ps, i + 1, v => by
    have := counts_insert ps i v
    simp [counts]; omega
theorem objL_count {f : List UInt8 → Option (JV × List UInt8)} (hf : Counts f) : ∀ (k : Nat) (r : List UInt8) (ks : List (List UInt8)) (ps : List JV) (ks' : List (List UInt8)) (ps' : List JV) (q : List UInt8),
    objL f k ks ps r = some (ks', ps', q) → counts ps' + q.length + 1 ≤ r.length + counts ps := by
  intro k
  induction k with
  | zero => intro r ks ps ks' ps' q h; cases h
  | succ k ih =>
    intro r ks ps ks' ps' q h
    cases objStep f ks r with
    | bad h' => rw [h'] at h; cases h
    | last key v r0 r1 r2 r3 r4 h0 e1 e2 e3 e4 e5 =>
      subst h0
      rw [objL_last e1 e2 e3 e4 e5] at h
      simp at h
      obtain ⟨_, rfl, rfl⟩ := h
      have a1 := strR_len _ _ _ e1
      have a2 := skip_cons_len e2
      have a3 := hf _ _ _ e3
      have a4 := skip_cons_len e5
      have a5 := counts_insert ps (place ks key) v
      simp; omega
    | more key v r0 r1 r2 r3 r4 h0 e1 e2 e3 e4 e5 =>
      subst h0
      rw [objL_more e1 e2 e3 e4 e5] at h
      have a0 := ih _ _ _ _ _ _ h
      have a1 := strR_len _ _ _ e1
      have a2 := skip_cons_len e2
      have a3 := hf _ _ _ e3
      have a4 := skip_cons_len e5
      have a5 := counts_insert ps (place ks key) v
      simp; omega
theorem pv_counts : ∀ n, Counts (pv n)
  | 0 => fun r v q h => by cases h
  | n + 1 => fun r v q h => by
    have ih := pv_counts n
    have hsh := pv_shrinks (n + 1) r v q h
    cases h1 : Lib.hasPrefix r tNull with
    | true => rw [pv_null h1] at h; simp at h; obtain ⟨rfl, rfl⟩ := h; simp [count, counts]; simp at hsh; omega
    | false =>
    cases h2 : Lib.hasPrefix r tFalse with
    | true => rw [pv_false h1 h2] at h; simp at h; obtain ⟨rfl, rfl⟩ := h; simp [count, counts]; simp at hsh; omega
    | false =>
    cases h3 : Lib.hasPrefix r tTrue with
    | true => rw [pv_true h1 h2 h3] at h; simp at h; obtain ⟨rfl, rfl⟩ := h; simp [count, counts]; simp at hsh; omega
    | false =>
    cases h4 : Lib.hasPrefix r [34] with
    | true =>
      rw [pv_str h1 h2 h3 h4] at h
      simp only [Option.map_eq_some_iff] at h
      obtain ⟨z, hz, hzz⟩ := h
      simp at hzz
      obtain ⟨rfl, rfl⟩ := hzz
      simp [count, counts]; omega
    | false =>
    by_cases h5 : (skip r).head? = some 91
    · obtain ⟨r1, h5⟩ := head_cons h5
      rw [pv_arr h1 h2 h3 h4 h5] at h
      simp only [Option.map_eq_some_iff] at h
      obtain ⟨z, hz, hzz⟩ := h
      have a1 := skip_cons_len h5
      simp at hzz
      obtain ⟨rfl, rfl⟩ := hzz
      by_cases h6 : (skip r1).head? = some 93
      · obtain ⟨r2, h6⟩ := head_cons h6
        rw [arrR_end h6] at hz
        simp at hz
        rw [← hz] at hsh ⊢
        simp [count, counts]; simp at hsh; omega
      · rw [arrR_more h6] at hz
        have := arrL_count ih _ _ z.1 z.2 hz
        simp [count]; omega
    by_cases h6 : (skip r).head? = some 123
    · obtain ⟨r1, h6⟩ := head_cons h6
      rw [pv_obj h1 h2 h3 h4 h6] at h
      simp only [Option.map_eq_some_iff] at h
      obtain ⟨z, hz, hzz⟩ := h
      have a1 := skip_cons_len h6
      simp at hzz
      obtain ⟨rfl, rfl⟩ := hzz
      by_cases h7 : (skip r1).head? = some 125
      · obtain ⟨r2, h7⟩ := head_cons h7
        rw [objR_end h7] at hz
        simp at hz
        rw [← hz] at hsh ⊢
        simp [count, counts]; simp at hsh; omega
      · rw [objR_more h7] at hz
        have := objL_count ih _ _ _ _ z.1 z.2.1 z.2.2 hz
        simp [counts] at this
        simp [count]; omega
    · rw [pv_num h1 h2 h3 h4 h5 h6] at h
      simp only [Option.map_eq_some_iff] at h
      obtain ⟨z, hz, hzz⟩ := h
      simp at hzz
      obtain ⟨rfl, rfl⟩ := hzz
      simp [count, counts]; omega

/-- The value of a whole text. -/
def readR (s : List UInt8) : Option JV :=
  match pv (s.length + 1) (skip s) with
  | none => none
  | some (v, r) => if skip r = [] then some v else none
theorem readR_none {s : List UInt8} (h : pv (s.length + 1) (skip s) = none) : readR s = none := by simp [readR, h]
theorem readR_some {s r : List UInt8} {v : JV} (h : pv (s.length + 1) (skip s) = some (v, r)) : readR s = if skip r = [] then some v else none := by simp [readR, h]
theorem readR_count {s : List UInt8} {v : JV} (h : readR s = some v) : count v ≤ s.length := by
  unfold readR at h
  split at h
  · cases h
  · rename_i v' r he
    split at h
    · simp at h; subst h
      have := pv_counts _ _ _ _ he
      have := skip_len s
      omega
    · cases h
end Go.Proofs.YtikjpniobihanaaDoor
