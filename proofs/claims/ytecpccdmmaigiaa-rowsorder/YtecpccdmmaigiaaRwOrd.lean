/- Sorted tables: changes of unlike keys, turned and from behind. Nothing of the program is named here. -/
import Derived.Test.YtecpccdmmaigiaaRwM
namespace Go.Proofs.Ytecpccdmmaigiaa
set_option linter.unusedVariables false
set_option linter.unusedSimpArgs false
/-- A key stands in one row at most. -/
def OneK (l : List Rw) : Prop := ∀ r ∈ l, ∀ q ∈ l, r.key = q.key → r = q
theorem OneK.snoc {l : List Rw} {r : Rw} (h : OneK l) (hr : ∀ q ∈ l, q.key ≠ r.key) : OneK (l ++ [r]) := by
  intro a ha b hb he
  simp only [List.mem_append, List.mem_singleton] at ha hb
  rcases ha with ha | rfl
  · rcases hb with hb | rfl
    · exact h a ha b hb he
    · exact absurd he (hr a ha)
  · rcases hb with hb | rfl
    · exact absurd he.symm (hr b hb)
    · rfl
theorem lastOf_none {k d : List UInt8} : ∀ {l : List Rw}, (∀ r ∈ l, r.key ≠ k) → lastOf l k d = d
  | [], _ => rfl
  | r :: l, h => by
    rw [lastOf, if_neg (h r (by simp)), lastOf_none fun q hq => h q (by simp [hq])]
theorem lastOf_one {k v : List UInt8} : ∀ {l : List Rw} {d : List UInt8}, (∀ r ∈ l, r.key = k → r.val = v) → (∃ r ∈ l, r.key = k) ∨ d = v → lastOf l k d = v
  | [], d, _, h => by
    rcases h with ⟨r, hr, _⟩ | h
    · simp at hr
    · exact h
  | r :: l, d, h, hex => by
    rw [lastOf]
    refine lastOf_one (fun q hq => h q (by simp [hq])) ?_
    by_cases hk : r.key = k
    · rw [if_pos hk]; exact .inr (h r (by simp) hk)
    · rw [if_neg hk]
      rcases hex with ⟨q, hq, hqk⟩ | hd
      · rcases List.mem_cons.1 hq with rfl | hq
        · exact absurd hqk hk
        · exact .inl ⟨q, hq, hqk⟩
      · exact .inr hd
theorem lastOf_same {l m : List Rw} (h1 : OneK l) (h2 : ∀ r, r ∈ l ↔ r ∈ m) (k d : List UInt8) : lastOf l k d = lastOf m k d := by
  by_cases hk : ∃ r ∈ l, r.key = k
  · obtain ⟨r, hr, hrk⟩ := hk
    rw [lastOf_one (v := r.val) (fun q hq hqk => by rw [h1 q hq r hr (hqk.trans hrk.symm)]) (.inl ⟨r, hr, hrk⟩),
      lastOf_one (v := r.val) (fun q hq hqk => by rw [h1 q ((h2 q).2 hq) r hr (hqk.trans hrk.symm)]) (.inl ⟨r, (h2 r).1 hr, hrk⟩)]
  · rw [lastOf_none fun r hr e => hk ⟨r, hr, e⟩, lastOf_none fun r hr e => hk ⟨r, (h2 r).2 hr, e⟩]
def rowAt (l : List Rw) (m : Nat) : Rw := (l[m]?).getD ⟨[], []⟩
theorem rowAt_eq {l : List Rw} {m : Nat} (h : m < l.length) : rowAt l m = l[m] := by unfold rowAt; rw [List.getElem?_eq_getElem h]; rfl
/-- The rows from place T on, around, the last ahead. -/
def oth (l : List Rw) (T : Nat) : Nat → List Rw
  | 0 => []
  | i + 1 => rowAt l ((i + T) % l.length) :: oth l T i
theorem oth_len (l : List Rw) (T : Nat) : ∀ i, (oth l T i).length = i
  | 0 => rfl
  | i + 1 => by rw [oth, List.length_cons, oth_len l T i]
theorem mem_oth {l : List Rw} {T : Nat} {r : Rw} : ∀ {i : Nat}, r ∈ oth l T i ↔ ∃ j, j < i ∧ r = rowAt l ((j + T) % l.length)
  | 0 => by simp [oth]
  | i + 1 => by
    rw [oth, List.mem_cons, mem_oth]
    constructor
    · rintro (h | ⟨j, hj, h⟩)
      · exact ⟨i, by omega, h⟩
      · exact ⟨j, by omega, h⟩
    · rintro ⟨j, hj, h⟩
      rcases Nat.lt_or_ge j i with h' | h'
      · exact .inr ⟨j, h', h⟩
      · obtain rfl : j = i := by omega
        exact .inl h
theorem oth_mem {l : List Rw} {T : Nat} (hT : T < l.length) (r : Rw) : r ∈ l ↔ r ∈ oth l T l.length := by
  rw [mem_oth]
  constructor
  · intro hr
    obtain ⟨j, hj, rfl⟩ := List.mem_iff_getElem.1 hr
    rcases Nat.lt_or_ge j T with h | h
    · refine ⟨j + l.length - T, by omega, ?_⟩
      rw [show j + l.length - T + T = j + l.length by omega, Nat.add_mod_right, Nat.mod_eq_of_lt hj, rowAt_eq hj]
    · refine ⟨j - T, by omega, ?_⟩
      rw [show j - T + T = j by omega, Nat.mod_eq_of_lt hj, rowAt_eq hj]
  · rintro ⟨j, hj, rfl⟩
    have hm : (j + T) % l.length < l.length := Nat.mod_lt _ (by omega)
    rw [rowAt_eq hm]; exact List.getElem_mem hm
end Go.Proofs.Ytecpccdmmaigiaa
