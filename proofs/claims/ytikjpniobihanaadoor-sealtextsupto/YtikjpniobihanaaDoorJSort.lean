/- Rows of keys in increasing order: where a key belongs. Nothing of the program is named here. -/
import Derived.Test.YtikjpniobihanaaDoorJBackN
namespace Go.Proofs.YtikjpniobihanaaDoor
set_option linter.unusedVariables false
set_option linter.unusedSimpArgs false

theorem bytesLess_total : ∀ a b : List UInt8, Op.bytesLess a b = false → Op.bytesLess b a = false → a = b
  | [], [], _, _ => rfl
  | [], _ :: _, h, _ => by simp [Op.bytesLess] at h
  | _ :: _, [], _, h => by simp [Op.bytesLess] at h
  | x :: a, y :: b, h1, h2 => by
    simp only [Op.bytesLess, Bool.or_eq_false_iff, Bool.and_eq_false_iff, decide_eq_false_iff_not, beq_eq_false_iff_ne] at h1 h2
    have hxy : x = y := by
      have e1 : ¬ x.toNat < y.toNat := by simpa [UInt8.lt_iff_toNat_lt] using h1.1
      have e2 : ¬ y.toNat < x.toNat := by simpa [UInt8.lt_iff_toNat_lt] using h2.1
      exact UInt8.toNat_inj.1 (by omega)
    subst hxy
    rw [bytesLess_total a b (by simpa using h1.2) (by simpa using h2.2)]
theorem incr_cons {a : List UInt8} : ∀ {l : List (List UInt8)}, incr (a :: l) = true ↔ (∀ x ∈ l, Op.bytesLess a x = true) ∧ incr l = true
  | [] => by simp [incr]
  | b :: l => by
    rw [show incr (a :: b :: l) = (Op.bytesLess a b && incr (b :: l)) from rfl, Bool.and_eq_true]
    constructor
    · rintro ⟨h1, h2⟩
      refine ⟨fun x hx => ?_, h2⟩
      rcases List.mem_cons.1 hx with rfl | hx
      · exact h1
      · exact bytesLess_trans _ _ _ h1 ((incr_cons.1 h2).1 x hx)
    · rintro ⟨h1, h2⟩
      exact ⟨h1 b (by simp), h2⟩
theorem place_cons (a : List UInt8) (r : List (List UInt8)) (k : List UInt8) : place (a :: r) k = if Op.bytesLess a k = true then place r k + 1 else 0 := by
  unfold place
  rw [List.takeWhile_cons]
  split <;> simp
theorem place_le (ks : List (List UInt8)) (k : List UInt8) : place ks k ≤ ks.length := List.Sublist.length_le (List.takeWhile_sublist _)
theorem place_lt : ∀ {ks : List (List UInt8)} {k : List UInt8} {j : Nat}, j < place ks k → ∃ x, ks[j]? = some x ∧ Op.bytesLess x k = true
  | [], k, j, h => by simp [place] at h
  | a :: r, k, j, h => by
    rw [place_cons] at h
    split at h
    · rename_i ha
      cases j with
      | zero => exact ⟨a, rfl, ha⟩
      | succ j => simpa using place_lt (ks := r) (k := k) (j := j) (by omega)
    · omega
theorem place_ge : ∀ {ks : List (List UInt8)} {k : List UInt8} {j : Nat} {x : List UInt8}, incr ks = true → place ks k ≤ j → ks[j]? = some x → Op.bytesLess x k = false
  | [], k, j, x, _, _, h => by simp at h
  | a :: r, k, j, x, hi, hp, h => by
    rw [place_cons] at hp
    obtain ⟨h1, h2⟩ := incr_cons.1 hi
    split at hp
    · cases j with
      | zero => omega
      | succ j => exact place_ge (ks := r) (j := j) h2 (by omega) (by simpa using h)
    · rename_i ha
      have ha : Op.bytesLess a k = false := by simpa using ha
      cases j with
      | zero => simp at h; subst h; exact ha
      | succ j =>
        have hm : x ∈ r := List.mem_of_getElem? (by simpa using h : r[j]? = some x)
        cases hx : Op.bytesLess x k with
        | false => rfl
        | true => rw [bytesLess_trans _ _ _ (h1 x hm) hx] at ha; cases ha
theorem place_mem {ks : List (List UInt8)} {k : List UInt8} (hi : incr ks = true) : k ∈ ks ↔ ks[place ks k]? = some k := by
  refine ⟨fun hm => ?_, fun h => List.mem_of_getElem? h⟩
  induction ks with
  | nil => simp at hm
  | cons a r ih =>
    obtain ⟨h1, h2⟩ := incr_cons.1 hi
    rw [place_cons]
    rcases List.mem_cons.1 hm with rfl | hm
    · rw [bytesLess_irrefl]; rfl
    · rw [if_pos (h1 k hm)]
      simpa using ih h2 hm
theorem incr_insert {k : List UInt8} : ∀ {ks : List (List UInt8)}, incr ks = true → k ∉ ks → incr (ks.insertIdx (place ks k) k) = true
  | [], _, _ => by simp [place, incr]
  | a :: r, hi, hm => by
    obtain ⟨h1, h2⟩ := incr_cons.1 hi
    have hr : k ∉ r := fun h => hm (by simp [h])
    rw [place_cons]
    split
    · rename_i ha
      rw [List.insertIdx_succ_cons]
      refine incr_cons.2 ⟨fun x hx => ?_, incr_insert h2 hr⟩
      rcases List.mem_insertIdx (by have := place_le r k; omega) |>.1 hx with rfl | hx
      · exact ha
      · exact h1 x hx
    · rename_i ha
      have ha : Op.bytesLess a k = false := by simpa using ha
      rw [List.insertIdx_zero]
      have hka : Op.bytesLess k a = true := by
        cases h : Op.bytesLess k a with
        | true => rfl
        | false => exact absurd (bytesLess_total _ _ h ha) (fun e => hm (by simp [e]))
      refine incr_cons.2 ⟨fun x hx => ?_, hi⟩
      rcases List.mem_cons.1 hx with rfl | hx
      · exact hka
      · exact bytesLess_trans _ _ _ hka (h1 x hx)
/-- An element put in, as parts. -/
theorem insertIdx_parts {α : Type} (x : α) : ∀ (l : List α) (i : Nat), i ≤ l.length → l.insertIdx i x = l.take i ++ [x] ++ l.drop i
  | l, 0, _ => by simp
  | [], i + 1, h => by simp at h
  | a :: l, i + 1, h => by
    rw [List.insertIdx_succ_cons, insertIdx_parts x l i (by simpa using h)]; rfl
end Go.Proofs.YtikjpniobihanaaDoor
