/- Words for rows that a call of slices.Insert turns: a block written in part, a copy of elements of any size, a part of a slice from a place on. Nothing of the program is named here. -/
import Derived.Test.YtmlgaedhfannmaaBunA
import Derived.Shelf.Spec.SlicesInsertGrow
namespace Go.Proofs.Ytmlgaedhfannmaa
set_option linter.unusedVariables false
set_option linter.unusedSimpArgs false
open Go.RowKit

/-- A list written over from place o on. -/
def overL (l : List Value) (o : Nat) (vs : List Value) : List Value := l.take o ++ vs ++ l.drop (o + vs.length)
theorem overL_len {l vs : List Value} {o : Nat} (h : o + vs.length ≤ l.length) : (overL l o vs).length = l.length := by
  simp [overL]; omega
theorem overL_nil {l : List Value} {o : Nat} : overL l o [] = l := by simp [overL]
theorem overL_cons {l : List Value} {o : Nat} {v : Value} {vs : List Value} (h : o < l.length) : overL (l.set o v) (o + 1) vs = overL l o (v :: vs) := by
  unfold overL
  rw [List.take_set, List.drop_set_of_lt (by omega)]
  simp only [List.length_cons]
  rw [show o + 1 + vs.length = o + (vs.length + 1) by omega]
  congr 1
  rw [List.append_cons]
  congr 1
  apply List.ext_getElem?
  intro k
  rcases Nat.lt_trichotomy k o with hk | rfl | hk
  · rw [List.getElem?_set_ne (by omega), List.getElem?_take_of_lt (by omega), List.getElem?_append_left (by simp; omega), List.getElem?_take_of_lt hk]
  · rw [List.getElem?_set_self (by simp; omega), List.getElem?_append_right (by simp; omega)]
    simp
    rw [Nat.min_eq_left (by omega)]
    simp
  · rw [List.getElem?_eq_none (by simp; omega), List.getElem?_eq_none (by simp; omega)]
/-- The row's end: a block whose first m cells are l. -/
def row_end (w : World) (g : Nat) (t : TypeId) (size m : Nat) (l : List Value) : Prop := ∃ cur : Array Value, Blk w g t cur ∧ cur.size = size ∧ cur.toList.take m = l
/-- Two parts laid one behind the other. -/
theorem overL_two {R a cs d : List Value} {o o2 m : Nat} (hR : o2 + d.length ≤ R.length) (ho : o + cs.length = o2) (ha : R.take o = a) (hm : m = o2 + d.length) (hd : o2 + d.length ≤ R.length) (hal : a.length = o) :
    (overL (overL R o cs) o2 d).toArray.toList.take m = a ++ cs ++ d := by
  have h1 : (overL R o cs).take o2 = a ++ cs := by
    unfold overL
    rw [ha, List.take_append_of_le_length (by simp; omega), List.take_of_length_le (by simp; omega)]
  show (overL (overL R o cs) o2 d).take m = _
  unfold overL at h1 ⊢
  rw [h1, List.take_append_of_le_length (by simp; omega), List.take_of_length_le (by simp; omega)]
theorem overL_two2 {R a cs d : List Value} {o o2 m : Nat} (hR : o2 + d.length ≤ R.length) (ho : o + cs.length = o2) (ha : R.take o = a) (hm : m = o2 + d.length) (hal : a.length = o) :
    (overL (overL R o2 d) o cs).toArray.toList.take m = a ++ cs ++ d := by
  have h1 : (overL R o2 d).take o = a := by
    unfold overL
    rw [List.append_assoc, List.take_append_of_le_length (by simp; omega), List.take_take, Nat.min_eq_left (by omega), ha]
  have h2 : (overL R o2 d).drop (o + cs.length) = d ++ R.drop (o2 + d.length) := by
    unfold overL
    rw [ho, List.append_assoc, List.drop_append_of_le_length (by simp; omega), List.drop_of_length_le (by simp; omega), List.nil_append]
  show (overL (overL R o2 d) o cs).take m = _
  rw [show overL (overL R o2 d) o cs = (overL R o2 d).take o ++ cs ++ (overL R o2 d).drop (o + cs.length) from rfl, h1, h2, ← List.append_assoc,
    List.take_append_of_le_length (by simp; omega), List.take_of_length_le (by simp; omega)]
theorem Blk.setCells {w : World} {g : Nat} {t : TypeId} : ∀ (vs : List Value) (o : Nat) {w : World} {cur : Array Value}, Blk w g t cur → o + vs.length ≤ cur.size → Blk (w.setCells g o vs) g t (overL cur.toList o vs).toArray
  | [], o, w, cur, h, _ => by rw [overL_nil]; simpa [World.setCells] using h
  | v :: r, o, w, cur, h, hl => by
    have h1 := h.set_ o v
    have h2 := Blk.setCells (w := w) r (o + 1) h1 (by simp at hl ⊢; omega)
    have e : overL (cur.setIfInBounds o v).toList (o + 1) r = overL cur.toList o (v :: r) := by
      rw [Array.toList_setIfInBounds]
      exact overL_cons (by simp at hl ⊢; omega)
    rw [e] at h2
    exact h2
theorem only_drew {a w : World} {row : Option Nat} (h : a.grownBy w row) : a.grownBy w.drew row := ⟨h.os, h.tape, h.output, h.size, h.block⟩
theorem only_setCells {a : World} {g : Nat} : ∀ (vs : List Value) (o : Nat) {w : World}, a.grownBy w (some g) → a.grownBy (w.setCells g o vs) (some g)
  | [], o, w, h => h
  | v :: r, o, w, h => only_setCells r (o + 1) (only_setCell h (.inl rfl) v)
theorem new_setCells {a : World} {g : Nat} {row : Option Nat} (hg : a.heap.size ≤ g) : ∀ (vs : List Value) (o : Nat) {w : World}, a.grownBy w row → a.grownBy (w.setCells g o vs) row
  | [], o, w, h => h
  | v :: r, o, w, h => new_setCells hg r (o + 1) ⟨h.os, h.tape, h.output, by simpa [World.setCell] using h.size, fun i hi hne => (Below.heap_setCell w ⟨g, o, none⟩ v i (by show i ≠ g; omega)).trans (h.block i hi hne)⟩

/-- 'copy(d, s)' at elements of any size: all is read before anything is written. -/
theorem run_copy_size {P : Program} (w : World) (dT sT ty elem : TypeId) (i : TypeInfo) (b o dLen dCap : Nat) (a : Addr) (sLen sCap : Nat) (cs : List Value)
    (hu : P.underlying dT = some (.slice elem)) (hi : P.info? elem = some i) (hn : cs.length = Nat.min sLen dLen * i.size)
    (hsrc : ∀ j v, cs[j]? = some v → w.cell? (a.add j) = some v) (hc : ∀ j, j < cs.length → (w.cell? ⟨b, o + j, none⟩).isSome = true) (hf : ∀ j, j < cs.length → w.frozen? ⟨b, o + j, none⟩ = false) (h1 : ∀ v ∈ cs, v.oneCell' = true) :
    (Builtin.copy_ #[dT, sT] ty #[.slice (some ⟨b, o, none⟩) dLen dCap, .slice (some a) sLen sCap]).run P w = .ok (goInt (Nat.min sLen dLen)) (w.setCells b o cs) := by
  have hl := run_loadCells_list (P := P) w a cs hsrc
  have hst := run_storeCells_cells (P := P) b o cs 0 w (by simpa using hc) (by simpa using hf) h1
  simp [Builtin.copy_, run_underlying hu, Builtin.lenOf, Builtin.firstCells, sizeOf, typeInfo, hi, ← hn, hl, hst]

section
variable {P : Program} (w : World) (t e : TypeId) (i : TypeInfo) (ht : P.underlying t = some (.slice e)) (hi : P.info? e = some i) (b off n c : Nat)
include ht hi
theorem run_from (kl : IntKind) (L : Int) (lo o' n' c' : Nat) (hL : L = lo) (h1 : lo ≤ n) (h2 : lo < c) (ho : o' = off + lo * i.size) (hn' : n' = n - lo) (hc' : c' = c - lo) :
    (Instr.slice t (.slice (some ⟨b, off, none⟩) n c) (some (.int kl L)) none none).run P w = .ok (.slice (some ⟨b, o', none⟩) n' c') w := by
  rw [run_cut_l w t e i ht hi _ n c kl L lo hL h1]
  subst ho hn' hc'
  unfold cutAt
  rw [if_neg (by omega)]
  simp [plus_addr]
end
end Go.Proofs.Ytmlgaedhfannmaa
