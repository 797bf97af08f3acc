/- Lists of elements of k cells in memory: where they lie, one more behind a row of the call's own. Nothing of the program is named here. -/
import Derived.Test.YtmlgaedhfannmaaBunA
import Derived.Test.YtmlgaedhfannmaaRgA
import Derived.OwnWalk
namespace Go.Proofs.Ytmlgaedhfannmaa
set_option linter.unusedVariables false
set_option linter.unusedSimpArgs false
open Go.RowKit
section
variable {α : Type} (enc : α → List Value) {k : Nat}
def pcK (l : List α) : List Value := l.flatMap enc
theorem pcK_nil : pcK enc [] = [] := rfl
theorem pcK_cons (x : α) (l : List α) : pcK enc (x :: l) = enc x ++ pcK enc l := rfl
theorem pcK_app (l m : List α) : pcK enc (l ++ m) = pcK enc l ++ pcK enc m := by unfold pcK; rw [List.flatMap_append]
theorem pcK_single (x : α) : pcK enc [x] = enc x := by unfold pcK; simp
variable {enc} (hk : ∀ x, (enc x).length = k)
include hk
theorem pcK_len : ∀ l : List α, (pcK enc l).length = l.length * k
  | [] => by simp [pcK]
  | x :: l => by rw [pcK_cons, List.length_append, pcK_len l, hk, List.length_cons, Nat.succ_mul, Nat.add_comm]
theorem pcK_at : ∀ {l : List α} {i : Nat} (hi : i < l.length) {j : Nat} (_ : j < k), (pcK enc l)[i * k + j]? = (enc l[i])[j]?
  | [], i, hi, _, _ => by simp at hi
  | x :: l, 0, _, j, hj => by
    rw [pcK_cons, Nat.zero_mul, Nat.zero_add, List.getElem?_append_left (by rw [hk]; exact hj)]
    rfl
  | x :: l, i + 1, hi, j, hj => by
    have h := pcK_at (l := l) (i := i) (by simpa using hi) hj
    rw [pcK_cons, List.getElem?_append_right (by rw [hk, Nat.succ_mul]; omega), hk, show (i + 1) * k + j - k = i * k + j by rw [Nat.succ_mul]; omega, h]
    rfl
theorem pcK_take : ∀ (l : List α) (i : Nat), (pcK enc l).take (i * k) = pcK enc (l.take i)
  | [], i => by simp [pcK]
  | x :: l, 0 => by simp [pcK]
  | x :: l, i + 1 => by
    rw [pcK_cons, List.take_succ_cons, pcK_cons, ← pcK_take l i, List.take_append, hk]
    rw [List.take_of_length_le (by rw [hk, Nat.succ_mul]; omega)]
    congr 2
    rw [Nat.succ_mul]; omega
omit hk in
theorem pcK_one (h : ∀ x, ∀ u ∈ enc x, u.oneCell' = true) (l : List α) : ∀ u ∈ pcK enc l, u.oneCell' = true := by
  intro u hu
  obtain ⟨x, _, hx⟩ := List.mem_flatMap.1 hu
  exact h x u hx
end
/-- A list of elements of k cells; all of it lies below block B. -/
def LIn {α : Type} (enc : α → List Value) (k : Nat) (w : World) (B : Nat) (A : Option Addr) (n c : Nat) (l : List α) : Prop :=
  l.length = n ∧ n ≤ c ∧ (A = none → c = 0) ∧ Holds w B k A n (pcK enc l)
section
variable {α : Type} {enc : α → List Value} {k : Nat} {w w' : World} {B B' n c : Nat} {A : Option Addr} {l : List α}
theorem LIn.below (h : LIn enc k w B A n c l) (hb : Below B w w') : LIn enc k w' B A n c l := ⟨h.1, h.2.1, h.2.2.1, h.2.2.2.below hb⟩
theorem LIn.wider (h : LIn enc k w B A n c l) (hB : B ≤ B') : LIn enc k w B' A n c l := ⟨h.1, h.2.1, h.2.2.1, h.2.2.2.wider hB⟩
theorem LIn.empty : LIn enc k w B none 0 0 [] := ⟨rfl, Nat.le_refl _, fun _ => rfl, Holds.empty⟩
/-- The cells of element i. -/
theorem LIn.at_ (hk : ∀ x, (enc x).length = k) (h : LIn enc k w B A n c l) {i : Nat} (hi : i < l.length) :
    ∃ b off, A = some ⟨b, off, none⟩ ∧ b < B ∧ ∀ j u, j < k → (enc l[i])[j]? = some u → w.cell? ⟨b, off + (i * k + j), none⟩ = some u := by
  obtain ⟨h1, h2, h3, h4⟩ := h
  obtain ⟨b, off, rfl, hb, hcell⟩ := h4.2 (by omega)
  exact ⟨b, off, rfl, hb, fun j u hj hu => hcell _ _ ((pcK_at hk hi hj).trans hu)⟩
/-- A row of the call's own. -/
theorem LIn.own (hk : ∀ x, (enc x).length = k) {base e : Nat} {v : Value} (h : w.ownsRow base e k v l.length (pcK enc l)) : ∃ A c, v = .slice A l.length c ∧ LIn enc k w w.heap.size A l.length c l := by
  obtain ⟨A, c, rfl, hA⟩ := own_form h
  refine ⟨A, c, rfl, rfl, ?_, fun hA' => (hA hA').2, Holds.own h⟩
  rcases h.2 with ⟨hv, h0⟩ | ⟨g, c', cur, hv, hb, hg, hnc, hrest⟩
  · injection hv; omega
  · injection hv; omega
theorem own_kept {e base : Nat} {v : Value} {xs : List Value} (h : w.ownsRow base e k v n xs) (hb : ∀ g, v.ownBlock = some g → w'.heap[g]? = w.heap[g]?) : w'.ownsRow base e k v n xs := by
  refine ⟨h.1, ?_⟩
  rcases h.2 with h0 | ⟨g, c, cur, rfl, h2, h3, h4⟩
  · exact .inl h0
  · exact .inr ⟨g, c, cur, rfl, h2, (hb g rfl).trans h3, h4⟩
theorem own_below {e base : Nat} {v : Value} {xs : List Value} (h : w.ownsRow base e k v n xs) (hb : Below w.heap.size w w') : w'.ownsRow base e k v n xs :=
  own_kept h fun g hg => hb.block g (h.lt g hg).2
theorem own_le {e base base' : Nat} {v : Value} {xs : List Value} (h : w.ownsRow base e k v n xs) (hb : base' ≤ base) : w.ownsRow base' e k v n xs := by
  refine ⟨h.1, ?_⟩
  rcases h.2 with h0 | ⟨g, c, cur, h1, h2, h3⟩
  · exact .inl h0
  · exact .inr ⟨g, c, cur, h1, Nat.le_trans hb h2, h3⟩
end
/-- One element more behind a row of the call's own: its run. -/
theorem run_app_el {P : Program} {α : Type} {enc : α → List Value} {k : Nat} (hk : ∀ x, (enc x).length = k) (hone : ∀ x, ∀ u ∈ enc x, u.oneCell' = true) (hk0 : 0 < k)
    {t e : TypeId} (ht : P.underlying t = some (.slice e)) {z : Value} {bytes : Nat} (hinfo : (P.info? e).map (fun i => (i.zero, i.size, i.bytes)) = some (some z, k, bytes)) (hz : z.cells.size = k) (hby : bytes ≤ 65536)
    (W : World) (base n : Nat) (v : Value) (l : List α) (x : α) (cs : Array Value) (hcs : cs = (enc x).toArray) (hown : W.ownsRow base e k v n (pcK enc l)) (hn : n + 1 ≤ 1048576) (hb : base ≤ W.heap.size) :
    ∃ v' wf, (Builtin.append_ #[t, t] t #[v, .slice (some ⟨W.heap.size, 0, none⟩) 1 1]).run P (W.alloc (.cells cs e)) = .ok v' wf ∧
      wf.ownsRow base e k v' (n + 1) (pcK enc (l ++ [x])) ∧ (W.alloc (.cells cs e)).grownBy wf v.ownBlock ∧ (v'.ownBlock = v.ownBlock ∨ v'.ownBlock = some (W.heap.size + 1)) := by
  subst hcs
  obtain ⟨i0, hi0, hz0, hzs, hzb⟩ := info_parts hinfo
  have hB := Blk.new W e (enc x).toArray
  have hh : Holds (W.alloc (.cells (enc x).toArray e)) (W.heap.size + 1) k (some ⟨W.heap.size, 0, none⟩) 1 (enc x) := by
    refine ⟨by rw [hk, Nat.one_mul], fun _ => ⟨W.heap.size, 0, rfl, by omega, fun j u hu => ?_⟩⟩
    rw [Nat.zero_add, hB.cell j]
    simpa using hu
  obtain ⟨v', wf, h1, h2, h3, h4⟩ := run_app_all (P := P) (W.alloc (.cells (enc x).toArray e)) t t base e i0 _ k bytes ht hi0 hz0 hzs hzb hz hk0 v n (pcK enc l) (hown.alloc _) (W.heap.size + 1) (some ⟨W.heap.size, 0, none⟩) 1 1 (enc x) (fun h => by cases h) hh (hone x) hn hby (by simp; omega)
  exact ⟨v', wf, h1, by rw [pcK_app, pcK_single]; exact h2, h3, by simpa using h4⟩
end Go.Proofs.Ytmlgaedhfannmaa
