/- Joined texts: PcK, Apt, Bsd. -/
import Derived.Test.YtmlgaedhfannmaaBunA
import Derived.Test.YtmlgaedhfannmaaRgA
import Derived.OwnWalk
/- Lists of elements of k cells in memory: where they lie, one more behind a row of the call's own. Nothing of the program is named here. -/
namespace Go.Proofs.Ytmlgaedhfannmaa
set_option linter.unusedVariables false
set_option linter.unusedSimpArgs false
open Go.RowKit
section
variable {α : Type} (enc : α → List Value) {k : Nat}
def pcK (l : List α) : List Value := l.flatMap enc
theorem pcK_nil : pcK enc [] = [] := rfl
theorem pcK_cons (x : α) (l : List α) : pcK enc (x :: l) = enc x ++ pcK enc l := rfl
theorem pcK_app (l m : List α) : pcK enc (l ++ m) = pcK enc l ++ pcK enc m := by unfold pcK; rw [List.flatMap_append]
theorem pcK_single (x : α) : pcK enc [x] = enc x := by unfold pcK; simp
variable {enc} (hk : ∀ x, (enc x).length = k)
include hk
theorem pcK_len : ∀ l : List α, (pcK enc l).length = l.length * k
  | [] => by simp [pcK]
  | x :: l => by rw [pcK_cons, List.length_append, pcK_len l, hk, List.length_cons, Nat.succ_mul, Nat.add_comm]
theorem pcK_at : ∀ {l : List α} {i : Nat} (hi : i < l.length) {j : Nat} (_ : j < k), (pcK enc l)[i * k + j]? = (enc l[i])[j]?
  | [], i, hi, _, _ => by simp at hi
  | x :: l, 0, _, j, hj => by
    rw [pcK_cons, Nat.zero_mul, Nat.zero_add, List.getElem?_append_left (by rw [hk]; exact hj)]
    rfl
  | x :: l, i + 1, hi, j, hj => by
    have h := pcK_at (l := l) (i := i) (by simpa using hi) hj
    rw [pcK_cons, List.getElem?_append_right (by rw [hk, Nat.succ_mul]; omega), hk, show (i + 1) * k + j - k = i * k + j by rw [Nat.succ_mul]; omega, h]
    rfl
theorem pcK_take : ∀ (l : List α) (i : Nat), (pcK enc l).take (i * k) = pcK enc (l.take i)
  | [], i => by simp [pcK]
  | x :: l, 0 => by simp [pcK]
  | x :: l, i + 1 => by
    rw [pcK_cons, List.take_succ_cons, pcK_cons, ← pcK_take l i, List.take_append, hk]
    rw [List.take_of_length_le (by rw [hk, Nat.succ_mul]; omega)]
    congr 2
    rw [Nat.succ_mul]; omega
omit hk in
theorem pcK_one (h : ∀ x, ∀ u ∈ enc x, u.oneCell' = true) (l : List α) : ∀ u ∈ pcK enc l, u.oneCell' = true := by
  intro u hu
  obtain ⟨x, _, hx⟩ := List.mem_flatMap.1 hu
  exact h x u hx
end
/-- A list of elements of k cells; all of it lies below block B. -/
def LIn {α : Type} (enc : α → List Value) (k : Nat) (w : World) (B : Nat) (A : Option Addr) (n c : Nat) (l : List α) : Prop :=
  l.length = n ∧ n ≤ c ∧ (A = none → c = 0) ∧ Holds w B k A n (pcK enc l)
section
variable {α : Type} {enc : α → List Value} {k : Nat} {w w' : World} {B B' n c : Nat} {A : Option Addr} {l : List α}
theorem LIn.below (h : LIn enc k w B A n c l) (hb : Below B w w') : LIn enc k w' B A n c l := ⟨h.1, h.2.1, h.2.2.1, h.2.2.2.below hb⟩
theorem LIn.wider (h : LIn enc k w B A n c l) (hB : B ≤ B') : LIn enc k w B' A n c l := ⟨h.1, h.2.1, h.2.2.1, h.2.2.2.wider hB⟩
theorem LIn.empty : LIn enc k w B none 0 0 [] := ⟨rfl, Nat.le_refl _, fun _ => rfl, Holds.empty⟩
/-- The cells of element i. -/
theorem LIn.at_ (hk : ∀ x, (enc x).length = k) (h : LIn enc k w B A n c l) {i : Nat} (hi : i < l.length) :
    ∃ b off, A = some ⟨b, off, none⟩ ∧ b < B ∧ ∀ j u, j < k → (enc l[i])[j]? = some u → w.cell? ⟨b, off + (i * k + j), none⟩ = some u := by
  obtain ⟨h1, h2, h3, h4⟩ := h
  obtain ⟨b, off, rfl, hb, hcell⟩ := h4.2 (by omega)
  exact ⟨b, off, rfl, hb, fun j u hj hu => hcell _ _ ((pcK_at hk hi hj).trans hu)⟩
/-- A row of the call's own. -/
theorem LIn.own (hk : ∀ x, (enc x).length = k) {base e : Nat} {v : Value} (h : w.ownsRow base e k v l.length (pcK enc l)) : ∃ A c, v = .slice A l.length c ∧ LIn enc k w w.heap.size A l.length c l := by
  obtain ⟨A, c, rfl, hA⟩ := own_form h
  refine ⟨A, c, rfl, rfl, ?_, fun hA' => (hA hA').2, Holds.own h⟩
  rcases h.2 with ⟨hv, h0⟩ | ⟨g, c', cur, hv, hb, hg, hnc, hrest⟩
  · injection hv; omega
  · injection hv; omega
theorem own_kept {e base : Nat} {v : Value} {xs : List Value} (h : w.ownsRow base e k v n xs) (hb : ∀ g, v.ownBlock = some g → w'.heap[g]? = w.heap[g]?) : w'.ownsRow base e k v n xs := by
  refine ⟨h.1, ?_⟩
  rcases h.2 with h0 | ⟨g, c, cur, rfl, h2, h3, h4⟩
  · exact .inl h0
  · exact .inr ⟨g, c, cur, rfl, h2, (hb g rfl).trans h3, h4⟩
theorem own_below {e base : Nat} {v : Value} {xs : List Value} (h : w.ownsRow base e k v n xs) (hb : Below w.heap.size w w') : w'.ownsRow base e k v n xs :=
  own_kept h fun g hg => hb.block g (h.lt g hg).2
theorem own_le {e base base' : Nat} {v : Value} {xs : List Value} (h : w.ownsRow base e k v n xs) (hb : base' ≤ base) : w.ownsRow base' e k v n xs := by
  refine ⟨h.1, ?_⟩
  rcases h.2 with h0 | ⟨g, c, cur, h1, h2, h3⟩
  · exact .inl h0
  · exact .inr ⟨g, c, cur, h1, Nat.le_trans hb h2, h3⟩
end
/-- One element more behind a row of the call's own: its run. -/
theorem run_app_el {P : Program} {α : Type} {enc : α → List Value} {k : Nat} (hk : ∀ x, (enc x).length = k) (hone : ∀ x, ∀ u ∈ enc x, u.oneCell' = true) (hk0 : 0 < k)
    {t e : TypeId} (ht : P.underlying t = some (.slice e)) {z : Value} {bytes : Nat} (hinfo : (P.info? e).map (fun i => (i.zero, i.size, i.bytes)) = some (some z, k, bytes)) (hz : z.cells.size = k) (hby : bytes ≤ 65536)
    (W : World) (base n : Nat) (v : Value) (l : List α) (x : α) (cs : Array Value) (hcs : cs = (enc x).toArray) (hown : W.ownsRow base e k v n (pcK enc l)) (hn : n + 1 ≤ 1048576) (hb : base ≤ W.heap.size) :
    ∃ v' wf, (Builtin.append_ #[t, t] t #[v, .slice (some ⟨W.heap.size, 0, none⟩) 1 1]).run P (W.alloc (.cells cs e)) = .ok v' wf ∧
      wf.ownsRow base e k v' (n + 1) (pcK enc (l ++ [x])) ∧ (W.alloc (.cells cs e)).grownBy wf v.ownBlock ∧ (v'.ownBlock = v.ownBlock ∨ v'.ownBlock = some (W.heap.size + 1)) := by
  subst hcs
  obtain ⟨i0, hi0, hz0, hzs, hzb⟩ := info_parts hinfo
  have hB := Blk.new W e (enc x).toArray
  have hh : Holds (W.alloc (.cells (enc x).toArray e)) (W.heap.size + 1) k (some ⟨W.heap.size, 0, none⟩) 1 (enc x) := by
    refine ⟨by rw [hk, Nat.one_mul], fun _ => ⟨W.heap.size, 0, rfl, by omega, fun j u hu => ?_⟩⟩
    rw [Nat.zero_add, hB.cell j]
    simpa using hu
  obtain ⟨v', wf, h1, h2, h3, h4⟩ := run_app_all (P := P) (W.alloc (.cells (enc x).toArray e)) t t base e i0 _ k bytes ht hi0 hz0 hzs hzb hz hk0 v n (pcK enc l) (hown.alloc _) (W.heap.size + 1) (some ⟨W.heap.size, 0, none⟩) 1 1 (enc x) (fun h => by cases h) hh (hone x) hn hby (by simp; omega)
  exact ⟨v', wf, h1, by rw [pcK_app, pcK_single]; exact h2, h3, by simpa using h4⟩
end Go.Proofs.Ytmlgaedhfannmaa

/- Rows of the call's own that do not share their blocks. Nothing of the program is named here. -/
namespace Go.Proofs.Ytmlgaedhfannmaa
set_option linter.unusedVariables false
set_option linter.unusedSimpArgs false
open Go.RowKit
/-- Two rows do not share their block. -/
def Apt (v v' : Value) : Prop := ∀ g, v.ownBlock = some g → v'.ownBlock ≠ some g
theorem Apt.symm {v v' : Value} (h : Apt v v') : Apt v' v := fun g h1 h2 => h g h2 h1
/-- A row that a call left alone: it is another one than the row that has grown. -/
theorem own_apart {w w' : World} {base e size n : Nat} {v : Value} {xs : List Value} {r : Option Nat} (h : w.ownsRow base e size v n xs) (hg : w.grownBy w' r) (hr : ∀ g, v.ownBlock = some g → r ≠ some g) : w'.ownsRow base e size v n xs :=
  own_kept h fun g hgv => hg.block g (World.ownsRow.lt h g hgv).2 (fun e => hr g hgv e.symm)
/-- Rows of different elements lie in different blocks. -/
theorem apt_types {w : World} {B B' e e' size size' n n' : Nat} {v v' : Value} {xs xs' : List Value} (h : w.ownsRow B e size v n xs) (h' : w.ownsRow B' e' size' v' n' xs') (hne : e ≠ e') : Apt v v' := by
  intro g hg hg'
  have of : ∀ {B e size n : Nat} {v : Value} {xs : List Value}, w.ownsRow B e size v n xs → v.ownBlock = some g → ∃ c, w.heap[g]? = some (.cells c e (0, 0)) := by
    intro B e size n v xs h hg
    rcases h.2 with ⟨rfl, _⟩ | ⟨g', cap, cur, rfl, _, hh, _⟩
    · simp [Value.ownBlock] at hg
    · simp [Value.ownBlock] at hg; subst hg; exact ⟨_, hh⟩
  obtain ⟨c, h1⟩ := of h hg
  obtain ⟨c', h2⟩ := of h' hg'
  rw [h1] at h2
  injection h2 with h2
  injection h2 with _ h3
  exact hne h3
/-- What a row that grew leaves of another: its new block is the old one's or wholly new. -/
theorem apt_grow {w : World} {base e size n : Nat} {v v' u : Value} {xs : List Value} {N : Nat} (ho : w.ownsRow base e size u n xs) (h : Apt v u) (hN : w.heap.size ≤ N) (hor : v'.ownBlock = v.ownBlock ∨ v'.ownBlock = some N) : Apt v' u := by
  intro g h1 h2
  rcases hor with e1 | e1
  · exact h g (by rw [← e1]; exact h1) h2
  · rw [h1] at e1
    injection e1 with e1
    have := (World.ownsRow.lt ho g h2).2
    omega
/-- A row does not lie in a box of another type. -/
theorem apt_box {w : World} {b1 e1 s1 n1 g : Nat} {t : TypeId} {v1 : Value} {x1 : List Value} {cs : Array Value} (h1 : w.ownsRow b1 e1 s1 v1 n1 x1) (h2 : Blk w g t cs) (he : e1 ≠ t) : v1.ownBlock ≠ some g := by
  rcases h1.2 with ⟨rfl, _⟩ | ⟨g1, c1, u1, rfl, _, hh1, _⟩
  · simp [Value.ownBlock]
  · intro e
    simp only [Value.ownBlock, Option.some.injEq] at e
    subst e
    have h3 := h2.symm.trans hh1
    injection h3 with h3
    injection h3 with _ h4
    exact he h4.symm
end Go.Proofs.Ytmlgaedhfannmaa

/- What a call may turn: blocks of a set, and what is new. Nothing of the program is named here. -/
namespace Go.Proofs.Ytmlgaedhfannmaa
set_option linter.unusedVariables false
set_option linter.unusedSimpArgs false
open Go.RowKit
/-- Nothing that was there has turned but blocks of N. -/
structure Beside (N : Nat → Prop) (w w' : World) : Prop where
  os : w'.os = w.os
  tape : w'.tape = w.tape
  output : w'.output = w.output
  size : w.heap.size ≤ w'.heap.size
  block : ∀ k, k < w.heap.size → ¬ N k → w'.heap[k]? = w.heap[k]?
section
variable {N N' : Nat → Prop} {w w' w'' : World}
theorem Beside.refl (N : Nat → Prop) (w : World) : Beside N w w := ⟨rfl, rfl, rfl, Nat.le_refl _, fun _ _ _ => rfl⟩
theorem Beside.trans (h : Beside N w w') (h' : Beside N w' w'') : Beside N w w'' :=
  ⟨h'.os.trans h.os, h'.tape.trans h.tape, h'.output.trans h.output, Nat.le_trans h.size h'.size, fun k hk hn => (h'.block k (Nat.lt_of_lt_of_le hk h.size) hn).trans (h.block k hk hn)⟩
theorem Beside.next (h : Beside N w w') (h' : Beside N' w' w'') (hN : ∀ k, k < w.heap.size → N' k → N k) : Beside N w w'' :=
  ⟨h'.os.trans h.os, h'.tape.trans h.tape, h'.output.trans h.output, Nat.le_trans h.size h'.size, fun k hk hn => (h'.block k (Nat.lt_of_lt_of_le hk h.size) (fun hk' => hn (hN k hk hk'))).trans (h.block k hk hn)⟩
theorem Beside.mono (h : Beside N w w') (hN : ∀ k, k < w.heap.size → N k → N' k) : Beside N' w w' :=
  ⟨h.os, h.tape, h.output, h.size, fun k hk hn => h.block k hk fun hk' => hn (hN k hk hk')⟩
theorem Beside.of_below (h : Below w.heap.size w w') : Beside N w w' := ⟨h.os, h.tape, h.output, h.size, fun k hk _ => h.block k hk⟩
theorem Beside.below {B : Nat} (h : Beside N w w') (hN : ∀ k, N k → B ≤ k) (hB : B ≤ w.heap.size) : Below B w w' :=
  ⟨h.os, h.tape, h.output, h.size, fun k hk => h.block k (by omega) fun hk' => by have := hN k hk'; omega⟩
theorem Beside.cell (h : Beside N w w') {p : Addr} (hp : p.block < w.heap.size) (hn : ¬ N p.block) : w'.cell? p = w.cell? p := by
  unfold World.cell?
  rw [h.block _ hp hn]
theorem Beside.drew (h : Beside N w w') : Beside N w w'.drew := ⟨h.os, h.tape, h.output, h.size, h.block⟩
theorem Beside.drewN (h : Beside N w w') (n : Nat) : Beside N w (w'.drewN n) := ⟨h.os, h.tape, h.output, h.size, h.block⟩
theorem Beside.alloc (h : Beside N w w') (o : Obj) : Beside N w (w'.alloc o) :=
  ⟨h.os, h.tape, h.output, by have := h.size; simp; omega, fun k hk hn => (heap_alloc_old w' o (Nat.lt_of_lt_of_le hk h.size)).trans (h.block k hk hn)⟩
end
end Go.Proofs.Ytmlgaedhfannmaa
