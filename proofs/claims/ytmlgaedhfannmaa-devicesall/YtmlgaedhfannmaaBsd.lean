/- What a call may turn: blocks of a set, and what is new. Nothing of the program is named here. -/
import Derived.Test.YtmlgaedhfannmaaBunA
namespace Go.Proofs.Ytmlgaedhfannmaa
set_option linter.unusedVariables false
set_option linter.unusedSimpArgs false
open Go.RowKit
/-- Nothing that was there has turned but blocks of N. -/
structure Beside (N : Nat → Prop) (w w' : World) : Prop where
  os : w'.os = w.os
  tape : w'.tape = w.tape
  output : w'.output = w.output
  size : w.heap.size ≤ w'.heap.size
  block : ∀ k, k < w.heap.size → ¬ N k → w'.heap[k]? = w.heap[k]?
section
variable {N N' : Nat → Prop} {w w' w'' : World}
theorem Beside.refl (N : Nat → Prop) (w : World) : Beside N w w := ⟨rfl, rfl, rfl, Nat.le_refl _, fun _ _ _ => rfl⟩
theorem Beside.trans (h : Beside N w w') (h' : Beside N w' w'') : Beside N w w'' :=
  ⟨h'.os.trans h.os, h'.tape.trans h.tape, h'.output.trans h.output, Nat.le_trans h.size h'.size, fun k hk hn => (h'.block k (Nat.lt_of_lt_of_le hk h.size) hn).trans (h.block k hk hn)⟩
theorem Beside.next (h : Beside N w w') (h' : Beside N' w' w'') (hN : ∀ k, k < w.heap.size → N' k → N k) : Beside N w w'' :=
  ⟨h'.os.trans h.os, h'.tape.trans h.tape, h'.output.trans h.output, Nat.le_trans h.size h'.size, fun k hk hn => (h'.block k (Nat.lt_of_lt_of_le hk h.size) (fun hk' => hn (hN k hk hk'))).trans (h.block k hk hn)⟩
theorem Beside.mono (h : Beside N w w') (hN : ∀ k, k < w.heap.size → N k → N' k) : Beside N' w w' :=
  ⟨h.os, h.tape, h.output, h.size, fun k hk hn => h.block k hk fun hk' => hn (hN k hk hk')⟩
theorem Beside.of_below (h : Below w.heap.size w w') : Beside N w w' := ⟨h.os, h.tape, h.output, h.size, fun k hk _ => h.block k hk⟩
theorem Beside.below {B : Nat} (h : Beside N w w') (hN : ∀ k, N k → B ≤ k) (hB : B ≤ w.heap.size) : Below B w w' :=
  ⟨h.os, h.tape, h.output, h.size, fun k hk => h.block k (by omega) fun hk' => by have := hN k hk'; omega⟩
theorem Beside.cell (h : Beside N w w') {p : Addr} (hp : p.block < w.heap.size) (hn : ¬ N p.block) : w'.cell? p = w.cell? p := by
  unfold World.cell?
  rw [h.block _ hp hn]
theorem Beside.drew (h : Beside N w w') : Beside N w w'.drew := ⟨h.os, h.tape, h.output, h.size, h.block⟩
theorem Beside.drewN (h : Beside N w w') (n : Nat) : Beside N w (w'.drewN n) := ⟨h.os, h.tape, h.output, h.size, h.block⟩
theorem Beside.alloc (h : Beside N w w') (o : Obj) : Beside N w (w'.alloc o) :=
  ⟨h.os, h.tape, h.output, by have := h.size; simp; omega, fun k hk hn => (heap_alloc_old w' o (Nat.lt_of_lt_of_le hk h.size)).trans (h.block k hk hn)⟩
end
end Go.Proofs.Ytmlgaedhfannmaa
