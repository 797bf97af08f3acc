/- Strings compared with '>', '>=' and '<='; a box of two cells that is laid and filled. -/
import Derived.Test.YtecpccdmmaigiaaRwMem
import Derived.Test.YtecpccdmmaigiaaRows
import Derived.Outline
import Derived.BigQuiet
import Derived.Deep.LoopGhost
namespace Go.Proofs.Ytecpccdmmaigiaa
set_option linter.unusedVariables false
set_option linter.unusedSimpArgs false
open Go.RowKit
theorem bl_turn (a b : List UInt8) : (!Op.bytesLess a b && !a == b) = Op.bytesLess b a := by
  cases h1 : Op.bytesLess a b
  · cases h2 : Op.bytesLess b a
    · have := bl_total a b h1 h2
      subst this
      simp
    · have hne : a ≠ b := fun e => by subst e; rw [h1] at h2; cases h2
      simpa using hne
  · cases h2 : Op.bytesLess b a
    · rfl
    · have := bl_trans _ _ _ h1 h2
      rw [bl_irrefl] at this; cases this
@[go_sem high] theorem run_rw_gtr (w : World) (a b : List UInt8) : (binOp BinOp.gtr 9 (str a) (str b)).run Try.prog w = .ok (.bool (Op.bytesLess b a)) w := by
  rw [← bl_turn a b]
  simp [str, go_sem]
@[go_sem high] theorem run_rw_geq (w : World) (a b : List UInt8) : (binOp BinOp.geq 9 (str a) (str b)).run Try.prog w = .ok (.bool (!Op.bytesLess a b)) w := by
  simp [str, go_sem]
theorem bl_leq (a b : List UInt8) : (Op.bytesLess a b || a == b) = !Op.bytesLess b a := by
  rw [← bl_turn a b]
  cases Op.bytesLess a b <;> simp
@[go_sem high] theorem run_rw_leq (w : World) (a b : List UInt8) : (binOp BinOp.leq 9 (str a) (str b)).run Try.prog w = .ok (.bool (!Op.bytesLess b a)) w := by
  rw [← bl_leq]
  simp [str, go_sem]
@[go_sem high] theorem eqGuard_zero (o : BinOp) (t : TypeId) (x y : Operand) (a : List UInt8) : eqGuard o t x y (str a) (.string ⟨#[]⟩) = pure () := eqGuard_str o t x y a []
@[go_sem high] theorem run_rw_eq0 (w : World) (a : List UInt8) : (binOp BinOp.eql 9 (str a) (.string ⟨#[]⟩)).run Try.prog w = .ok (.bool a.isEmpty) w := by
  have h : (binOp BinOp.eql 9 (str a) (str [])).run Try.prog w = .ok (.bool (a == [])) w := by simp [str, go_sem]
  rw [show a.isEmpty = (a == []) by cases a <;> rfl]; exact h
@[go_sem high] theorem run_rw_ne0 (w : World) (a : List UInt8) : (binOp BinOp.neq 9 (str a) (.string ⟨#[]⟩)).run Try.prog w = .ok (.bool (!a.isEmpty)) w := by
  have h : (binOp BinOp.neq 9 (str a) (str [])).run Try.prog w = .ok (.bool (!(a == []))) w := by simp [str, go_sem]
  rw [show a.isEmpty = (a == []) by cases a <;> rfl]; exact h
theorem modify_push (h : Array Obj) (o : Obj) (f : Obj → Obj) : (h.push o).modify h.size f = h.push (f o) := by
  apply Array.ext_getElem?
  intro i
  rw [Array.getElem?_modify, Array.getElem?_push, Array.getElem?_push]
  by_cases hi : i = h.size
  · subst hi; simp
  · have hi' : ¬ h.size = i := fun e => hi e.symm
    simp [hi, hi']
theorem set_push (W : World) (c : Array Value) (t : TypeId) (i : Nat) (a : Value) : (W.alloc (.cells c t)).setCell ⟨W.heap.size, i, none⟩ a = W.alloc (.cells (c.setIfInBounds i a) t) := by
  unfold World.setCell World.alloc
  simp only [modify_push]
  rfl
theorem fill2 (W : World) (t : TypeId) (z0 z1 a b : Value) : ((W.alloc (.cells #[z0, z1] t)).setCell ⟨W.heap.size, 0, none⟩ a).setCell ⟨W.heap.size, 1, none⟩ b = W.alloc (.cells #[a, b] t) := by
  rw [set_push, set_push]; rfl
theorem box2 (W : World) (t : TypeId) (a b : Value) : (W.alloc (.cells #[a, b] t)).cell? ⟨W.heap.size, 0, none⟩ = some a ∧ (W.alloc (.cells #[a, b] t)).cell? ⟨W.heap.size, 1, none⟩ = some b :=
  ⟨(Blk.new W t #[a, b]).cell 0, (Blk.new W t #[a, b]).cell 1⟩
end Go.Proofs.Ytecpccdmmaigiaa
