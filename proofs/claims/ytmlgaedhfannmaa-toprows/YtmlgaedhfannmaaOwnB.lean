/- A slice of bytes of the call's own, and the writers' frame. -/
import Derived.Test.YtmlgaedhfannmaaRows
import Derived.Test.YtmlgaedhfannmaaBunA
import Derived.Lib.AppendStr
import Derived.Lib.OthersKept
namespace Go.Proofs.Ytmlgaedhfannmaa
set_option linter.unusedVariables false
set_option linter.unusedSimpArgs false
open Go.RowKit

/-- The value v is a slice of bytes of the call's own (from block B on), which holds l. -/
def Own (w : World) (B : Nat) (v : Value) (l : List UInt8) : Prop := w.ownsRow B 5 1 v l.length (l.map bv)
/-- Below block B nothing has turned, and no block but bytes. -/
def WFr (B : Nat) (w w' : World) : Prop := Below B w w' ∧ Lib.OthersKept 5 none w w'
theorem WFr.refl (B : Nat) (w : World) : WFr B w w := ⟨Below.refl _ _, Lib.OthersKept.refl _ _ _⟩
theorem WFr.trans {B : Nat} {a b c : World} (h : WFr B a b) (k : WFr B b c) : WFr B a c := ⟨h.1.trans k.1, h.2.trans k.2⟩
theorem WFr.alloc {B : Nat} {a b : World} (h : WFr B a b) (hB : B ≤ b.heap.size) (o : Obj) : WFr B a (b.alloc o) := ⟨h.1.alloc hB o, h.2.alloc o⟩
theorem WFr.drew {B : Nat} {a b : World} (h : WFr B a b) : WFr B a b.drew := ⟨h.1.drew, h.2.drew⟩
theorem WFr.blk {B : Nat} {a b : World} (h : WFr B a b) {g : Nat} {t : TypeId} {cs : Array Value} (hb : Blk a g t cs) (ht : t ≠ 5) : Blk b g t cs :=
  h.2 g _ hb (by simp) (fun c fz e => by injection e with _ e2; exact ht e2)
theorem WFr.size {B : Nat} {a b : World} (h : WFr B a b) : a.heap.size ≤ b.heap.size := h.1.size
theorem row_of {w : World} {B : Nat} {e : TypeId} {size : Nat} {v : Value} {n : Nat} {xs : List Value} (h : w.ownsRow B e size v n xs) : ∀ g, v.ownBlock = some g → ∃ c fz, w.heap[g]? = some (.cells c e fz) := by
  intro g hg
  rcases h.2 with ⟨rfl, _⟩ | ⟨g', cap, cur, rfl, _, hh, _⟩
  · simp [Value.ownBlock] at hg
  · have : g' = g := by simpa [Value.ownBlock] using hg
    subst this
    exact ⟨_, _, hh⟩
theorem Own.frame {w w' : World} {B : Nat} {v : Value} {l : List UInt8} (h : Own w B v l) (hg : w.grownBy w' v.ownBlock) (hB : B ≤ w.heap.size) : WFr B w w' :=
  ⟨(Below.refl _ _).grown hg hB fun k hk => (World.ownsRow.lt h k hk).1, (Lib.OthersKept.refl _ _ _).grown hg (row_of h)⟩
theorem Own.alloc {w : World} {B : Nat} {v : Value} {l : List UInt8} (h : Own w B v l) (o : Obj) : Own (w.alloc o) B v l := World.ownsRow.alloc h o
theorem Own.nil (w : World) (B : Nat) : Own w B (.slice none 0 0) [] := World.ownsRow_nil _ _ _ _
theorem Own.form {w : World} {B : Nat} {v : Value} {l : List UInt8} (h : Own w B v l) : ∃ A c, v = .slice A l.length c ∧ (A = none → l.length = 0 ∧ c = 0) := own_form h
theorem Own.holds {w : World} {B : Nat} {A : Option Addr} {c : Nat} {l : List UInt8} (h : Own w B (.slice A l.length c) l) : Holds w w.heap.size 1 A l.length (l.map bv) := Holds.own h

theorem info_u8 : (Try.prog.info? 5).map (fun i => (i.zero, i.size, i.bytes)) = some (some (.int .u8 0), 1, 1) := by kernel_rfl

/-- An append of a few bytes that have just been laid in a block of their own. -/
theorem wpList_put {w : World} {ops : Array Oper} {rest : List Oper} {o : Oper} {a : Act} {Q : Exit → Act → World → Prop} (hgd : o.guard = none) (s x : Operand)
    (ho : o.op = .call { callee := .builtin .append, args := #[s, x], argTypes := #[56, 56] })
    (B : Nat) (v : Value) (l new : List UInt8) (cs : Array Value) (hcs : cs = (new.map bv).toArray) (hs : a.eval s = v) (hown : Own w B v l)
    (k : Nat) (hk : k = new.length) (g : Nat) (hx : a.eval x = .slice (some ⟨g, 0, none⟩) k k) (hg : g = w.heap.size)
    (hn : l.length + new.length ≤ 1048576) (hB : B ≤ w.heap.size)
    (h : ∀ v' w', Own w' B v' (l ++ new) → WFr B w w' → wpList Try.prog ops Q rest (a.put o.dst v') w') :
    wpList Try.prog ops Q (o :: rest) a (w.alloc (.cells cs 5)) := by
  subst hcs hk hg
  obtain ⟨i0, hi0, hz0, hz1, hz2⟩ := info_parts info_u8
  refine wpList_append_own_at (w.alloc (.cells (new.map bv).toArray 5)) hgd s x 56 ho B 5 i0 _ 1 1 Try.underlying56 hi0 hz0 hz1 hz2 rfl (by decide) v l.length _ hs (hown.alloc _) ⟨w.heap.size, 0, none⟩ new.length new.length (new.map bv) hx (by simp) ?_ (bv_one new) ?_ ?_ ?_ ?_
  · intro j u hu
    rw [plus_addr, Nat.zero_add, (Blk.new w 5 _).cell j]
    simpa using hu
  · unfold maxLen; omega
  · omega
  · simp; omega
  · intro v' w' h1 h2 _ h4
    refine h v' w' (by unfold Own; simpa using h1) (((WFr.refl B w).alloc hB _).trans (Own.frame (hown.alloc _) h2 (by simp; omega)))

/-- An append of a constant string. -/
theorem wpList_putS {w : World} {ops : Array Oper} {rest : List Oper} {o : Oper} {a : Act} {Q : Exit → Act → World → Prop} (hgd : o.guard = none) (s x : Operand)
    (ho : o.op = .call { callee := .builtin .append, args := #[s, x], argTypes := #[56, 9] })
    (B : Nat) (v : Value) (l new : List UInt8) (hs : a.eval s = v) (hown : Own w B v l) (hx : a.eval x = str new)
    (hn : l.length + new.length ≤ 1048576) (hB : B ≤ w.heap.size)
    (h : ∀ v' w', Own w' B v' (l ++ new) → WFr B w w' → wpList Try.prog ops Q rest (a.put o.dst v') w') :
    wpList Try.prog ops Q (o :: rest) a w := by
  obtain ⟨i0, hi0, hz0, hz1, hz2⟩ := info_parts info_u8
  refine Lib.wpList_append_own_string w hgd s x 56 9 ho B 5 i0 Try.underlying56 Try.underlying9 hi0 hz0 hz1 hz2 v l.length _ hs hown ⟨new.toArray⟩ hx ?_ ?_ hB ?_
  · show l.length + new.length ≤ _; unfold maxLen; omega
  · show l.length + new.length ≤ _; omega
  · intro v' w' h1 h2 _
    refine h v' w' ?_ (Own.frame hown h2 hB)
    unfold Own
    have : Lib.strCells ⟨new.toArray⟩ = new.map bv := by simp [Lib.strCells, bv]
    rw [this] at h1
    simpa [str_size] using h1

/-- The same as one step of a region that draws its order. -/
theorem step_put {W : World} {ops : Array Oper} {o : Oper} {a : Act} {K : Act → World → Prop} {Q : Exit → Act → World → Prop} {E : Prop} (hgd : o.guard = none) (s x : Operand)
    (ho : o.op = .call { callee := .builtin .append, args := #[s, x], argTypes := #[56, 56] })
    (B : Nat) (v : Value) (l new : List UInt8) (hs : a.eval s = v) (hown : Own W B v l) (ad : Addr) (k c : Nat) (hk : k = new.length) (hx : a.eval x = .slice (some ad) k c)
    (hc : ∀ j u, (new.map bv)[j]? = some u → W.cell? (ad.add j) = some u)
    (hn : l.length + new.length ≤ 1048576) (hB : B ≤ W.heap.size)
    (h : ∀ v' w', Own w' B v' (l ++ new) → WFr B W w' → K (a.put o.dst v') w') :
    if Region.wanted o (yielded ops a.tmps) = true then Oper.wp Try.prog o a W K Q else E := by
  have hw : Region.wanted o (yielded ops a.tmps) = true := by simp [Region.wanted, hgd]
  rw [if_pos hw]
  subst hk
  obtain ⟨i0, hi0, hz0, hz1, hz2⟩ := info_parts info_u8
  obtain ⟨v', w', hrun, h1, h2, _, _⟩ := run_append_own_at (P := Try.prog) W B 56 o.type 5 i0 _ 1 1 Try.underlying56 hi0 hz0 hz1 hz2 rfl (by decide) v l.length _ hown ad new.length c (new.map bv) (by simp) hc (bv_one new) (by unfold maxLen; omega) (by omega) hB
  unfold Oper.wp execOp
  simp only [ho, resolve, invoke, builtin, Sem.run_bind, Sem.run_pure, Result.andThen_ok, List.map_toArray, List.map_cons, List.map_nil, hs, hx, hrun]
  exact h v' w' (by unfold Own; simpa using h1) (Own.frame hown h2 hB)

/-- What a writer leaves. -/
def WrPost (B : Nat) (l : List UInt8) (w : World) (e : Ending) (w' : World) : Prop := ∃ v', e = .returned v' ∧ Own w' B v' l ∧ WFr B w w'
end Go.Proofs.Ytmlgaedhfannmaa
