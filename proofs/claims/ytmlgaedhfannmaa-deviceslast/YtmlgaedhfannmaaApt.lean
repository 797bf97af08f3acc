/- Rows of the call's own that do not share their blocks. Nothing of the program is named here. -/
import Derived.Test.YtmlgaedhfannmaaPcK
namespace Go.Proofs.Ytmlgaedhfannmaa
set_option linter.unusedVariables false
set_option linter.unusedSimpArgs false
open Go.RowKit
/-- Two rows do not share their block. -/
def Apt (v v' : Value) : Prop := ∀ g, v.ownBlock = some g → v'.ownBlock ≠ some g
theorem Apt.symm {v v' : Value} (h : Apt v v') : Apt v' v := fun g h1 h2 => h g h2 h1
/-- A row that a call left alone: it is another one than the row that has grown. -/
theorem own_apart {w w' : World} {base e size n : Nat} {v : Value} {xs : List Value} {r : Option Nat} (h : w.ownsRow base e size v n xs) (hg : w.grownBy w' r) (hr : ∀ g, v.ownBlock = some g → r ≠ some g) : w'.ownsRow base e size v n xs :=
  own_kept h fun g hgv => hg.block g (World.ownsRow.lt h g hgv).2 (fun e => hr g hgv e.symm)
/-- Rows of different elements lie in different blocks. -/
theorem apt_types {w : World} {B B' e e' size size' n n' : Nat} {v v' : Value} {xs xs' : List Value} (h : w.ownsRow B e size v n xs) (h' : w.ownsRow B' e' size' v' n' xs') (hne : e ≠ e') : Apt v v' := by
  intro g hg hg'
  have of : ∀ {B e size n : Nat} {v : Value} {xs : List Value}, w.ownsRow B e size v n xs → v.ownBlock = some g → ∃ c, w.heap[g]? = some (.cells c e (0, 0)) := by
    intro B e size n v xs h hg
    rcases h.2 with ⟨rfl, _⟩ | ⟨g', cap, cur, rfl, _, hh, _⟩
    · simp [Value.ownBlock] at hg
    · simp [Value.ownBlock] at hg; subst hg; exact ⟨_, hh⟩
  obtain ⟨c, h1⟩ := of h hg
  obtain ⟨c', h2⟩ := of h' hg'
  rw [h1] at h2
  injection h2 with h2
  injection h2 with _ h3
  exact hne h3
/-- What a row that grew leaves of another: its new block is the old one's or wholly new. -/
theorem apt_grow {w : World} {base e size n : Nat} {v v' u : Value} {xs : List Value} {N : Nat} (ho : w.ownsRow base e size u n xs) (h : Apt v u) (hN : w.heap.size ≤ N) (hor : v'.ownBlock = v.ownBlock ∨ v'.ownBlock = some N) : Apt v' u := by
  intro g h1 h2
  rcases hor with e1 | e1
  · exact h g (by rw [← e1]; exact h1) h2
  · rw [h1] at e1
    injection e1 with e1
    have := (World.ownsRow.lt ho g h2).2
    omega
/-- A row does not lie in a box of another type. -/
theorem apt_box {w : World} {b1 e1 s1 n1 g : Nat} {t : TypeId} {v1 : Value} {x1 : List Value} {cs : Array Value} (h1 : w.ownsRow b1 e1 s1 v1 n1 x1) (h2 : Blk w g t cs) (he : e1 ≠ t) : v1.ownBlock ≠ some g := by
  rcases h1.2 with ⟨rfl, _⟩ | ⟨g1, c1, u1, rfl, _, hh1, _⟩
  · simp [Value.ownBlock]
  · intro e
    simp only [Value.ownBlock, Option.some.injEq] at e
    subst e
    have h3 := h2.symm.trans hh1
    injection h3 with h3
    injection h3 with _ h4
    exact he h4.symm
end Go.Proofs.Ytmlgaedhfannmaa
