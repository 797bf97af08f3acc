/- Lists of slices of bytes in memory, and lists of those. -/
import Derived.Test.YtploicbiapjfdaaBunA
namespace Go.Proofs.Ytploicbiapjfdaa
set_option linter.unusedVariables false
set_option linter.unusedSimpArgs false
open Go.RowKit
/-- Place for place. -/
def Ats {α : Type} (R : α → Value → Prop) (xs : List α) (cs : List Value) : Prop := cs.length = xs.length ∧ ∀ (i : Nat) (x : α) (v : Value), xs[i]? = some x → cs[i]? = some v → R x v
theorem Ats.nil {α : Type} {R : α → Value → Prop} : Ats R [] [] := ⟨rfl, fun i x v h => by simp at h⟩
theorem Ats.snoc {α : Type} {R : α → Value → Prop} {xs : List α} {cs : List Value} {x : α} {v : Value} (h : Ats R xs cs) (hx : R x v) : Ats R (xs ++ [x]) (cs ++ [v]) := by
  refine ⟨by simp [h.1], fun i y u hy hu => ?_⟩
  rw [List.getElem?_append] at hy hu
  rw [h.1] at hu
  split at hy
  · rename_i hi
    rw [if_pos hi] at hu
    exact h.2 i y u hy hu
  · rename_i hi
    rw [if_neg hi] at hu
    have h0 : i - xs.length = 0 := by
      rcases Nat.eq_zero_or_pos (i - xs.length) with h | h
      · exact h
      · rw [List.getElem?_eq_none (by simp; omega)] at hy; cases hy
    rw [h0] at hy hu
    simp at hy hu
    subst hy hu
    exact hx
theorem Ats.imp {α : Type} {R R' : α → Value → Prop} {xs : List α} {cs : List Value} (h : Ats R xs cs) (hi : ∀ x v, R x v → R' x v) : Ats R' xs cs := ⟨h.1, fun i x v hx hv => hi x v (h.2 i x v hx hv)⟩
theorem Ats.take {α : Type} {R : α → Value → Prop} {xs : List α} {cs : List Value} (h : Ats R xs cs) (n : Nat) : Ats R (xs.take n) (cs.take n) := by
  refine ⟨by rw [List.length_take, List.length_take, h.1], fun i x v hx hv => ?_⟩
  rw [List.getElem?_take] at hx hv
  split at hx
  · rename_i hi
    rw [if_pos hi] at hv
    exact h.2 i x v hx hv
  · cases hx
theorem Ats.app {α : Type} {R : α → Value → Prop} {xs ys : List α} {cs ds : List Value} (h : Ats R xs cs) (h2 : Ats R ys ds) : Ats R (xs ++ ys) (cs ++ ds) := by
  refine ⟨by simp [h.1, h2.1], fun i y u hy hu => ?_⟩
  rw [List.getElem?_append] at hy hu
  rw [h.1] at hu
  split at hy
  · rename_i hi; rw [if_pos hi] at hu; exact h.2 i y u hy hu
  · rename_i hi; rw [if_neg hi] at hu; exact h2.2 _ y u hy hu

def In1 (w : World) (S : Nat → Prop) (l : List UInt8) (v : Value) : Prop :=
  ∃ A c, v = .slice A l.length c ∧ l.length ≤ c ∧ (A = none → c = 0) ∧ HoldsS w S 1 A l.length (l.map bv)
def InL {α : Type} (In : World → (Nat → Prop) → α → Value → Prop) (w : World) (S : Nat → Prop) (xs : List α) (v : Value) : Prop :=
  ∃ A c cs, v = .slice A xs.length c ∧ xs.length ≤ c ∧ (A = none → c = 0) ∧ HoldsS w S 1 A xs.length cs ∧ Ats (In w S) xs cs
/-- It rests on the cells of its blocks alone. -/
def Stays {α : Type} (In : World → (Nat → Prop) → α → Value → Prop) : Prop :=
  (∀ (w w' : World) (S : Nat → Prop) (x : α) (v : Value), In w S x v → (∀ p : Addr, S p.block → w'.cell? p = w.cell? p) → In w' S x v) ∧
  (∀ (w : World) (S S' : Nat → Prop) (x : α) (v : Value), In w S x v → (∀ b, S b → S' b) → In w S' x v)
theorem stays1 : Stays In1 := by
  refine ⟨?_, ?_⟩
  · rintro w w' S x v ⟨A, c, h1, h2, h3, h4⟩ hk
    exact ⟨A, c, h1, h2, h3, h4.kept hk⟩
  · rintro w S S' x v ⟨A, c, h1, h2, h3, h4⟩ hs
    exact ⟨A, c, h1, h2, h3, h4.mono hs⟩
theorem Stays.list {α : Type} {In : World → (Nat → Prop) → α → Value → Prop} (h : Stays In) : Stays (InL In) := by
  refine ⟨?_, ?_⟩
  · rintro w w' S x v ⟨A, c, cs, h1, h2, h3, h4, h5⟩ hk
    exact ⟨A, c, cs, h1, h2, h3, h4.kept hk, h5.imp fun y u hy => h.1 w w' S y u hy hk⟩
  · rintro w S S' x v ⟨A, c, cs, h1, h2, h3, h4, h5⟩ hs
    exact ⟨A, c, cs, h1, h2, h3, h4.mono hs, h5.imp fun y u hy => h.2 w S S' y u hy hs⟩
def In2 := InL In1
def In3 := InL In2
theorem stays2 : Stays In2 := stays1.list
theorem stays3 : Stays In3 := stays2.list
def lowB (B : Nat) : Nat → Prop := fun b => b < B
section
variable {α : Type} {In : World → (Nat → Prop) → α → Value → Prop} {w w' : World} {S S' : Nat → Prop} {B B' : Nat} {x : α} {v : Value}
theorem Stays.below (hI : Stays In) (h : In w (lowB B) x v) (hb : Below B w w') : In w' (lowB B) x v := hI.1 _ _ _ _ _ h fun _ hp => hb.cell hp
theorem Stays.wider (hI : Stays In) (h : In w (lowB B) x v) (hB : B ≤ B') : In w (lowB B') x v := hI.2 _ _ _ _ _ h fun _ hb => Nat.lt_of_lt_of_le hb hB
theorem Stays.ats (hI : Stays In) {xs : List α} {cs : List Value} (h : Ats (In w S) xs cs) (hk : ∀ p : Addr, S p.block → w'.cell? p = w.cell? p) (hs : ∀ b, S b → S' b) : Ats (In w' S') xs cs :=
  h.imp fun y u hy => hI.2 _ _ _ _ _ (hI.1 _ _ _ _ _ hy hk) hs
end
/-- Between two rows of the call's own (or one): the blocks that are neither. -/
def offOf (base : Nat) (w : World) (a b : Value) : Nat → Prop := fun k => base ≤ k ∧ k < w.heap.size ∧ some k ≠ a.ownBlock ∧ some k ≠ b.ownBlock
end Go.Proofs.Ytploicbiapjfdaa
