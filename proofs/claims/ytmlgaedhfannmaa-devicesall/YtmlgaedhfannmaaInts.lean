/- A slice of integers that came in: words. -/
import Derived.Test.YtmlgaedhfannmaaBunA
namespace Go.Proofs.Ytmlgaedhfannmaa
set_option linter.unusedVariables false
set_option linter.unusedSimpArgs false
open Go.RowKit

/-- A slice of integers that can be read. -/
def IntsAt (w : World) (B : Nat) (A : Option Addr) (n c : Nat) : Prop :=
  ∃ zs : List Int, Holds w B 1 A n (zs.map (Value.int .i64)) ∧ n ≤ c ∧ c ≤ 9223372036854775807 ∧ ∀ z ∈ zs, -9223372036854775808 ≤ z ∧ z ≤ 9223372036854775807
theorem IntsAt.below {w w' : World} {B : Nat} {A : Option Addr} {n c : Nat} (h : IntsAt w B A n c) (hb : Below B w w') : IntsAt w' B A n c := by
  obtain ⟨zs, h1, h2, h3, h4⟩ := h; exact ⟨zs, h1.below hb, h2, h3, h4⟩
theorem IntsAt.head {w : World} {B : Nat} {A : Option Addr} {n c : Nat} (h : IntsAt w B A n c) (hn : 0 < n) :
    ∃ b off z, A = some ⟨b, off, none⟩ ∧ b < B ∧ w.cell? ⟨b, off, none⟩ = some (.int .i64 z) ∧ -9223372036854775808 ≤ z ∧ z ≤ 9223372036854775807 := by
  obtain ⟨zs, h1, h2, h3, h4⟩ := h
  obtain ⟨b, off, u, e, hb, hu, hc⟩ := h1.at1 hn
  have hl : 0 < zs.length := by have := h1.1; simp at this; omega
  simp [List.getElem?_eq_getElem hl] at hu
  subst hu
  have := h4 zs[0] (List.getElem_mem hl)
  exact ⟨b, off, zs[0], e, hb, by simpa using hc, this.1, this.2⟩
theorem IntsAt.tail {w : World} {B : Nat} {A : Option Addr} {n c : Nat} (h : IntsAt w B A n c) (hn : 0 < n) : IntsAt w B (cutAt A c 1 1) (n - 1) (c - 1) := by
  obtain ⟨zs, h1, h2, h3, h4⟩ := h
  have hl : zs.length = n := by have := h1.1; simpa using this
  have := h1.cut (lo := 1) (hg := n) (c := c) (by omega) (Nat.le_refl _) h2
  refine ⟨zs.drop 1, ?_, by omega, by omega, fun z hz => h4 z (List.mem_of_mem_drop hz)⟩
  have e : ((zs.map (Value.int .i64)).drop (1 * 1)).take ((n - 1) * 1) = (zs.drop 1).map (Value.int .i64) := by
    rw [← List.map_drop]
    exact List.take_of_length_le (by simp; omega)
  rwa [e] at this
theorem IntsAt.at {w : World} {B : Nat} {A : Option Addr} {n c : Nat} (h : IntsAt w B A n c) {k : Nat} (hk : k < n) :
    ∃ b off z, A = some ⟨b, off, none⟩ ∧ b < B ∧ w.cell? ⟨b, off + k, none⟩ = some (.int .i64 z) ∧ -9223372036854775808 ≤ z ∧ z ≤ 9223372036854775807 := by
  obtain ⟨zs, h1, h2, h3, h4⟩ := h
  obtain ⟨b, off, u, e, hb, hu, hc⟩ := h1.at1 hk
  have hl : k < zs.length := by have := h1.1; simp at this; omega
  simp [List.getElem?_eq_getElem hl] at hu
  subst hu
  have := h4 zs[k] (List.getElem_mem hl)
  exact ⟨b, off, zs[k], e, hb, hc, this.1, this.2⟩
theorem IntsAt.wider {w : World} {B B' : Nat} {A : Option Addr} {n c : Nat} (h : IntsAt w B A n c) (hB : B ≤ B') : IntsAt w B' A n c := by
  obtain ⟨zs, h1, h2, h3, h4⟩ := h; exact ⟨zs, h1.wider hB, h2, h3, h4⟩
end Go.Proofs.Ytmlgaedhfannmaa
