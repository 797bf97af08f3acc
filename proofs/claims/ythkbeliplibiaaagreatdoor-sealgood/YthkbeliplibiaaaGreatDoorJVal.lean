/- json's reader: value, over restOfObject; read and Parse. -/
import Derived.Test.YthkbeliplibiaaaGreatDoorJArr
import Derived.Test.YthkbeliplibiaaaGreatDoorJNum
import Derived.Test.YthkbeliplibiaaaGreatDoorJText
namespace Go.Proofs.YthkbeliplibiaaaGreatDoor
set_option linter.unusedVariables false
set_option linter.unusedSimpArgs false
open Go.RowKit

theorem vin_word (w : World) (S : Nat → Prop) (k : Int) (hk : 1 ≤ k ∧ k ≤ 3) : VInS w S (.mk k 0 [] [] []) [.int .i64 k, .int .i64 0, str [], .slice none 0 0, .slice none 0 0] := by
  unfold VInS
  exact ⟨none, 0, none, 0, [], rfl, by omega, by omega, by simp, by simp, by simp, by simp, by simp, by simp, HoldsS.nil, HoldsS.nil, by unfold PInS; rfl⟩
theorem vin_num (w : World) (S : Nat → Prop) (n : Int) (hn : -9223372036854775808 ≤ n ∧ n ≤ 9223372036854775807) : VInS w S (.mk 4 n [] [] []) [.int .i64 4, .int .i64 n, str [], .slice none 0 0, .slice none 0 0] := by
  unfold VInS
  exact ⟨none, 0, none, 0, [], rfl, by omega, hn, by simp, by simp, by simp, by simp, by simp, by simp, HoldsS.nil, HoldsS.nil, by unfold PInS; rfl⟩
theorem vin_str (w : World) (S : Nat → Prop) (t : List UInt8) (ht : t.length ≤ 1048576) : VInS w S (.mk 5 0 t [] []) [.int .i64 5, .int .i64 0, str t, .slice none 0 0, .slice none 0 0] := by
  unfold VInS
  exact ⟨none, 0, none, 0, [], rfl, by omega, by omega, ht, by simp, by simp, by simp, by simp, by simp, HoldsS.nil, HoldsS.nil, by unfold PInS; rfl⟩

theorem set5 {w : World} {g : Nat} {t : TypeId} {a0 a1 a2 a3 a4 : Value} (h : Blk w g t #[a0, a1, a2, a3, a4]) (b0 b1 b2 b3 b4 : Value) :
    Blk (((((w.setCell ⟨g, 0, none⟩ b0).setCell ⟨g, 1, none⟩ b1).setCell ⟨g, 2, none⟩ b2).setCell ⟨g, 3, none⟩ b3).setCell ⟨g, 4, none⟩ b4) g t #[b0, b1, b2, b3, b4] :=
  ((((h.set_ 0 b0).set_ 1 b1).set_ 2 b2).set_ 3 b3).set_ 4 b4
theorem only_set5 {a w : World} {g g' : Nat} (h : a.grownBy w (some g)) (hg : a.heap.size ≤ g') (b0 b1 b2 b3 b4 : Value) :
    a.grownBy (((((w.setCell ⟨g', 0, none⟩ b0).setCell ⟨g', 1, none⟩ b1).setCell ⟨g', 2, none⟩ b2).setCell ⟨g', 3, none⟩ b3).setCell ⟨g', 4, none⟩ b4) (some g) :=
  only_setCell (only_setCell (only_setCell (only_setCell (only_setCell h (.inr hg) _) (.inr hg) _) (.inr hg) _) (.inr hg) _) (.inr hg) _
theorem below_set5 {a w : World} {B g' : Nat} (h : Below B a w) (hg : B ≤ g') (b0 b1 b2 b3 b4 : Value) :
    Below B a (((((w.setCell ⟨g', 0, none⟩ b0).setCell ⟨g', 1, none⟩ b1).setCell ⟨g', 2, none⟩ b2).setCell ⟨g', 3, none⟩ b3).setCell ⟨g', 4, none⟩ b4) :=
  ((((h.setCell hg _).setCell hg _).setCell hg _).setCell hg _).setCell hg _
theorem size_set5 (w : World) (g' : Nat) (b0 b1 b2 b3 b4 : Value) : (((((w.setCell ⟨g', 0, none⟩ b0).setCell ⟨g', 1, none⟩ b1).setCell ⟨g', 2, none⟩ b2).setCell ⟨g', 3, none⟩ b3).setCell ⟨g', 4, none⟩ b4).heap.size = w.heap.size := by simp [World.setCell]
theorem cell_set5 {w : World} {g' : Nat} {p : Addr} (hp : p.block ≠ g') (b0 b1 b2 b3 b4 : Value) : (((((w.setCell ⟨g', 0, none⟩ b0).setCell ⟨g', 1, none⟩ b1).setCell ⟨g', 2, none⟩ b2).setCell ⟨g', 3, none⟩ b3).setCell ⟨g', 4, none⟩ b4).cell? p = w.cell? p := by
  refine World.cell?_of_block ?_
  rw [Below.heap_setCell _ _ _ _ hp, Below.heap_setCell _ _ _ _ hp, Below.heap_setCell _ _ _ _ hp, Below.heap_setCell _ _ _ _ hp, Below.heap_setCell _ _ _ _ hp]
/-- The end of a function whose first result is a value in memory. -/
theorem ret_val {fn : Func} {R : Ending → World → Prop} {a : Act} {W : World} {g : Nat} {s1 s2 : Tmp} {b x0 x1 x2 x3 x4 : Value}
    (hf : fn.results = #[.cell s1 25, .tmp s2]) (h1 : a.tmps.getD s1 undef = .pointer (some ⟨g, 0, none⟩)) (h2 : a.tmps.getD s2 undef = b)
    (hb : Blk W g 25 #[x0, x1, x2, x3, x4]) (hd : a.defers = []) (hR : R (.returned (.tuple #[.agg #[x0, x1, x2, x3, x4], b])) W) : bodyPost Tryz.prog fn R .ret a W := by
  refine bodyPost_ret ?_ hd hR
  have c0 : W.cell? ⟨g, 0, none⟩ = some x0 := hb.cell 0
  have c1 : W.cell? ⟨g, 1, none⟩ = some x1 := hb.cell 1
  have c2 : W.cell? ⟨g, 2, none⟩ = some x2 := hb.cell 2
  have c3 : W.cell? ⟨g, 3, none⟩ = some x3 := hb.cell 3
  have c4 : W.cell? ⟨g, 4, none⟩ = some x4 := hb.cell 4
  simp only [Array.getD_eq_getD_getElem?] at h1 h2
  simp [results, hf, h1, h2, go_sem, c0, c1, c2, c3, c4]
/-- The cells of a box, as the walk asks for them. -/
theorem box_facts {w : World} {g : Nat} {t : TypeId} {a0 a1 a2 a3 a4 : Value} (h : Blk w g t #[a0, a1, a2, a3, a4]) :
    w.cell? ⟨g, 0, none⟩ = some a0 ∧ w.cell? ⟨g, 1, none⟩ = some a1 ∧ w.cell? ⟨g, 2, none⟩ = some a2 ∧ w.cell? ⟨g, 3, none⟩ = some a3 ∧ w.cell? ⟨g, 4, none⟩ = some a4 ∧
    w.frozen? ⟨g, 0, none⟩ = false ∧ w.frozen? ⟨g, 1, none⟩ = false ∧ w.frozen? ⟨g, 2, none⟩ = false ∧ w.frozen? ⟨g, 3, none⟩ = false ∧ w.frozen? ⟨g, 4, none⟩ = false :=
  ⟨h.cell 0, h.cell 1, h.cell 2, h.cell 3, h.cell 4, h.frozen 0, h.frozen 1, h.frozen 2, h.frozen 3, h.frozen 4⟩
theorem ne_of_lt' {g h : Nat} (hl : g < h) : (some h : Option Nat) ≠ some g := by intro e; injection e; omega
theorem on_alloc (w : World) (o : Obj) (g : Option Nat) : w.grownBy (w.alloc o) g := only_alloc (World.grownBy.refl _ _) _

attribute [local go_sem high] str_mk

end Go.Proofs.YthkbeliplibiaaaGreatDoor
