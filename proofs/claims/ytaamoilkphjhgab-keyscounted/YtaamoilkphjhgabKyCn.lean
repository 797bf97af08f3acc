/- One-time keys: the two boxes and the two rows of a client that counts what is left. -/
import Derived.Test.YtaamoilkphjhgabPcK
import Derived.Test.YtaamoilkphjhgabKyAsk
namespace Go.Proofs.Ytaamoilkphjhgab
set_option linter.unusedVariables false
set_option linter.unusedSimpArgs false
open Go.RowKit
def zL (z : Int) : List Value := [.int .i64 z]
theorem zL_len (z : Int) : (zL z).length = 1 := rfl
theorem zL_one (z : Int) : ∀ u ∈ zL z, u.oneCell' = true := by intro u hu; simp [zL] at hu; subst hu; rfl
theorem zL_map : ∀ hs : List Int, pcK zL hs = hs.map (Value.int .i64)
  | [] => rfl
  | z :: hs => by rw [pcK_cons, zL_map hs]; rfl
theorem ct_info : (Try.prog.info? 3).map (fun i => (i.zero, i.size, i.bytes)) = some (some (.int .i64 0), 1, 8) := by kernel_rfl
def upd {α : Type} (f : Bool → α) (S : Bool) (y : α) (T : Bool) : α := if T = S then y else f T
theorem upd_same {α : Type} (f : Bool → α) (S : Bool) (y : α) : upd f S y S = y := by simp [upd]
theorem upd_other {α : Type} (f : Bool → α) (S : Bool) (y : α) (T : Bool) (h : T ≠ S) : upd f S y T = f T := by simp [upd, h]
structure CtM (B : Nat) (w : World) (K : Bool → Int) (Hd : Bool → List Int) (V : Bool → Value) : Prop where
  many : Blk w B 37 #[.int .i64 (K false), .int .i64 (K true)]
  had : Blk w (B + 1) 38 #[V false, V true]
  row : ∀ S, w.ownsRow (B + 2) 3 1 (V S) (Hd S).length (pcK zL (Hd S))
  apart : ∀ g, (V false).ownBlock = some g → (V true).ownBlock ≠ some g
  size : B + 2 ≤ w.heap.size
section
variable {B : Nat} {w w' : World} {K : Bool → Int} {Hd : Bool → List Int} {V : Bool → Value}
theorem CtM.cellM (h : CtM B w K Hd V) (S : Bool) : w.cell? ⟨B, S.toNat, none⟩ = some (.int .i64 (K S)) := by cases S; exact h.many.cell 0; exact h.many.cell 1
theorem CtM.cellH (h : CtM B w K Hd V) (S : Bool) : w.cell? ⟨B + 1, S.toNat, none⟩ = some (V S) := by cases S; exact h.had.cell 0; exact h.had.cell 1
theorem CtM.below (h : CtM B w K Hd V) (hb : Below w.heap.size w w') : CtM B w' K Hd V :=
  ⟨h.many.below hb (by have := h.size; omega), h.had.below hb (by have := h.size; omega), fun S => own_below (h.row S) hb, h.apart, Nat.le_trans h.size hb.size⟩
theorem CtM.setM (h : CtM B w K Hd V) (S : Bool) (y : Int) : CtM B (w.setCell ⟨B, S.toNat, none⟩ (.int .i64 y)) (upd K S y) Hd V := by
  refine ⟨?_, h.had.far (by show B + 1 ≠ B; omega) _, fun T => own_kept (h.row T) fun g hg => Below.heap_setCell w _ _ g (by show g ≠ B; have := (World.ownsRow.lt (h.row T) g hg).1; omega), h.apart, by simpa [World.setCell] using h.size⟩
  have := h.many.set_ S.toNat (.int .i64 y)
  cases S <;> simpa [upd] using this
theorem CtM.apart' (h : CtM B w K Hd V) {S T : Bool} (hST : S ≠ T) {g : Nat} (hg : (V S).ownBlock = some g) : (V T).ownBlock ≠ some g := by
  cases S <;> cases T
  · exact absurd rfl hST
  · exact h.apart g hg
  · exact fun e => h.apart g e hg
  · exact absurd rfl hST
theorem CtM.push (h : CtM B w K Hd V) (S : Bool) (z : Int) {A : Option Addr} {m c : Nat} (hV : V S = .slice A m c) (hl : (Hd S).length + 1 ≤ 1048576) :
    ∃ v9 w9, (Builtin.append_ #[30, 30] 30 #[.slice A m c, .slice (some ⟨w.heap.size, 0, none⟩) 1 1]).run Try.prog (w.alloc (.cells #[.int .i64 z] 3)) = .ok v9 w9 ∧
      (w.alloc (.cells #[.int .i64 z] 3)).cell? ⟨B + 1, S.toNat, none⟩ = some (.slice A m c) ∧ w9.cell? ⟨B + 1, S.toNat, none⟩ = some (.slice A m c) ∧ w9.frozen? ⟨B + 1, S.toNat, none⟩ = false ∧
      Below (B + 2) w w9 ∧ CtM B (w9.setCell ⟨B + 1, S.toNat, none⟩ v9) K (upd Hd S (Hd S ++ [z])) (upd V S v9) := by
  obtain ⟨v9, w9, hrun, ho, hg, hor⟩ := run_app_el (P := Try.prog) (enc := zL) zL_len zL_one (by omega) Try.underlying30 ct_info rfl (by omega) w (B + 2) (Hd S).length (V S) (Hd S) z #[.int .i64 z] rfl (h.row S) hl h.size
  rw [hV] at hrun hg hor
  have hown : ∀ g, (V S).ownBlock = some g → B + 2 ≤ g ∧ g < w.heap.size := fun g hg => World.ownsRow.lt (h.row S) g hg
  rw [hV] at hown
  have hba : Below w.heap.size w (w.alloc (.cells #[.int .i64 z] 3)) := (Below.refl _ _).alloc (Nat.le_refl _) _
  have hM := h.below hba
  have hm9 : Blk w9 B 37 #[.int .i64 (K false), .int .i64 (K true)] := hM.many.grown hg (fun e => by have := (hown B e.symm).1; omega)
  have hh9 : Blk w9 (B + 1) 38 #[V false, V true] := hM.had.grown hg (fun e => by have := (hown (B + 1) e.symm).1; omega)
  have hsz := hg.size
  have hv9 : ∀ g, v9.ownBlock = some g → B + 2 ≤ g := fun g hg => (World.ownsRow.lt ho g hg).1
  have hrow : ∀ T, T ≠ S → w9.ownsRow (B + 2) 3 1 (V T) (Hd T).length (pcK zL (Hd T)) := fun T hT => own_kept (h.row T) fun g hgT => by
    have hlt := (World.ownsRow.lt (h.row T) g hgT).2
    rw [hg.block g (by simp; omega) (fun e => h.apart' (Ne.symm hT) (by rw [hV]; exact e.symm) hgT)]
    exact hba.block g hlt
  refine ⟨v9, w9, hrun, ?_, ?_, ?_, ?_, ?_⟩
  · rw [← hV]; exact hM.cellH S
  · rw [← hV]; cases S; exact hh9.cell 0; exact hh9.cell 1
  · exact hh9.frozen _
  · exact (hba.mono h.size).grown hg (by have := h.size; simp; omega) fun g hg => (hown g hg).1
  · refine ⟨hm9.far (by show B ≠ B + 1; omega) _, ?_, fun T => ?_, ?_, ?_⟩
    · have := hh9.set_ S.toNat v9
      cases S <;> simpa [upd] using this
    · by_cases hT : T = S
      · subst hT
        rw [upd_same, upd_same]
        have : (Hd T ++ [z]).length = (Hd T).length + 1 := by simp
        rw [this]
        exact own_kept ho fun g hg => Below.heap_setCell w9 _ _ g (by show g ≠ B + 1; have := hv9 g hg; omega)
      · rw [upd_other _ _ _ _ hT, upd_other _ _ _ _ hT]
        exact own_kept (hrow T hT) fun g hg => Below.heap_setCell w9 _ _ g (by show g ≠ B + 1; have := (World.ownsRow.lt (h.row T) g hg).1; omega)
    · have key : ∀ T, T ≠ S → ∀ g, v9.ownBlock = some g → (V T).ownBlock ≠ some g := fun T hT g hg9 hgT => by
        have hlt := (World.ownsRow.lt (h.row T) g hgT).2
        rcases hor with e | e
        · exact h.apart' (Ne.symm hT) (by rw [hV, ← e]; exact hg9) hgT
        · rw [hg9] at e; injection e with e; omega
      cases S
      · intro g h1
        rw [upd_same] at h1
        rw [upd_other _ _ _ _ (by decide)]
        exact key true (by decide) g h1
      · intro g h1 h2
        rw [upd_same] at h2
        rw [upd_other _ _ _ _ (by decide)] at h1
        exact key false (by decide) g h2 h1
    · have := h.size
      have h2 : (w.alloc (.cells #[.int .i64 z] 3)).heap.size = w.heap.size + 1 := by simp
      have : B + 2 ≤ w9.heap.size := by omega
      simpa [World.setCell] using this
theorem ctM0 (w : World) (K : Bool → Int) (hK : ∀ S, K S = 0) : CtM w.heap.size ((w.alloc (.cells #[.int .i64 0, .int .i64 0] 37)).alloc (.cells #[.slice none 0 0, .slice none 0 0] 38)) K (fun _ => []) (fun _ => .slice none 0 0) := by
  have h1 := (Blk.new w 37 #[.int .i64 0, .int .i64 0]).alloc (.cells #[.slice none 0 0, .slice none 0 0] 38)
  have h2 := Blk.new (w.alloc (.cells #[.int .i64 0, .int .i64 0] 37)) 38 #[.slice none 0 0, .slice none 0 0]
  refine ⟨by rw [hK, hK]; exact h1, by simpa using h2, fun S => World.ownsRow_nil _ _ _ _, by intro g hg; simp [Value.ownBlock] at hg, by simp⟩
end
end Go.Proofs.Ytaamoilkphjhgab
