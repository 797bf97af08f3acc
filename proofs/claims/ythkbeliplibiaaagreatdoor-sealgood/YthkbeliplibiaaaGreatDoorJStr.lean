/- json's reader: restOfCode, restOfEscape, restOfString. -/
import Derived.Test.YthkbeliplibiaaaGreatDoorJRd
namespace Go.Proofs.YthkbeliplibiaaaGreatDoor
set_option linter.unusedVariables false
set_option linter.unusedSimpArgs false
open Go.RowKit

def byteY (x : UInt8) : Value := .tuple #[.int .u8 (x.toNat : Int), .bool true]
def byteN : Value := .tuple #[.int .u8 0, .bool false]

theorem codeR_none {r : List UInt8} (h : codeGo 4 0 r = none) : codeR r = none := by simp [codeR, h]
theorem codeR_some {r q : List UInt8} {n : Int} (h : codeGo 4 0 r = some (n, q)) : codeR r = if n < 128 then some (UInt8.ofNat n.toNat, q) else none := by simp [codeR, h]
theorem max_hex (c : UInt8) : (if Lib.indexByte hexL c < Lib.indexByte hexU c then Lib.indexByte hexU c else Lib.indexByte hexL c) = hexV c := by
  unfold hexV; split <;> omega

attribute [local go_sem high] str_mk
theorem unlet_at (c : UInt8) : (Lib.indexByte letL c < 0 ∧ unlet c = none) ∨ ∃ (i : Nat) (x : UInt8), Lib.indexByte letL c = (i : Int) ∧ i < 7 ∧ escL[i]? = some x ∧ unlet c = some x := by
  have : ∀ n : Fin 256, (Lib.indexByte letL (UInt8.ofNat n.val) < 0 ∧ unlet (UInt8.ofNat n.val) = none) ∨ ∃ i : Fin 7, Lib.indexByte letL (UInt8.ofNat n.val) = (i.val : Int) ∧ unlet (UInt8.ofNat n.val) = escL[i.val]? := by decide +kernel
  have h := this ⟨c.toNat, c.toNat_lt⟩
  simp only [UInt8.ofNat_toNat] at h
  rcases h with h | ⟨i, h1, h2⟩
  · exact .inl h
  · have hi : i.val < escL.length := i.isLt
    exact .inr ⟨i.val, escL[i.val], h1, i.isLt, List.getElem?_eq_getElem hi, by rw [h2]; exact List.getElem?_eq_getElem hi⟩

theorem only_below_then {a b c : World} {row : Option Nat} (h : a.grownBy b row) (k : Below a.heap.size b c) : a.grownBy c row :=
  ⟨k.os.trans h.os, k.tape.trans h.tape, k.output.trans h.output, Nat.le_trans h.size k.size, fun i hi hne => (k.block i hi).trans (h.block i hi hne)⟩
theorem Own.kept {w w' : World} {B g : Nat} {v : Value} {l : List UInt8} (h : Own w B v l) (hg : w.grownBy w' (some g)) (hgB : g < B) : Own w' B v l :=
  World.ownsRow.kept h hg (by
    cases hv : v.ownBlock with
    | none => exact .inl rfl
    | some k => exact .inr (fun e => by injection e with e; have := (World.ownsRow.lt h k hv).1; omega))

def strY (t : List UInt8) : Value := .tuple #[str t, .bool true]
def strN : Value := .tuple #[str [], .bool false]
theorem byte_ne {c d : UInt8} (h : c ≠ d) : ((c.toNat : Int) == (d.toNat : Int)) = false := by
  rw [beq_eq_false_iff_ne]
  intro e; apply h; apply UInt8.toNat_inj.1; omega

end Go.Proofs.YthkbeliplibiaaaGreatDoor
