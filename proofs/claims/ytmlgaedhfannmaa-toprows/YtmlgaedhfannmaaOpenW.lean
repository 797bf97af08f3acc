/- How a list of wishes that came in is read (of any size). -/
import Derived.Test.YtmlgaedhfannmaaBunO
import Derived.Test.YtmlgaedhfannmaaBunSD
namespace Go.Proofs.Ytmlgaedhfannmaa
set_option linter.unusedVariables false
set_option linter.unusedSimpArgs false
open Go.ChangeShapes Go.WideShapes Go.ChangeAt Go.RowKit
def WIn (w : World) (B : Nat) (s : Int × Int) (cs : List Value) : Prop :=
  ∃ A n c, cs = [.int .i64 s.1, .slice A n c, .int .i64 s.2] ∧ IntsAt w B A n c ∧ (-9223372036854775808 ≤ s.1 ∧ s.1 ≤ 9223372036854775807) ∧ (-9223372036854775808 ≤ s.2 ∧ s.2 ≤ 9223372036854775807)
def WsIn (w : World) (B : Nat) (A : Option Addr) (n : Nat) : Prop :=
  n ≤ 9223372036854775807 ∧ ∃ (ks : List (Int × Int)) (pc : List Value), ks.length = n ∧ Holds w B 3 A n pc ∧ Chs (WIn w B) ks pc
theorem WIn.len {w : World} {B : Nat} {s : Int × Int} {cs : List Value} (h : WIn w B s cs) : cs.length = 3 := by obtain ⟨A, n, c, rfl, _⟩ := h; rfl
theorem WsIn.below {w w' : World} {B n : Nat} {A : Option Addr} (h : WsIn w B A n) (hb : Below B w w') : WsIn w' B A n := by
  obtain ⟨h1, ks, pc, h2, h3, h4⟩ := h
  exact ⟨h1, ks, pc, h2, h3.below hb, h4.imp fun x c ⟨A, n, c', k1, k2, k3⟩ => ⟨A, n, c', k1, k2.below hb, k3⟩⟩
theorem WsIn.at_ {w : World} {B n : Nat} {A : Option Addr} (h : WsIn w B A n) {i : Nat} (hi : i < n) :
    ∃ b off k m Ar nr cr, A = some ⟨b, off, none⟩ ∧ b < B ∧ IntsAt w B Ar nr cr ∧ (-9223372036854775808 ≤ k ∧ k ≤ 9223372036854775807) ∧ (-9223372036854775808 ≤ m ∧ m ≤ 9223372036854775807) ∧
      w.cell? ⟨b, off + i * 3, none⟩ = some (.int .i64 k) ∧ w.cell? ⟨b, off + i * 3 + 1, none⟩ = some (.slice Ar nr cr) ∧ w.cell? ⟨b, off + i * 3 + 2, none⟩ = some (.int .i64 m) := by
  obtain ⟨h1, ks, pc, h2, h3, h4⟩ := h
  obtain ⟨c, ⟨Ar, nr, cr, rfl, k2, k3, k4⟩, hat⟩ := h4.at_ (fun x c hx => hx.len) i (by omega)
  obtain ⟨b, off, rfl, hb, hcell⟩ := h3.2 (by omega)
  refine ⟨b, off, _, _, Ar, nr, cr, rfl, hb, k2, k3, k4, ?_, ?_, ?_⟩
  · exact hcell _ _ (hat 0 _ rfl)
  · rw [Nat.add_assoc]; exact hcell _ _ (hat 1 _ rfl)
  · rw [Nat.add_assoc]; exact hcell _ _ (hat 2 _ rfl)
section
variable {H : Type} {enc : TypeId × Value → H} {W : World}
theorem open_intsc {fuel : Nat} {cs : List Value} {y : DataW H × List MemPlace} (h : DataW.trod enc Try.prog W 0 (fun _ => true) true fuel 37 cs = some y) : ∃ A n c, cs = [.slice A n c] ∧ IntsAt W W.heap.size A n c := by
  rcases open_ints Try.underlying37 Try.underlying3 (by kernel_rfl) h with ⟨hcs, _⟩ | ⟨x, n, c, zs, hcs, _, hl, hm, hz, _, hcell, hwz⟩
  · exact ⟨none, 0, 0, hcs, [], Holds.empty, Nat.le_refl _, by omega, by simp⟩
  · simp only [if_true] at hz
    refine ⟨some x, n, c, hcs, zs.take n, ⟨by simp [hz]; omega, fun hn => ?_⟩, hl, by unfold maxLen at hm; omega, ?_⟩
    · obtain ⟨b, off, spot⟩ := x
      have h0 := hcell 0 (by omega)
      have hspot : spot = none := by simpa [Addr.add] using World.cell?_spot h0
      subst hspot
      refine ⟨b, off, rfl, ?_, fun j u hu => ?_⟩
      · have := cell_lt h0
        rwa [plus_addr] at this
      · have hj : j < n := by
          rcases Nat.lt_or_ge j n with h | h
          · exact h
          · rw [List.getElem?_eq_none (by simp [hz]; omega)] at hu; cases hu
        have hjz : j < zs.length := by omega
        have h1 := hcell j hjz
        rw [plus_addr] at h1
        rw [h1]
        simp [hj, List.getElem?_eq_getElem hjz] at hu
        subst hu
        simp only [List.getD, List.getElem?_eq_getElem hjz, Option.getD_some]
    · intro z hz'
      have hw := hwz z (List.mem_of_mem_take hz')
      simpa [Lit.wf, IntKind.min, IntKind.max, IntKind.signed, IntKind.bits] using hw
theorem triW_of {α : Type} {l : List α} (h : l.length = 3) : ∃ a b c, l = [a, b, c] := by
  match l, h with
  | [a, b, c], _ => exact ⟨a, b, c, rfl⟩
end
end Go.Proofs.Ytmlgaedhfannmaa
