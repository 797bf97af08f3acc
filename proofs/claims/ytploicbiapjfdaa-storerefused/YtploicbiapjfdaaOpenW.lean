/- How a list of wishes that came in is read (of any size). -/
import Derived.Test.YtploicbiapjfdaaOpenV
import Derived.Test.YtploicbiapjfdaaOpenI
import Derived.Test.YtploicbiapjfdaaBunSD
namespace Go.Proofs.Ytploicbiapjfdaa
set_option linter.unusedVariables false
set_option linter.unusedSimpArgs false
open Go.ChangeShapes Go.WideShapes Go.ChangeAt Go.RowKit
def WIn (w : World) (B : Nat) (s : Int × Int) (cs : List Value) : Prop :=
  ∃ A n c, cs = [.int .i64 s.1, .slice A n c, .int .i64 s.2] ∧ IntsAt w B A n c ∧ (-9223372036854775808 ≤ s.1 ∧ s.1 ≤ 9223372036854775807) ∧ (-9223372036854775808 ≤ s.2 ∧ s.2 ≤ 9223372036854775807)
def WsIn (w : World) (B : Nat) (A : Option Addr) (n : Nat) : Prop :=
  n ≤ 9223372036854775807 ∧ ∃ (ks : List (Int × Int)) (pc : List Value), ks.length = n ∧ Holds w B 3 A n pc ∧ Chs (WIn w B) ks pc
theorem WIn.len {w : World} {B : Nat} {s : Int × Int} {cs : List Value} (h : WIn w B s cs) : cs.length = 3 := by obtain ⟨A, n, c, rfl, _⟩ := h; rfl
theorem WsIn.below {w w' : World} {B n : Nat} {A : Option Addr} (h : WsIn w B A n) (hb : Below B w w') : WsIn w' B A n := by
  obtain ⟨h1, ks, pc, h2, h3, h4⟩ := h
  exact ⟨h1, ks, pc, h2, h3.below hb, h4.imp fun x c ⟨A, n, c', k1, k2, k3⟩ => ⟨A, n, c', k1, k2.below hb, k3⟩⟩
theorem WsIn.at_ {w : World} {B n : Nat} {A : Option Addr} (h : WsIn w B A n) {i : Nat} (hi : i < n) :
    ∃ b off k m Ar nr cr, A = some ⟨b, off, none⟩ ∧ b < B ∧ IntsAt w B Ar nr cr ∧ (-9223372036854775808 ≤ k ∧ k ≤ 9223372036854775807) ∧ (-9223372036854775808 ≤ m ∧ m ≤ 9223372036854775807) ∧
      w.cell? ⟨b, off + i * 3, none⟩ = some (.int .i64 k) ∧ w.cell? ⟨b, off + i * 3 + 1, none⟩ = some (.slice Ar nr cr) ∧ w.cell? ⟨b, off + i * 3 + 2, none⟩ = some (.int .i64 m) := by
  obtain ⟨h1, ks, pc, h2, h3, h4⟩ := h
  obtain ⟨c, ⟨Ar, nr, cr, rfl, k2, k3, k4⟩, hat⟩ := h4.at_ (fun x c hx => hx.len) i (by omega)
  obtain ⟨b, off, rfl, hb, hcell⟩ := h3.2 (by omega)
  refine ⟨b, off, _, _, Ar, nr, cr, rfl, hb, k2, k3, k4, ?_, ?_, ?_⟩
  · exact hcell _ _ (hat 0 _ rfl)
  · rw [Nat.add_assoc]; exact hcell _ _ (hat 1 _ rfl)
  · rw [Nat.add_assoc]; exact hcell _ _ (hat 2 _ rfl)
section
variable {H : Type} {enc : TypeId × Value → H} {W : World}
theorem open_intsc {fuel : Nat} {cs : List Value} {y : DataW H × List MemPlace} (h : DataW.trod enc Try.prog W 0 (fun _ => true) true fuel 52 cs = some y) : ∃ A n c, cs = [.slice A n c] ∧ IntsAt W W.heap.size A n c := by
  rcases open_ints Try.underlying52 Try.underlying3 (by kernel_rfl) h with ⟨hcs, _⟩ | ⟨x, n, c, zs, hcs, _, hl, hm, hz, _, hcell, hwz⟩
  · exact ⟨none, 0, 0, hcs, [], Holds.empty, Nat.le_refl _, by omega, by simp⟩
  · simp only [if_true] at hz
    refine ⟨some x, n, c, hcs, zs.take n, ⟨by simp [hz]; omega, fun hn => ?_⟩, hl, by unfold maxLen at hm; omega, ?_⟩
    · obtain ⟨b, off, spot⟩ := x
      have h0 := hcell 0 (by omega)
      have hspot : spot = none := by simpa [Addr.add] using World.cell?_spot h0
      subst hspot
      refine ⟨b, off, rfl, ?_, fun j u hu => ?_⟩
      · have := cell_lt h0
        rwa [plus_addr] at this
      · have hj : j < n := by
          rcases Nat.lt_or_ge j n with h | h
          · exact h
          · rw [List.getElem?_eq_none (by simp [hz]; omega)] at hu; cases hu
        have hjz : j < zs.length := by omega
        have h1 := hcell j hjz
        rw [plus_addr] at h1
        rw [h1]
        simp [hj, List.getElem?_eq_getElem hjz] at hu
        subst hu
        simp only [List.getD, List.getElem?_eq_getElem hjz, Option.getD_some]
    · intro z hz'
      have hw := hwz z (List.mem_of_mem_take hz')
      simpa [Lit.wf, IntKind.min, IntKind.max, IntKind.signed, IntKind.bits] using hw
theorem triW_of {α : Type} {l : List α} (h : l.length = 3) : ∃ a b c, l = [a, b, c] := by
  match l, h with
  | [a, b, c], _ => exact ⟨a, b, c, rfl⟩
set_option maxRecDepth 100000 in
theorem open_wish {fuel : Nat} {cs : List Value} {x : DataW H × List MemPlace} (h : DataW.trod enc Try.prog W 0 (fun _ => true) true fuel 81 cs = some x) : ∃ s : Int × Int, WIn W W.heap.size s cs := by
  obtain ⟨xs, n, rfl, rfl, hl, hxl, hf⟩ := DataW.trod_struct Try.underlying81 h
  clear h
  have hc3 : Try.prog.cellsOf 81 = 3 := by kernel_rfl
  have hci : Try.prog.cellsOf 3 = 1 := by kernel_rfl
  have hcd : Try.prog.cellsOf 52 = 1 := by kernel_rfl
  rw [hc3] at hl
  have h0 := hf 0 _ rfl
  have h1 := hf 1 _ rfl
  have h2 := hf 2 _ rfl
  clear hf
  obtain ⟨c0, c1, c2, rfl⟩ := triW_of hl
  obtain ⟨x0, x1, x2, rfl⟩ := triW_of (show xs.length = 3 from hxl)
  replace h0 : DataW.trod enc Try.prog W 0 (fun _ => true) true n 3 (([c0, c1, c2].drop 0).take (Try.prog.cellsOf 3)) = some x0 := h0
  rw [hci] at h0
  replace h0 : DataW.trod enc Try.prog W 0 (fun _ => true) true n 3 [c0] = some x0 := h0
  replace h1 : DataW.trod enc Try.prog W 0 (fun _ => true) true n 52 (([c0, c1, c2].drop 1).take (Try.prog.cellsOf 52)) = some x1 := h1
  rw [hcd] at h1
  replace h1 : DataW.trod enc Try.prog W 0 (fun _ => true) true n 52 [c1] = some x1 := h1
  replace h2 : DataW.trod enc Try.prog W 0 (fun _ => true) true n 3 (([c0, c1, c2].drop 2).take (Try.prog.cellsOf 3)) = some x2 := h2
  rw [hci] at h2
  replace h2 : DataW.trod enc Try.prog W 0 (fun _ => true) true n 3 [c2] = some x2 := h2
  obtain ⟨k, hk, _, hkw⟩ := DataW.trod_int Try.underlying3 h0
  obtain ⟨m, hm, _, hmw⟩ := DataW.trod_int Try.underlying3 h2
  obtain ⟨A, nr, cr, hs, hi⟩ := open_intsc h1
  have hkw' : -9223372036854775808 ≤ k ∧ k ≤ 9223372036854775807 := by simpa [Lit.wf, IntKind.min, IntKind.max, IntKind.signed, IntKind.bits] using hkw
  have hmw' : -9223372036854775808 ≤ m ∧ m ≤ 9223372036854775807 := by simpa [Lit.wf, IntKind.min, IntKind.max, IntKind.signed, IntKind.bits] using hmw
  have hc0 : c0 = .int .i64 k := by simpa using hk
  have hc1 : c1 = .slice A nr cr := by simpa using hs
  have hc2 : c2 = .int .i64 m := by simpa using hm
  subst hc0 hc1 hc2
  exact ⟨(k, m), A, nr, cr, rfl, hi, hkw', hmw'⟩
set_option maxRecDepth 100000 in
theorem open_wishes {base : Nat} {v : Value} {d : DataW H} {ps : List MemPlace} (hval : Value.okWide Try.prog W .any base 37 v)
    (hd : DataW.Trod enc Try.prog W 0 (fun _ => true) true 37 v d ps) :
    ∃ (A : Option Addr) (n c : Nat), v = .slice A n c ∧ WsIn W W.heap.size A n := by
  obtain ⟨A, n, c, rfl⟩ := okWide_slice Try.underlying37 hval
  obtain ⟨fuel, hf⟩ := hd
  rcases DataW.trod_slice Try.underlying37 hf with ⟨hsl, _⟩ | ⟨a, len, cap, elems, rest, q, _, hsl, hx, _, hlc, hm, hl, hel, _, _⟩
  · simp [Value.cells] at hsl
    obtain ⟨rfl, rfl, rfl⟩ := hsl
    exact ⟨none, 0, 0, rfl, by omega, [], [], rfl, Holds.empty, Chs.nil⟩
  · simp [Value.cells] at hsl
    obtain ⟨rfl, rfl, rfl⟩ := hsl
    have hc3 : Try.prog.cellsOf 81 = 3 := by kernel_rfl
    rw [hc3] at hel
    subst hl
    obtain ⟨ks, pc, g1, g2, g3⟩ := row_open (Q := fun (s : Int × Int) (c : List Value) (_ : DataW H × List MemPlace) => WIn W W.heap.size s c) elems a hel (fun c y hy hc => open_wish hc)
    have hpc : ∀ {ps : List (Int × Int)} {pc : List Value} {ys : List (DataW H × List MemPlace)}, Read3 (fun (s : Int × Int) (c : List Value) (_ : DataW H × List MemPlace) => WIn W W.heap.size s c) ps pc ys → Chs (WIn W W.heap.size) ps pc := by
      intro ps
      induction ps with
      | nil =>
        intro pc ys h
        cases ys with
        | nil => simp only [Read3] at h; simp [h, Chs]
        | cons => simp [Read3] at h
      | cons v r ih =>
        intro pc ys h
        cases ys with
        | nil => simp [Read3] at h
        | cons y ys =>
          unfold Read3 at h
          obtain ⟨c, rest, rfl, hv, h⟩ := h
          unfold Chs
          exact ⟨c, rest, rfl, hv, ih h⟩
    have g4 := hpc g1
    have hlen := g1.len
    unfold maxLen at hm
    refine ⟨some a, elems.length, c, rfl, by omega, ks, pc, hlen, row_holds (by omega) g2 g3, g4⟩
end
end Go.Proofs.Ytploicbiapjfdaa
