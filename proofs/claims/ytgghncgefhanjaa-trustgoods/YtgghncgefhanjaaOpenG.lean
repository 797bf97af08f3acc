/- How a signature (a struct of two ints) that came in is read. -/
import Derived.Test.YtgghncgefhanjaaOpen
import Derived.Test.YtgghncgefhanjaaRows
import Derived.ChangeSame
namespace Go.Proofs.Ytgghncgefhanjaa
set_option linter.unusedVariables false
set_option linter.unusedSimpArgs false
open Go.ChangeShapes Go.WideShapes Go.ChangeAt Go.RowKit
section
variable {H : Type} {enc : TypeId × Value → H} {W : World} {base : Nat} {v : Value} {d : DataW H} {ps : List MemPlace}
theorem two_of {α : Type} {l : List α} (h : l.length = 2) : ∃ a b, l = [a, b] := by
  match l, h with
  | [a, b], _ => exact ⟨a, b, rfl⟩
theorem agg_of_cells2 {v : Value} (h : v.cells.toList.length = 2) : v = .agg v.cells.toList.toArray := by
  cases v <;> first | (simp [Value.cells] at h; done) | simp [Value.cells]
set_option maxRecDepth 100000 in
theorem open_sign (hd : DataW.Trod enc Try.prog W 0 (fun _ => true) true 23 v d ps) :
    ∃ r s : Int, v = .agg #[.int .i64 r, .int .i64 s] ∧ (-9223372036854775808 ≤ r ∧ r ≤ 9223372036854775807) ∧ (-9223372036854775808 ≤ s ∧ s ≤ 9223372036854775807) := by
  obtain ⟨fuel, hf⟩ := hd
  obtain ⟨xs, n, _, _, hl, hxl, hf⟩ := DataW.trod_struct Try.underlying23 hf
  have hc2 : Try.prog.cellsOf 23 = 2 := by kernel_rfl
  have hci : Try.prog.cellsOf 3 = 1 := by kernel_rfl
  rw [hc2] at hl
  have h0 := hf 0 _ rfl
  have h1 := hf 1 _ rfl
  clear hf
  have hv := agg_of_cells2 hl
  obtain ⟨c0, c1, hcs⟩ := two_of hl
  rw [hcs] at h0 h1 hv
  obtain ⟨x0, x1, rfl⟩ := two_of (show xs.length = 2 from hxl)
  replace h0 : DataW.trod enc Try.prog W 0 (fun _ => true) true n 3 (([c0, c1].drop 0).take (Try.prog.cellsOf 3)) = some x0 := h0
  rw [hci] at h0
  replace h0 : DataW.trod enc Try.prog W 0 (fun _ => true) true n 3 [c0] = some x0 := h0
  replace h1 : DataW.trod enc Try.prog W 0 (fun _ => true) true n 3 (([c0, c1].drop 1).take (Try.prog.cellsOf 3)) = some x1 := h1
  rw [hci] at h1
  replace h1 : DataW.trod enc Try.prog W 0 (fun _ => true) true n 3 [c1] = some x1 := h1
  obtain ⟨k, hk, _, hkw⟩ := DataW.trod_int Try.underlying3 h0
  obtain ⟨m, hm, _, hmw⟩ := DataW.trod_int Try.underlying3 h1
  have hkw' : -9223372036854775808 ≤ k ∧ k ≤ 9223372036854775807 := by simpa [Lit.wf, IntKind.min, IntKind.max, IntKind.signed, IntKind.bits] using hkw
  have hmw' : -9223372036854775808 ≤ m ∧ m ≤ 9223372036854775807 := by simpa [Lit.wf, IntKind.min, IntKind.max, IntKind.signed, IntKind.bits] using hmw
  have hc0 : c0 = .int .i64 k := by simpa using hk
  have hc1 : c1 = .int .i64 m := by simpa using hm
  subst hc0 hc1
  exact ⟨k, m, hv, hkw', hmw'⟩
end
end Go.Proofs.Ytgghncgefhanjaa
