/- How a certificate (a struct of two ints and a signature) that came in is read. -/
import Derived.Test.YtgghncgefhanjaaOpenG
namespace Go.Proofs.Ytgghncgefhanjaa
set_option linter.unusedVariables false
set_option linter.unusedSimpArgs false
open Go.ChangeShapes Go.WideShapes Go.ChangeAt Go.RowKit
section
variable {H : Type} {enc : TypeId × Value → H} {W : World} {base : Nat} {v : Value} {d : DataW H} {ps : List MemPlace}
theorem three_of {α : Type} {l : List α} (h : l.length = 3) : ∃ a b c, l = [a, b, c] := by
  match l, h with
  | [a, b, c], _ => exact ⟨a, b, c, rfl⟩
theorem fours_of {α : Type} {l : List α} (h : l.length = 4) : ∃ a b c d, l = [a, b, c, d] := by
  match l, h with
  | [a, b, c, d], _ => exact ⟨a, b, c, d, rfl⟩
theorem agg_of_cells4 {v : Value} (h : v.cells.toList.length = 4) : v = .agg v.cells.toList.toArray := by
  cases v <;> first | (simp [Value.cells] at h; done) | simp [Value.cells]
set_option maxRecDepth 100000 in
theorem open_cert (hd : DataW.Trod enc Try.prog W 0 (fun _ => true) true 25 v d ps) :
    ∃ f t r s : Int, v = .agg #[.int .i64 f, .int .i64 t, .int .i64 r, .int .i64 s] := by
  obtain ⟨fuel, hf⟩ := hd
  obtain ⟨xs, n, _, _, hl, hxl, hf⟩ := DataW.trod_struct Try.underlying25 hf
  have hc4 : Try.prog.cellsOf 25 = 4 := by kernel_rfl
  have hc2 : Try.prog.cellsOf 23 = 2 := by kernel_rfl
  have hci : Try.prog.cellsOf 3 = 1 := by kernel_rfl
  rw [hc4] at hl
  have h0 := hf 0 _ rfl
  have h1 := hf 1 _ rfl
  have h2 := hf 2 _ rfl
  clear hf
  have hv := agg_of_cells4 hl
  obtain ⟨c0, c1, c2, c3, hcs⟩ := fours_of hl
  rw [hcs] at h0 h1 h2 hv
  obtain ⟨x0, x1, x2, rfl⟩ := three_of (show xs.length = 3 from hxl)
  replace h0 : DataW.trod enc Try.prog W 0 (fun _ => true) true n 3 (([c0, c1, c2, c3].drop 0).take (Try.prog.cellsOf 3)) = some x0 := h0
  rw [hci] at h0
  replace h0 : DataW.trod enc Try.prog W 0 (fun _ => true) true n 3 [c0] = some x0 := h0
  replace h1 : DataW.trod enc Try.prog W 0 (fun _ => true) true n 3 (([c0, c1, c2, c3].drop 1).take (Try.prog.cellsOf 3)) = some x1 := h1
  rw [hci] at h1
  replace h1 : DataW.trod enc Try.prog W 0 (fun _ => true) true n 3 [c1] = some x1 := h1
  replace h2 : DataW.trod enc Try.prog W 0 (fun _ => true) true n 23 (([c0, c1, c2, c3].drop 2).take (Try.prog.cellsOf 23)) = some x2 := h2
  rw [hc2] at h2
  replace h2 : DataW.trod enc Try.prog W 0 (fun _ => true) true n 23 [c2, c3] = some x2 := h2
  obtain ⟨ys, m, _, _, _, hyl, hg⟩ := DataW.trod_struct Try.underlying23 h2
  have h3 := hg 0 _ rfl
  have h4 := hg 1 _ rfl
  obtain ⟨y0, y1, rfl⟩ := two_of (show ys.length = 2 from hyl)
  replace h3 : DataW.trod enc Try.prog W 0 (fun _ => true) true m 3 (([c2, c3].drop 0).take (Try.prog.cellsOf 3)) = some y0 := h3
  rw [hci] at h3
  replace h3 : DataW.trod enc Try.prog W 0 (fun _ => true) true m 3 [c2] = some y0 := h3
  replace h4 : DataW.trod enc Try.prog W 0 (fun _ => true) true m 3 (([c2, c3].drop 1).take (Try.prog.cellsOf 3)) = some y1 := h4
  rw [hci] at h4
  replace h4 : DataW.trod enc Try.prog W 0 (fun _ => true) true m 3 [c3] = some y1 := h4
  obtain ⟨f, hf0, _, _⟩ := DataW.trod_int Try.underlying3 h0
  obtain ⟨t, ht0, _, _⟩ := DataW.trod_int Try.underlying3 h1
  obtain ⟨r, hr0, _, _⟩ := DataW.trod_int Try.underlying3 h3
  obtain ⟨s, hs0, _, _⟩ := DataW.trod_int Try.underlying3 h4
  have e0 : c0 = .int .i64 f := by simpa using hf0
  have e1 : c1 = .int .i64 t := by simpa using ht0
  have e2 : c2 = .int .i64 r := by simpa using hr0
  have e3 : c3 = .int .i64 s := by simpa using hs0
  subst e0 e1 e2 e3
  exact ⟨f, t, r, s, hv⟩
end
end Go.Proofs.Ytgghncgefhanjaa
