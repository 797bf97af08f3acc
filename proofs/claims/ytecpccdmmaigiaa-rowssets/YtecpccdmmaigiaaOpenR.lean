/- How a list of rows of a table that came in is read (of any size). -/
import Derived.Test.YtecpccdmmaigiaaOpenV
import Derived.Test.YtecpccdmmaigiaaRwMem
namespace Go.Proofs.Ytecpccdmmaigiaa
set_option linter.unusedVariables false
set_option linter.unusedSimpArgs false
open Go.ChangeShapes Go.WideShapes Go.ChangeAt Go.RowKit
section
variable {H : Type} {enc : TypeId × Value → H} {W : World}
theorem two_of {α : Type} {l : List α} (h : l.length = 2) : ∃ a b, l = [a, b] := by
  match l, h with
  | [a, b], _ => exact ⟨a, b, rfl⟩
theorem open_row {fuel : Nat} {cs : List Value} {x : DataW H × List MemPlace} (h : DataW.trod enc Try.prog W 0 (fun _ => true) true fuel 40 cs = some x) :
    ∃ r : Rw, cs = rc r ∧ r.key.length ≤ 9223372036854775807 ∧ r.val.length ≤ 9223372036854775807 := by
  obtain ⟨xs, n, rfl, rfl, hl, hxl, hf⟩ := DataW.trod_struct Try.underlying40 h
  clear h
  have hc2 : Try.prog.cellsOf 40 = 2 := by kernel_rfl
  have hcs : Try.prog.cellsOf 9 = 1 := by kernel_rfl
  rw [hc2] at hl
  have h0 := hf 0 _ rfl
  have h1 := hf 1 _ rfl
  clear hf
  obtain ⟨c0, c1, rfl⟩ := two_of hl
  obtain ⟨x0, x1, rfl⟩ := two_of (show xs.length = 2 from hxl)
  replace h0 : DataW.trod enc Try.prog W 0 (fun _ => true) true n 9 (([c0, c1].drop 0).take (Try.prog.cellsOf 9)) = some x0 := h0
  rw [hcs] at h0
  replace h0 : DataW.trod enc Try.prog W 0 (fun _ => true) true n 9 [c0] = some x0 := h0
  replace h1 : DataW.trod enc Try.prog W 0 (fun _ => true) true n 9 (([c0, c1].drop 1).take (Try.prog.cellsOf 9)) = some x1 := h1
  rw [hcs] at h1
  replace h1 : DataW.trod enc Try.prog W 0 (fun _ => true) true n 9 [c1] = some x1 := h1
  obtain ⟨s0, hs0, _, hm0⟩ := DataW.trod_string Try.underlying9 h0
  obtain ⟨s1, hs1, _, hm1⟩ := DataW.trod_string Try.underlying9 h1
  obtain ⟨k, hk, hkl⟩ := str_of s0
  obtain ⟨m, hm, hml⟩ := str_of s1
  unfold maxLen at hm0 hm1
  have e0 : c0 = .string s0 := by simpa using hs0
  have e1 : c1 = .string s1 := by simpa using hs1
  subst e0 e1
  exact ⟨⟨k, m⟩, by unfold rc; rw [hk, hm], by simp only; omega, by simp only; omega⟩
theorem open_rows {base : Nat} {v : Value} {d : DataW H} {ps : List MemPlace} (hval : Value.okWide Try.prog W .any base 22 v)
    (hd : DataW.Trod enc Try.prog W 0 (fun _ => true) true 22 v d ps) :
    ∃ (A : Option Addr) (n c : Nat) (l : List Rw), v = .slice A n c ∧ RIn W W.heap.size A n c l ∧ Short l ∧ n ≤ 9223372036854775807 := by
  obtain ⟨A, n, c, rfl⟩ := okWide_slice Try.underlying22 hval
  obtain ⟨fuel, hf⟩ := hd
  rcases DataW.trod_slice Try.underlying22 hf with ⟨hsl, _⟩ | ⟨a, len, cap, elems, rest, q, _, hsl, hx, _, hlc, hm, hl, hel, _, _⟩
  · simp [Value.cells] at hsl
    obtain ⟨rfl, rfl, rfl⟩ := hsl
    exact ⟨none, 0, 0, [], rfl, RIn.empty, by simp [Short], by omega⟩
  · simp [Value.cells] at hsl
    obtain ⟨rfl, rfl, rfl⟩ := hsl
    have hc2 : Try.prog.cellsOf 40 = 2 := by kernel_rfl
    rw [hc2] at hel
    subst hl
    obtain ⟨rs, pc, g1, g2, g3⟩ := row_open (Q := fun (r : Rw) (c : List Value) (_ : DataW H × List MemPlace) => c = rc r ∧ r.key.length ≤ 9223372036854775807 ∧ r.val.length ≤ 9223372036854775807) elems a hel (fun c y hy hc => open_row hc)
    have hpc : ∀ {rs : List Rw} {pc : List Value} {ys : List (DataW H × List MemPlace)}, Read3 (fun (r : Rw) (c : List Value) (_ : DataW H × List MemPlace) => c = rc r ∧ r.key.length ≤ 9223372036854775807 ∧ r.val.length ≤ 9223372036854775807) rs pc ys → pc = pcR rs ∧ Short rs := by
      intro rs
      induction rs with
      | nil =>
        intro pc ys h
        cases ys with
        | nil => simp only [Read3] at h; subst h; exact ⟨rfl, by simp [Short]⟩
        | cons => simp [Read3] at h
      | cons r rs ih =>
        intro pc ys h
        cases ys with
        | nil => simp [Read3] at h
        | cons y ys =>
          unfold Read3 at h
          obtain ⟨c, rest, rfl, ⟨rfl, hk⟩, h⟩ := h
          obtain ⟨rfl, hs⟩ := ih h
          refine ⟨rfl, fun q hq => ?_⟩
          rcases List.mem_cons.1 hq with rfl | hq
          · exact hk
          · exact hs q hq
    obtain ⟨rfl, hs⟩ := hpc g1
    have hlen := g1.len
    unfold maxLen at hm
    refine ⟨some a, elems.length, c, rs, rfl, ⟨hlen, hlc, (fun h => by cases h), row_holds (by omega) g2 g3⟩, hs, by omega⟩
end
end Go.Proofs.Ytecpccdmmaigiaa
