/- How a list of posts that came in is read (of any size). -/
import Derived.Test.YtgckihglgnbaoaaOpenV
import Derived.Test.YtgckihglgnbaoaaBxPlay
namespace Go.Proofs.Ytgckihglgnbaoaa
set_option linter.unusedVariables false
set_option linter.unusedSimpArgs false
open Go.ChangeShapes Go.WideShapes Go.ChangeAt Go.RowKit
section
variable {H : Type} {enc : TypeId × Value → H} {W : World}
theorem fiveP_of {α : Type} {l : List α} (h : l.length = 5) : ∃ a b c d e, l = [a, b, c, d, e] := by
  match l, h with
  | [a, b, c, d, e], _ => exact ⟨a, b, c, d, e, rfl⟩
set_option maxRecDepth 100000 in
theorem open_post {fuel : Nat} {cs : List Value} {x : DataW H × List MemPlace} (h : DataW.trod enc Try.prog W 0 (fun _ => true) true fuel 43 cs = some x) (_hb : True) :
    ∃ a : Pt, cs = ptL a ∧ PtOk a := by
  obtain ⟨xs, n, rfl, rfl, hl, hxl, hf⟩ := DataW.trod_struct Try.underlying43 h
  clear h
  have hc5 : Try.prog.cellsOf 43 = 5 := by kernel_rfl
  have hcs : Try.prog.cellsOf 9 = 1 := by kernel_rfl
  have hci : Try.prog.cellsOf 3 = 1 := by kernel_rfl
  rw [hc5] at hl
  have h0 := hf 0 _ rfl
  have h1 := hf 1 _ rfl
  have h2 := hf 2 _ rfl
  have h3 := hf 3 _ rfl
  have h4 := hf 4 _ rfl
  clear hf
  obtain ⟨c0, c1, c2, c3, c4, rfl⟩ := fiveP_of hl
  obtain ⟨x0, x1, x2, x3, x4, rfl⟩ := fiveP_of (show xs.length = 5 from hxl)
  replace h0 : DataW.trod enc Try.prog W 0 (fun _ => true) true n 3 (([c0, c1, c2, c3, c4].drop 0).take (Try.prog.cellsOf 3)) = some x0 := h0
  rw [hci] at h0
  replace h0 : DataW.trod enc Try.prog W 0 (fun _ => true) true n 3 [c0] = some x0 := h0
  replace h1 : DataW.trod enc Try.prog W 0 (fun _ => true) true n 9 (([c0, c1, c2, c3, c4].drop 1).take (Try.prog.cellsOf 9)) = some x1 := h1
  rw [hcs] at h1
  replace h1 : DataW.trod enc Try.prog W 0 (fun _ => true) true n 9 [c1] = some x1 := h1
  replace h2 : DataW.trod enc Try.prog W 0 (fun _ => true) true n 3 (([c0, c1, c2, c3, c4].drop 2).take (Try.prog.cellsOf 3)) = some x2 := h2
  rw [hci] at h2
  replace h2 : DataW.trod enc Try.prog W 0 (fun _ => true) true n 3 [c2] = some x2 := h2
  replace h3 : DataW.trod enc Try.prog W 0 (fun _ => true) true n 9 (([c0, c1, c2, c3, c4].drop 3).take (Try.prog.cellsOf 9)) = some x3 := h3
  rw [hcs] at h3
  replace h3 : DataW.trod enc Try.prog W 0 (fun _ => true) true n 9 [c3] = some x3 := h3
  replace h4 : DataW.trod enc Try.prog W 0 (fun _ => true) true n 3 (([c0, c1, c2, c3, c4].drop 4).take (Try.prog.cellsOf 3)) = some x4 := h4
  rw [hci] at h4
  replace h4 : DataW.trod enc Try.prog W 0 (fun _ => true) true n 3 [c4] = some x4 := h4
  obtain ⟨k, hk, _, hkw⟩ := DataW.trod_int Try.underlying3 h0
  obtain ⟨s1, hs1, hx1, hm1⟩ := DataW.trod_string Try.underlying9 h1
  obtain ⟨t, ht, _, htw⟩ := DataW.trod_int Try.underlying3 h2
  obtain ⟨s3, hs3, hx3, hm3⟩ := DataW.trod_string Try.underlying9 h3
  obtain ⟨m, hm, _, hmw⟩ := DataW.trod_int Try.underlying3 h4
  obtain ⟨l1, e1, z1⟩ := str_of s1
  obtain ⟨l3, e3, z3⟩ := str_of s3
  unfold maxLen at hm1 hm3
  have q1 : s1.size = s1.data.size := rfl
  have q3 : s3.size = s3.data.size := rfl
  have hc0 : c0 = .int .i64 k := by simpa using hk
  have hc1 : c1 = .string s1 := by simpa using hs1
  have hc2 : c2 = .int .i64 t := by simpa using ht
  have hc3 : c3 = .string s3 := by simpa using hs3
  have hc4 : c4 = .int .i64 m := by simpa using hm
  subst hc0 hc1 hc2 hc3 hc4
  exact ⟨⟨k, l1, t, l3, m⟩, by unfold ptL; rw [e1, e3], by simp only; omega, by simp only; omega⟩
set_option maxRecDepth 100000 in
theorem open_posts {base : Nat} {v : Value} {d : DataW H} {ps : List MemPlace} (hval : Value.okWide Try.prog W .any base 30 v)
    (hd : DataW.Trod enc Try.prog W 0 (fun _ => true) true 30 v d ps) :
    ∃ (A : Option Addr) (n c : Nat) (l : List Pt), v = .slice A n c ∧ LIn ptL 5 W W.heap.size A n c l ∧ (∀ a ∈ l, PtOk a) ∧ n ≤ 9223372036854775807 := by
  obtain ⟨A, n, c, rfl⟩ := okWide_slice Try.underlying30 hval
  obtain ⟨fuel, hf⟩ := hd
  rcases DataW.trod_slice Try.underlying30 hf with ⟨hsl, _⟩ | ⟨a, len, cap, elems, rest, q, _, hsl, hx, _, hlc, hm, hl, hel, _, _⟩
  · simp [Value.cells] at hsl
    obtain ⟨rfl, rfl, rfl⟩ := hsl
    exact ⟨none, 0, 0, [], rfl, LIn.empty, by simp, by omega⟩
  · simp [Value.cells] at hsl
    obtain ⟨rfl, rfl, rfl⟩ := hsl
    have hc5 : Try.prog.cellsOf 43 = 5 := by kernel_rfl
    rw [hc5] at hel
    subst hl
    obtain ⟨rs, pc, g1, g2, g3⟩ := row_open (Q := fun (r : Pt) (c : List Value) (_ : DataW H × List MemPlace) => c = ptL r ∧ PtOk r) elems a hel (fun c y hy hc =>
      open_post hc trivial)
    have hpc : ∀ {rs : List Pt} {pc : List Value} {ys : List (DataW H × List MemPlace)}, Read3 (fun (r : Pt) (c : List Value) (_ : DataW H × List MemPlace) => c = ptL r ∧ PtOk r) rs pc ys → pc = pcK ptL rs ∧ ∀ a ∈ rs, PtOk a := by
      intro rs
      induction rs with
      | nil =>
        intro pc ys h
        cases ys with
        | nil => simp only [Read3] at h; subst h; exact ⟨rfl, by simp⟩
        | cons => simp [Read3] at h
      | cons r rs ih =>
        intro pc ys h
        cases ys with
        | nil => simp [Read3] at h
        | cons y ys =>
          unfold Read3 at h
          obtain ⟨c, rest, rfl, ⟨rfl, hk⟩, h⟩ := h
          obtain ⟨rfl, hs⟩ := ih h
          refine ⟨rfl, fun q hq => ?_⟩
          rcases List.mem_cons.1 hq with rfl | hq
          · exact hk
          · exact hs q hq
    obtain ⟨rfl, hs⟩ := hpc g1
    have hlen := g1.len
    unfold maxLen at hm
    refine ⟨some a, elems.length, c, rs, rfl, ⟨hlen, hlc, (fun h => by cases h), row_holds (by omega) g2 g3⟩, hs, by omega⟩
end
end Go.Proofs.Ytgckihglgnbaoaa
