/- How a list of changes of devices that came in is read (of any size). -/
import Derived.Test.YtmlgaedhfannmaaOpenV
import Derived.Test.YtmlgaedhfannmaaDvMem
namespace Go.Proofs.Ytmlgaedhfannmaa
set_option linter.unusedVariables false
set_option linter.unusedSimpArgs false
open Go.ChangeShapes Go.WideShapes Go.ChangeAt Go.RowKit
section
variable {H : Type} {enc : TypeId × Value → H} {W : World}
theorem fiveU_of {α : Type} {l : List α} (h : l.length = 5) : ∃ a b c d e, l = [a, b, c, d, e] := by
  match l, h with
  | [a, b, c, d, e], _ => exact ⟨a, b, c, d, e, rfl⟩
theorem fourU_of {α : Type} {l : List α} (h : l.length = 4) : ∃ a b c d, l = [a, b, c, d] := by
  match l, h with
  | [a, b, c, d], _ => exact ⟨a, b, c, d, rfl⟩
theorem twoU_of {α : Type} {l : List α} (h : l.length = 2) : ∃ a b, l = [a, b] := by
  match l, h with
  | [a, b], _ => exact ⟨a, b, rfl⟩
set_option maxRecDepth 100000 in
theorem open_dev {fuel : Nat} {c0 c1 : Value} {x : DataW H × List MemPlace} (h : DataW.trod enc Try.prog W 0 (fun _ => true) true fuel 42 [c0, c1] = some x) :
    ∃ k v : List UInt8, c0 = str k ∧ c1 = str v ∧ k.length ≤ 9223372036854775807 ∧ v.length ≤ 9223372036854775807 := by
  obtain ⟨xs, n, rfl, rfl, hl, hxl, hf⟩ := DataW.trod_struct Try.underlying42 h
  clear h
  have hcs : Try.prog.cellsOf 9 = 1 := by kernel_rfl
  have h0 := hf 0 _ rfl
  have h1 := hf 1 _ rfl
  clear hf
  obtain ⟨x0, x1, rfl⟩ := twoU_of (show xs.length = 2 from hxl)
  replace h0 : DataW.trod enc Try.prog W 0 (fun _ => true) true n 9 (([c0, c1].drop 0).take (Try.prog.cellsOf 9)) = some x0 := h0
  rw [hcs] at h0
  replace h0 : DataW.trod enc Try.prog W 0 (fun _ => true) true n 9 [c0] = some x0 := h0
  replace h1 : DataW.trod enc Try.prog W 0 (fun _ => true) true n 9 (([c0, c1].drop 1).take (Try.prog.cellsOf 9)) = some x1 := h1
  rw [hcs] at h1
  replace h1 : DataW.trod enc Try.prog W 0 (fun _ => true) true n 9 [c1] = some x1 := h1
  obtain ⟨s0, hs0, hx0, hm0⟩ := DataW.trod_string Try.underlying9 h0
  obtain ⟨s1, hs1, hx1, hm1⟩ := DataW.trod_string Try.underlying9 h1
  obtain ⟨l0, e0, z0⟩ := str_of s0
  obtain ⟨l1, e1, z1⟩ := str_of s1
  unfold maxLen at hm0 hm1
  have q0 : s0.size = s0.data.size := rfl
  have q1 : s1.size = s1.data.size := rfl
  have hc0 : c0 = .string s0 := by simpa using hs0
  have hc1 : c1 = .string s1 := by simpa using hs1
  subst hc0 hc1
  exact ⟨l0, l1, e0, e1, by omega, by omega⟩
set_option maxRecDepth 100000 in
theorem open_upd {fuel : Nat} {cs : List Value} {x : DataW H × List MemPlace} (h : DataW.trod enc Try.prog W 0 (fun _ => true) true fuel 44 cs = some x) :
    ∃ a : Uc, cs = ucL a ∧ UcOk a := by
  obtain ⟨xs, n, rfl, rfl, hl, hxl, hf⟩ := DataW.trod_struct Try.underlying44 h
  clear h
  have hc5 : Try.prog.cellsOf 44 = 5 := by kernel_rfl
  have hcd : Try.prog.cellsOf 42 = 2 := by kernel_rfl
  have hci : Try.prog.cellsOf 3 = 1 := by kernel_rfl
  have hcb : Try.prog.cellsOf 4 = 1 := by kernel_rfl
  rw [hc5] at hl
  have h0 := hf 0 _ rfl
  have h1 := hf 1 _ rfl
  have h2 := hf 2 _ rfl
  have h3 := hf 3 _ rfl
  clear hf
  obtain ⟨c0, c1, c2, c3, c4, rfl⟩ := fiveU_of hl
  obtain ⟨x0, x1, x2, x3, rfl⟩ := fourU_of (show xs.length = 4 from hxl)
  replace h0 : DataW.trod enc Try.prog W 0 (fun _ => true) true n 3 (([c0, c1, c2, c3, c4].drop 0).take (Try.prog.cellsOf 3)) = some x0 := h0
  rw [hci] at h0
  replace h0 : DataW.trod enc Try.prog W 0 (fun _ => true) true n 3 [c0] = some x0 := h0
  replace h1 : DataW.trod enc Try.prog W 0 (fun _ => true) true n 3 (([c0, c1, c2, c3, c4].drop 1).take (Try.prog.cellsOf 3)) = some x1 := h1
  rw [hci] at h1
  replace h1 : DataW.trod enc Try.prog W 0 (fun _ => true) true n 3 [c1] = some x1 := h1
  replace h2 : DataW.trod enc Try.prog W 0 (fun _ => true) true n 42 (([c0, c1, c2, c3, c4].drop 2).take (Try.prog.cellsOf 42)) = some x2 := h2
  rw [hcd] at h2
  replace h2 : DataW.trod enc Try.prog W 0 (fun _ => true) true n 42 [c2, c3] = some x2 := h2
  replace h3 : DataW.trod enc Try.prog W 0 (fun _ => true) true n 4 (([c0, c1, c2, c3, c4].drop 4).take (Try.prog.cellsOf 4)) = some x3 := h3
  rw [hcb] at h3
  replace h3 : DataW.trod enc Try.prog W 0 (fun _ => true) true n 4 [c4] = some x3 := h3
  obtain ⟨k, hk, _, hkw⟩ := DataW.trod_int Try.underlying3 h0
  obtain ⟨t, ht, _, htw⟩ := DataW.trod_int Try.underlying3 h1
  obtain ⟨s2, s3, hc2, hc3, hm2, hm3⟩ := open_dev h2
  obtain ⟨b, hb, _⟩ := DataW.trod_bool Try.underlying4 h3
  have hc0 : c0 = .int .i64 k := by simpa using hk
  have hc1 : c1 = .int .i64 t := by simpa using ht
  have hc4 : c4 = .bool b := by simpa using hb
  subst hc0 hc1 hc2 hc3 hc4
  exact ⟨⟨k, t, s2, s3, b⟩, rfl, hm2, hm3⟩
set_option maxRecDepth 100000 in
theorem open_upds {base : Nat} {v : Value} {d : DataW H} {ps : List MemPlace} (hval : Value.okWide Try.prog W .any base 22 v)
    (hd : DataW.Trod enc Try.prog W 0 (fun _ => true) true 22 v d ps) :
    ∃ (A : Option Addr) (n c : Nat) (l : List Uc), v = .slice A n c ∧ LIn ucL 5 W W.heap.size A n c l ∧ (∀ a ∈ l, UcOk a) ∧ n ≤ 9223372036854775807 := by
  obtain ⟨A, n, c, rfl⟩ := okWide_slice Try.underlying22 hval
  obtain ⟨fuel, hf⟩ := hd
  rcases DataW.trod_slice Try.underlying22 hf with ⟨hsl, _⟩ | ⟨a, len, cap, elems, rest, q, _, hsl, hx, _, hlc, hm, hl, hel, _, _⟩
  · simp [Value.cells] at hsl
    obtain ⟨rfl, rfl, rfl⟩ := hsl
    exact ⟨none, 0, 0, [], rfl, LIn.empty, by simp, by omega⟩
  · simp [Value.cells] at hsl
    obtain ⟨rfl, rfl, rfl⟩ := hsl
    have hc5 : Try.prog.cellsOf 44 = 5 := by kernel_rfl
    rw [hc5] at hel
    subst hl
    obtain ⟨rs, pc, g1, g2, g3⟩ := row_open (Q := fun (r : Uc) (c : List Value) (_ : DataW H × List MemPlace) => c = ucL r ∧ UcOk r) elems a hel (fun c y hy hc =>
      open_upd hc)
    have hpc : ∀ {rs : List Uc} {pc : List Value} {ys : List (DataW H × List MemPlace)}, Read3 (fun (r : Uc) (c : List Value) (_ : DataW H × List MemPlace) => c = ucL r ∧ UcOk r) rs pc ys → pc = pcK ucL rs ∧ ∀ a ∈ rs, UcOk a := by
      intro rs
      induction rs with
      | nil =>
        intro pc ys h
        cases ys with
        | nil => simp only [Read3] at h; subst h; exact ⟨rfl, by simp⟩
        | cons => simp [Read3] at h
      | cons r rs ih =>
        intro pc ys h
        cases ys with
        | nil => simp [Read3] at h
        | cons y ys =>
          unfold Read3 at h
          obtain ⟨c, rest, rfl, ⟨rfl, hk⟩, h⟩ := h
          obtain ⟨rfl, hs⟩ := ih h
          refine ⟨rfl, fun q hq => ?_⟩
          rcases List.mem_cons.1 hq with rfl | hq
          · exact hk
          · exact hs q hq
    obtain ⟨rfl, hs⟩ := hpc g1
    have hlen := g1.len
    unfold maxLen at hm
    refine ⟨some a, elems.length, c, rs, rfl, ⟨hlen, hlc, (fun h => by cases h), row_holds (by omega) g2 g3⟩, hs, by omega⟩
end
end Go.Proofs.Ytmlgaedhfannmaa
