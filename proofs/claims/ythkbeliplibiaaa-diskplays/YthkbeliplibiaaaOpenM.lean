/- How a list of moves of a disk that came in is read, where the arguments' bulk is bounded. -/
import Derived.Test.YthkbeliplibiaaaOpenV
import Derived.Test.YthkbeliplibiaaaDkMem
namespace Go.Proofs.Ythkbeliplibiaaa
set_option linter.unusedVariables false
set_option linter.unusedSimpArgs false
open Go.ChangeShapes Go.WideShapes Go.ChangeAt Go.RowKit

section
variable {H : Type} {enc : TypeId × Value → H} {W : World}
theorem Holds.toS {w : World} {B size n : Nat} {A : Option Addr} {xs : List Value} (h : Holds w B size A n xs) : HoldsS w (fun b => b < B) size A n xs := h
theorem tri_of {α : Type} {l : List α} (h : l.length = 3) : ∃ a b c, l = [a, b, c] := by
  match l, h with
  | [a, b, c], _ => exact ⟨a, b, c, rfl⟩
theorem open_data {n : Nat} {cs : List Value} {x : DataW H × List MemPlace} (h : DataW.trod enc Try.prog W 0 (fun _ => true) true n 24 cs = some x) (hb : Rows.uptoBulk x.1 ≤ 1048576) :
    ∃ (A : Option Addr) (l : List UInt8) (c : Nat), cs = [.slice A l.length c] ∧ l.length ≤ 1048576 ∧ l.length ≤ c ∧ (A = none → c = 0) ∧ Holds W W.heap.size 1 A l.length (l.map bv) := by
  rcases DataW.trod_slice Try.underlying24 h with ⟨rfl, _⟩ | ⟨a, len, cap, elems, rest, m, _, rfl, rfl, _, hlc, _, hl, hel, _, _⟩
  · exact ⟨none, [], 0, rfl, by simp, by simp, by simp, Holds.empty⟩
  · have hc : Try.prog.cellsOf 5 = 1 := by kernel_rfl
    rw [hc] at hel
    simp only [Rows.uptoBulk] at hb
    subst hl
    obtain ⟨ks, pc, h1, h2, h3⟩ := row_open (Q := fun (s : UInt8) (c : List Value) (_ : DataW H × List MemPlace) => c = [bv s]) elems a hel (fun c y hy hc => by
      obtain ⟨x, hx, _, hw⟩ := DataW.trod_int Try.underlying5 hc
      have hb : 0 ≤ x ∧ x ≤ 255 := by simpa [Lit.wf, IntKind.min, IntKind.max, IntKind.signed, IntKind.bits] using hw
      refine ⟨UInt8.ofNat x.toNat, ?_⟩
      rw [hx]
      simp only [bv, UInt8.toNat_ofNat']
      rw [Nat.mod_eq_of_lt (by omega)]
      congr 2
      omega)
    have hpc : ∀ {ks : List UInt8} {pc : List Value} {ys : List (DataW H × List MemPlace)}, Read3 (fun (s : UInt8) (c : List Value) (_ : DataW H × List MemPlace) => c = [bv s]) ks pc ys → pc = ks.map bv := by
      intro ks
      induction ks with
      | nil =>
        intro pc ys h
        cases ys with
        | nil => simp only [Read3] at h; simp [h]
        | cons => simp [Read3] at h
      | cons s r ih =>
        intro pc ys h
        cases ys with
        | nil => simp [Read3] at h
        | cons y ys =>
          unfold Read3 at h
          obtain ⟨c, rest, rfl, rfl, h⟩ := h
          obtain rfl := ih h
          rfl
    obtain rfl := hpc h1
    have hlen := h1.len
    have hbl := bulk_len (elems.map (·.1))
    rw [List.length_map] at hbl
    rw [← hlen] at h2 hlc hbl ⊢
    exact ⟨some a, ks, cap, rfl, by omega, hlc, (fun h => by cases h), row_holds (by omega) (by simp) h3⟩
theorem open_mv {fuel : Nat} {cs : List Value} {x : DataW H × List MemPlace} (h : DataW.trod enc Try.prog W 0 (fun _ => true) true fuel 40 cs = some x) (hb : Rows.uptoBulk x.1 ≤ 1048576) :
    ∃ m : Mv, MIn W (fun b => b < W.heap.size) m cs := by
  obtain ⟨xs, n, rfl, rfl, hl, hxl, hf⟩ := DataW.trod_struct Try.underlying40 h
  clear h
  have hc3 : Try.prog.cellsOf 40 = 3 := by kernel_rfl
  have hci : Try.prog.cellsOf 3 = 1 := by kernel_rfl
  have hcd : Try.prog.cellsOf 24 = 1 := by kernel_rfl
  rw [hc3] at hl
  have h0 := hf 0 _ rfl
  have h1 := hf 1 _ rfl
  have h2 := hf 2 _ rfl
  clear hf
  obtain ⟨c0, c1, c2, rfl⟩ := tri_of hl
  obtain ⟨x0, x1, x2, rfl⟩ := tri_of (show xs.length = 3 from hxl)
  replace h0 : DataW.trod enc Try.prog W 0 (fun _ => true) true n 3 (([c0, c1, c2].drop 0).take (Try.prog.cellsOf 3)) = some x0 := h0
  rw [hci] at h0
  replace h0 : DataW.trod enc Try.prog W 0 (fun _ => true) true n 3 [c0] = some x0 := h0
  replace h1 : DataW.trod enc Try.prog W 0 (fun _ => true) true n 24 (([c0, c1, c2].drop 1).take (Try.prog.cellsOf 24)) = some x1 := h1
  rw [hcd] at h1
  replace h1 : DataW.trod enc Try.prog W 0 (fun _ => true) true n 24 [c1] = some x1 := h1
  replace h2 : DataW.trod enc Try.prog W 0 (fun _ => true) true n 3 (([c0, c1, c2].drop 2).take (Try.prog.cellsOf 3)) = some x2 := h2
  rw [hci] at h2
  replace h2 : DataW.trod enc Try.prog W 0 (fun _ => true) true n 3 [c2] = some x2 := h2
  simp only [Rows.uptoBulk, List.map_cons, List.map_nil, Rows.uptoBulkAll] at hb
  obtain ⟨k, hk, _, hkw⟩ := DataW.trod_int Try.underlying3 h0
  obtain ⟨m, hm, _, hmw⟩ := DataW.trod_int Try.underlying3 h2
  obtain ⟨A, l, c, hs, hd1, hd2, hd3, hd4⟩ := open_data h1 (by omega)
  have hkw' : -9223372036854775808 ≤ k ∧ k ≤ 9223372036854775807 := by simpa [Lit.wf, IntKind.min, IntKind.max, IntKind.signed, IntKind.bits] using hkw
  have hmw' : -9223372036854775808 ≤ m ∧ m ≤ 9223372036854775807 := by simpa [Lit.wf, IntKind.min, IntKind.max, IntKind.signed, IntKind.bits] using hmw
  have hc0 : c0 = .int .i64 k := by simpa using hk
  have hc1 : c1 = .slice A l.length c := by simpa using hs
  have hc2 : c2 = .int .i64 m := by simpa using hm
  subst hc0 hc1 hc2
  exact ⟨⟨k, l, m⟩, A, c, rfl, hd1, hd2, hd3, hkw', hmw', hd4.toS⟩
set_option maxRecDepth 100000 in
theorem open_moves {base : Nat} {v : Value} {d : DataW H} {ps : List MemPlace} (hval : Value.okWide Try.prog W .any base 22 v)
    (hd : DataW.Trod enc Try.prog W 0 (fun _ => true) true 22 v d ps) (hb : Rows.uptoBulk d ≤ 1048576) :
    ∃ (A : Option Addr) (n c : Nat) (ms : List Mv), v = .slice A n c ∧ MvsIn W W.heap.size A n c ms ∧ n ≤ 1048576 := by
  obtain ⟨A, n, c, rfl⟩ := okWide_slice Try.underlying22 hval
  obtain ⟨fuel, hf⟩ := hd
  rcases DataW.trod_slice Try.underlying22 hf with ⟨hsl, _⟩ | ⟨a, len, cap, elems, rest, q, _, hsl, hx, _, hlc, _, hl, hel, _, _⟩
  · simp [Value.cells] at hsl
    obtain ⟨rfl, rfl, rfl⟩ := hsl
    exact ⟨none, 0, 0, [], rfl, ⟨rfl, Nat.le_refl _, fun _ => rfl, [], Holds.empty, by unfold MsIn; rfl⟩, by omega⟩
  · simp [Value.cells] at hsl
    obtain ⟨rfl, rfl, rfl⟩ := hsl
    have hc3 : Try.prog.cellsOf 40 = 3 := by kernel_rfl
    rw [hc3] at hel
    have hd' : d = _ := congrArg (·.1) hx
    simp only at hd'
    subst hd'
    simp only [Rows.uptoBulk] at hb
    subst hl
    have hbe : Rows.uptoBulkAll (elems.map (·.1)) ≤ 1048576 := by omega
    obtain ⟨ms, pc, g1, g2, g3⟩ := row_open (Q := fun (m : Mv) (c : List Value) (_ : DataW H × List MemPlace) => MIn W (fun b => b < W.heap.size) m c) elems a hel (fun c y hy hc =>
      open_mv hc (Nat.le_trans (bulk_mem (List.mem_map_of_mem (f := (·.1)) hy)) hbe))
    have hpc : ∀ {ps : List Mv} {pc : List Value} {ys : List (DataW H × List MemPlace)}, Read3 (fun (m : Mv) (c : List Value) (_ : DataW H × List MemPlace) => MIn W (fun b => b < W.heap.size) m c) ps pc ys → MsIn W (fun b => b < W.heap.size) ps pc := by
      intro ps
      induction ps with
      | nil =>
        intro pc ys h
        cases ys with
        | nil => simp only [Read3] at h; simp [h, MsIn]
        | cons => simp [Read3] at h
      | cons v r ih =>
        intro pc ys h
        cases ys with
        | nil => simp [Read3] at h
        | cons y ys =>
          unfold Read3 at h
          obtain ⟨c, rest, rfl, hv, h⟩ := h
          unfold MsIn
          exact ⟨c, rest, rfl, hv, ih h⟩
    have g4 := hpc g1
    have hlen := g1.len
    have hbl := bulk_len (elems.map (·.1))
    rw [List.length_map] at hbl
    refine ⟨some a, elems.length, c, ms, rfl, ⟨hlen, hlc, (fun h => by cases h), pc, row_holds (by omega) g2 g3, g4⟩, by omega⟩
end
end Go.Proofs.Ythkbeliplibiaaa
