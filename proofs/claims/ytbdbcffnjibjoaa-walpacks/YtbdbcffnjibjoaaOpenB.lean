/- How a list of slices of bytes that came in is read (of any size). -/
import Derived.Test.YtbdbcffnjibjoaaOpenV
import Derived.Test.YtbdbcffnjibjoaaWlMem
namespace Go.Proofs.Ytbdbcffnjibjoaa
set_option linter.unusedVariables false
set_option linter.unusedSimpArgs false
open Go.ChangeShapes Go.WideShapes Go.ChangeAt Go.RowKit
/-- A list of slices of bytes that came in. -/
def BatIn (w : World) (A : Option Addr) (n c : Nat) (bs : List (List UInt8)) : Prop :=
  ∃ cs, HoldsS w (lowB w.heap.size) 1 A n cs ∧ Ats (In1 w (lowB w.heap.size)) bs cs ∧ n = bs.length ∧ n ≤ 9223372036854775807 ∧ ∀ r ∈ bs, r.length ≤ 9223372036854775807
section
variable {H : Type} {enc : TypeId × Value → H} {W : World}
theorem open_rec {n : Nat} {cs : List Value} {x : DataW H × List MemPlace} (h : DataW.trod enc Try.prog W 0 (fun _ => true) true n 23 cs = some x) :
    ∃ (l : List UInt8) (v : Value), cs = [v] ∧ l.length ≤ 9223372036854775807 ∧ In1 W (lowB W.heap.size) l v := by
  rcases DataW.trod_slice Try.underlying23 h with ⟨rfl, _⟩ | ⟨a, len, cap, elems, rest, m, _, rfl, rfl, _, hlc, hm, hl, hel, _, _⟩
  · exact ⟨[], _, rfl, by simp, none, 0, rfl, by simp, fun _ => rfl, HoldsS.nil⟩
  · have hc : Try.prog.cellsOf 5 = 1 := by kernel_rfl
    rw [hc] at hel
    subst hl
    obtain ⟨ks, pc, h1, h2, h3⟩ := row_open (Q := fun (s : UInt8) (c : List Value) (_ : DataW H × List MemPlace) => c = [bv s]) elems a hel (fun c y hy hc => by
      obtain ⟨x, hx, _, hw⟩ := DataW.trod_int Try.underlying5 hc
      have hb : 0 ≤ x ∧ x ≤ 255 := by simpa [Lit.wf, IntKind.min, IntKind.max, IntKind.signed, IntKind.bits] using hw
      refine ⟨UInt8.ofNat x.toNat, ?_⟩
      rw [hx]
      simp only [bv, UInt8.toNat_ofNat']
      rw [Nat.mod_eq_of_lt (by omega)]
      congr 2
      omega)
    have hpc : ∀ {ks : List UInt8} {pc : List Value} {ys : List (DataW H × List MemPlace)}, Read3 (fun (s : UInt8) (c : List Value) (_ : DataW H × List MemPlace) => c = [bv s]) ks pc ys → pc = ks.map bv := by
      intro ks
      induction ks with
      | nil =>
        intro pc ys h
        cases ys with
        | nil => simp only [Read3] at h; simp [h]
        | cons => simp [Read3] at h
      | cons s r ih =>
        intro pc ys h
        cases ys with
        | nil => simp [Read3] at h
        | cons y ys =>
          unfold Read3 at h
          obtain ⟨c, rest, rfl, rfl, h⟩ := h
          obtain rfl := ih h
          rfl
    obtain rfl := hpc h1
    have hlen := h1.len
    unfold maxLen at hm
    rw [← hlen] at h2 hlc ⊢
    exact ⟨ks, _, rfl, by omega, some a, cap, rfl, hlc, (fun h => by cases h), row_holds (by omega) (by simp) h3⟩
theorem open_bat {base : Nat} {v : Value} {d : DataW H} {ps : List MemPlace} (hval : Value.okWide Try.prog W .any base 22 v)
    (hd : DataW.Trod enc Try.prog W 0 (fun _ => true) true 22 v d ps) :
    ∃ (A : Option Addr) (n c : Nat) (bs : List (List UInt8)), v = .slice A n c ∧ BatIn W A n c bs := by
  obtain ⟨A, n, c, rfl⟩ := okWide_slice Try.underlying22 hval
  obtain ⟨fuel, hf⟩ := hd
  rcases DataW.trod_slice Try.underlying22 hf with ⟨hsl, _⟩ | ⟨a, len, cap, elems, rest, q, _, hsl, hx, _, hlc, hm, hl, hel, _, _⟩
  · simp [Value.cells] at hsl
    obtain ⟨rfl, rfl, rfl⟩ := hsl
    exact ⟨none, 0, 0, [], rfl, [], HoldsS.nil, Ats.nil, rfl, by omega, by simp⟩
  · simp [Value.cells] at hsl
    obtain ⟨rfl, rfl, rfl⟩ := hsl
    have hc1 : Try.prog.cellsOf 23 = 1 := by kernel_rfl
    rw [hc1] at hel
    subst hl
    obtain ⟨bs, pc, g1, g2, g3⟩ := row_open (Q := fun (l : List UInt8) (c : List Value) (_ : DataW H × List MemPlace) => ∃ v, c = [v] ∧ l.length ≤ 9223372036854775807 ∧ In1 W (lowB W.heap.size) l v) elems a hel (fun c y hy hc => by
      obtain ⟨l, v, h1, h2, h3⟩ := open_rec hc
      exact ⟨l, v, h1, h2, h3⟩)
    have hpc : ∀ {bs : List (List UInt8)} {pc : List Value} {ys : List (DataW H × List MemPlace)}, Read3 (fun (l : List UInt8) (c : List Value) (_ : DataW H × List MemPlace) => ∃ v, c = [v] ∧ l.length ≤ 9223372036854775807 ∧ In1 W (lowB W.heap.size) l v) bs pc ys →
        Ats (In1 W (lowB W.heap.size)) bs pc ∧ ∀ r ∈ bs, r.length ≤ 9223372036854775807 := by
      intro bs
      induction bs with
      | nil =>
        intro pc ys h
        cases ys with
        | nil => simp only [Read3] at h; subst h; exact ⟨Ats.nil, by simp⟩
        | cons => simp [Read3] at h
      | cons l r ih =>
        intro pc ys h
        cases ys with
        | nil => simp [Read3] at h
        | cons y ys =>
          unfold Read3 at h
          obtain ⟨c, rest, rfl, ⟨v, rfl, hl, hv⟩, h⟩ := h
          obtain ⟨h1, h2⟩ := ih h
          refine ⟨⟨by simp [h1.1], fun i x u hx hu => ?_⟩, fun x hx => ?_⟩
          · cases i with
            | zero => simp at hx hu; subst hx hu; exact hv
            | succ i => simp at hx hu; exact h1.2 i x u hx hu
          · rcases List.mem_cons.1 hx with rfl | hx
            · exact hl
            · exact h2 x hx
    obtain ⟨g4, g5⟩ := hpc g1
    have hlen := g1.len
    unfold maxLen at hm
    exact ⟨some a, elems.length, c, bs, rfl, pc, row_holds (by omega) (by omega) g3, g4, hlen.symm, by omega, g5⟩
end
end Go.Proofs.Ytbdbcffnjibjoaa
