/- Words that the statements of package wal share. -/
import Derived.Test.YtbdbcffnjibjoaaWlPkd
import Derived.Test.YtbdbcffnjibjoaaWlCut
import Derived.Test.YtbdbcffnjibjoaaWlSbK
namespace Go.Proofs.Ytbdbcffnjibjoaa
set_option linter.unusedVariables false
set_option linter.unusedSimpArgs false
open Go.RowKit
theorem In3.farK {w w' : World} {S : Nat → Prop} {x : List (List (List UInt8))} {v : Value} {B : Nat} (h : In3 w S x v) (hb : Below B w w') (hS : ∀ b, S b → b < B) : In3 w' S x v :=
  stays3.1 _ w' _ _ _ h fun p hp => hb.cell (hS _ hp)
theorem In3.low {w w' W : World} {x : List (List (List UInt8))} {v : Value} (h : In3 W (newB w w') x v) : In3 W (lowB w'.heap.size) x v := stays3.2 _ _ _ _ _ h fun b hb => hb.2
theorem In3.farL {w w' : World} {x : List (List (List UInt8))} {v : Value} {B : Nat} (h : In3 w (lowB B) x v) (hb : Below B w w') : In3 w' (lowB B) x v := h.farK hb fun _ h => h
theorem In3.wideL {w : World} {x : List (List (List UInt8))} {v : Value} {B C : Nat} (h : In3 w (lowB B) x v) (hB : B ≤ C) : In3 w (lowB C) x v := stays3.2 _ _ _ _ _ h fun b hb => Nat.lt_of_lt_of_le hb hB
theorem In3.first {w : World} {S : Nat → Prop} {x : List (List (List UInt8))} {A : Option Addr} {m c n : Nat} (h : In3 w S x (.slice A m c)) (hn : n ≤ m) : In3 w S (x.take n) (.slice A n c) ∧ x.length = m ∧ m ≤ c := by
  obtain ⟨A', c', cs, e, hc, hA, hh, ha⟩ := h
  injection e with e1 e2 e3
  subst e1 e2 e3
  have hl : (x.take n).length = n := by rw [List.length_take]; omega
  refine ⟨⟨A, c, cs.take n, by rw [hl], by omega, hA, ?_, ha.take n⟩, rfl, hc⟩
  rw [hl]
  refine ⟨by rw [List.length_take]; have := hh.1; omega, fun h0 => ?_⟩
  obtain ⟨b, off, e, hb, hcell⟩ := hh.2 (by omega)
  refine ⟨b, off, e, hb, fun j u hu => hcell j u ?_⟩
  rw [List.getElem?_take] at hu
  split at hu
  · exact hu
  · cases hu
theorem In3.formA {w : World} {S : Nat → Prop} {x : List (List (List UInt8))} {v : Value} (h : In3 w S x v) : ∃ A c, v = .slice A x.length c ∧ x.length ≤ c := by
  obtain ⟨A, c, cs, e, hc, _⟩ := h
  exact ⟨A, c, e, hc⟩
theorem SmBs.bd {n : Nat} {bs : List (List (List UInt8))} (h : SmBs n bs) (hn : n ≤ 100) : BdL bs :=
  ⟨by have := h.1; omega, fun b hb => ⟨by have := (h.2 b hb).2.1; omega, fun r hr => by have := ((h.2 b hb).2.2 r hr).2; omega⟩⟩
theorem BdL.take {bs : List (List (List UInt8))} (h : BdL bs) (n : Nat) : BdL (bs.take n) := ⟨by rw [List.length_take]; have := h.1; omega, fun b hb => h.2 b (List.mem_of_mem_take hb)⟩
theorem own_nilcap {w : World} {base e size n c : Nat} {A : Option Addr} {xs : List Value} (h : w.ownsRow base e size (.slice A n c) n xs) : A = none → c = 0 := by
  intro hA
  subst hA
  rcases h.2 with ⟨hv, _⟩ | ⟨g, cap, cur, hv, _⟩
  · injection hv with _ _ hv
  · injection hv with hv; cases hv
/-- 'append([]byte(nil), x...)'. -/
theorem wpList_copyB {w : World} {ops : Array Oper} {rest : List Oper} {o : Oper} {a : Act} {Q : Exit → Act → World → Prop} (hgd : o.guard = none) (x : Operand)
    (ho : o.op = .call { callee := .builtin .append, args := #[.const (.slice none 0 0), x], argTypes := #[23, 23] })
    (B : Nat) (A : Option Addr) (m c : Nat) (l : List UInt8) (hr : Holds w B 1 A m (l.map bv)) (hm : m = l.length) (hx : a.eval x = .slice A m c) (hA : A = none → c = 0) (hn : m ≤ 1048576)
    (h : ∀ A' c' w', Own w' w.heap.size (.slice A' l.length c') l → l.length ≤ c' → Below w.heap.size w w' → wpList Try.prog ops Q rest (a.put o.dst (.slice A' m c')) w') :
    wpList Try.prog ops Q (o :: rest) a w := by
  obtain ⟨i0, hi0, hz0, hz1, hz2⟩ := info_parts info_u8
  refine wpList_append_nil w hgd x 23 ho 5 i0 _ 1 1 Try.underlying23 hi0 hz0 hz1 hz2 rfl (by decide) B A m c _ hr hx hA (bv_one _) hn (by decide) ?_
  intro A' c' w' h1 _ _ h4
  rw [hm] at h1
  exact h A' c' w' h1 (own_capN h1) h4
end Go.Proofs.Ytbdbcffnjibjoaa
