/- json.writeByte and writeString: what each call returns. -/
import Derived.Test.YtbdbcffnjibjoaaGreatDoorOwnB
import Derived.Test.YtbdbcffnjibjoaaGreatDoorShelfJ
import Derived.Test.YtbdbcffnjibjoaaGreatDoorIdx
import Derived.Test.YtbdbcffnjibjoaaGreatDoorBunB
import Derived.Deep.RegionLaw
import Derived.Outline
namespace Go.Proofs.YtbdbcffnjibjoaaGreatDoor
set_option linter.unusedVariables false
set_option linter.unusedSimpArgs false
open Go.RowKit

/-- A byte that has a letter: its place, the letter. -/
theorem esc_letter (c : UInt8) : Lib.indexByte escL c = -1 ∨ ∃ (i : Nat) (x : UInt8), Lib.indexByte escL c = (i : Int) ∧ letL[i]? = some x ∧ esc c = [92, x] := by
  by_cases h1 : c = 34
  · subst h1; exact .inr ⟨0, 34, by decide, rfl, by decide⟩
  by_cases h2 : c = 92
  · subst h2; exact .inr ⟨1, 92, by decide, rfl, by decide⟩
  by_cases h3 : c = 8
  · subst h3; exact .inr ⟨2, 98, by decide, rfl, by decide⟩
  by_cases h4 : c = 9
  · subst h4; exact .inr ⟨3, 116, by decide, rfl, by decide⟩
  by_cases h5 : c = 10
  · subst h5; exact .inr ⟨4, 110, by decide, rfl, by decide⟩
  by_cases h6 : c = 12
  · subst h6; exact .inr ⟨5, 102, by decide, rfl, by decide⟩
  by_cases h7 : c = 13
  · subst h7; exact .inr ⟨6, 114, by decide, rfl, by decide⟩
  · left
    simp [escL, Lib.indexByte, Ne.symm h1, Ne.symm h2, Ne.symm h3, Ne.symm h4, Ne.symm h5, Ne.symm h6, Ne.symm h7]
theorem esc_none (c : UInt8) (h : Lib.indexByte escL c = -1) : esc c = if c.toNat < 32 then [92, 117, 48, 48, hexD (c.toNat / 16), hexD (c.toNat % 16)] else [c] := by
  have h' : ∀ x ∈ escL, c ≠ x := by
    intro x hx e
    subst e
    simp only [escL, List.mem_cons, List.not_mem_nil, or_false] at hx
    rcases hx with rfl | rfl | rfl | rfl | rfl | rfl | rfl <;> revert h <;> decide
  unfold esc
  rw [if_neg (h' 34 (by decide)), if_neg (h' 92 (by decide)), if_neg (h' 8 (by decide)), if_neg (h' 9 (by decide)), if_neg (h' 10 (by decide)), if_neg (h' 12 (by decide)), if_neg (h' 13 (by decide))]

theorem hexL_at (i : Nat) (h : i < 16) : hexL[i]? = some (hexD i) := by
  have : ∀ j : Fin 16, hexL[j.val]? = some (hexD j.val) := by decide
  exact this ⟨i, h⟩
theorem run_index_at {P : Program} (w : World) (t : TypeId) (s : List UInt8) (k : IntKind) (i : Nat) (x : UInt8) (h : P.underlying t = some .string) (hi : s[i]? = some x) :
    (Instr.index t (str s) (.int k (i : Int))).run P w = .ok (.int .u8 (x.toNat : Int)) w := by
  obtain ⟨hl, rfl⟩ := List.getElem?_eq_some_iff.1 hi
  exact run_index_str w t s k i h hl

theorem and15 : ∀ n : Fin 256, bits .and .u8 (n.val : Int) 15 = (n.val : Int) % 16 := by decide +kernel
attribute [local go_sem high] str_mk
set_option maxRecDepth 100000 in
set_option maxHeartbeats 1000000 in
theorem byte_any (v : Value) (c : UInt8) (l : List UInt8) (B : Nat) (w : World) (hown : Own w B v l) (hB : B ≤ w.heap.size) (hl : l.length ≤ 1000000) :
    Calls Tryz.prog 84 #[v, .int .u8 (c.toNat : Int)] w (WrPost B (l ++ esc c) w) := by
  have hc256 : c.toNat < 256 := c.toNat_lt
  rcases esc_letter c with hi | ⟨i, x, hi, hx, he⟩
  · have he := esc_none c hi
    by_cases h32 : c.toNat < 32
    · rw [if_pos h32] at he
      go_enter Tryz.func84, Tryz.ntmps84
      go_wp2_with fail
      refine (idx_any escL c _).mono ?_
      rintro e w1 ⟨rfl, rfl⟩
      rw [hi]
      clear hi
      have Hesc := Lib.hid he
      clear he
      have hx1 : ∀ W, (Instr.index 9 (str [48, 49, 50, 51, 52, 53, 54, 55, 56, 57, 97, 98, 99, 100, 101, 102]) (.int .u8 ((c.toNat : Int) / 16))).run Tryz.prog W = .ok (.int .u8 ((hexD (c.toNat / 16)).toNat : Int)) W :=
        fun W => run_index_at (P := Tryz.prog) W 9 hexL .u8 (c.toNat / 16) _ Tryz.underlying9 (hexL_at (c.toNat / 16) (by omega))
      have hx2 : ∀ W, (Instr.index 9 (str [48, 49, 50, 51, 52, 53, 54, 55, 56, 57, 97, 98, 99, 100, 101, 102]) (.int .u8 ((c.toNat : Int) % 16))).run Tryz.prog W = .ok (.int .u8 ((hexD (c.toNat % 16)).toNat : Int)) W :=
        fun W => run_index_at (P := Tryz.prog) W 9 hexL .u8 (c.toNat % 16) _ Tryz.underlying9 (hexL_at (c.toNat % 16) (by omega))
      have ha15 : bits .and .u8 (c.toNat : Int) 15 = (c.toNat : Int) % 16 := and15 ⟨c.toNat, hc256⟩
      go_wp2_with fail
      have hcell : ∀ j u, (([92, 117, 48, 48, hexD (c.toNat / 16), hexD (c.toNat % 16)] : List UInt8).map bv)[j]? = some u → (w.alloc (.cells (([92, 117, 48, 48, hexD (c.toNat / 16), hexD (c.toNat % 16)] : List UInt8).map bv).toArray 5)).drew.cell? ((⟨w.heap.size, 0, none⟩ : Addr).add j) = some u := by
        intro j u hu
        rw [plus_addr, Nat.zero_add]
        exact ((Blk.new w 5 _).cell j).trans (by simpa using hu)
      have Hcell := Lib.hid hcell
      clear hcell
      go_region_law (refine step_put rfl _ _ rfl B v l [92, 117, 48, 48, hexD (c.toNat / 16), hexD (c.toNat % 16)] (by rfl) (hown.alloc _) ⟨w.heap.size, 0, none⟩ 6 6 rfl (by rfl) Hcell.out (by simp; omega) (by simp; omega) ?_; intro v1 w1 hown1 hfr1)
      all_goals (
        go_wp2_with fail
        go_ret
        exact ⟨_, rfl, by rw [Hesc.out]; exact hown1, ((WFr.refl B w).alloc hB _).drew.trans hfr1⟩)
    · rw [if_neg h32] at he
      have h32' : 32 ≤ c.toNat := by omega
      go_enter Tryz.func84, Tryz.ntmps84
      go_wp2_with fail
      refine (idx_any escL c _).mono ?_
      rintro e w1 ⟨rfl, rfl⟩
      rw [hi]
      have Hesc := Lib.hid he
      clear he hi
      go_wp2_with (at_builtin
                   refine wpList_put rfl _ _ rfl B v l [c] _ rfl (by rfl) hown 1 rfl _ (by rfl) (by simp) (by simp; omega) hB ?_
                   intro v1 w1 hown1 hfr1)
      go_ret
      exact ⟨_, rfl, by rw [Hesc.out]; exact hown1, hfr1⟩
  · have hidx := fun W => run_index_at (P := Tryz.prog) W 9 letL .i64 i x Tryz.underlying9 hx
    simp only [letL] at hidx
    have hi7 : i < 7 := (List.getElem?_eq_some_iff.1 hx).1
    go_enter Tryz.func84, Tryz.ntmps84
    go_wp2_with fail
    refine (idx_any escL c _).mono ?_
    rintro e w1 ⟨rfl, rfl⟩
    rw [hi]
    have Hesc := Lib.hid he
    clear he hi
    go_wp2_with (at_builtin
                 refine wpList_put rfl _ _ rfl B v l [92, x] _ rfl (by rfl) hown 2 rfl _ (by rfl) (by simp) (by simp; omega) hB ?_
                 intro v1 w1 hown1 hfr1)
    go_ret
    exact ⟨_, rfl, by rw [Hesc.out]; exact hown1, hfr1⟩

theorem wrChars_drop (l s : List UInt8) (k : Nat) (hk : k < s.length) : wrChars l (s.drop k) = if l.length ≤ 600 then wrChars (l ++ esc s[k]) (s.drop (k + 1)) else l := by
  rw [List.drop_eq_getElem_cons hk, wrChars]
def StrR (B : Nat) (s T : List UInt8) (w : World) (gk : Nat) (b i : Value) (wr : World) : Prop :=
  ∃ (k : Nat) (l : List UInt8), i = .int .i64 k ∧ k ≤ s.length ∧ gk = s.length - k ∧ Own wr B b l ∧ WFr B w wr ∧ wrChars l (s.drop k) = T ∧ l.length ≤ 1000000

set_option maxRecDepth 100000 in
set_option maxHeartbeats 1000000 in
theorem string_any (v : Value) (s l : List UInt8) (B : Nat) (w : World) (hown : Own w B v l) (hB : B ≤ w.heap.size) (hl : l.length ≤ 990000) (hs : s.length ≤ 1048576) :
    Calls Tryz.prog 62 #[v, str s] w (WrPost B (wrStr l s) w) := by
  go_enter Tryz.func62, Tryz.ntmps62
  go_wp2_with (at_builtin
               refine wpList_put rfl _ _ rfl B v l [34] _ rfl (by rfl) hown 1 rfl _ (by rfl) (by simp) (by simp; omega) hB ?_
               intro v1 w1 hown1 hfr1)
  have hT := wrChars_le s (l ++ [34])
  generalize hTd : wrChars (l ++ [34]) s = T at *
  have HT := Lib.hid hTd
  clear hTd
  have hl1 : (l ++ [34]).length ≤ 1000000 := by simp; omega
  have Hl1 := Lib.hid hl1
  have HT2 := Lib.hid (show T.length ≤ 1000000 by simp at hT; omega)
  clear hT hl1
  go_loopg [0, 5] s.length (StrR B s T w)
  case atStart => exact ⟨0, _, rfl, by omega, by omega, hown1, hfr1, HT.out, Hl1.out⟩
  case round =>
    obtain ⟨k, l', rfl, hk, hgk, hown', hfr', hch, hl'⟩ := hrel
    obtain ⟨A', c', rfl, hA'⟩ := hown'.form
    have hBr : B ≤ wr.heap.size := Nat.le_trans hB hfr'.size
    have Hgk := Lib.hid hgk
    clear hgk hown1 hfr1
    by_cases hlt : k < s.length
    · have hd := wrChars_drop l' s k hlt
      have hidx := fun W => run_index_str (P := Tryz.prog) W 9 s .i64 k Tryz.underlying9 hlt
      have hmem : s[k] ∈ s := List.getElem_mem hlt
      generalize s[k] = c at *
      by_cases h600 : l'.length ≤ 600
      · rw [if_pos h600] at hd
        have Hch := Lib.hid (hd.symm.trans hch)
        clear hd hch
        go_wp2_with fail
        refine (byte_any _ c l' B wr hown' hBr hl').mono ?_
        rintro e w2 ⟨v2, rfl, hown2, hfr2⟩
        go_wp2_with fail
        go_roundg (s.length - (k + 1))
        case measure => have := Hgk.out; omega
        case rel => exact ⟨k + 1, _, by go_num, by omega, rfl, hown2, hfr'.trans hfr2, Hch.out, by have := esc_le c; simp; omega⟩
      · rw [if_neg h600] at hd
        have Hch := Lib.hid (hd.symm.trans hch)
        clear hd hch
        have hgt : 600 < l'.length := by omega
        go_wp2_with (at_builtin
                     refine wpList_put rfl _ _ rfl B (.slice A' l'.length c') l' [34] _ rfl (by rfl) hown' 1 rfl _ (by rfl) (by simp) (by simp; omega) hBr ?_
                     intro v3 w3 hown3 hfr3)
        go_ret
        exact ⟨_, rfl, by unfold wrStr; rw [HT.out, ← Hch.out]; exact hown3, hfr'.trans hfr3⟩
    · rw [List.drop_of_length_le (by omega)] at hch
      have Hch := Lib.hid (show l' = T from hch)
      clear hch
      go_wp2_with (at_builtin
                   refine wpList_put rfl _ _ rfl B (.slice A' l'.length c') l' [34] _ rfl (by rfl) hown' 1 rfl _ (by rfl) (by simp) (by simp; omega) hBr ?_
                   intro v3 w3 hown3 hfr3)
      go_ret
      exact ⟨_, rfl, by unfold wrStr; rw [HT.out, ← Hch.out]; exact hown3, hfr'.trans hfr3⟩
end Go.Proofs.YtbdbcffnjibjoaaGreatDoor
