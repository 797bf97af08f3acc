/- Sorted tables: Next at every string. -/
import Derived.Test.YtecpccdmmaigiaaRwStr
import Derived.Test.YtecpccdmmaigiaaOwnB
import Derived.Deep.RegionWith
namespace Go.Proofs.Ytecpccdmmaigiaa
set_option linter.unusedVariables false
set_option linter.unusedSimpArgs false
open Go.RowKit
theorem next_take {l : List UInt8} {j : Nat} (hj : j < l.length) (h : l[j] = 255) : nextF (l.take (j + 1)) = nextF (l.take j) := by
  rw [List.take_succ_eq_append_getElem hj, h, nextF_255]
theorem next_stop {l : List UInt8} {j : Nat} (hj : j < l.length) (h : l[j] ≠ 255) : nextF (l.take (j + 1)) = l.take j ++ [l[j] + 1] := by
  rw [List.take_succ_eq_append_getElem hj, nextF_end h]
theorem rw_addL {P : Program} (t : TypeId) (a b : List UInt8) (h : a.length + b.length ≤ 9223372036854775807) : ∀ W, (binOp .add t (str a) (str b)).run P W = .ok (str (a ++ b)) W := fun W => by
  simp only [str, binOp_string_add]
  rw [run_string_add_sum W _ _ (by show a.length + b.length ≤ _; exact h), ByteArray.mk_append_mk]
/-- The string of one byte that lies in a block. -/
theorem rw_conv_one {W : World} {g : Nat} (c : UInt8) (h : W.cell? ⟨g, 0, none⟩ = some (bv c)) :
    (convert 46 9 (.slice (some ⟨g, 0, none⟩) 1 1)).run Try.prog W = .ok (str [c]) W := by
  refine run_convert_bytes (B := g + 1) 46 9 5 Try.underlying46 Try.underlying5 Try.underlying9 ⟨by simp, fun _ => ⟨g, 0, rfl, by omega, fun j u hu => ?_⟩⟩ (fun h => by cases h)
  cases j with
  | zero => simp at hu; subst hu; exact h
  | succ j => simp at hu
/-- The loop back over the bytes: k are left. -/
def NxR (l : List UInt8) (w : World) (gk : Nat) (v : Value) (wr : World) : Prop :=
  ∃ k : Nat, v = .int .i64 (k : Int) ∧ k ≤ l.length ∧ gk = k ∧ nextF (l.take k) = nextF l ∧ wr = w
set_option maxHeartbeats 1000000 in
set_option maxRecDepth 100000 in
theorem next_any (l : List UInt8) (w : World) (hl : l.length ≤ 9223372036854775807) :
    Calls Try.prog 23 #[str l] w fun e w' => e = .returned (str (nextF l)) ∧ Below w.heap.size w w' := by
  have Hl := Lib.hid hl
  go_enter Try.func23, Try.ntmps23
  go_wp2
  go_loopg [3] l.length (NxR l w)
  case atStart => exact ⟨l.length, rfl, Nat.le_refl _, rfl, by rw [List.take_length], rfl⟩
  case round =>
    obtain ⟨k, rfl, hk, hgk, hc, rfl⟩ := hrel
    have Hc := Lib.hid hc
    have Hgk := Lib.hid hgk
    clear hc hgk
    cases k with
    | zero =>
      have HE := Lib.hid (show ([] : List UInt8) = nextF l by rw [← Hc.out]; rfl)
      go_wp2
      go_ret
      exact ⟨by rw [← HE.out] <;> rfl, Below.refl _ _⟩
    | succ j =>
      have hjl : j < l.length := by omega
      have hz : ((j + 1 : Nat) : Int) > 0 := by omega
      have hj1 : (j : Int) + 1 - 1 = (j : Int) := by omega
      have hidx := fun W => run_index_str (P := Try.prog) W 9 l .i64 j Try.underlying9 hjl
      by_cases h255 : l[j] = 255
      · have HE := Lib.hid (show nextF (l.take j) = nextF l by rw [← next_take hjl h255]; exact Hc.out)
        have hx : (l[j].toNat : Int) = 255 := by rw [h255]; rfl
        go_wp2
        go_roundg j
        case measure => have := Hgk.out; omega
        case rel => exact ⟨j, rfl, by omega, rfl, HE.out, rfl⟩
      · have HE := Lib.hid (show l.take j ++ [l[j] + 1] = nextF l by rw [← next_stop hjl h255]; exact Hc.out)
        have hx : ¬ (l[j].toNat : Int) = 255 := by
          intro e
          exact h255 (UInt8.toNat_inj.1 (by show l[j].toNat = 255; omega))
        have hc1 : (l[j] + 1).toNat = l[j].toNat + 1 := by
          have := l[j].toNat_lt
          rw [UInt8.toNat_add, show (1 : UInt8).toNat = 1 from rfl, Nat.mod_eq_of_lt (by omega)]
        have hlt := l[j].toNat_lt
        have hlt2 : ((l[j].toNat : Nat) : Int) < 255 := by omega
        have hwr : IntKind.u8.wrap (((l[j].toNat : Nat) : Int) + 1) = ((l[j].toNat : Nat) : Int) + 1 := IntWalk.u8_in _ (by omega)
        have hcut := fun W => run_str_h (P := Try.prog) (s := l) W 9 Try.underlying9 .i64 (j : Int) j rfl (by omega)
        have hadd := rw_addL (P := Try.prog) 9 (l.take j) [l[j] + 1] (by rw [List.length_take, List.length_singleton]; omega)
        have hx0 : (wr.alloc (.cells #[.int .u8 (((l[j].toNat : Nat) : Int) + 1)] 5)).cell? ⟨wr.heap.size, 0, none⟩ = some (bv (l[j] + 1)) := by
          have := (Blk.new wr 5 #[.int .u8 (((l[j].toNat : Nat) : Int) + 1)]).cell 0
          rw [this]; unfold bv; rw [hc1]; rfl
        have hcv := rw_conv_one (l[j] + 1) hx0
        have hcv1 := rw_conv_one (W := (wr.alloc (.cells #[.int .u8 (((l[j].toNat : Nat) : Int) + 1)] 5)).drew) (l[j] + 1) hx0
        have hcv2 := rw_conv_one (W := wr.drew.alloc (.cells #[.int .u8 (((l[j].toNat : Nat) : Int) + 1)] 5)) (l[j] + 1) hx0
        have Hc1 := Lib.hid hc1
        clear hx0 hc1
        generalize l[j] = cj at *
        go_wp2_with fail
        go_region
        all_goals go_wp2
        all_goals go_ret
        all_goals exact ⟨by rw [← HE.out] <;> rfl, ((Below.refl _ _).alloc (Nat.le_refl _) _).drew⟩
end Go.Proofs.Ytecpccdmmaigiaa
