/- Sorted tables, the reference: RowsNext at every string. -/
import Derived.Test.YtecpccdmmaigiaaRwNext
import Derived.Test.YtecpccdmmaigiaaChecked
import Derived.Laws.IdiomStrings
namespace Go.Proofs.Ytecpccdmmaigiaa
set_option linter.unusedVariables false
set_option linter.unusedSimpArgs false
open Go.RowKit
/-- '[]byte(s)': a slice of the call's own, that may be stored to. -/
theorem conv_own (W : World) (l : List UInt8) : ∃ c w', (convert 9 46 (str l)).run Try.prog W = .ok (.slice (some ⟨W.heap.size, 0, none⟩) l.length c) w' ∧ l.length ≤ c ∧
    (∀ j (hj : j < l.length), w'.cell? ⟨W.heap.size, j, none⟩ = some (bv l[j]) ∧ w'.frozen? ⟨W.heap.size, j, none⟩ = false) ∧ Below W.heap.size W w' := by
  refine ⟨_, _, run_bytes_of_string W 9 46 5 ⟨l.toArray⟩ Try.underlying9 Try.underlying46 Try.underlying5, grownCap_ge W _ _ _, fun j hj => ⟨?_, ?_⟩, (Below.refl W.heap.size W).drew.alloc (Nat.le_refl _) _⟩
  · have h2 := bytesRow_at ⟨l.toArray⟩ (grownCap W l.length 0 5) j (by simpa using hj)
    have h4 : (W.drew.alloc (.cells (bytesRow ⟨l.toArray⟩ (grownCap W l.length 0 5)) 5 ((bytesRow ⟨l.toArray⟩ (grownCap W l.length 0 5)).size, (bytesRow ⟨l.toArray⟩ (grownCap W l.length 0 5)).size + 1))).cell? ⟨W.heap.size, j, none⟩ = (bytesRow ⟨l.toArray⟩ (grownCap W l.length 0 5))[j]? := by
      refine cell_of_row _ _ _ _ 5 ((bytesRow ⟨l.toArray⟩ (grownCap W l.length 0 5)).size, (bytesRow ⟨l.toArray⟩ (grownCap W l.length 0 5)).size + 1) ?_
      show (W.heap.push _)[W.heap.size]? = _
      simp
    exact h4.trans (by rw [h2]; simp [bv])
  · unfold World.frozen?
    rw [show (W.drew.alloc (.cells (bytesRow ⟨l.toArray⟩ (grownCap W (⟨l.toArray⟩ : ByteArray).size 0 5)) 5 ((bytesRow ⟨l.toArray⟩ (grownCap W (⟨l.toArray⟩ : ByteArray).size 0 5)).size, (bytesRow ⟨l.toArray⟩ (grownCap W (⟨l.toArray⟩ : ByteArray).size 0 5)).size + 1))).heap[W.heap.size]? = some (.cells (bytesRow ⟨l.toArray⟩ (grownCap W (⟨l.toArray⟩ : ByteArray).size 0 5)) 5 ((bytesRow ⟨l.toArray⟩ (grownCap W (⟨l.toArray⟩ : ByteArray).size 0 5)).size, (bytesRow ⟨l.toArray⟩ (grownCap W (⟨l.toArray⟩ : ByteArray).size 0 5)).size + 1)) by
      show (W.heap.push _)[W.heap.size]? = _
      simp]
    have : l.length ≤ (bytesRow ⟨l.toArray⟩ (grownCap W (⟨l.toArray⟩ : ByteArray).size 0 5)).size := by
      unfold bytesRow; simp
    simp
    omega
/-- The loop back over the bytes: k are left. -/
def NyR (l : List UInt8) (w1 : World) (g c : Nat) (gk : Nat) (v : Value) (wr : World) : Prop :=
  ∃ k : Nat, v = .slice (some ⟨g, 0, none⟩) k c ∧ k ≤ l.length ∧ gk = k ∧ nextF (l.take k) = nextF l ∧ wr = w1
theorem bytes_hold {W : World} {g n : Nat} {l : List UInt8} (h : ∀ j (hj : j < l.length), W.cell? ⟨g, j, none⟩ = some (bv l[j])) (hn : l.length = n) : Holds W (g + 1) 1 (some ⟨g, 0, none⟩) n (l.map bv) := by
  subst hn
  refine ⟨by simp, fun _ => ⟨g, 0, rfl, by omega, fun j u hu => ?_⟩⟩
  have hj : j < l.length := by have := (List.getElem?_eq_some_iff.1 hu).1; simpa using this
  rw [Nat.zero_add, h j hj]
  simpa [List.getElem?_eq_getElem hj] using hu
set_option maxHeartbeats 1000000 in
set_option maxRecDepth 100000 in
theorem refNext_any (l : List UInt8) (w : World) (hl : l.length ≤ 9223372036854775807) :
    Calls Try.prog 24 #[str l] w fun e w' => e = .returned (str (nextF l)) ∧ Below w.heap.size w w' := by
  have Hl := Lib.hid hl
  obtain ⟨i0, hi0⟩ : ∃ i, Try.prog.info? 5 = some i := Option.isSome_iff_exists.1 (by kernel_rfl)
  obtain ⟨c, w1, hrun, hc, hcells, hb1⟩ := conv_own w l
  have Hcells := Lib.hid hcells
  have Hb1 := Lib.hid hb1
  have hg : w.heap.size < w1.heap.size ∨ l.length = 0 := by
    rcases Nat.eq_zero_or_pos l.length with h0 | h0
    · exact .inr h0
    · exact .inl (World.block_lt_of_cell? _ _ (hcells 0 h0).1)
  clear hcells hb1
  go_enter Try.func24, Try.ntmps24
  go_wp2
  generalize hgg : w.heap.size = g at *
  go_loopg [3] l.length (NyR l w1 g c)
  case atStart => exact ⟨l.length, rfl, Nat.le_refl _, rfl, by rw [List.take_length], rfl⟩
  case round =>
    obtain ⟨k, rfl, hk, hgk, hc, rfl⟩ := hrel
    have Hc := Lib.hid hc
    have Hgk := Lib.hid hgk
    clear hc hgk
    cases k with
    | zero =>
      have HE := Lib.hid (show ([] : List UInt8) = nextF l by rw [← Hc.out]; rfl)
      have hcv := run_convert_bytes (P := Try.prog) (c := c) (w := wr) 46 9 5 Try.underlying46 Try.underlying5 Try.underlying9 (bytes_hold (W := wr) (g := g) (l := []) (n := 0) (by simp) rfl) (fun h => by cases h)
      go_wp2
      go_ret
      exact ⟨by rw [← HE.out] <;> rfl, by rw [hgg]; exact Hb1.out⟩
    | succ j =>
      have hjl : j < l.length := by omega
      have hz : ((j + 1 : Nat) : Int) > 0 := by omega
      have hj1 : (j : Int) + 1 - 1 = (j : Int) := by omega
      have hj2 : ((j : Nat) : Int) < ((j : Nat) : Int) + 1 := by omega
      have hcj : wr.cell? ⟨g, j, none⟩ = some (.int .u8 ((l[j].toNat : Nat) : Int)) := (Hcells.out j hjl).1
      have hfj : wr.frozen? ⟨g, j, none⟩ = false := (Hcells.out j hjl).2
      by_cases h255 : l[j] = 255
      · have HE := Lib.hid (show nextF (l.take j) = nextF l by rw [← next_take hjl h255]; exact Hc.out)
        have hx : (l[j].toNat : Int) = 255 := by rw [h255]; rfl
        have hcut := fun W => run_cut_h (P := Try.prog) W 46 5 i0 Try.underlying46 hi0 (some ⟨g, 0, none⟩) (j + 1) c .i64 (j : Int) j rfl (by omega)
        go_wp2
        trace_state
        go_roundg j
        case measure => have := Hgk.out; omega
        case rel => exact ⟨j, rfl, by omega, rfl, HE.out, rfl⟩
      · have HE := Lib.hid (show l.take j ++ [l[j] + 1] = nextF l by rw [← next_stop hjl h255]; exact Hc.out)
        have hx : ¬ (l[j].toNat : Int) = 255 := by
          intro e
          exact h255 (UInt8.toNat_inj.1 (by show l[j].toNat = 255; omega))
        have hc1 : (l[j] + 1).toNat = l[j].toNat + 1 := by
          have := l[j].toNat_lt
          rw [UInt8.toNat_add, show (1 : UInt8).toNat = 1 from rfl, Nat.mod_eq_of_lt (by omega)]
        have hlt := l[j].toNat_lt
        have hlt2 : ((l[j].toNat : Nat) : Int) < 255 := by omega
        have hwr : IntKind.u8.wrap (((l[j].toNat : Nat) : Int) + 1) = ((l[j].toNat : Nat) : Int) + 1 := IntWalk.u8_in _ (by omega)
        have hcv := run_convert_bytes (P := Try.prog) (c := c) (n := j + 1) (w := wr.setCell ⟨g, j, none⟩ (.int .u8 (((l[j].toNat : Nat) : Int) + 1))) (l := l.take j ++ [l[j] + 1]) 46 9 5 Try.underlying46 Try.underlying5 Try.underlying9
          (bytes_hold (fun i hi => by
            have hi' : i < j + 1 := by simpa [List.length_take, Nat.min_eq_left (Nat.le_of_lt hjl)] using hi
            rcases Nat.lt_or_ge i j with h | h
            · rw [World.cell?_setCell_other _ _ _ _ (by intro e; injection e; omega), (Hcells.out i (by omega)).1]
              rw [List.getElem_append_left (by rw [List.length_take]; omega)]
              simp
            · obtain rfl : i = j := by omega
              rw [World.cell?_setCell_same _ _ _ hcj, List.getElem_append_right (by rw [List.length_take]; omega)]
              simp only [List.length_take, Nat.min_eq_left (Nat.le_of_lt hjl), Nat.sub_self, List.getElem_cons_zero]
              unfold bv; rw [hc1]; rfl) (by rw [List.length_append, List.length_take, List.length_singleton]; omega)) (fun h => by cases h)
        have Hc1 := Lib.hid hc1
        clear hc1
        go_wp2
        go_ret
        exact ⟨by rw [← HE.out] <;> rfl, by rw [hgg]; exact Hb1.out.setCell (Nat.le_refl _) _⟩
end Go.Proofs.Ytecpccdmmaigiaa
