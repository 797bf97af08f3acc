/- The store: record and change. -/
import Derived.Test.YtploicbiapjfdaaStM
import Derived.Test.YtploicbiapjfdaaBunWA
import Derived.BigRegion
namespace Go.Proofs.Ytploicbiapjfdaa
set_option linter.unusedVariables false
set_option linter.unusedSimpArgs false
open Go.RowKit
theorem one_ownS (W : World) (x : UInt8) (base : Nat) (hb : base ≤ W.heap.size) : Own (W.alloc (.cells #[bv x] 5)) base (.slice (some ⟨W.heap.size, 0, none⟩) 1 1) [x] := by
  refine ⟨rfl, .inr ⟨W.heap.size, 1, #[bv x], rfl, hb, Blk.new W _ _, by simp, by unfold maxLen; omega, rfl, rfl⟩⟩
set_option maxHeartbeats 1000000 in
theorem record_any (r : Rw) (w : World) (hs : sizedR r = true) :
    Calls Try.prog 100 #[.agg #[str r.key, str r.val]] w fun e w' => ∃ v, e = .returned v ∧ Own w' w.heap.size v (recOf r) ∧ Below w.heap.size w w' := by
  obtain ⟨h1, h2, h3⟩ := (sized_iff r).1 hs
  have Hr := Lib.hid (show recOf r = [UInt8.ofNat r.key.length] ++ r.key ++ r.val by simp [recOf])
  obtain ⟨k, x⟩ := r
  simp only at h1 h2 h3
  have Hr2 := Lib.hid (show recOf ⟨k, x⟩ = [UInt8.ofNat k.length] ++ k ++ x from Hr.out)
  clear Hr hs
  obtain ⟨W, hW⟩ : ∃ W, w.alloc (.cells #[str k, str x] 50) = W := ⟨_, rfl⟩
  have hB := Blk.new w 50 #[str k, str x]
  rw [hW] at hB
  have hb : Below w.heap.size w W := by rw [← hW]; exact (Below.refl _ _).alloc (Nat.le_refl _) _
  have hws : W.heap.size = w.heap.size + 1 := by rw [← hW]; simp
  have ho := one_ownS W (UInt8.ofNat k.length) w.heap.size hb.size
  rw [u8_small (show k.length ≤ 255 by omega), hws] at ho
  have hB1 := hB.alloc (.cells #[.int .u8 (k.length : Int)] 5)
  have hb1 := hb.alloc hb.size (.cells #[.int .u8 (k.length : Int)] 5)
  have hl1 : ([UInt8.ofNat k.length] : List UInt8).length + k.length ≤ 1048576 := by simp; omega
  have hl2 : ([UInt8.ofNat k.length] ++ k : List UInt8).length + x.length ≤ 1048576 := by simp; omega
  have hw1 : IntKind.u8.wrap (k.length : Int) = (k.length : Int) := IntWalk.u8_in _ (by omega)
  obtain ⟨W1, hW1⟩ : ∃ W1, W.alloc (.cells #[.int .u8 (k.length : Int)] 5) = W1 := ⟨_, rfl⟩
  rw [hW1] at ho hB1 hb1
  have hs1 := hb1.size
  have x0 : W.cell? ⟨w.heap.size, 0, none⟩ = some (str k) := hB.cell 0
  have x1 : W.cell? ⟨w.heap.size, 1, none⟩ = some (str x) := hB.cell 1
  have y0 : W1.cell? ⟨w.heap.size, 0, none⟩ = some (str k) := hB1.cell 0
  have y1 : W1.cell? ⟨w.heap.size, 1, none⟩ = some (str x) := hB1.cell 1
  have Ho := Lib.hid ho
  have HB1 := Lib.hid hB1
  have Hb1 := Lib.hid hb1
  clear ho hB hB1 hb hb1
  go_enter Try.func100, Try.ntmps100
  go_wp2_with (first
    | (at_builtin; refine wpList_putS (by rfl) _ _ (by rfl) w.heap.size _ [UInt8.ofNat k.length] k (by rfl) Ho.out (by rfl) hl1 hs1 ?_; clear Ho; intro v2 w2 ho2 hf2; have hB2 := hf2.blk HB1.out (by decide); have z1 : w2.cell? ⟨w.heap.size, 1, none⟩ = some (str x) := hB2.cell 1; have Hb2 := Lib.hid (Hb1.out.trans hf2.1); have hs2 := Hb2.out.size; have Ho2 := Lib.hid ho2; clear hf2 ho2 hB2)
    | (at_builtin; refine wpList_putS (by rfl) _ _ (by rfl) w.heap.size _ ([UInt8.ofNat k.length] ++ k) x (by rfl) Ho2.out (by rfl) hl2 hs2 ?_; clear Ho2; intro v3 w3 ho3 hf3; have Hb3 := Lib.hid (Hb2.out.trans hf3.1); have Ho3 := Lib.hid ho3; clear hf3 ho3))
  go_ret
  exact ⟨v3, rfl, by rw [Hr2.out]; exact Ho3.out, Hb3.out⟩
end Go.Proofs.Ytploicbiapjfdaa
