/- One-time keys: the closures: is a key wanted, and how two compare. -/
import Derived.Test.YtaamoilkphjhgabKyMem
import Derived.Test.YtaamoilkphjhgabShelfY
import Derived.Test.YtaamoilkphjhgabBunA
import Derived.BigQuiet
namespace Go.Proofs.Ytaamoilkphjhgab
set_option linter.unusedVariables false
set_option linter.unusedSimpArgs false
open Go.RowKit

theorem ky_zeroB (w : World) : (zeroValue 4).run Try.prog w = .ok (.bool false) w := by kernel_rfl
theorem ky_zeroS (w : World) : (zeroValue 9).run Try.prog w = .ok (str []) w := by kernel_rfl
theorem ky_zeroK (w : World) : (zeroValue 58).run Try.prog w = .ok (evK kv0) w := by kernel_rfl
/-- The look-up among what was given away. -/
theorem look_gv {w : World} {h : Nat} {s : Ks} (k : KsIn w h s) {n : Nm} (hn : okN n) : (Instr.lookup 52 (.map (some (h + 1))) (ekN n) false).run Try.prog w = .ok (.bool (isGv s n)) w := by
  rw [k.gv.look keyN Try.underlying52 (ky_zeroB w) hn false]
  unfold isGv lookV
  cases getA s.gv n <;> rfl

set_option maxHeartbeats 2000000 in
/-- The closure of left: is the name one of the Sort that has not been given away. -/
theorem want_any (n : Nm) (S : List UInt8) (s : Ks) (h bS bs : Nat) (w : World) (hk : KsIn w h s) (hn : okN n) (cS : w.cell? ⟨bS, 0, none⟩ = some (str S)) (cs : w.cell? ⟨bs, 0, none⟩ = some (.pointer (some ⟨h + 4, 0, none⟩))) :
    Calls Try.prog 29 #[.agg #[str n.1, str n.2], .pointer (some ⟨bS, 0, none⟩), .pointer (some ⟨bs, 0, none⟩)] w fun e w' => e = .returned (.bool (wantN s S n)) ∧ Below w.heap.size w w' := by
  have hlS : bS < w.heap.size := by
    rcases Nat.lt_or_ge bS w.heap.size with h | h
    · exact h
    · unfold World.cell? at cS; rw [Array.getElem?_eq_none h] at cS; simp at cS
  have hls : bs < w.heap.size := by
    rcases Nat.lt_or_ge bs w.heap.size with h | h
    · exact h
    · unfold World.cell? at cs; rw [Array.getElem?_eq_none h] at cs; simp at cs
  obtain ⟨W, hW⟩ : ∃ W, w.alloc (.cells #[str n.1, str n.2] 71) = W := ⟨_, rfl⟩
  have hWB := Blk.new w 71 #[str n.1, str n.2]
  have hWb : Below w.heap.size w W := by rw [← hW]; exact (Below.refl _ _).alloc (Nat.le_refl _) _
  rw [hW] at hWB
  have hkW := hk.below' hWb
  have x0 : W.cell? ⟨w.heap.size, 0, none⟩ = some (str n.1) := hWB.cell 0
  have x1 : W.cell? ⟨w.heap.size, 1, none⟩ = some (str n.2) := hWB.cell 1
  have y0 : W.cell? ⟨bS, 0, none⟩ = some (str S) := (hWb.cell hlS).trans cS
  have y1 : W.cell? ⟨bs, 0, none⟩ = some (.pointer (some ⟨h + 4, 0, none⟩)) := (hWb.cell hls).trans cs
  have z1 : W.cell? ⟨h + 4, 1, none⟩ = some (.map (some (h + 1))) := hkW.box.cell 1
  have HL : ∀ q, (Instr.lookup 52 (.map (some (h + 1))) (.agg #[str n.1, str n.2]) false).run Try.prog (W.drewN q) = .ok (.bool (isGv s n)) (W.drewN q) := fun q => look_gv (hkW.below (B := W.heap.size) (below_drewN (Below.refl _ _) q) hkW.lt) hn
  have HL0 : (Instr.lookup 52 (.map (some (h + 1))) (.agg #[str n.1, str n.2]) false).run Try.prog W = .ok (.bool (isGv s n)) W := look_gv hkW hn
  have HE := Lib.hid (show wantN s S n = (n.1 == S && !isGv s n) from rfl)
  have HWb := Lib.hid hWb
  clear hk hn cS cs hWB hWb hkW
  generalize isGv s n = gvn at *
  obtain ⟨n1, n2⟩ := n
  simp only at *
  generalize wantN s S (n1, n2) = res at *
  cases hb : (n1 == S)
  all_goals
    go_enter Try.func29, Try.ntmps29
    go_wp2_with fail
    go_quiet (fail)
    go_wp2_with fail
    go_ret
    rw [HE.out, hb]
    exact ⟨by simp, below_drewN HWb.out _⟩
/-- How two names compare. -/
def cmpN (a b : Nm) : Int := Lib.compareBytes a.2 b.2
set_option maxHeartbeats 2000000 in
theorem cmp_any (a b : Nm) (w : World) :
    Calls Try.prog 33 #[.agg #[str a.1, str a.2], .agg #[str b.1, str b.2]] w fun e w' => e = .returned (.int .i64 (cmpN a b)) ∧ ∃ o1 o2, w' = (w.alloc o1).alloc o2 := by
  have HC := Lib.hid (fun W => Try.strings_Compare ⟨a.2.toArray⟩ ⟨b.2.toArray⟩ W)
  have HE := Lib.hid (show cmpN a b = Lib.compareBytes (⟨a.2.toArray⟩ : ByteArray).data.toList (⟨b.2.toArray⟩ : ByteArray).data.toList by unfold cmpN; simp)
  rw [← HE.out] at HC
  obtain ⟨a1, a2⟩ := a
  obtain ⟨b1, b2⟩ := b
  simp only at *
  generalize cmpN (a1, a2) (b1, b2) = r at *
  clear HE
  go_enter Try.func33, Try.ntmps33
  go_wp2_with fail
  refine (HC.out _).mono ?_
  rintro e w1 ⟨rfl, rfl⟩
  go_wp2_with fail
  go_ret
  exact ⟨rfl, _, _, rfl⟩
end Go.Proofs.Ytaamoilkphjhgab
