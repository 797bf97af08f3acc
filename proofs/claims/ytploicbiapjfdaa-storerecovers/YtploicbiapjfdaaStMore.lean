/- The store: is there a later change of a key? (slices.ContainsFunc with settled's test). -/
import Derived.Test.YtploicbiapjfdaaStM
import Derived.Test.YtploicbiapjfdaaRwApp
namespace Go.Proofs.Ytploicbiapjfdaa
set_option linter.unusedVariables false
set_option linter.unusedSimpArgs false
open Go.RowKit
theorem sameKey_any (k : List UInt8) (q : Rw) (g : Nat) (w : World) (hg : g < w.heap.size) (hc : w.cell? ⟨g, 0, none⟩ = some (str k)) :
    Calls Try.prog 87 #[.agg #[str q.key, str q.val], .pointer (some ⟨g, 0, none⟩)] w fun e w' => e = .returned (.bool (q.key == k)) ∧ Below w.heap.size w w' := by
  obtain ⟨W, hW⟩ : ∃ W, w.alloc (.cells #[str q.key, str q.val] 50) = W := ⟨_, rfl⟩
  have hB := Blk.new w 50 #[str q.key, str q.val]
  rw [hW] at hB
  have hb : Below w.heap.size w W := by rw [← hW]; exact (Below.refl _ _).alloc (Nat.le_refl _) _
  have x0 : W.cell? ⟨w.heap.size, 0, none⟩ = some (str q.key) := hB.cell 0
  have y0 : W.cell? ⟨g, 0, none⟩ = some (str k) := (hb.cell (p := ⟨g, 0, none⟩) hg).trans hc
  have Hb := Lib.hid hb
  clear hB hb hc
  go_enter Try.func87, Try.ntmps87
  go_wp2_with fail
  go_ret
  exact ⟨rfl, Hb.out⟩
def IfM (w : World) (k : List UInt8) (l : List Rw) (n : Nat) (gk : Nat) (vi : Value) (wr : World) : Prop :=
  ∃ i : Nat, vi = .int .i64 (i : Int) ∧ i ≤ n ∧ gk = n - i ∧ (l.take i).any (fun q => q.key == k) = false ∧ Below w.heap.size w wr
set_option maxHeartbeats 1000000 in
theorem indexM_any (A : Option Addr) (n c B g : Nat) (k : List UInt8) (l : List Rw) (w : World) (hl : RIn w B A n c l) (hB : B ≤ w.heap.size) (hn : n ≤ 9223372036854775807) (hg : g < w.heap.size) (hc : w.cell? ⟨g, 0, none⟩ = some (str k)) :
    Calls Try.prog 71 #[.slice A n c, .func (.func 87) #[] #[.pointer (some ⟨g, 0, none⟩)]] w fun e w' => ∃ i : Int, e = .returned (.int .i64 i) ∧ decide (0 ≤ i) = l.any (fun q => q.key == k) ∧ Below w.heap.size w w' := by
  have Hln := Lib.hid hl.1
  have Hl := Lib.hid hl
  have Hc := Lib.hid hc
  clear hl hc
  go_enter Try.func71, Try.ntmps71
  go_wp2
  go_loopg [8] n (IfM w k l n)
  case atStart => exact ⟨0, rfl, Nat.zero_le _, by omega, rfl, Below.refl _ _⟩
  case round =>
    obtain ⟨i, rfl, hk, hgk, hall, hbe⟩ := hrel
    have Hgk := Lib.hid hgk
    have Hall := Lib.hid hall
    have Hbe := Lib.hid hbe
    have hszw := hbe.size
    clear hgk hall hbe
    by_cases hkn : i < n
    · have hkl : i < l.length := by rw [Hln.out]; exact hkn
      obtain ⟨b, off, hA, hbB, c0, c1⟩ := (Hl.out.below (Hbe.out.mono hB)).at_ hkl
      subst hA
      have H1 := Lib.hid (sameKey_any k l[i] g wr (by omega) ((Hbe.out.cell (p := ⟨g, 0, none⟩) hg).trans Hc.out))
      have Ht := Lib.hid (show (l.take (i + 1)).any (fun q => q.key == k) = (l[i].key == k) by
        rw [List.take_succ_eq_append_getElem hkl, List.any_append, Hall.out]; simp)
      have Hm := Lib.hid (show (l[i].key == k) = true → l.any (fun q => q.key == k) = true from fun h => List.any_eq_true.2 ⟨_, List.getElem_mem hkl, h⟩)
      generalize l[i] = r at *
      have hi1 : (i : Int) < (n : Int) := by omega
      cases hb : (r.key == k)
      · rw [hb] at Ht H1
        clear hb
        go_wp2_with fail
        refine H1.out.mono ?_
        rintro e w1 ⟨rfl, hb1⟩
        have Hb1 := Lib.hid (Hbe.out.trans (hb1.mono hszw))
        clear hb1 H1
        go_wp2
        go_roundg (n - (i + 1))
        case measure => have := Hgk.out; omega
        case rel => exact ⟨i + 1, by go_num, by omega, rfl, Ht.out, Hb1.out⟩
      · have HG := Lib.hid (show decide ((0 : Int) ≤ (i : Int)) = l.any (fun q => q.key == k) by
          rw [Hm.out hb, decide_eq_true (by omega)])
        rw [hb] at H1
        clear hb
        go_wp2_with fail
        refine H1.out.mono ?_
        rintro e w1 ⟨rfl, hb1⟩
        have Hb1 := Lib.hid (Hbe.out.trans (hb1.mono hszw))
        clear hb1 H1
        go_wp2
        go_ret
        exact ⟨i, rfl, HG.out, Hb1.out⟩
    · have hkn' : i = l.length := by have := Hln.out; omega
      have HG := Lib.hid (show decide ((0 : Int) ≤ (-1 : Int)) = l.any (fun q => q.key == k) by
        have := Hall.out
        rw [hkn', List.take_length] at this
        rw [this]; rfl)
      clear hkn'
      go_wp2
      go_ret
      exact ⟨-1, rfl, HG.out, Hbe.out⟩
theorem containsM_any (A : Option Addr) (n c B g : Nat) (k : List UInt8) (l : List Rw) (w : World) (hl : RIn w B A n c l) (hB : B ≤ w.heap.size) (hn : n ≤ 9223372036854775807) (hg : g < w.heap.size) (hc : w.cell? ⟨g, 0, none⟩ = some (str k)) :
    Calls Try.prog 52 #[.slice A n c, .func (.func 87) #[] #[.pointer (some ⟨g, 0, none⟩)]] w fun e w' => e = .returned (.bool (l.any (fun q => q.key == k))) ∧ Below w.heap.size w w' := by
  have H0 := Lib.hid (indexM_any A n c B g k l w hl hB hn hg hc)
  clear hl hc
  go_enter Try.func52, Try.ntmps52
  go_wp2_with fail
  refine H0.out.mono ?_
  rintro e w1 ⟨i, rfl, h3, hb⟩
  go_wp2
  go_ret
  exact ⟨ret_bool (by rw [← h3]), hb⟩
end Go.Proofs.Ytploicbiapjfdaa
