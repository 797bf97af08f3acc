/- One-time keys: leave and replaceSpare. -/
import Derived.Test.YtgckihglgnbaoaaKySrt
import Derived.Test.YtgckihglgnbaoaaKyName
import Derived.StillTailTactics
namespace Go.Proofs.Ytgckihglgnbaoaa
set_option linter.unusedVariables false
set_option linter.unusedSimpArgs false
open Go.RowKit
attribute [local go_sem high] str_mk
/-- The five cells of an ask. -/
def akC (a : Ak) : Array Value := #[.int .i64 a.kind, str a.sort, str a.id, str a.body, .int .i64 a.by_]
def AkOk (a : Ak) : Prop := a.sort.length ≤ 140737488355328 ∧ a.id.length ≤ 140737488355328 ∧ a.body.length ≤ 140737488355328 ∧ -9223372036854775808 ≤ a.by_ ∧ a.by_ ≤ 9223372036854775807
theorem AkOk.old {a : Ak} (h : AkOk a) : a.sort.length + a.id.length + 2 ≤ maxLen ∧ a.body.length ≤ maxLen ∧ -9223372036854775808 ≤ a.by_ ∧ a.by_ ≤ 9223372036854775807 := by
  obtain ⟨h1, h2, h3, h4⟩ := h
  exact ⟨by unfold maxLen; omega, by unfold maxLen; omega, h4⟩
def KPost (h : Nat) (X : Int × Ks) (w : World) (e : Ending) (w' : World) : Prop := e = .returned (.int .i64 X.1) ∧ KsIn w' h X.2 ∧ Beside (Four h) w w'
theorem look_up {w : World} {h : Nat} {s : Ks} (k : KsIn w h s) {n : KNm} (hn : okN n) (c : Bool) : (Instr.lookup 72 (.map (some h)) (ekN n) c).run Try.prog w = .ok (lookV str (str []) c (getA s.up n)) w :=
  k.up.look keyN Try.underlying72 (ky_zeroS w) hn c
theorem Gl.beside {w w' : World} {N : Nat → Prop} (hg : Gl w) (hb : Beside N w w') (hn : ¬ N 0) : Gl w' := by
  obtain ⟨m, hm⟩ := hg
  exact ⟨m, (hb.cell (cell_lt hm) hn).trans hm⟩
theorem below_tail {B : Nat} {w w1 w2 : World} (h1 : Below B w w1) (h2 : Below w1.heap.size w1 w2) (hB : B ≤ w1.heap.size) : Below B w w2 := h1.trans (h2.mono hB)
set_option maxHeartbeats 4000000 in
set_option maxRecDepth 100000 in
theorem leave_any (a : Ak) (s : Ks) (h : Nat) (w : World) (hk : KsIn w h s) (hup : s.up.length ≤ 1000) (hg : Gl w) (hgh : 0 < h) (ha : AkOk a) :
    Calls Try.prog 33 #[.pointer (some ⟨h + 4, 0, none⟩), .agg #[.int .i64 a.kind, str a.sort, str a.id, str a.body, .int .i64 a.by_]] w (KPost h (leaveR s a.sort a.id a.body) w) := by
  obtain ⟨hl1, hl2, _, _⟩ := ha.old
  have hn : okN (a.sort, a.id) := ⟨show a.sort.length ≤ maxLen by omega, show a.id.length ≤ maxLen by omega⟩
  obtain ⟨W, hW⟩ : ∃ W, w.alloc (.cells #[.int .i64 a.kind, str a.sort, str a.id, str a.body, .int .i64 a.by_] 55) = W := ⟨_, rfl⟩
  have hWB := Blk.new w 55 #[.int .i64 a.kind, str a.sort, str a.id, str a.body, .int .i64 a.by_]
  have hWb : Below w.heap.size w W := by rw [← hW]; exact (Below.refl _ _).alloc (Nat.le_refl _) _
  rw [hW] at hWB
  have x1 : W.cell? ⟨w.heap.size, 1, none⟩ = some (str a.sort) := hWB.cell 1
  have x2 : W.cell? ⟨w.heap.size, 2, none⟩ = some (str a.id) := hWB.cell 2
  have HC := Lib.hid (checkName_any a.sort a.id W (hg.below hWb) (by omega))
  have HE := Lib.hid (show leaveR s a.sort a.id a.body = (if nameR a.sort a.id ≠ 0 then (nameR a.sort a.id, s) else if (getA s.up (a.sort, a.id)).isSome = true then (7, s) else if 12 ≤ (leftR s a.sort).length then (10, s) else (0, { s with up := putA s.up (a.sort, a.id) a.body })) from rfl)
  have Hk := Lib.hid hk
  have HWb := Lib.hid hWb
  have Hn := Lib.hid hn
  have HWB := Lib.hid hWB
  have hwl : w.heap.size < W.heap.size := hWB.lt
  clear hk hWb hWB hn hg
  obtain ⟨kd, S, I, B, by_⟩ := a
  simp only at *
  generalize leaveR s S I B = R at *
  generalize nameR S I = r at *
  go_enter Try.func33, Try.ntmps33
  go_wp2_with fail
  refine HC.out.mono ?_
  rintro e w1 ⟨rfl, hb1⟩
  have hbw1 : Below w.heap.size w w1 := below_tail HWb.out hb1 HWb.out.size
  have hB1 := (hb1.block _ hwl).trans HWB.out
  have y1 : w1.cell? ⟨w.heap.size, 1, none⟩ = some (str S) := Blk.cell (w := w1) hB1 1
  have y2 : w1.cell? ⟨w.heap.size, 2, none⟩ = some (str I) := Blk.cell (w := w1) hB1 2
  have y3 : w1.cell? ⟨w.heap.size, 3, none⟩ = some (str B) := Blk.cell (w := w1) hB1 3
  have hw1 : w.heap.size < w1.heap.size := Nat.lt_of_lt_of_le hwl hb1.size
  have Hbw1 := Lib.hid hbw1
  clear hb1 hB1 hbw1 HC x1 x2
  by_cases hr : r = 0
  · subst hr
    have HE2 := Lib.hid (HE.out.trans (if_neg (by simp)))
    obtain ⟨W2, hW2⟩ : ∃ W2, w1.alloc (.cells #[str S, str I] 96) = W2 := ⟨_, rfl⟩
    have hWB2 := Blk.new w1 96 #[str S, str I]
    have hWb2 : Below w1.heap.size w1 W2 := by rw [← hW2]; exact (Below.refl _ _).alloc (Nat.le_refl _) _
    rw [hW2] at hWB2
    have hk2 := Hk.out.below' (below_tail Hbw1.out hWb2 Hbw1.out.size)
    have z0 : W2.cell? ⟨w1.heap.size, 0, none⟩ = some (str S) := hWB2.cell 0
    have z1 : W2.cell? ⟨w1.heap.size, 1, none⟩ = some (str I) := hWB2.cell 1
    have z2 : W2.cell? ⟨w.heap.size, 1, none⟩ = some (str S) := (hWb2.cell hw1).trans y1
    have z3 : W2.cell? ⟨w.heap.size, 3, none⟩ = some (str B) := (hWb2.cell hw1).trans y3
    have z4 : W2.cell? ⟨h + 4, 0, none⟩ = some (.map (some h)) := hk2.box.cell 0
    have hh4 : h + 4 < W2.heap.size := hk2.lt
    have hw2 : w1.heap.size < W2.heap.size := hWB2.lt
    have HL0 := look_up hk2 Hn.out true
    have HL : ∀ q, (Instr.lookup 72 (.map (some h)) (ekN (S, I)) true).run Try.prog (W2.drewN q) = .ok (lookV str (str []) true (getA s.up (S, I))) (W2.drewN q) := fun q => look_up (hk2.below (B := W2.heap.size) (below_drewN (Below.refl _ _) q) hk2.lt) Hn.out true
    unfold ekN at HL HL0
    simp only at HL HL0
    have Hk2 := Lib.hid hk2
    have Hbw2 := Lib.hid (below_tail Hbw1.out hWb2 Hbw1.out.size)
    clear hk2 hWB2 hWb2 HE
    cases hga : getA s.up (S, I) with
    | some v =>
      rw [hga] at HL HL0
      unfold lookV at HL HL0
      simp only [if_true] at HL HL0
      have HR := Lib.hid (show R = (7, s) by rw [HE2.out, hga]; rfl)
      clear HE2
      go_wp2_with fail
      go_quiet (fail)
      go_wp2_with fail
      go_ret
      rw [HR.out]
      exact ⟨rfl, Hk2.out.below (below_drewN (Below.refl W2.heap.size _) _) hh4, (Beside.of_below Hbw2.out).drewN _⟩
    | none =>
      rw [hga] at HL HL0
      unfold lookV at HL HL0
      simp only [if_true, Bool.false_eq_true, if_false] at HL HL0
      have HR := Lib.hid (show R = (if 12 ≤ (leftR s S).length then (10, s) else (0, { s with up := putA s.up (S, I) B })) by rw [HE2.out, hga]; exact if_neg (by simp))
      clear HE2
      go_wp2_with fail
      go_quiet (fail)
      go_wp2_with fail
      refine (left_ok S s h _ (Hk2.out.below (B := W2.heap.size) (below_drewN (Below.refl _ _) _) hh4) hup).mono ?_
      rintro e w4 ⟨v, rfl, ho, hb4⟩
      have hb4 : Below W2.heap.size W2 w4 := (below_drewN (Below.refl W2.heap.size W2) _).trans hb4
      obtain ⟨A, c, rfl, -⟩ := own_form ho
      obtain ⟨m, hm⟩ : ∃ m, (leftR s S).length = m := ⟨_, rfl⟩
      rw [hm]
      have Hm := Lib.hid hm
      have hk4 := Hk2.out.below' hb4
      have u0 : w4.cell? ⟨w1.heap.size, 0, none⟩ = some (str S) := (hb4.cell hw2).trans z0
      have u1 : w4.cell? ⟨w1.heap.size, 1, none⟩ = some (str I) := (hb4.cell hw2).trans z1
      have u3 : w4.cell? ⟨w.heap.size, 3, none⟩ = some (str B) := (hb4.cell (show w.heap.size < W2.heap.size by omega)).trans z3
      have u4 : w4.cell? ⟨h + 4, 0, none⟩ = some (.map (some h)) := hk4.box.cell 0
      have Hk4 := Lib.hid hk4
      have Hb4 := Lib.hid (below_tail Hbw2.out hb4 Hbw2.out.size)
      clear hm hk4 hb4 ho z0 z1 z2 z3 z4 y1 y2 y3 HL HL0
      by_cases hmm : 12 ≤ m
      · have hmi : (12 : Int) ≤ (m : Int) := by omega
        have HR2 := Lib.hid (HR.out.trans (if_pos (by rw [Hm.out]; exact hmm)))
        clear HR
        go_wp2_with fail
        go_ret
        rw [HR2.out]
        exact ⟨rfl, Hk4.out, Beside.of_below Hb4.out⟩
      · have hmi : ¬ (12 : Int) ≤ (m : Int) := by omega
        have HR2 := Lib.hid (HR.out.trans (if_neg (by rw [Hm.out]; exact hmm)))
        clear HR
        go_wp2_with fail
        go_still_tail 7, (by kernel_rfl)
        change wpList _ _ _ _ _ w4.drew
        have hb4d : Below w4.heap.size w4 w4.drew := below_drewN (Below.refl _ _) 1
        have Hk4d := Lib.hid (Hk4.out.below' hb4d)
        have Hb4d := Lib.hid (below_tail Hb4.out hb4d Hb4.out.size)
        clear hb4d u0 u1 u3 u4
        generalize w4.drew = w5 at *
        go_wp2_with (first
          | (at_mapUpdate; refine wpList_mapUpdate_it rfl _ _ _ _ rfl keyN Try.underlying72 rfl Hk4d.out.up (S, I) B rfl rfl Hn.out ?_; intro w6 hm6 hb6 hs6)
          | fail)
        go_ret
        rw [HR2.out]
        exact ⟨rfl, Hk4d.out.put_up hm6 hb6, (Beside.of_below Hb4d.out).trans (hb6.mono fun k _ hk => by subst hk; exact ⟨Nat.le_refl _, by omega⟩)⟩
  · have HR := Lib.hid (HE.out.trans (if_pos hr))
    have hk1 := Lib.hid (Hk.out.below' Hbw1.out)
    clear HE
    go_wp2_with fail
    go_ret
    rw [HR.out]
    exact ⟨rfl, hk1.out, Beside.of_below Hbw1.out⟩
end Go.Proofs.Ytgckihglgnbaoaa
