/- Sorted tables, the reference: rowsBegin, RowsBegin at every table and head. -/
import Derived.Test.YtecpccdmmaigiaaRwBeg
import Derived.Test.YtecpccdmmaigiaaRwRef
namespace Go.Proofs.Ytecpccdmmaigiaa
set_option linter.unusedVariables false
set_option linter.unusedSimpArgs false
open Go.RowKit
/-- An append, by its run. -/
theorem rw_app {W w' : World} {ops : Array Oper} {rest : List Oper} {o : Oper} {a : Act} {Q : Exit → Act → World → Prop} {v' : Value} (hgd : o.guard = none) (s x : Operand) (t : TypeId)
    (ho : o.op = .call { callee := .builtin .append, args := #[s, x], argTypes := #[t, t] }) (vs vx : Value) (hs : a.eval s = vs) (hx : a.eval x = vx)
    (hrun : (Builtin.append_ #[t, t] o.type #[vs, vx]).run Try.prog W = .ok v' w') (h : wpList Try.prog ops Q rest (a.put o.dst v') w') : wpList Try.prog ops Q (o :: rest) a W := by
  refine wpList_plain hgd fun K hK => ?_
  unfold Oper.wp
  simp [execOp, ho, resolve, invoke, builtin, hs, hx, hrun, Result.andThen]
  exact hK _ _ h
def RbR (l : List Rw) (k : List UInt8) (w : World) (n : Nat) (gk : Nat) (s5 s10 : Value) (wr : World) : Prop :=
  ∃ j : Nat, s10 = .int .i64 (j : Int) ∧ j ≤ n ∧ gk = n - j ∧
    wr.ownsRow w.heap.size 40 2 s5 ((l.take j).filter (fun r => k.isPrefixOf r.key)).length (pcR ((l.take j).filter (fun r => k.isPrefixOf r.key))) ∧ Below w.heap.size w wr
theorem filter_yes {p : Rw → Bool} {l : List Rw} {j : Nat} (hj : j < l.length) (h : p l[j] = true) : (l.take (j + 1)).filter p = (l.take j).filter p ++ [l[j]] := by
  rw [List.take_succ_eq_append_getElem hj, List.filter_append, List.filter_cons_of_pos h]; rfl
theorem filter_no {p : Rw → Bool} {l : List Rw} {j : Nat} (hj : j < l.length) (h : p l[j] = false) : (l.take (j + 1)).filter p = (l.take j).filter p := by
  rw [List.take_succ_eq_append_getElem hj, List.filter_append, List.filter_cons_of_neg (by simp [h])]; simp
set_option maxHeartbeats 2000000 in
set_option maxRecDepth 100000 in
theorem rowsBegin_any (A : Option Addr) (n c B : Nat) (l : List Rw) (k : List UInt8) (w : World) (hl : RIn w B A n c l) (hB : B ≤ w.heap.size) (hs : Short l) (hn : n ≤ 1000) (hkl : k.length ≤ 9223372036854775807) :
    Calls Try.prog 43 #[.slice A n c, str k] w fun e w' => ∃ v, e = .returned v ∧ w'.ownsRow w.heap.size 40 2 v (l.filter (fun r => k.isPrefixOf r.key)).length (pcR (l.filter (fun r => k.isPrefixOf r.key))) ∧ Below w.heap.size w w' := by
  have hln := hl.1
  have Hl := Lib.hid hl
  have Hs := Lib.hid hs
  have Hln := Lib.hid hln
  clear hl hs hln
  go_enter Try.func43, Try.ntmps43
  go_wp2
  go_loopg [5, 10] n (RbR l k w n)
  case atStart => exact ⟨0, rfl, Nat.zero_le _, by omega, by rw [List.take_zero]; exact World.ownsRow_nil _ _ _ _, Below.refl _ _⟩
  case round =>
    obtain ⟨j, rfl, hj, hgk, ho, hbe⟩ := hrel
    have Hgk := Lib.hid hgk
    have Hbe := Lib.hid hbe
    have hszw := hbe.size
    have Ho := Lib.hid ho
    clear hgk hbe ho
    by_cases hjn : j < n
    · have hjl : j < l.length := by rw [Hln.out]; exact hjn
      obtain ⟨b, off, hA, hbB, c0, c1⟩ := (Hl.out.below (Hbe.out.mono hB)).at_ hjl
      subst hA
      have hbw : b < wr.heap.size := by omega
      have hsh := Hs.out _ (List.getElem_mem hjl)
      have HY := Lib.hid (fun h => filter_yes (p := fun r => k.isPrefixOf r.key) hjl h)
      have HN := Lib.hid (fun h => filter_no (p := fun r => k.isPrefixOf r.key) hjl h)
      generalize hr : l[j] = r at *
      obtain ⟨rk, rv⟩ := r
      simp only at c0 c1 hsh
      have hi1 : (j : Int) < (n : Int) := by omega
      have HW := Lib.hid (Hbe.out.alloc hszw (.cells #[str rk, str rv] 40))
      have hflen := List.length_filter_le (fun r : Rw => k.isPrefixOf r.key) (l.take j)
      rw [List.length_take] at hflen
      clear hr
      by_cases hle : k.length ≤ rk.length
      · have hlei : (k.length : Int) ≤ (rk.length : Int) := by omega
        have hcut := fun W => run_str_h (P := Try.prog) (s := rk) W 9 Try.underlying9 .i64 (k.length : Int) k.length rfl hle
        cases hp : k.isPrefixOf rk
        · have hpb : (rk.take k.length == k) = false := by rw [pre_take]; exact hp
          have HF := HN.out hp
          have Ho2 := Lib.hid (Ho.out.alloc (.cells #[str rk, str rv] 40))
          rw [← HF] at Ho2
          clear hp HY HN HF
          go_wp2_with fail
          go_roundg (n - (j + 1))
          case measure => have := Hgk.out; omega
          case rel => exact ⟨j + 1, rfl, by omega, rfl, Ho2.out, HW.out⟩
        · have hpb : (rk.take k.length == k) = true := by rw [pre_take]; exact hp
          have HF := Lib.hid (HY.out hp)
          obtain ⟨v', wf, hrun, ho', hg'⟩ := run_app_row (wr.alloc (.cells #[str rk, str rv] 40)) w.heap.size _ u5 _ ⟨rk, rv⟩ (Ho.out.alloc _) (by omega) (by simp; omega)
          rw [← HF.out] at ho'
          have hlen2 := congrArg List.length HF.out
          simp only [List.length_append, List.length_singleton] at hlen2
          rw [← hlen2] at ho'
          have Ho' := Lib.hid ho'
          have HW' := Lib.hid (below_own (HW.out.alloc (by simp; omega) (.cells #[str rk, str rv] 40)) hg' ((Ho.out.alloc _).alloc _) (Nat.le_refl _) (by simp; omega))
          rw [World.size_alloc] at hrun
          have Hrun := Lib.hid hrun
          clear hp HY HN HF ho' hlen2 hg' hrun
          go_wp2_with (first | (at_builtin; refine rw_app rfl _ _ _ rfl _ _ (by rfl) (by rfl) Hrun.out ?_; clear Hrun) | fail)
          go_roundg (n - (j + 1))
          case measure => have := Hgk.out; omega
          case rel => exact ⟨j + 1, rfl, by omega, rfl, Ho'.out, HW'.out⟩
      · have hlei : ¬ (k.length : Int) ≤ (rk.length : Int) := by omega
        have HF := HN.out (pre_short hle)
        have Ho2 := Lib.hid (Ho.out.alloc (.cells #[str rk, str rv] 40))
        rw [← HF] at Ho2
        clear HY HN HF
        go_wp2_with fail
        go_roundg (n - (j + 1))
        case measure => have := Hgk.out; omega
        case rel => exact ⟨j + 1, rfl, by omega, rfl, Ho2.out, HW.out⟩
    · have hj2 : j = l.length := by have := Hln.out; omega
      subst hj2
      have Ho2 := Lib.hid Ho.out
      rw [List.take_length] at Ho2
      clear Ho
      go_wp2_with fail
      go_ret
      exact ⟨_, rfl, Ho2.out, Hbe.out⟩
theorem refBegin_any (A : Option Addr) (n c B : Nat) (l : List Rw) (k : List UInt8) (w : World) (hl : RIn w B A n c l) (hB : B ≤ w.heap.size) (hs : Short l) (hn : n ≤ 9223372036854775807) (hkl : k.length ≤ 9223372036854775807) :
    Calls Try.prog 22 #[.slice A n c, str k] w fun e w' => ∃ v, e = .returned (.tuple #[v, .int .i64 (begN l k).2]) ∧ w'.ownsRow w.heap.size 40 2 v (begN l k).1.length (pcR (begN l k).1) ∧ Below w.heap.size w w' := by
  have hln := hl.1
  have H1 := Lib.hid (refFault_any A n c B l w hl hB hs hn)
  have Hl := Lib.hid hl
  have Hs := Lib.hid hs
  clear hl hs
  by_cases h0 : chkT l = 0
  · have HF := Lib.hid (chkT_fit h0)
    rw [h0] at H1
    have hn40 : n ≤ 40 := by have := HF.out.len; omega
    have HR := Lib.hid (begin_ok h0 k)
    go_enter Try.func22, Try.ntmps22
    go_wp2_with fail
    refine H1.out.mono ?_
    rintro e w1 ⟨rfl, hb1⟩
    have Hb1 := Lib.hid hb1
    have H2 := Lib.hid (rowsBegin_any A n c B l k w1 (Hl.out.below (hb1.mono hB)) (by have := hb1.size; omega) Hs.out (by omega) hkl)
    clear hb1 H1
    go_wp2_with fail
    refine H2.out.mono ?_
    rintro e w2 ⟨v, rfl, ho, hb2⟩
    have Ho := Lib.hid ho
    have Hb2 := Lib.hid (Hb1.out.trans (hb2.mono Hb1.out.size))
    clear ho hb2 H2
    go_wp2_with fail
    go_ret2
    exact ⟨v, by rw [HR.out] <;> rfl, by rw [HR.out]; exact rw_le Ho.out Hb1.out.size, Hb2.out⟩
  · have HR := Lib.hid (show begN l k = ([], chkT l) by unfold begN; rw [if_pos h0])
    generalize chkT l = x at *
    have h0b : (x == 0) = false := by simpa using h0
    go_enter Try.func22, Try.ntmps22
    go_wp2_with fail
    refine H1.out.mono ?_
    rintro e w1 ⟨rfl, hb1⟩
    have Hb1 := Lib.hid hb1
    clear hb1 H1
    go_wp2_with fail
    go_ret2
    exact ⟨.slice none 0 0, by rw [HR.out] <;> rfl, by rw [HR.out]; exact World.ownsRow_nil _ _ _ _, Hb1.out⟩
end Go.Proofs.Ytecpccdmmaigiaa
