/- Sorted tables, the reference: RowsFind at every table and key. -/
import Derived.Test.YtecpccdmmaigiaaRwFind
import Derived.Test.YtecpccdmmaigiaaRwRef
namespace Go.Proofs.Ytecpccdmmaigiaa
set_option linter.unusedVariables false
set_option linter.unusedSimpArgs false
open Go.RowKit
def RfR (l : List Rw) (k : List UInt8) (w : World) (n : Nat) (gk : Nat) (v : Value) (wr : World) : Prop :=
  ∃ j : Nat, v = .int .i64 (j : Int) ∧ j ≤ n ∧ gk = n - j ∧ look (l.drop j) k = look l k ∧ Below w.heap.size w wr
set_option maxHeartbeats 2000000 in
set_option maxRecDepth 100000 in
theorem refFind_any (A : Option Addr) (n c B : Nat) (l : List Rw) (k : List UInt8) (w : World) (hl : RIn w B A n c l) (hB : B ≤ w.heap.size) (hs : Short l) (hn : n ≤ 9223372036854775807) :
    Calls Try.prog 20 #[.slice A n c, str k] w fun e w' => e = .returned (.tuple #[str (findN l k).1, .int .i64 (findN l k).2]) ∧ Below w.heap.size w w' := by
  have hln := hl.1
  have H1 := Lib.hid (refFault_any A n c B l w hl hB hs hn)
  have Hl := Lib.hid hl
  clear hl hs
  by_cases h0 : chkT l = 0
  · have HF := Lib.hid (chkT_fit h0)
    rw [h0] at H1
    have hn40 : n ≤ 40 := by have := HF.out.len; omega
    have Hln := Lib.hid hln
    have hfn : findN l k = if look l k = [] then ([], 8) else (look l k, 0) := by unfold findN; rw [if_neg (by simp [h0])]
    have Hfn := Lib.hid hfn
    clear hfn hln h0
    go_enter Try.func20, Try.ntmps20
    go_wp2_with fail
    refine H1.out.mono ?_
    rintro e w1 ⟨rfl, hb1⟩
    have Hb1 := Lib.hid hb1
    clear hb1 H1
    go_wp2_with fail
    go_loopg [16] n (RfR l k w n)
    case atStart => exact ⟨0, rfl, Nat.zero_le _, by omega, rfl, Hb1.out⟩
    case round =>
      obtain ⟨j, rfl, hj, hgk, hlk, hbe⟩ := hrel
      have Hgk := Lib.hid hgk
      have Hlk := Lib.hid hlk
      have Hbe := Lib.hid hbe
      have hszw := hbe.size
      clear hgk hlk hbe
      by_cases hjn : j < n
      · have hjl : j < l.length := by rw [Hln.out]; exact hjn
        obtain ⟨b, off, hA, hbB, c0, c1⟩ := (Hl.out.below (Hbe.out.mono hB)).at_ hjl
        subst hA
        have hbw : b < wr.heap.size := by omega
        have hgd := HF.out.good _ (List.getElem_mem hjl)
        have HD := Lib.hid (List.drop_eq_getElem_cons hjl)
        generalize l[j] = r at *
        obtain ⟨rk, rv⟩ := r
        simp only at c0 c1
        have hi1 : (j : Int) < (n : Int) := by omega
        have HW := Lib.hid (Hbe.out.alloc hszw (.cells #[str rk, str rv] 40))
        by_cases hk : rk = k
        · have HR := Lib.hid (show findN l k = (rv, 0) by
            have e : look l k = rv := by rw [← Hlk.out, HD.out, look, if_pos hk]
            rw [Hfn.out, e, if_neg hgd.2])
          have hkb : (rk == k) = true := by simpa using hk
          clear hgd hk
          go_wp2_with fail
          go_ret2
          exact ⟨by rw [HR.out] <;> rfl, HW.out⟩
        · have hkb : (rk == k) = false := by simpa using hk
          have HE := Lib.hid (show look (l.drop (j + 1)) k = look l k by rw [← Hlk.out, HD.out, look, if_neg hk])
          clear hgd
          go_wp2_with fail
          go_roundg (n - (j + 1))
          case measure => have := Hgk.out; omega
          case rel => exact ⟨j + 1, rfl, by omega, rfl, HE.out, HW.out⟩
      · have hj2 : j = l.length := by have := Hln.out; omega
        have HR := Lib.hid (show findN l k = ([], 8) by
          rw [Hfn.out, if_pos]
          rw [← Hlk.out, hj2, List.drop_length]; rfl)
        clear hj2
        go_wp2_with fail
        go_ret2
        exact ⟨by rw [HR.out] <;> rfl, Hbe.out⟩
  · have HR := Lib.hid (show findN l k = ([], chkT l) by unfold findN; rw [if_pos h0])
    generalize chkT l = x at *
    have h0b : (x == 0) = false := by simpa using h0
    go_enter Try.func20, Try.ntmps20
    go_wp2_with fail
    refine H1.out.mono ?_
    rintro e w1 ⟨rfl, hb1⟩
    have Hb1 := Lib.hid hb1
    clear hb1 H1
    go_wp2_with fail
    go_ret2
    exact ⟨by rw [HR.out] <;> rfl, Hb1.out⟩
end Go.Proofs.Ytecpccdmmaigiaa
