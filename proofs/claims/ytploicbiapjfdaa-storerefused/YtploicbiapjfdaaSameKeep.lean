/- sameBytes: what the call returns. -/
import Derived.Test.YtploicbiapjfdaaRows
import Derived.Test.YtploicbiapjfdaaBunA
import Derived.BigQuiet
import Derived.WalkSmall
namespace Go.Proofs.Ytploicbiapjfdaa
set_option linter.unusedVariables false
set_option linter.unusedSimpArgs false
open Go.RowKit
def SameRelkeep (w : World) (l r : List UInt8) (gk : Nat) (i : Value) (wr : World) : Prop :=
  ∃ k q : Nat, i = .int .i64 k ∧ k ≤ l.length ∧ gk = l.length - k ∧ l.take k = r.take k ∧ wr = w.drewN q

set_option maxHeartbeats 1000000 in
theorem samekeep_any (A B : Option Addr) (n m c d : Nat) (l r : List UInt8) (w : World) (h1 : Holds w w.heap.size 1 A n (l.map bv)) (h2 : Holds w w.heap.size 1 B m (r.map bv)) (hn : n ≤ 1048576) (hm : m ≤ 1048576) :
    Calls Try.prog 25 #[.slice A n c, .slice B m d] w fun e w' => e = .returned (.bool (l == r)) ∧ ∃ k, w' = w.drewN k := by
  have e1 := h1.len
  have e2 := h2.len
  by_cases hnm : n = m
  · subst hnm
    have hb : ((n : Int) != (n : Int)) = false := by simp
    have hl1 : l.length ≤ n := by omega
    have hl2 : n ≤ l.length := by omega
    have hl3 : n ≤ r.length := by omega
    have hl4 : r.length ≤ n := by omega
    clear e1 e2
    go_enter Try.func25, Try.ntmps25
    go_wp2
    go_loopg [5] l.length (SameRelkeep w l r)
    case atStart => exact ⟨0, 0, rfl, by omega, by omega, by simp, rfl⟩
    case round =>
      obtain ⟨k, q, rfl, hk, hg, ht, rfl⟩ := hrel
      have Ht := Lib.hid ht
      have Hg := Lib.hid hg
      clear ht hg
      by_cases hlt : k < n
      · obtain ⟨b, off, hkl, rfl, _, hc1⟩ := h1.byte hlt
        obtain ⟨b', off', hkr, rfl, _, hc2⟩ := h2.byte hlt
        have hki : (k : Int) < (n : Int) := by omega
        by_cases heq : l[k] = r[k]
        · have Hs := Lib.hid (show l.take (k + 1) = r.take (k + 1) by
            rw [List.take_succ_eq_append_getElem hkl, List.take_succ_eq_append_getElem hkr, Ht.out, heq])
          have hne : ((l[k].toNat : Int) != (r[k].toNat : Int)) = false := by simp [heq]
          generalize l[k].toNat = x at *
          generalize r[k].toNat = y at *
          clear heq
          go_wp2_with fail
          go_quiet (fail)
          go_wp2
          go_roundg (l.length - (k + 1))
          case measure => have := Hg.out; omega
          case rel => exact ⟨k + 1, _, by go_num, by omega, rfl, Hs.out, rfl⟩
        · have Hs := Lib.hid (show (l == r) = false by
            rw [beq_eq_false_iff_ne]
            rintro rfl
            exact heq rfl)
          have hne : ((l[k].toNat : Int) != (r[k].toNat : Int)) = true := by
            rw [bne_iff_ne]
            intro h
            exact heq (UInt8.toNat_inj.1 (by omega))
          generalize l[k].toNat = x at *
          generalize r[k].toNat = y at *
          clear heq
          go_wp2_with fail
          go_quiet (fail)
          go_wp2
          go_ret
          exact ⟨by rw [Hs.out]; rfl, _, World.drewN_drewN _ _ _⟩
      · have Hs := Lib.hid (show (l == r) = true by
          rw [beq_iff_eq]
          have := Ht.out
          rwa [List.take_of_length_le (by omega), List.take_of_length_le (by omega)] at this)
        go_wp2
        go_ret
        exact ⟨by rw [Hs.out]; rfl, _, rfl⟩
  · have hb : ((n : Int) != (m : Int)) = true := by rw [bne_iff_ne]; omega
    have Hs := Lib.hid (show (l == r) = false by
      rw [beq_eq_false_iff_ne]
      rintro rfl
      omega)
    clear e1 e2
    go_enter Try.func25, Try.ntmps25
    go_wp2
    go_ret
    exact ⟨by rw [Hs.out]; rfl, 0, rfl⟩
end Go.Proofs.Ytploicbiapjfdaa
