/- sameRows of bagnallkeep at two lists that hold the same rows. -/
import Derived.Test.YtploicbiapjfdaaBunRA
import Derived.BigQuiet
namespace Go.Proofs.Ytploicbiapjfdaa
set_option linter.unusedVariables false
set_option linter.unusedSimpArgs false
open Go.RowKit
def SameRK (w : World) (n : Nat) (gk : Nat) (i : Value) (wr : World) : Prop :=
  ∃ k q : Nat, i = .int .i64 (k : Int) ∧ k ≤ n ∧ gk = n - k ∧ wr = w.drewN q
set_option maxHeartbeats 1000000 in
theorem sameRowsK_any (A A' : Option Addr) (n c c' B B' : Nat) (l : List Rw) (w : World) (h1 : RIn w B A n c l) (h2 : RIn w B' A' n c' l) (hn : n ≤ 1048576) :
    Calls Try.prog 22 #[.slice A n c, .slice A' n c'] w fun e w' => e = .returned (.bool true) ∧ ∃ k, w' = w.drewN k := by
  have hln := h1.1
  have hb : ((n : Int) != (n : Int)) = false := by simp
  go_enter Try.func22, Try.ntmps22
  go_wp2
  go_loopg [5] n (SameRK w n)
  case atStart => exact ⟨0, 0, rfl, by omega, by omega, rfl⟩
  case round =>
    obtain ⟨k, q, rfl, hk, hg, rfl⟩ := hrel
    have Hg := Lib.hid hg
    clear hg
    by_cases hlt : k < n
    · have hkl : k < l.length := by omega
      obtain ⟨b, off, hA, _, c0, c1⟩ := h1.at_ hkl
      obtain ⟨b', off', hA', _, d0, d1⟩ := h2.at_ hkl
      subst hA hA'
      clear h1 h2
      generalize l[k] = r at *
      obtain ⟨rk, rv⟩ := r
      simp only at c0 c1 d0 d1
      have hki : (k : Int) < (n : Int) := by omega
      have heq := fun W => eq_row rk rv W
      have hgd := fun x y W => gd_row BinOp.neq x y rk rv W
      go_wp2_with fail
      go_quiet (fail)
      go_wp2
      go_roundg (n - (k + 1))
      case measure => have := Hg.out; omega
      case rel => exact ⟨k + 1, _, by go_num, by omega, rfl, rfl⟩
    · have hki : ¬ (k : Int) < (n : Int) := by omega
      go_wp2
      go_ret
      exact ⟨rfl, _, rfl⟩
end Go.Proofs.Ytploicbiapjfdaa
