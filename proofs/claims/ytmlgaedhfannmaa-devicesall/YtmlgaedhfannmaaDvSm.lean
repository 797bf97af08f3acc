/- Device lists compared: two that are the same. -/
import Derived.Test.YtmlgaedhfannmaaDvDo
import Derived.BigQuiet
namespace Go.Proofs.Ytmlgaedhfannmaa
set_option linter.unusedVariables false
set_option linter.unusedSimpArgs false
open Go.RowKit
theorem eq_dev2 (a b : List UInt8) (d : Nat) (w : World) : (Op.equalIn (d + 2) 42 (.agg #[str a, str b]) (.agg #[str a, str b])).run Try.prog w = .ok true w := by
  have e9 : ∀ (l : List UInt8) (d : Nat), (Op.equalIn (d + 1) 9 (str l) (str l)).run Try.prog w = .ok true w := fun l d => by
    rw [eq_strD]; simp
  rw [show d + 2 = (d + 1) + 1 from rfl, run_equalIn_agg w (d + 1) 42 _ _ (by kernel_rfl) (by kernel_rfl)]
  go_simp
theorem eq_upd (s p : Int) (a b : List UInt8) (g : Bool) (w : World) : (Op.equalIn 10000 44 (.agg #[.int .i64 s, .int .i64 p, str a, str b, .bool g]) (.agg #[.int .i64 s, .int .i64 p, str a, str b, .bool g])).run Try.prog w = .ok true w := by
  have e9 : ∀ (l : List UInt8) (d : Nat), (Op.equalIn (d + 1) 9 (str l) (str l)).run Try.prog w = .ok true w := fun l d => by
    rw [eq_strD]; simp
  have e8 := fun d => eq_dev2 a b d w
  rw [show (10000 : Nat) = 9999 + 1 from rfl, run_equalIn_agg w 9999 44 _ _ (by kernel_rfl) (by kernel_rfl)]
  go_simp
theorem gd_upd (op : BinOp) (x y : Operand) (s p : Int) (a b : List UInt8) (g : Bool) (w : World) : (eqGuard op 44 x y (.agg #[.int .i64 s, .int .i64 p, str a, str b, .bool g]) (.agg #[.int .i64 s, .int .i64 p, str a, str b, .bool g])).run Try.prog w = .ok () w := run_eqGuard_agg w op 44 x y _ _ (by kernel_rfl)
def SmR (w : World) (n : Nat) (gk : Nat) (i : Value) (wr : World) : Prop :=
  ∃ k q : Nat, i = .int .i64 (k : Int) ∧ k ≤ n ∧ gk = n - k ∧ wr = w.drewN q
set_option maxHeartbeats 1000000 in
theorem refSameD_any (A A' : Option Addr) (n c c' B B' : Nat) (l : List Rw) (w : World) (h1 : LIn rc 2 w B A n c l) (h2 : LIn rc 2 w B' A' n c' l) (hn : n ≤ 1048576) :
    Calls Try.prog 16 #[.slice A n c, .slice A' n c'] w fun e w' => e = .returned (.bool true) ∧ ∃ k, w' = w.drewN k := by
  have hln := h1.1
  have hb : ((n : Int) != (n : Int)) = false := by simp
  go_enter Try.func16, Try.ntmps16
  go_wp2
  go_loopg [13] n (SmR w n)
  case atStart => exact ⟨0, 0, rfl, by omega, by omega, rfl⟩
  case round =>
    obtain ⟨k, q, rfl, hk, hg, rfl⟩ := hrel
    have Hg := Lib.hid hg
    clear hg
    by_cases hlt : k < n
    · have hkl : k < l.length := by omega
      obtain ⟨b, off, hA, _, c0, c1⟩ := dv_at h1 hkl
      obtain ⟨b', off', hA', _, d0, d1⟩ := dv_at h2 hkl
      subst hA hA'
      clear h1 h2
      generalize l[k] = r at *
      obtain ⟨rk, rv⟩ := r
      simp only at c0 c1 d0 d1
      have hki : (k : Int) < (n : Int) := by omega
      have heq := fun W => eq_dev2 rk rv 9998 W
      have hgd := fun x y W => gd_dev BinOp.neq x y rk rv rk rv W
      go_wp2_with fail
      go_quiet (fail)
      go_wp2
      go_roundg (n - (k + 1))
      case measure => have := Hg.out; omega
      case rel => exact ⟨k + 1, _, by go_num, by omega, rfl, rfl⟩
    · have hki : ¬ (k : Int) < (n : Int) := by omega
      go_wp2
      go_ret
      exact ⟨rfl, _, rfl⟩
set_option maxHeartbeats 1000000 in
theorem refSameU_any (A A' : Option Addr) (n c c' B B' : Nat) (l : List Uc) (w : World) (h1 : LIn ucL 5 w B A n c l) (h2 : LIn ucL 5 w B' A' n c' l) (hn : n ≤ 1048576) :
    Calls Try.prog 15 #[.slice A n c, .slice A' n c'] w fun e w' => e = .returned (.bool true) ∧ ∃ k, w' = w.drewN k := by
  have hln := h1.1
  have hb : ((n : Int) != (n : Int)) = false := by simp
  go_enter Try.func15, Try.ntmps15
  go_wp2
  go_loopg [13] n (SmR w n)
  case atStart => exact ⟨0, 0, rfl, by omega, by omega, rfl⟩
  case round =>
    obtain ⟨k, q, rfl, hk, hg, rfl⟩ := hrel
    have Hg := Lib.hid hg
    clear hg
    by_cases hlt : k < n
    · have hkl : k < l.length := by omega
      obtain ⟨b, off, hA, _, c0, c1, c2, c3, c4⟩ := uc_at h1 hkl
      obtain ⟨b', off', hA', _, d0, d1, d2, d3, d4⟩ := uc_at h2 hkl
      subst hA hA'
      clear h1 h2
      generalize l[k] = r at *
      obtain ⟨rs, rp, rk, rv, rg⟩ := r
      simp only at c0 c1 c2 c3 c4 d0 d1 d2 d3 d4
      have hki : (k : Int) < (n : Int) := by omega
      have heq := fun W => eq_upd rs rp rk rv rg W
      have hgd := fun x y W => gd_upd BinOp.neq x y rs rp rk rv rg W
      go_wp2_with fail
      go_quiet (fail)
      go_wp2
      go_roundg (n - (k + 1))
      case measure => have := Hg.out; omega
      case rel => exact ⟨k + 1, _, by go_num, by omega, rfl, rfl⟩
    · have hki : ¬ (k : Int) < (n : Int) := by omega
      go_wp2
      go_ret
      exact ⟨rfl, _, rfl⟩
set_option maxHeartbeats 1000000 in
theorem sameDev_any (A A' : Option Addr) (n c c' B B' : Nat) (l : List Rw) (w : World) (h1 : LIn rc 2 w B A n c l) (h2 : LIn rc 2 w B' A' n c' l) (hn : n ≤ 1048576) :
    Calls Try.prog 21 #[.slice A n c, .slice A' n c'] w fun e w' => e = .returned (.bool true) ∧ ∃ k, w' = w.drewN k := by
  have hln := h1.1
  have hb : ((n : Int) != (n : Int)) = false := by simp
  go_enter Try.func21, Try.ntmps21
  go_wp2
  go_loopg [5] n (SmR w n)
  case atStart => exact ⟨0, 0, rfl, by omega, by omega, rfl⟩
  case round =>
    obtain ⟨k, q, rfl, hk, hg, rfl⟩ := hrel
    have Hg := Lib.hid hg
    clear hg
    by_cases hlt : k < n
    · have hkl : k < l.length := by omega
      obtain ⟨b, off, hA, _, c0, c1⟩ := dv_at h1 hkl
      obtain ⟨b', off', hA', _, d0, d1⟩ := dv_at h2 hkl
      subst hA hA'
      clear h1 h2
      generalize l[k] = r at *
      obtain ⟨rk, rv⟩ := r
      simp only at c0 c1 d0 d1
      have hki : (k : Int) < (n : Int) := by omega
      have heq := fun W => eq_dev2 rk rv 9998 W
      have hgd := fun x y W => gd_dev BinOp.neq x y rk rv rk rv W
      go_wp2_with fail
      go_quiet (fail)
      go_wp2
      go_roundg (n - (k + 1))
      case measure => have := Hg.out; omega
      case rel => exact ⟨k + 1, _, by go_num, by omega, rfl, rfl⟩
    · have hki : ¬ (k : Int) < (n : Int) := by omega
      go_wp2
      go_ret
      exact ⟨rfl, _, rfl⟩
end Go.Proofs.Ytmlgaedhfannmaa
