/- Package sign: what each inner call returns, further. -/
import Derived.Test.YtafgaknhdiipdaaSgW
namespace Go.Proofs.Ytafgaknhdiipdaa
set_option linter.unusedVariables false
set_option linter.unusedSimpArgs false
open Go.RowKit
theorem ret_i64 {a b : Int} (h : a = b) : Ending.returned (.int .i64 a) = .returned (.int .i64 b) := by rw [h]
def HashR (r : Nat) (l : List UInt8) (n : Nat) (w : World) (gk : Nat) (vh vi : Value) (wr : World) : Prop :=
  ∃ k h q : Nat, vh = .int .i64 h ∧ vi = .int .i64 k ∧ k ≤ n ∧ gk = n - k ∧ h = hsh r (l.take k) ∧ h < 3911 ∧ wr = w.drewN q
theorem isSecret_any (x : Int) (w : World) :
    Calls Try.prog 28 #[.int .i64 x] w fun e w' => e = .returned (.bool (isSec x)) ∧ w = w' := by
  have h : isSec x = (decide (1 ≤ x) && decide (x < 3911)) := by unfold isSec; simp
  have H := Lib.hid h
  clear h
  go_enter Try.func28, Try.ntmps28
  go_wp2
  all_goals
    go_ret
    exact ⟨ret_bool (by rw [H.out]; (first | (simp [*]; done) | (simp [*]; omega))), rfl⟩
theorem isLong_any (A : Option Addr) (n c : Nat) (w : World) :
    Calls Try.prog 32 #[.slice A n c] w fun e w' => e = .returned (.bool (decide (600 < n))) ∧ w = w' := by
  go_enter Try.func32, Try.ntmps32
  go_wp2
  go_ret
  exact ⟨ret_bool (by simp; omega), rfl⟩
theorem hash_any (r : Nat) (A : Option Addr) (n c : Nat) (l : List UInt8) (w : World) (hr : r < 7823) (hh : Holds w w.heap.size 1 A n (l.map bv)) (hn : n ≤ 600) :
    Calls Try.prog 33 #[.int .i64 r, .slice A n c] w fun e w' => e = .returned (.int .i64 (hsh r l : Nat)) ∧ ∃ k, w' = w.drewN k := by
  have hl := hh.len
  go_enter Try.func33, Try.ntmps33
  go_wp2
  go_loopg [5, 12] n (HashR r l n w)
  case atStart => exact ⟨0, r % 3911, 0, by go_num, rfl, by omega, by omega, by rw [List.take_zero]; rfl, by omega, rfl⟩
  case round =>
    obtain ⟨k, h, q, rfl, rfl, hk, hgk, hi, hlt, rfl⟩ := hrel
    have Hgk := Lib.hid hgk
    have Hi := Lib.hid hi
    clear hgk hi
    by_cases hkn : k < n
    · obtain ⟨b, off, hkl, rfl, _, hc1⟩ := hh.byte hkn
      have Hs := Lib.hid (hsh_snoc r l k hkl)
      have hcl := l[k].toNat_lt
      generalize l[k].toNat = x at *
      go_wp2
      all_goals
        go_roundg (n - (k + 1))
        case measure => have := Hgk.out; omega
        case rel => exact ⟨k + 1, (h * 257 + x + 1) % 3911, _, by go_num, by go_num, by omega, rfl, by rw [Hs.out, ← Hi.out], Nat.mod_lt _ (by decide), rfl⟩
    · have hkn' : k = n := by omega
      subst hkn'
      go_wp2
      go_ret
      refine ⟨ret_i64 ?_, _, rfl⟩
      have := Hi.out
      rw [List.take_of_length_le (by omega)] at this
      rw [this]
theorem difference_any (a b : Nat) (w : World) (ha : a < 3911) (hb : b < 3911) :
    Calls Try.prog 38 #[.int .i64 a, .int .i64 b] w fun e w' => e = .returned (.int .i64 ((a + 3911 - b) % 3911 : Nat)) ∧ w = w' := by
  go_enter Try.func38, Try.ntmps38
  go_wp2
  go_ret
  exact ⟨ret_i64 (by omega), rfl⟩
theorem inverse_any (n : Nat) (w : World) (hn : n < 3911) :
    Calls Try.prog 39 #[.int .i64 n] w fun e w' => e = .returned (.int .i64 (pw n 3909 % 3911 : Nat)) ∧ w = w' := by
  go_enter Try.func39, Try.ntmps39
  go_wp2_with fail
  refine (power_any n 3909 3911 _ (by omega) (by decide) (by decide) (by decide)).mono ?_
  rintro e w1 ⟨rfl, rfl⟩
  go_wp2
  go_ret
  exact ⟨rfl, rfl⟩
theorem isPublic_any (y : Int) (w : World) :
    Calls Try.prog 34 #[.int .i64 y] w fun e w' => e = .returned (.bool (isPub y)) ∧ w = w' := by
  by_cases h2 : 2 ≤ y
  · by_cases h3 : y < 7823
    · have h : isPub y = decide (pw y.toNat 3911 % 7823 = 1) := by unfold isPub; rw [decide_eq_true ⟨h2, h3⟩]; rfl
      have H := Lib.hid h
      clear h
      obtain ⟨n, rfl⟩ : ∃ n : Nat, y = n := ⟨y.toNat, by omega⟩
      go_enter Try.func34, Try.ntmps34
      go_wp2_with fail
      refine (power_any n 3911 7823 _ (by omega) (by decide) (by decide) (by decide)).mono ?_
      rintro e w1 ⟨rfl, rfl⟩
      rw [Int.toNat_natCast] at H
      generalize pw n 3911 % 7823 = x at *
      go_wp2
      go_ret
      refine ⟨ret_bool ?_, rfl⟩
      rw [H.out]
      by_cases hx : x = 1
      · subst hx; rfl
      · rw [decide_eq_false hx, beq_eq_false_iff_ne]; omega
    · have H := Lib.hid (show isPub y = false by unfold isPub; rw [decide_eq_false (fun h => h3 h.2)]; rfl)
      go_enter Try.func34, Try.ntmps34
      go_wp2
      go_ret
      exact ⟨ret_bool H.out.symm, rfl⟩
  · have H := Lib.hid (show isPub y = false by unfold isPub; rw [decide_eq_false (fun h => h2 h.1)]; rfl)
    go_enter Try.func34, Try.ntmps34
    go_wp2
    go_ret
    exact ⟨ret_bool H.out.symm, rfl⟩
theorem isInRange_any (r s : Int) (w : World) :
    Calls Try.prog 35 #[.agg #[.int .i64 r, .int .i64 s]] w fun e w' => e = .returned (.bool (isPub r && okS s)) ∧ w' = w.alloc (.cells #[.int .i64 r, .int .i64 s] 30) := by
  go_enter Try.func35, Try.ntmps35
  go_wp2_with fail
  refine (isPublic_any r _).mono ?_
  rintro e w1 ⟨rfl, rfl⟩
  cases hp : isPub r
  · go_wp2
    go_ret
    exact ⟨ret_bool (by rw [hp]; rfl), rfl⟩
  · have H := Lib.hid (show okS s = (decide (0 ≤ s) && decide (s < 3911)) by unfold okS; simp)
    go_wp2
    all_goals
      go_ret
      exact ⟨ret_bool (by rw [H.out]; (first | (simp [*]; done) | (simp [*]; omega))), rfl⟩
end Go.Proofs.Ytafgaknhdiipdaa
