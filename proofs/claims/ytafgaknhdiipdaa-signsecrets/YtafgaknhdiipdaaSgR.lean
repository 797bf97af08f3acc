/- The document's own functions of signatures: what each call returns. -/
import Derived.Test.YtafgaknhdiipdaaSgS
namespace Go.Proofs.Ytafgaknhdiipdaa
set_option linter.unusedVariables false
set_option linter.unusedSimpArgs false
open Go.RowKit
theorem refIsSecret_any (x : Int) (w : World) :
    Calls Try.prog 30 #[.int .i64 x] w fun e w' => e = .returned (.bool (isSec x)) ∧ w = w' := by
  have h : isSec x = (decide (0 < x) && decide (x < 3911)) := by unfold isSec; rw [Bool.decide_and]; congr 1
  have H := Lib.hid h
  clear h
  go_enter Try.func30, Try.ntmps30
  go_wp2
  all_goals
    go_ret
    exact ⟨ret_bool (by rw [H.out]; (first | (simp [*]; done) | (simp [*]; omega))), rfl⟩
def TimesR (n often : Nat) (w : World) (gk : Nat) (vo vi : Value) (wr : World) : Prop :=
  ∃ i o : Nat, vo = .int .i64 o ∧ vi = .int .i64 i ∧ i ≤ often ∧ gk = often - i ∧ o < 7823 ∧ o = pw n i % 7823 ∧ wr = w
theorem times_any (n often : Nat) (w : World) (hn : n < 7823) (ho : often ≤ 1048576) :
    Calls Try.prog 31 #[.int .i64 n, .int .i64 often] w fun e w' => e = .returned (.int .i64 (pw n often % 7823 : Nat)) ∧ w = w' := by
  go_enter Try.func31, Try.ntmps31
  go_wp2
  go_loopg [5, 6] often (TimesR n often w)
  case atStart => exact ⟨0, 1, rfl, rfl, by omega, by omega, by omega, by rw [pw_zero], rfl⟩
  case round =>
    obtain ⟨i, o, rfl, rfl, hi, hgk, hol, hoe, rfl⟩ := hrel
    have Hgk := Lib.hid hgk
    have Ho := Lib.hid hoe
    clear hgk hoe
    have hpl := prod_lt hol hn
    by_cases hlt : i < often
    · go_wp2
      go_roundg (often - (i + 1))
      case measure => have := Hgk.out; omega
      case rel => exact ⟨i + 1, o * n % 7823, by go_num, by go_num, by omega, rfl, Nat.mod_lt _ (by decide), by rw [pw_succ]; exact mulmod (by rw [Ho.out, Nat.mod_mod]) rfl, rfl⟩
    · have : i = often := by omega
      subst this
      go_wp2
      go_ret
      exact ⟨by rw [← Ho.out]; rfl, rfl⟩
/-- What the search for a square root has not found yet. -/
def KeyR (n T : Nat) (w : World) (gk : Nat) (vi : Value) (wr : World) : Prop :=
  ∃ i : Nat, vi = .int .i64 i ∧ 2 ≤ i ∧ i ≤ 3912 ∧ gk = T - i ∧ (∀ j, 2 ≤ j → j < i → j * j % 7823 ≠ n) ∧ wr = w
set_option maxRecDepth 100000 in
theorem isKey_any (y : Int) (w : World) :
    Calls Try.prog 36 #[.int .i64 y] w fun e w' => e = .returned (.bool (isPub y)) ∧ w = w' := by
  by_cases h2 : 2 ≤ y
  · by_cases h3 : y < 7823
    · have h : isPub y = decide (pw y.toNat 3911 % 7823 = 1) := by unfold isPub; rw [decide_eq_true ⟨h2, h3⟩]; rfl
      have Hs := Lib.hid (pub_sq h2 h3)
      have H := Lib.hid h
      clear h
      obtain ⟨n, rfl⟩ : ∃ n : Nat, y = n := ⟨y.toNat, by omega⟩
      rw [Int.toNat_natCast] at H Hs
      go_enter Try.func36, Try.ntmps36
      go_wp2
      obtain ⟨T, HT⟩ : ∃ T : Nat, Hid (T = 3912) := ⟨_, Lib.hid rfl⟩
      go_loopg [3] (T - 2) (KeyR n T w)
      case atStart => exact ⟨2, rfl, by omega, by omega, rfl, fun j h1 h2 => by omega, rfl⟩
      case round =>
        obtain ⟨i, rfl, hi2, hi, hgk, hno, rfl⟩ := hrel
        have Hgk := Lib.hid hgk
        have Hno := Lib.hid hno
        clear hgk hno
        have hpl := prod_lt (show i < 7823 by omega) (show i < 7823 by omega)
        by_cases hlt : i < 3912
        · by_cases he : i * i % 7823 = n
          · have hb : ((i : Int) * (i : Int) % 7823 == (n : Int)) = true := by rw [beq_iff_eq, ← he]; simp
            have Hyes := Lib.hid (show isPub n = true by rw [H.out, decide_eq_true_eq, ← Hs.out]; exact ⟨i, hi2, hlt, by rw [Int.toNat_natCast]; exact he⟩)
            clear he
            go_wp2
            go_ret
            exact ⟨ret_bool Hyes.out.symm, rfl⟩
          · have hb : ((i : Int) * (i : Int) % 7823 == (n : Int)) = false := by rw [beq_eq_false_iff_ne]; intro h; exact he (by omega)
            have Hn := Lib.hid (show ∀ j, 2 ≤ j → j < i + 1 → j * j % 7823 ≠ n from fun j h1 h2 => by
              by_cases hji : j = i
              · subst hji; exact he
              · exact Hno.out j h1 (by omega))
            clear he
            go_wp2
            go_roundg (T - (i + 1))
            case measure => have := Hgk.out; have := HT.out; omega
            case rel => exact ⟨i + 1, by go_num, by omega, by omega, rfl, Hn.out, rfl⟩
        · have hge : (3912 : Int) ≤ (i : Int) := by omega
          have hdf : decide ((i : Int) < 3912) = false := by rw [decide_eq_false_iff_not]; omega
          have Hnot := Lib.hid (show isPub n = false by
            rw [H.out, decide_eq_false_iff_not, ← Hs.out]
            rintro ⟨j, h1, h2, h3⟩
            exact Hno.out j h1 (by omega) (by rw [h3, Int.toNat_natCast]))
          go_wp2
          go_ret
          exact ⟨ret_bool Hnot.out.symm, rfl⟩
    · have H := Lib.hid (show isPub y = false by unfold isPub; rw [decide_eq_false (fun h => h3 h.2)]; rfl)
      go_enter Try.func36, Try.ntmps36
      go_wp2
      go_ret
      exact ⟨ret_bool H.out.symm, rfl⟩
  · have H := Lib.hid (show isPub y = false by unfold isPub; rw [decide_eq_false (fun h => h2 h.1)]; rfl)
    go_enter Try.func36, Try.ntmps36
    go_wp2
    go_ret
    exact ⟨ret_bool H.out.symm, rfl⟩
end Go.Proofs.Ytafgaknhdiipdaa
