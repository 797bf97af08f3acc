/- One-time keys: checkName, checkSort. -/
import Derived.Test.YtgckihglgnbaoaaKyM
import Derived.Test.YtgckihglgnbaoaaNServ
import Derived.Test.YtgckihglgnbaoaaBunA
namespace Go.Proofs.Ytgckihglgnbaoaa
set_option linter.unusedVariables false
set_option linter.unusedSimpArgs false
open Go.RowKit
attribute [local go_sem high] str_mk

theorem ky_addL {P : Program} (t : TypeId) (a b : List UInt8) (h : a.length + b.length ≤ 9223372036854775807) : ∀ W, (binOp .add t (str a) (str b)).run P W = .ok (str (a ++ b)) W := fun W => by
  simp only [str, binOp_string_add]
  rw [run_string_add_sum W _ _ (by show a.length + b.length ≤ _; exact h), ByteArray.mk_append_mk]
theorem colon_not_knd {s : List UInt8} (h : (58 : UInt8) ∈ s) : knd s = false := by
  cases hk : knd s with
  | false => rfl
  | true => have := (isNm_len hk).2.2 58 h; exact absurd this (by decide +kernel)
theorem colon_not_idn {s : List UInt8} (h : (58 : UInt8) ∈ s) : idn s = false := by
  cases hk : idn s with
  | false => rfl
  | true => have := (isNm_len hk).2.2 58 h; exact absurd this (by decide +kernel)
theorem fore_app {s t : List UInt8} (h : (58 : UInt8) ∉ s) : fore (s ++ 58 :: t) = s ∧ aft (s ++ 58 :: t) = t := by
  have hp : ∀ a ∈ s, (a != 58) = true := fun a ha => by
    simp only [bne_iff_ne, ne_eq]
    rintro rfl
    exact h ha
  refine ⟨?_, ?_⟩
  · unfold fore
    rw [List.takeWhile_append_of_pos hp]
    simp
  · unfold aft
    rw [List.dropWhile_append_of_pos hp]
    simp
theorem key_app (S I : List UInt8) : (∃ a b, key (S ++ 58 :: I) = some (a, b)) ∧ nameR S I = 0 ∨ key (S ++ 58 :: I) = none ∧ nameR S I = 4 := by
  unfold nameR key two
  by_cases h : (58 : UInt8) ∈ S
  · right
    obtain ⟨s1, s2, rfl, h1⟩ := List.eq_append_cons_of_mem h
    rw [show s1 ++ 58 :: s2 ++ 58 :: I = s1 ++ 58 :: (s2 ++ 58 :: I) by simp]
    rw [(fore_app h1).1, (fore_app h1).2]
    have e1 : idn (s2 ++ 58 :: I) = false := colon_not_idn (by simp)
    have e2 : knd (s1 ++ 58 :: s2) = false := colon_not_knd (by simp)
    simp [e1, e2]
  · rw [(fore_app h).1, (fore_app h).2]
    cases h1 : knd S <;> cases h2 : idn I <;> simp
set_option maxHeartbeats 1000000 in
theorem checkName_any (S I : List UInt8) (w : World) (hg : Gl w) (hl : S.length + I.length + 1 ≤ maxLen) :
    Calls Try.prog 43 #[str S, str I] w fun e w' => e = .returned (.int .i64 (nameR S I)) ∧ Below w.heap.size w w' := by
  have hl' : S.length + I.length + 1 ≤ 9223372036854775807 := hl
  have h1 := ky_addL (P := Try.prog) 9 S [58] (by simp; omega)
  have h2 := ky_addL (P := Try.prog) 9 (S ++ [58]) I (by simp; omega)
  rw [show S ++ [58] ++ I = S ++ 58 :: I by simp] at h2
  have HC := Lib.hid (key_any (S ++ 58 :: I) w (by unfold maxLen; simp; omega) hg)
  have HK := Lib.hid (key_app S I)
  clear hl hl'
  generalize S ++ [58] = s1 at *
  generalize S ++ 58 :: I = s2 at *
  generalize nameR S I = r at *
  go_enter Try.func43, Try.ntmps43
  go_wp2_with fail
  refine HC.out.mono ?_
  rintro e w1 ⟨rfl, hb⟩
  rcases HK.out with ⟨⟨a, b, hk⟩, rfl⟩ | ⟨hk, rfl⟩
  · rw [hk]
    clear hk HK HC
    simp only [pairV]
    go_wp2_with fail
    go_ret
    exact ⟨rfl, hb⟩
  · rw [hk]
    clear hk HK HC
    simp only [pairV]
    go_wp2_with fail
    go_ret
    exact ⟨rfl, hb⟩
theorem name_A (S : List UInt8) : nameR S [65] = sortR S := by
  unfold nameR sortR
  have : idn [65] = true := by decide
  simp [this]
set_option maxHeartbeats 1000000 in
theorem checkSort_any (S : List UInt8) (w : World) (hg : Gl w) (hl : S.length + 2 ≤ maxLen) :
    Calls Try.prog 36 #[str S] w fun e w' => e = .returned (.int .i64 (sortR S)) ∧ Below w.heap.size w w' := by
  have HC := Lib.hid (checkName_any S [65] w hg (by simp; omega))
  rw [name_A] at HC
  generalize sortR S = r at *
  go_enter Try.func36, Try.ntmps36
  go_wp2_with fail
  refine HC.out.mono ?_
  rintro e w1 ⟨rfl, hb⟩
  go_wp2_with fail
  go_ret
  exact ⟨rfl, hb⟩
end Go.Proofs.Ytgckihglgnbaoaa
