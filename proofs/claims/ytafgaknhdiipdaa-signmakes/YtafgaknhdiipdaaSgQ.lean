/- The document's own functions of signatures, further: SignHash, SignPublic, SignMake, signMay, SignCheck. -/
import Derived.Test.YtafgaknhdiipdaaSgR
namespace Go.Proofs.Ytafgaknhdiipdaa
set_option linter.unusedVariables false
set_option linter.unusedSimpArgs false
open Go.RowKit
theorem refPublic_any (x : Int) (w : World) :
    Calls Try.prog 15 #[.int .i64 x] w fun e w' => e = .returned (intsV (publicR x).1 (publicR x).2) ∧ w = w' := by
  cases hs : isSec x
  · have H := Lib.hid (show publicR x = (0, 2) by unfold publicR; rw [hs]; rfl)
    rw [H.out]
    go_enter Try.func15, Try.ntmps15
    go_wp2_with fail
    refine (refIsSecret_any x _).mono ?_
    rintro e w1 ⟨rfl, rfl⟩
    rw [hs]
    go_wp2
    go_ret2
    exact ⟨rfl, rfl⟩
  · have hx : 1 ≤ x ∧ x < 3911 := by simpa [isSec] using hs
    have H := Lib.hid (show publicR x = (pw 4 x.toNat % 7823, 0) by unfold publicR; rw [hs]; rfl)
    rw [H.out]
    clear H
    obtain ⟨n, rfl⟩ : ∃ n : Nat, x = n := ⟨x.toNat, by omega⟩
    rw [Int.toNat_natCast]
    go_enter Try.func15, Try.ntmps15
    go_wp2_with fail
    refine (refIsSecret_any n _).mono ?_
    rintro e w1 ⟨rfl, rfl⟩
    rw [hs]
    go_wp2_with fail
    refine (times_any 4 n _ (by decide) (by omega)).mono ?_
    rintro e w1 ⟨rfl, rfl⟩
    go_wp2
    go_ret2
    exact ⟨rfl, rfl⟩
set_option maxRecDepth 100000 in
theorem refHash_any (r : Int) (A : Option Addr) (n c : Nat) (l : List UInt8) (w : World) (hh : Holds w w.heap.size 1 A n (l.map bv)) :
    Calls Try.prog 17 #[.int .i64 r, .slice A n c] w fun e w' => e = .returned (intsV (hashR r n l).1 (hashR r n l).2) ∧ ∃ k, w' = w.drewN k := by
  by_cases hr : 0 ≤ r ∧ r < 7823
  · obtain ⟨r0, r1⟩ := hr
    by_cases hn : 600 < n
    · have H := Lib.hid (show hashR r n l = (0, 1) by unfold hashR; rw [if_pos ⟨r0, r1⟩, if_pos hn])
      rw [H.out]
      go_enter Try.func17, Try.ntmps17
      go_wp2
      go_ret2
      exact ⟨rfl, 0, rfl⟩
    · have H := Lib.hid (show hashR r n l = (hsh r.toNat l, 0) by unfold hashR; rw [if_pos ⟨r0, r1⟩, if_neg hn])
      rw [H.out]
      clear H
      obtain ⟨m, rfl⟩ : ∃ m : Nat, r = m := ⟨r.toNat, by omega⟩
      rw [Int.toNat_natCast]
      have hl := hh.len
      go_enter Try.func17, Try.ntmps17
      go_wp2
      go_loopg [6, 7] n (HashR m l n w)
      case atStart => exact ⟨0, m % 3911, 0, by go_num, rfl, by omega, by omega, by rw [List.take_zero]; rfl, by omega, rfl⟩
      case round =>
        obtain ⟨k, h, q, rfl, rfl, hk, hgk, hi, hlt, rfl⟩ := hrel
        have Hgk := Lib.hid hgk
        have Hi := Lib.hid hi
        clear hgk hi
        by_cases hkn : k < n
        · obtain ⟨b, off, hkl, rfl, _, hc1⟩ := hh.byte hkn
          have Hs := Lib.hid (hsh_snoc m l k hkl)
          have hcl := l[k].toNat_lt
          generalize l[k].toNat = x at *
          go_wp2
          all_goals
            go_roundg (n - (k + 1))
            case measure => have := Hgk.out; omega
            case rel => exact ⟨k + 1, (h * 257 + x + 1) % 3911, _, congrArg (Value.int .i64) (by omega), by go_num, by omega, rfl, by rw [Hs.out, ← Hi.out], Nat.mod_lt _ (by decide), rfl⟩
        · have hkn' : k = n := by omega
          subst hkn'
          go_wp2
          go_ret2
          refine ⟨?_, _, rfl⟩
          have := Hi.out
          rw [List.take_of_length_le (by omega)] at this
          rw [this]
          rfl
  · have H := Lib.hid (show hashR r n l = (0, 2) by unfold hashR; rw [if_neg hr])
    rw [H.out]
    by_cases h0 : 0 ≤ r
    · have h1 : 7823 ≤ r := by omega
      go_enter Try.func17, Try.ntmps17
      go_wp2
      go_ret2
      exact ⟨rfl, 0, rfl⟩
    · have h1 : r < 0 := by omega
      go_enter Try.func17, Try.ntmps17
      go_wp2
      go_ret2
      exact ⟨rfl, 0, rfl⟩
theorem signMay_any (r s : Int) (w : World) :
    Calls Try.prog 37 #[.agg #[.int .i64 r, .int .i64 s]] w fun e w' => e = .returned (.bool (isPub r && okS s)) ∧ w' = w.alloc (.cells #[.int .i64 r, .int .i64 s] 30) := by
  go_enter Try.func37, Try.ntmps37
  go_wp2_with fail
  refine (isKey_any r _).mono ?_
  rintro e w1 ⟨rfl, rfl⟩
  cases hp : isPub r
  · go_wp2
    go_ret
    exact ⟨ret_bool (by rw [hp]; rfl), rfl⟩
  · have H := Lib.hid (show okS s = (decide (0 ≤ s) && decide (s ≤ 3910)) by unfold okS; rw [Bool.decide_and]; congr 1; exact decide_eq_decide.2 (by omega))
    go_wp2
    all_goals
      go_ret
      exact ⟨ret_bool (by rw [H.out]; (first | (simp [*]; done) | (simp [*]; omega))), rfl⟩
end Go.Proofs.Ytafgaknhdiipdaa
