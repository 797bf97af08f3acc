/- The document's own functions of signatures, further: SignMake, SignCheck, SignSecret. -/
import Derived.Test.YtafgaknhdiipdaaSgQ
namespace Go.Proofs.Ytafgaknhdiipdaa
set_option linter.unusedVariables false
set_option linter.unusedSimpArgs false
open Go.RowKit
theorem hashR_key {r n : Nat} {l : List UInt8} (hr : r < 7823) (hn : ¬ 600 < n) : hashR r n l = (hsh r l, 0) := by
  unfold hashR; rw [if_pos ⟨by omega, by omega⟩, if_neg hn, Int.toNat_natCast]
set_option maxRecDepth 100000 in
theorem refMake_any (x k : Int) (A : Option Addr) (n c : Nat) (l : List UInt8) (w : World) (hh : Holds w w.heap.size 1 A n (l.map bv)) :
    Calls Try.prog 19 #[.int .i64 x, .int .i64 k, .slice A n c] w fun e w' => e = .returned (makeV (makeR x k n l)) ∧ Below w.heap.size w w' := by
  have hbz := (Below.refl w.heap.size w).alloc (Nat.le_refl _) (.cells #[.int .i64 0, .int .i64 0] 30)
  cases hx : isSec x
  · have H := Lib.hid (show makeR x k n l = (0, 0, 2) by unfold makeR; rw [hx]; rfl)
    rw [H.out]
    go_enter Try.func19, Try.ntmps19
    go_wp2_with fail
    refine (refIsSecret_any x _).mono ?_
    rintro e w1 ⟨rfl, rfl⟩
    rw [hx]
    go_wp2
    refine ret_sign (by rfl) (by rfl) (by rfl) (x0 := .int .i64 0) (x1 := .int .i64 0) ?_ ?_ (by rfl) ?_
    · simp [go_sem]
    · simp [go_sem]
    · exact ⟨rfl, hbz⟩
  cases hk : isSec k
  · have H := Lib.hid (show makeR x k n l = (0, 0, 2) by unfold makeR; rw [hx, hk]; rfl)
    rw [H.out]
    go_enter Try.func19, Try.ntmps19
    go_wp2_with fail
    refine (refIsSecret_any x _).mono ?_
    rintro e w1 ⟨rfl, rfl⟩
    rw [hx]
    go_wp2_with fail
    refine (refIsSecret_any k _).mono ?_
    rintro e w1 ⟨rfl, rfl⟩
    rw [hk]
    go_wp2
    refine ret_sign (by rfl) (by rfl) (by rfl) (x0 := .int .i64 0) (x1 := .int .i64 0) ?_ ?_ (by rfl) ?_
    · simp [go_sem]
    · simp [go_sem]
    · exact ⟨rfl, hbz⟩
  by_cases hn : 600 < n
  · have H := Lib.hid (show makeR x k n l = (0, 0, 1) by unfold makeR; rw [hx, hk, Bool.true_and, if_pos rfl, if_pos hn])
    rw [H.out]
    go_enter Try.func19, Try.ntmps19
    go_wp2_with fail
    refine (refIsSecret_any x _).mono ?_
    rintro e w1 ⟨rfl, rfl⟩
    rw [hx]
    go_wp2_with fail
    refine (refIsSecret_any k _).mono ?_
    rintro e w1 ⟨rfl, rfl⟩
    rw [hk]
    go_wp2
    refine ret_sign (by rfl) (by rfl) (by rfl) (x0 := .int .i64 0) (x1 := .int .i64 0) ?_ ?_ (by rfl) ?_
    · simp [go_sem]
    · simp [go_sem]
    · exact ⟨rfl, hbz⟩
  · have H := Lib.hid (show makeR x k n l = (pw 4 k.toNat % 7823, (k.toNat + x.toNat * hsh (pw 4 k.toNat % 7823) l) % 3911, 0) by unfold makeR; rw [hx, hk, Bool.true_and, if_pos rfl, if_neg hn])
    rw [H.out]
    clear H
    obtain ⟨a, rfl, ha1, ha2⟩ := sec_nat hx
    obtain ⟨b, rfl, hb1, hb2⟩ := sec_nat hk
    rw [Int.toNat_natCast, Int.toNat_natCast]
    have hrl := Nat.mod_lt (pw 4 b) (show 0 < 7823 by decide)
    obtain ⟨r, hr⟩ : ∃ r, pw 4 b % 7823 = r := ⟨_, rfl⟩
    rw [hr] at hrl ⊢
    have hpl := prod_lt' ha2 (hsh_lt r l)
    have hHl := hsh_lt r l
    have hR := hashR_key (l := l) hrl hn
    obtain ⟨h, hhr⟩ : ∃ h, hsh r l = h := ⟨_, rfl⟩
    rw [hhr] at hpl hHl hR ⊢
    have Hr := Lib.hid hr
    have HR := Lib.hid hR
    clear hr hhr hR
    have hA := Lib.hid (holds_alloc hh (.cells #[.int .i64 0, .int .i64 0] 30))
    go_enter Try.func19, Try.ntmps19
    go_wp2_with fail
    refine (refIsSecret_any a _).mono ?_
    rintro e w1 ⟨rfl, rfl⟩
    rw [hx]
    go_wp2_with fail
    refine (refIsSecret_any b _).mono ?_
    rintro e w1 ⟨rfl, rfl⟩
    rw [hk]
    go_wp2_with fail
    refine (times_any 4 b _ (by decide) (by omega)).mono ?_
    rintro e w1 ⟨rfl, rfl⟩
    rw [Hr.out]
    go_wp2_with fail
    refine (refHash_any r A n c l _ hA.out).mono ?_
    rintro e w1 ⟨rfl, q, rfl⟩
    rw [HR.out]
    simp only [intsV]
    go_wp2_with fail
    refine ret_sign (by rfl) (by rfl) (by rfl) (x0 := .int .i64 r) (x1 := .int .i64 ((b + a * h) % 3911 : Nat)) ?_ ?_ (by rfl) ?_
    · simp [go_sem]
    · simp [go_sem]
    · exact ⟨rfl, ((below_drewN hbz q).setCell (Nat.le_refl _) _).setCell (Nat.le_refl _) _⟩
set_option maxRecDepth 100000 in
theorem refCheckS_any (p : Int) (A : Option Addr) (n c : Nat) (l : List UInt8) (r s : Int) (w : World) (hh : Holds w w.heap.size 1 A n (l.map bv)) :
    Calls Try.prog 21 #[.int .i64 p, .slice A n c, .agg #[.int .i64 r, .int .i64 s]] w fun e w' => e = .returned (.int .i64 (checkR p n l r s)) ∧ Below w.heap.size w w' := by
  have hbz := (Below.refl w.heap.size w).alloc (Nat.le_refl _) (.cells #[.int .i64 r, .int .i64 s] 30)
  have hbz2 := hbz.alloc (size_alloc _ _) (.cells #[.int .i64 r, .int .i64 s] 30)
  have hA := Lib.hid (holds_alloc (holds_alloc hh (.cells #[.int .i64 r, .int .i64 s] 30)) (.cells #[.int .i64 r, .int .i64 s] 30))
  clear hh
  cases hp : isPub p
  · have H := Lib.hid (show checkR p n l r s = 2 by unfold checkR; rw [hp]; rfl)
    rw [H.out]
    go_enter Try.func21, Try.ntmps21
    go_wp2_with fail
    refine (isKey_any p _).mono ?_
    rintro e w1 ⟨rfl, rfl⟩
    rw [hp]
    go_wp2
    go_ret
    exact ⟨rfl, hbz⟩
  cases hr : isPub r && okS s
  · have H := Lib.hid (show checkR p n l r s = 2 by unfold checkR; rw [hp, hr]; rfl)
    rw [H.out]
    go_enter Try.func21, Try.ntmps21
    go_wp2_with fail
    refine (isKey_any p _).mono ?_
    rintro e w1 ⟨rfl, rfl⟩
    rw [hp]
    go_wp2_with fail
    refine (signMay_any r s _).mono ?_
    rintro e w1 ⟨rfl, rfl⟩
    rw [hr]
    go_wp2
    go_ret
    exact ⟨rfl, hbz2⟩
  by_cases hn : 600 < n
  · have H := Lib.hid (show checkR p n l r s = 1 by unfold checkR; rw [hp, hr, Bool.true_and, if_pos rfl, if_pos hn])
    rw [H.out]
    go_enter Try.func21, Try.ntmps21
    go_wp2_with fail
    refine (isKey_any p _).mono ?_
    rintro e w1 ⟨rfl, rfl⟩
    rw [hp]
    go_wp2_with fail
    refine (signMay_any r s _).mono ?_
    rintro e w1 ⟨rfl, rfl⟩
    rw [hr]
    go_wp2
    go_ret
    exact ⟨rfl, hbz2⟩
  · obtain ⟨hr1, hs1⟩ := (Bool.and_eq_true _ _).mp hr
    obtain ⟨p, rfl, hp1, hp2, _⟩ := pub_nat hp
    obtain ⟨r, rfl, hr2, hr3, _⟩ := pub_nat hr1
    obtain ⟨s, rfl, hs2⟩ := okS_nat hs1
    have Hc := Lib.hid (show checkR p n l r s = if pw 4 s % 7823 = r * (pw p (hsh r l) % 7823) % 7823 then 0 else 9 by
      unfold checkR; rw [hp, hr, Bool.true_and, if_pos rfl, if_neg hn, Int.toNat_natCast, Int.toNat_natCast, Int.toNat_natCast])
    clear hr1 hs1
    have hHl := hsh_lt r l
    have hR := hashR_key (l := l) hr3 hn
    obtain ⟨h, Hh⟩ : ∃ h, Hid (hsh r l = h) := ⟨_, Lib.hid rfl⟩
    rw [Hh.out] at hHl hR
    have HR := Lib.hid hR
    clear hR
    obtain ⟨a, Ha⟩ : ∃ a, Hid (pw 4 s % 7823 = a) := ⟨_, Lib.hid rfl⟩
    have hpp := Nat.mod_lt (pw p h) (show 0 < 7823 by decide)
    obtain ⟨b, Hb⟩ : ∃ b, Hid (pw p h % 7823 = b) := ⟨_, Lib.hid rfl⟩
    rw [Hb.out] at hpp
    have hpl := prod_lt hr3 hpp
    have HH : Hid (checkR p n l r s = if a = r * b % 7823 then 0 else 9) := Lib.hid (by rw [Hc.out, Ha.out, Hh.out, Hb.out])
    clear Hc
    have TQ := Lib.hid (fun W : World => show Calls Try.prog 31 #[.int .i64 4, .int .i64 s] W (fun e w' => e = .returned (.int .i64 (a : Nat)) ∧ w' = W) by
      have := times_any 4 s W (by decide) (by omega)
      rw [Ha.out] at this
      exact this.mono fun _ _ h => ⟨h.1, h.2.symm⟩)
    have PQ := Lib.hid (fun W : World => show Calls Try.prog 31 #[.int .i64 p, .int .i64 h] W (fun e w' => e = .returned (.int .i64 (b : Nat)) ∧ w' = W) by
      have := times_any p h W hp2 (by omega)
      rw [Hb.out] at this
      exact this.mono fun _ _ h => ⟨h.1, h.2.symm⟩)
    by_cases hab : a = r * b % 7823
    · have H := Lib.hid (HH.out.trans (if_pos hab))
      have hne : ((a : Int) != (r : Int) * (b : Int) % 7823) = false := by rw [bne_eq_false_iff_eq, hab]; simp
      clear hab HH
      rw [H.out]
      go_enter Try.func21, Try.ntmps21
      go_wp2_with fail
      refine (isKey_any p _).mono ?_
      rintro e w1 ⟨rfl, rfl⟩
      rw [hp]
      go_wp2_with fail
      refine (signMay_any r s _).mono ?_
      rintro e w1 ⟨rfl, rfl⟩
      rw [hr]
      go_wp2_with fail
      refine (refHash_any r A n c l _ hA.out).mono ?_
      rintro e w1 ⟨rfl, q, hw1⟩
      have c0 : w1.cell? ⟨w.heap.size, 0, none⟩ = some (.int .i64 r) := by rw [hw1]; simp [go_sem]
      have c1 : w1.cell? ⟨w.heap.size, 1, none⟩ = some (.int .i64 s) := by rw [hw1]; simp [go_sem]
      have hb1 : Below w.heap.size w w1 := by rw [hw1]; exact below_drewN hbz2 q
      clear hw1
      rw [HR.out]
      simp only [intsV]
      go_wp2_with fail
      go_quiet (first
        | with_reducible exact Calls.quiet_of_same (PQ.out _)
        | exact Calls.quiet_of_same (TQ.out _))
      go_wp2
      go_ret
      exact ⟨rfl, below_drewN hb1 _⟩
    · have H := Lib.hid (HH.out.trans (if_neg hab))
      have hne : ((a : Int) != (r : Int) * (b : Int) % 7823) = true := by
        rw [bne_iff_ne]
        intro h
        exact hab (by omega)
      clear hab HH
      rw [H.out]
      go_enter Try.func21, Try.ntmps21
      go_wp2_with fail
      refine (isKey_any p _).mono ?_
      rintro e w1 ⟨rfl, rfl⟩
      rw [hp]
      go_wp2_with fail
      refine (signMay_any r s _).mono ?_
      rintro e w1 ⟨rfl, rfl⟩
      rw [hr]
      go_wp2_with fail
      refine (refHash_any r A n c l _ hA.out).mono ?_
      rintro e w1 ⟨rfl, q, hw1⟩
      have c0 : w1.cell? ⟨w.heap.size, 0, none⟩ = some (.int .i64 r) := by rw [hw1]; simp [go_sem]
      have c1 : w1.cell? ⟨w.heap.size, 1, none⟩ = some (.int .i64 s) := by rw [hw1]; simp [go_sem]
      have hb1 : Below w.heap.size w w1 := by rw [hw1]; exact below_drewN hbz2 q
      clear hw1
      rw [HR.out]
      simp only [intsV]
      go_wp2_with fail
      go_quiet (first
        | with_reducible exact Calls.quiet_of_same (PQ.out _)
        | exact Calls.quiet_of_same (TQ.out _))
      go_wp2
      go_ret
      exact ⟨rfl, below_drewN hb1 _⟩
end Go.Proofs.Ytafgaknhdiipdaa
