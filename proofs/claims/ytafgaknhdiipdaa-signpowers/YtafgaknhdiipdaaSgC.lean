/- Package sign: what Check returns. -/
import Derived.Test.YtafgaknhdiipdaaSgY
namespace Go.Proofs.Ytafgaknhdiipdaa
set_option linter.unusedVariables false
set_option linter.unusedSimpArgs false
open Go.RowKit
theorem holds_alloc {w : World} {A : Option Addr} {n : Nat} {xs : List Value} (h : Holds w w.heap.size 1 A n xs) (o : Obj) : Holds (w.alloc o) (w.alloc o).heap.size 1 A n xs :=
  (h.alloc (Nat.le_refl _) o).wider (by simp)
theorem size_alloc (w : World) (o : Obj) : w.heap.size ≤ (w.alloc o).heap.size := by simp
set_option maxRecDepth 100000 in
theorem check_any (p : Int) (A : Option Addr) (n c : Nat) (l : List UInt8) (r s : Int) (w : World) (hh : Holds w w.heap.size 1 A n (l.map bv)) :
    Calls Try.prog 20 #[.int .i64 p, .slice A n c, .agg #[.int .i64 r, .int .i64 s]] w fun e w' => e = .returned (.int .i64 (checkR p n l r s)) ∧ Below w.heap.size w w' := by
  have hbz := (Below.refl w.heap.size w).alloc (Nat.le_refl _) (.cells #[.int .i64 r, .int .i64 s] 30)
  have hbz2 := hbz.alloc (size_alloc _ _) (.cells #[.int .i64 r, .int .i64 s] 30)
  have hA := Lib.hid (holds_alloc (holds_alloc hh (.cells #[.int .i64 r, .int .i64 s] 30)) (.cells #[.int .i64 r, .int .i64 s] 30))
  clear hh
  cases hp : isPub p
  · have H := Lib.hid (show checkR p n l r s = 2 by unfold checkR; rw [hp]; rfl)
    rw [H.out]
    go_enter Try.func20, Try.ntmps20
    go_wp2_with fail
    refine (isPublic_any p _).mono ?_
    rintro e w1 ⟨rfl, rfl⟩
    rw [hp]
    go_wp2
    go_ret
    exact ⟨rfl, hbz⟩
  cases hr : isPub r && okS s
  · have H := Lib.hid (show checkR p n l r s = 2 by unfold checkR; rw [hp, hr]; rfl)
    rw [H.out]
    go_enter Try.func20, Try.ntmps20
    go_wp2_with fail
    refine (isPublic_any p _).mono ?_
    rintro e w1 ⟨rfl, rfl⟩
    rw [hp]
    go_wp2_with fail
    refine (isInRange_any r s _).mono ?_
    rintro e w1 ⟨rfl, rfl⟩
    rw [hr]
    go_wp2
    go_ret
    exact ⟨rfl, hbz2⟩
  by_cases hn : 600 < n
  · have H := Lib.hid (show checkR p n l r s = 1 by unfold checkR; rw [hp, hr, Bool.true_and, if_pos rfl, if_pos hn])
    have hd : decide (600 < n) = true := decide_eq_true hn
    rw [H.out]
    go_enter Try.func20, Try.ntmps20
    go_wp2_with fail
    refine (isPublic_any p _).mono ?_
    rintro e w1 ⟨rfl, rfl⟩
    rw [hp]
    go_wp2_with fail
    refine (isInRange_any r s _).mono ?_
    rintro e w1 ⟨rfl, rfl⟩
    rw [hr]
    go_wp2_with fail
    refine (isLong_any A n c _).mono ?_
    rintro e w1 ⟨rfl, rfl⟩
    rw [hd]
    go_wp2
    go_ret
    exact ⟨rfl, hbz2⟩
  · have hd : decide (600 < n) = false := decide_eq_false hn
    obtain ⟨hr1, hs1⟩ := (Bool.and_eq_true _ _).mp hr
    obtain ⟨p, rfl, hp1, hp2, _⟩ := pub_nat hp
    obtain ⟨r, rfl, hr2, hr3, _⟩ := pub_nat hr1
    obtain ⟨s, rfl, hs2⟩ := okS_nat hs1
    have Hc := Lib.hid (show checkR p n l r s = if pw 4 s % 7823 = r * (pw p (hsh r l) % 7823) % 7823 then 0 else 9 by
      unfold checkR; rw [hp, hr, Bool.true_and, if_pos rfl, if_neg hn, Int.toNat_natCast, Int.toNat_natCast, Int.toNat_natCast])
    clear hr1 hs1
    have hHl := hsh_lt r l
    obtain ⟨h, Hh⟩ : ∃ h, Hid (hsh r l = h) := ⟨_, Lib.hid rfl⟩
    rw [Hh.out] at hHl
    obtain ⟨a, Ha⟩ : ∃ a, Hid (pw 4 s % 7823 = a) := ⟨_, Lib.hid rfl⟩
    have hpp := Nat.mod_lt (pw p h) (show 0 < 7823 by decide)
    obtain ⟨b, Hb⟩ : ∃ b, Hid (pw p h % 7823 = b) := ⟨_, Lib.hid rfl⟩
    rw [Hb.out] at hpp
    have hpl := prod_lt hr3 hpp
    have HH : Hid (checkR p n l r s = if a = r * b % 7823 then 0 else 9) := Lib.hid (by rw [Hc.out, Ha.out, Hh.out, Hb.out])
    clear Hc
    have HQ := Lib.hid (fun k => show Calls Try.prog 33 #[.int .i64 (r : Int), .slice A n c] ((((w.alloc (.cells #[.int .i64 r, .int .i64 s] 30))).alloc (.cells #[.int .i64 r, .int .i64 s] 30)).drewN k) (fun e w' => e = .returned (.int .i64 (h : Nat)) ∧ ∃ m, w' = ((((w.alloc (.cells #[.int .i64 r, .int .i64 s] 30))).alloc (.cells #[.int .i64 r, .int .i64 s] 30)).drewN k).drewN m) by
      have := hash_any r A n c l ((((w.alloc (.cells #[.int .i64 r, .int .i64 s] 30))).alloc (.cells #[.int .i64 r, .int .i64 s] 30)).drewN k) hr3 hA.out (by omega)
      rw [Hh.out] at this
      exact this)
    have PQ := Lib.hid (fun W : World => show Calls Try.prog 29 #[.int .i64 p, .int .i64 h, .int .i64 7823] W (fun e w' => e = .returned (.int .i64 (b : Nat)) ∧ w' = W) by
      have := power_any p h 7823 W hp2 (by omega) (by decide) (by decide)
      rw [Hb.out] at this
      exact this.mono fun _ _ h => ⟨h.1, h.2.symm⟩)
    by_cases hab : a = r * b % 7823
    · have H := Lib.hid (HH.out.trans (if_pos hab))
      have hne : ((a : Int) != (r : Int) * (b : Int) % 7823) = false := by rw [bne_eq_false_iff_eq, hab]; simp
      clear hab HH
      rw [H.out]
      go_enter Try.func20, Try.ntmps20
      go_wp2_with fail
      refine (isPublic_any p _).mono ?_
      rintro e w1 ⟨rfl, rfl⟩
      rw [hp]
      go_wp2_with fail
      refine (isInRange_any r s _).mono ?_
      rintro e w1 ⟨rfl, rfl⟩
      rw [hr]
      go_wp2_with fail
      refine (isLong_any A n c _).mono ?_
      rintro e w1 ⟨rfl, rfl⟩
      rw [hd]
      go_wp2_with fail
      refine (power_any 4 s 7823 _ (by decide) (by omega) (by decide) (by decide)).mono ?_
      rintro e w1 ⟨rfl, rfl⟩
      rw [Ha.out]
      go_wp2_with fail
      go_quiet (first
        | exact Calls.quiet_of (HQ.out _)
        | exact Calls.quiet_of_same (PQ.out _))
      go_wp2
      go_ret
      exact ⟨rfl, below_drewN hbz2 _⟩
    · have H := Lib.hid (HH.out.trans (if_neg hab))
      have hne : ((a : Int) != (r : Int) * (b : Int) % 7823) = true := by
        rw [bne_iff_ne]
        intro h
        exact hab (by omega)
      clear hab HH
      rw [H.out]
      go_enter Try.func20, Try.ntmps20
      go_wp2_with fail
      refine (isPublic_any p _).mono ?_
      rintro e w1 ⟨rfl, rfl⟩
      rw [hp]
      go_wp2_with fail
      refine (isInRange_any r s _).mono ?_
      rintro e w1 ⟨rfl, rfl⟩
      rw [hr]
      go_wp2_with fail
      refine (isLong_any A n c _).mono ?_
      rintro e w1 ⟨rfl, rfl⟩
      rw [hd]
      go_wp2_with fail
      refine (power_any 4 s 7823 _ (by decide) (by omega) (by decide) (by decide)).mono ?_
      rintro e w1 ⟨rfl, rfl⟩
      rw [Ha.out]
      go_wp2_with fail
      go_quiet (first
        | exact Calls.quiet_of (HQ.out _)
        | exact Calls.quiet_of_same (PQ.out _))
      go_wp2
      go_ret
      exact ⟨rfl, below_drewN hbz2 _⟩
end Go.Proofs.Ytafgaknhdiipdaa
