/- Package sign: what Secret returns. -/
import Derived.Test.YtafgaknhdiipdaaSgC
namespace Go.Proofs.Ytafgaknhdiipdaa
set_option linter.unusedVariables false
set_option linter.unusedSimpArgs false
open Go.RowKit
def secretR (n m : Nat) (l1 l2 : List UInt8) (r s r2 s2 : Int) : Nat × Int :=
  if (isPub r && okS s) && (isPub r2 && okS s2) then
    if 600 < n ∨ 600 < m then (0, 1) else if r = r2 then
      if (hsh r.toNat l1 + 3911 - hsh r2.toNat l2) % 3911 = 0 then (0, 8)
      else ((s.toNat + 3911 - s2.toNat) % 3911 * (pw ((hsh r.toNat l1 + 3911 - hsh r2.toNat l2) % 3911) 3909 % 3911) % 3911, 0)
    else (0, 4)
  else (0, 2)
def sgn (r s : Int) : Obj := .cells #[.int .i64 r, .int .i64 s] 30
set_option maxRecDepth 100000 in
set_option maxHeartbeats 4000000 in
theorem secret_any (A B : Option Addr) (n m c d : Nat) (l1 l2 : List UInt8) (r s r2 s2 : Int) (w : World) (h1 : Holds w w.heap.size 1 A n (l1.map bv)) (h2 : Holds w w.heap.size 1 B m (l2.map bv)) :
    Calls Try.prog 22 #[.slice A n c, .slice B m d, .agg #[.int .i64 r, .int .i64 s], .agg #[.int .i64 r2, .int .i64 s2]] w fun e w' => e = .returned (intsV (secretR n m l1 l2 r s r2 s2).1 (secretR n m l1 l2 r s r2 s2).2) ∧ Below w.heap.size w w' := by
  have hb2 : Below w.heap.size w ((w.alloc (sgn r s)).alloc (sgn r2 s2)) := ((Below.refl w.heap.size w).alloc (Nat.le_refl _) _).alloc (by simp) _
  have hb3 : Below w.heap.size w (((w.alloc (sgn r s)).alloc (sgn r2 s2)).alloc (sgn r s)) := hb2.alloc (by simp; omega) _
  have hb4 : Below w.heap.size w ((((w.alloc (sgn r s)).alloc (sgn r2 s2)).alloc (sgn r s)).alloc (sgn r2 s2)) := hb3.alloc (by simp; omega) _
  have hA := Lib.hid (holds_alloc (holds_alloc (holds_alloc (holds_alloc h1 (sgn r s)) (sgn r2 s2)) (sgn r s)) (sgn r2 s2))
  have hB := Lib.hid (holds_alloc (holds_alloc (holds_alloc (holds_alloc h2 (sgn r s)) (sgn r2 s2)) (sgn r s)) (sgn r2 s2))
  clear h1 h2
  simp only [sgn] at hb2 hb3 hb4 hA hB
  cases hp : isPub r && okS s
  · have H := Lib.hid (show secretR n m l1 l2 r s r2 s2 = (0, 2) by unfold secretR; rw [hp]; rfl)
    rw [H.out]
    go_enter Try.func22, Try.ntmps22
    go_wp2_with fail
    refine (isInRange_any r s _).mono ?_
    rintro e w1 ⟨rfl, rfl⟩
    rw [hp]
    go_wp2
    go_ret2
    exact ⟨rfl, hb3⟩
  cases hr : isPub r2 && okS s2
  · have H := Lib.hid (show secretR n m l1 l2 r s r2 s2 = (0, 2) by unfold secretR; rw [hp, hr]; rfl)
    rw [H.out]
    go_enter Try.func22, Try.ntmps22
    go_wp2_with fail
    refine (isInRange_any r s _).mono ?_
    rintro e w1 ⟨rfl, rfl⟩
    rw [hp]
    go_wp2_with fail
    refine (isInRange_any r2 s2 _).mono ?_
    rintro e w1 ⟨rfl, rfl⟩
    rw [hr]
    go_wp2
    go_ret2
    exact ⟨rfl, hb4⟩
  by_cases hn : 600 < n
  · have H := Lib.hid (show secretR n m l1 l2 r s r2 s2 = (0, 1) by unfold secretR; rw [hp, hr, Bool.true_and, if_pos rfl, if_pos (.inl hn)])
    have hd : decide (600 < n) = true := decide_eq_true hn
    rw [H.out]
    go_enter Try.func22, Try.ntmps22
    go_wp2_with fail
    refine (isInRange_any r s _).mono ?_
    rintro e w1 ⟨rfl, rfl⟩
    rw [hp]
    go_wp2_with fail
    refine (isInRange_any r2 s2 _).mono ?_
    rintro e w1 ⟨rfl, rfl⟩
    rw [hr]
    go_wp2_with fail
    refine (isLong_any A n c _).mono ?_
    rintro e w1 ⟨rfl, rfl⟩
    rw [hd]
    go_wp2
    go_ret2
    exact ⟨rfl, hb4⟩
  have hd : decide (600 < n) = false := decide_eq_false hn
  by_cases hm : 600 < m
  · have H := Lib.hid (show secretR n m l1 l2 r s r2 s2 = (0, 1) by unfold secretR; rw [hp, hr, Bool.true_and, if_pos rfl, if_pos (.inr hm)])
    have hd2 : decide (600 < m) = true := decide_eq_true hm
    rw [H.out]
    go_enter Try.func22, Try.ntmps22
    go_wp2_with fail
    refine (isInRange_any r s _).mono ?_
    rintro e w1 ⟨rfl, rfl⟩
    rw [hp]
    go_wp2_with fail
    refine (isInRange_any r2 s2 _).mono ?_
    rintro e w1 ⟨rfl, rfl⟩
    rw [hr]
    go_wp2_with fail
    refine (isLong_any A n c _).mono ?_
    rintro e w1 ⟨rfl, rfl⟩
    rw [hd]
    go_wp2_with fail
    refine (isLong_any B m d _).mono ?_
    rintro e w1 ⟨rfl, rfl⟩
    rw [hd2]
    go_wp2
    go_ret2
    exact ⟨rfl, hb4⟩
  have hd2 : decide (600 < m) = false := decide_eq_false hm
  obtain ⟨hr1, hs1⟩ := (Bool.and_eq_true _ _).mp hp
  obtain ⟨hr2, hs2⟩ := (Bool.and_eq_true _ _).mp hr
  obtain ⟨r, rfl, ha1, ha2, _⟩ := pub_nat hr1
  obtain ⟨s, rfl, hsl⟩ := okS_nat hs1
  obtain ⟨r2, rfl, ha3, ha4, _⟩ := pub_nat hr2
  obtain ⟨s2, rfl, hs2l⟩ := okS_nat hs2
  clear hr1 hs1 hr2 hs2
  have Hc := Lib.hid (show secretR n m l1 l2 r s r2 s2 = if r = r2 then
      if (hsh r l1 + 3911 - hsh r2 l2) % 3911 = 0 then (0, 8)
      else ((s + 3911 - s2) % 3911 * (pw ((hsh r l1 + 3911 - hsh r2 l2) % 3911) 3909 % 3911) % 3911, 0)
    else (0, 4) by
      unfold secretR; rw [hp, hr, Bool.true_and, if_pos rfl, if_neg (fun h => h.elim hn hm), Int.toNat_natCast, Int.toNat_natCast, Int.toNat_natCast, Int.toNat_natCast]
      by_cases hrr : r = r2
      · rw [if_pos hrr, if_pos (by rw [hrr])]
      · rw [if_neg hrr, if_neg (by omega)])
  by_cases hrr : r = r2
  · subst hrr
    have hl1 := hsh_lt r l1
    have hl2 := hsh_lt r l2
    obtain ⟨x, Hx⟩ : ∃ x, Hid (hsh r l1 = x) := ⟨_, Lib.hid rfl⟩
    obtain ⟨y, Hy⟩ : ∃ y, Hid (hsh r l2 = y) := ⟨_, Lib.hid rfl⟩
    rw [Hx.out] at hl1
    rw [Hy.out] at hl2
    obtain ⟨z, Hz⟩ : ∃ z, Hid ((x + 3911 - y) % 3911 = z) := ⟨_, Lib.hid rfl⟩
    have hzl : z < 3911 := by rw [← Hz.out]; exact Nat.mod_lt _ (by decide)
    obtain ⟨u, Hu⟩ : ∃ u, Hid ((s + 3911 - s2) % 3911 = u) := ⟨_, Lib.hid rfl⟩
    have hul : u < 3911 := by rw [← Hu.out]; exact Nat.mod_lt _ (by decide)
    obtain ⟨v, Hv⟩ : ∃ v, Hid (pw z 3909 % 3911 = v) := ⟨_, Lib.hid rfl⟩
    have hvl : v < 3911 := by rw [← Hv.out]; exact Nat.mod_lt _ (by decide)
    have huv := prod_lt' hul hvl
    have HH : Hid (secretR n m l1 l2 r s r s2 = if z = 0 then (0, 8) else (u * v % 3911, 0)) := Lib.hid (by
      rw [Hc.out, if_pos rfl, Hx.out, Hy.out, Hz.out, Hu.out, Hv.out])
    clear Hc
    have HQ1 := Lib.hid (fun (W : World) (hW : Holds W W.heap.size 1 A n (l1.map bv)) (k : Nat) => show Calls Try.prog 33 #[.int .i64 (r : Int), .slice A n c] (W.drewN k) (fun e w' => e = .returned (.int .i64 (x : Nat)) ∧ ∃ m, w' = (W.drewN k).drewN m) by
      have := hash_any r A n c l1 (W.drewN k) ha2 hW (by omega)
      rw [Hx.out] at this
      exact this)
    have HQ2 := Lib.hid (fun (W : World) (hW : Holds W W.heap.size 1 B m (l2.map bv)) (k : Nat) => show Calls Try.prog 33 #[.int .i64 (r : Int), .slice B m d] (W.drewN k) (fun e w' => e = .returned (.int .i64 (y : Nat)) ∧ ∃ m, w' = (W.drewN k).drewN m) by
      have := hash_any r B m d l2 (W.drewN k) ha2 hW (by omega)
      rw [Hy.out] at this
      exact this)
    have DQ1 := Lib.hid (fun W : World => show Calls Try.prog 38 #[.int .i64 x, .int .i64 y] W (fun e w' => e = .returned (.int .i64 (z : Nat)) ∧ w' = W) by
      have := difference_any x y W hl1 hl2
      rw [Hz.out] at this
      exact this.mono fun _ _ h => ⟨h.1, h.2.symm⟩)
    have DQ2 := Lib.hid (fun W : World => show Calls Try.prog 38 #[.int .i64 s, .int .i64 s2] W (fun e w' => e = .returned (.int .i64 (u : Nat)) ∧ w' = W) by
      have := difference_any s s2 W hsl hs2l
      rw [Hu.out] at this
      exact this.mono fun _ _ h => ⟨h.1, h.2.symm⟩)
    have IQ := Lib.hid (fun W : World => show Calls Try.prog 39 #[.int .i64 z] W (fun e w' => e = .returned (.int .i64 (v : Nat)) ∧ w' = W) by
      have := inverse_any z W hzl
      rw [Hv.out] at this
      exact this.mono fun _ _ h => ⟨h.1, h.2.symm⟩)
    by_cases hz : z = 0
    · have H := Lib.hid (HH.out.trans (if_pos hz))
      have hze : ((z : Int) == 0) = true := by rw [beq_iff_eq]; omega
      rw [H.out]
      clear HH
      go_enter Try.func22, Try.ntmps22
      go_wp2_with fail
      refine (isInRange_any r s _).mono ?_
      rintro e w1 ⟨rfl, rfl⟩
      rw [hp]
      go_wp2_with fail
      refine (isInRange_any r s2 _).mono ?_
      rintro e w1 ⟨rfl, rfl⟩
      rw [hr]
      go_wp2_with fail
      refine (isLong_any A n c _).mono ?_
      rintro e w1 ⟨rfl, rfl⟩
      rw [hd]
      go_wp2_with fail
      refine (isLong_any B m d _).mono ?_
      rintro e w1 ⟨rfl, rfl⟩
      rw [hd2]
      go_wp2_with fail
      go_quiet (first
        | with_reducible exact Calls.quiet_of (HQ1.out _ hA.out _)
        | with_reducible exact Calls.quiet_of (HQ2.out _ hB.out _)
        | with_reducible exact Calls.quiet_of_same (DQ1.out _))
      go_wp2_with fail
      go_ret2
      exact ⟨rfl, below_drewN hb4 _⟩
    · have H := Lib.hid (HH.out.trans (if_neg hz))
      have hze : ((z : Int) == 0) = false := by rw [beq_eq_false_iff_ne]; omega
      rw [H.out]
      clear HH
      go_enter Try.func22, Try.ntmps22
      go_wp2_with fail
      refine (isInRange_any r s _).mono ?_
      rintro e w1 ⟨rfl, rfl⟩
      rw [hp]
      go_wp2_with fail
      refine (isInRange_any r s2 _).mono ?_
      rintro e w1 ⟨rfl, rfl⟩
      rw [hr]
      go_wp2_with fail
      refine (isLong_any A n c _).mono ?_
      rintro e w1 ⟨rfl, rfl⟩
      rw [hd]
      go_wp2_with fail
      refine (isLong_any B m d _).mono ?_
      rintro e w1 ⟨rfl, rfl⟩
      rw [hd2]
      go_wp2_with fail
      go_quiet (first
        | with_reducible exact Calls.quiet_of (HQ1.out _ hA.out _)
        | with_reducible exact Calls.quiet_of (HQ2.out _ hB.out _)
        | with_reducible exact Calls.quiet_of_same (DQ1.out _))
      go_wp2_with fail
      refine (DQ2.out _).mono ?_
      rintro e w1 ⟨rfl, rfl⟩
      go_wp2_with fail
      refine (IQ.out _).mono ?_
      rintro e w1 ⟨rfl, rfl⟩
      go_wp2_with fail
      go_ret2
      exact ⟨rfl, below_drewN hb4 _⟩
  · have H := Lib.hid (Hc.out.trans (if_neg hrr))
    have hne : ((r : Int) != (r2 : Int)) = true := by rw [bne_iff_ne]; omega
    rw [H.out]
    go_enter Try.func22, Try.ntmps22
    go_wp2_with fail
    refine (isInRange_any r s _).mono ?_
    rintro e w1 ⟨rfl, rfl⟩
    rw [hp]
    go_wp2_with fail
    refine (isInRange_any r2 s2 _).mono ?_
    rintro e w1 ⟨rfl, rfl⟩
    rw [hr]
    go_wp2_with fail
    refine (isLong_any A n c _).mono ?_
    rintro e w1 ⟨rfl, rfl⟩
    rw [hd]
    go_wp2_with fail
    refine (isLong_any B m d _).mono ?_
    rintro e w1 ⟨rfl, rfl⟩
    rw [hd2]
    go_wp2_with fail
    go_ret2
    exact ⟨rfl, hb4⟩
end Go.Proofs.Ytafgaknhdiipdaa
