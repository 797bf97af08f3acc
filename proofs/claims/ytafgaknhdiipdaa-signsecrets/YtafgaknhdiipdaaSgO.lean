/- The document's own functions of signatures: SignSecret, which tries all secrets. -/
import Derived.Test.YtafgaknhdiipdaaSgP
import Derived.Test.YtafgaknhdiipdaaSgN
namespace Go.Proofs.Ytafgaknhdiipdaa
set_option linter.unusedVariables false
set_option linter.unusedSimpArgs false
open Go.RowKit
def SrchR (x0 T : Nat) (w : World) (gk : Nat) (vi : Value) (wr : World) : Prop :=
  ∃ i : Nat, vi = .int .i64 i ∧ i ≤ x0 ∧ gk = T - i ∧ wr = w
set_option maxRecDepth 100000 in
set_option maxHeartbeats 4000000 in
theorem refSecret_any (A B : Option Addr) (n m c d : Nat) (l1 l2 : List UInt8) (r s r2 s2 : Int) (w : World) (h1 : Holds w w.heap.size 1 A n (l1.map bv)) (h2 : Holds w w.heap.size 1 B m (l2.map bv)) :
    Calls Try.prog 23 #[.slice A n c, .slice B m d, .agg #[.int .i64 r, .int .i64 s], .agg #[.int .i64 r2, .int .i64 s2]] w fun e w' => e = .returned (intsV (secretR n m l1 l2 r s r2 s2).1 (secretR n m l1 l2 r s r2 s2).2) ∧ Below w.heap.size w w' := by
  have hb2 : Below w.heap.size w ((w.alloc (sgn r s)).alloc (sgn r2 s2)) := ((Below.refl w.heap.size w).alloc (Nat.le_refl _) _).alloc (by simp) _
  have hb3 : Below w.heap.size w (((w.alloc (sgn r s)).alloc (sgn r2 s2)).alloc (sgn r s)) := hb2.alloc (by simp; omega) _
  have hb4 : Below w.heap.size w ((((w.alloc (sgn r s)).alloc (sgn r2 s2)).alloc (sgn r s)).alloc (sgn r2 s2)) := hb3.alloc (by simp; omega) _
  have hA := Lib.hid (holds_alloc (holds_alloc (holds_alloc (holds_alloc h1 (sgn r s)) (sgn r2 s2)) (sgn r s)) (sgn r2 s2))
  have hB := Lib.hid (holds_alloc (holds_alloc (holds_alloc (holds_alloc h2 (sgn r s)) (sgn r2 s2)) (sgn r s)) (sgn r2 s2))
  clear h1 h2
  simp only [sgn] at hb2 hb3 hb4 hA hB
  cases hp : isPub r && okS s
  · have H := Lib.hid (show secretR n m l1 l2 r s r2 s2 = (0, 2) by unfold secretR; rw [hp]; rfl)
    rw [H.out]
    go_enter Try.func23, Try.ntmps23
    go_wp2_with fail
    refine (signMay_any r s _).mono ?_
    rintro e w1 ⟨rfl, rfl⟩
    rw [hp]
    go_wp2
    go_ret2
    exact ⟨rfl, hb3⟩
  cases hr : isPub r2 && okS s2
  · have H := Lib.hid (show secretR n m l1 l2 r s r2 s2 = (0, 2) by unfold secretR; rw [hp, hr]; rfl)
    rw [H.out]
    go_enter Try.func23, Try.ntmps23
    go_wp2_with fail
    refine (signMay_any r s _).mono ?_
    rintro e w1 ⟨rfl, rfl⟩
    rw [hp]
    go_wp2_with fail
    refine (signMay_any r2 s2 _).mono ?_
    rintro e w1 ⟨rfl, rfl⟩
    rw [hr]
    go_wp2
    go_ret2
    exact ⟨rfl, hb4⟩
  by_cases hn : 600 < n
  · have H := Lib.hid (show secretR n m l1 l2 r s r2 s2 = (0, 1) by unfold secretR; rw [hp, hr, Bool.true_and, if_pos rfl, if_pos (.inl hn)])
    rw [H.out]
    go_enter Try.func23, Try.ntmps23
    go_wp2_with fail
    refine (signMay_any r s _).mono ?_
    rintro e w1 ⟨rfl, rfl⟩
    rw [hp]
    go_wp2_with fail
    refine (signMay_any r2 s2 _).mono ?_
    rintro e w1 ⟨rfl, rfl⟩
    rw [hr]
    go_wp2
    go_ret2
    exact ⟨rfl, hb4⟩
  by_cases hm : 600 < m
  · have H := Lib.hid (show secretR n m l1 l2 r s r2 s2 = (0, 1) by unfold secretR; rw [hp, hr, Bool.true_and, if_pos rfl, if_pos (.inr hm)])
    rw [H.out]
    go_enter Try.func23, Try.ntmps23
    go_wp2_with fail
    refine (signMay_any r s _).mono ?_
    rintro e w1 ⟨rfl, rfl⟩
    rw [hp]
    go_wp2_with fail
    refine (signMay_any r2 s2 _).mono ?_
    rintro e w1 ⟨rfl, rfl⟩
    rw [hr]
    go_wp2
    go_ret2
    exact ⟨rfl, hb4⟩
  obtain ⟨hr1, hs1⟩ := (Bool.and_eq_true _ _).mp hp
  obtain ⟨hr2, hs2⟩ := (Bool.and_eq_true _ _).mp hr
  obtain ⟨r, rfl, ha1, ha2, _⟩ := pub_nat hr1
  obtain ⟨s, rfl, hsl⟩ := okS_nat hs1
  obtain ⟨r2, rfl, ha3, ha4, _⟩ := pub_nat hr2
  obtain ⟨s2, rfl, hs2l⟩ := okS_nat hs2
  clear hr1 hs1 hr2 hs2
  have Hc := Lib.hid (show secretR n m l1 l2 r s r2 s2 = if r = r2 then
      if (hsh r l1 + 3911 - hsh r2 l2) % 3911 = 0 then (0, 8)
      else ((s + 3911 - s2) % 3911 * (pw ((hsh r l1 + 3911 - hsh r2 l2) % 3911) 3909 % 3911) % 3911, 0)
    else (0, 4) by
      unfold secretR; rw [hp, hr, Bool.true_and, if_pos rfl, if_neg (fun h => h.elim hn hm), Int.toNat_natCast, Int.toNat_natCast, Int.toNat_natCast, Int.toNat_natCast]
      by_cases hrr : r = r2
      · rw [if_pos hrr, if_pos (by rw [hrr])]
      · rw [if_neg hrr, if_neg (by omega)])
  by_cases hrr : r = r2
  · subst hrr
    have hl1 := hsh_lt r l1
    have hl2 := hsh_lt r l2
    have hR1 := hashR_key (l := l1) ha2 hn
    have hR2 := hashR_key (l := l2) ha2 hm
    obtain ⟨x, Hx⟩ : ∃ x, Hid (hsh r l1 = x) := ⟨_, Lib.hid rfl⟩
    obtain ⟨y, Hy⟩ : ∃ y, Hid (hsh r l2 = y) := ⟨_, Lib.hid rfl⟩
    rw [Hx.out] at hl1 hR1
    rw [Hy.out] at hl2 hR2
    have HR1 := Lib.hid hR1
    have HR2 := Lib.hid hR2
    clear hR1 hR2
    have HH : Hid (secretR n m l1 l2 r s r s2 = if (x + 3911 - y) % 3911 = 0 then (0, 8) else ((s + 3911 - s2) % 3911 * (pw ((x + 3911 - y) % 3911) 3909 % 3911) % 3911, 0)) := Lib.hid (by
      rw [Hc.out, if_pos rfl, Hx.out, Hy.out])
    clear Hc
    by_cases hz : (x + 3911 - y) % 3911 = 0
    · have H := Lib.hid (HH.out.trans (if_pos hz))
      have hze : ((x : Int) == (y : Int)) = true := by rw [beq_iff_eq]; omega
      clear hz
      rw [H.out]
      clear HH
      go_enter Try.func23, Try.ntmps23
      go_wp2_with fail
      refine (signMay_any r s _).mono ?_
      rintro e w1 ⟨rfl, rfl⟩
      rw [hp]
      go_wp2_with fail
      refine (signMay_any r s2 _).mono ?_
      rintro e w1 ⟨rfl, rfl⟩
      rw [hr]
      go_wp2_with fail
      refine (refHash_any r A n c l1 _ hA.out).mono ?_
      rintro e w1 ⟨rfl, q, hw1⟩
      have hB1 : Holds w1 w1.heap.size 1 B m (l2.map bv) := by rw [hw1]; exact hB.out
      have c0 : w1.cell? ⟨w.heap.size, 0, none⟩ = some (.int .i64 r) := by rw [hw1]; simp [go_sem]
      have c1 : w1.cell? ⟨w.heap.size, 1, none⟩ = some (.int .i64 s) := by rw [hw1]; simp [go_sem]
      have c2 : w1.cell? ⟨w.heap.size + 1, 0, none⟩ = some (.int .i64 r) := by rw [hw1]; simp [go_sem]
      have c3 : w1.cell? ⟨w.heap.size + 1, 1, none⟩ = some (.int .i64 s2) := by rw [hw1]; simp [go_sem]
      have hb1 : Below w.heap.size w w1 := by rw [hw1]; exact below_drewN hb4 q
      clear hw1
      rw [HR1.out]
      simp only [intsV]
      go_wp2_with fail
      refine (refHash_any r B m d l2 _ hB1).mono ?_
      rintro e w2 ⟨rfl, q2, hw2⟩
      have d1 : w2.cell? ⟨w.heap.size, 1, none⟩ = some (.int .i64 s) := by rw [hw2]; exact c1
      have d3 : w2.cell? ⟨w.heap.size + 1, 1, none⟩ = some (.int .i64 s2) := by rw [hw2]; exact c3
      have hb1 : Below w.heap.size w w2 := by rw [hw2]; exact below_drewN hb1 q2
      clear hw2 c0 c1 c2 c3 hB1
      rw [HR2.out]
      simp only [intsV]
      go_wp2_with fail
      go_ret2
      exact ⟨rfl, hb1⟩
    · have Hiff := Lib.hid (fun i (hi : i < 3911) => secret_iff (x := i) hi hl1 hl2 hsl hs2l hz)
      have H := Lib.hid (HH.out.trans (if_neg hz))
      have hze : ((x : Int) == (y : Int)) = false := by rw [beq_eq_false_iff_ne]; intro h; apply hz; omega
      rw [H.out]
      clear HH
      have hx0 := Nat.mod_lt ((s + 3911 - s2) % 3911 * (pw ((x + 3911 - y) % 3911) 3909 % 3911)) (show 0 < 3911 by decide)
      obtain ⟨x0, HX⟩ : ∃ x0, Hid ((s + 3911 - s2) % 3911 * (pw ((x + 3911 - y) % 3911) 3909 % 3911) % 3911 = x0) := ⟨_, Lib.hid rfl⟩
      rw [HX.out] at hx0 ⊢
      have HI : Hid (∀ i : Nat, i < 3911 → (((3911 : Int) ∣ (i : Int) * x - i * y - (s - s2)) ↔ i = x0)) := Lib.hid (fun i hi => by have := Hiff.out i hi; rw [HX.out] at this; exact this)
      clear Hiff H hz HX
      go_enter Try.func23, Try.ntmps23
      go_wp2_with fail
      refine (signMay_any r s _).mono ?_
      rintro e w1 ⟨rfl, rfl⟩
      rw [hp]
      go_wp2_with fail
      refine (signMay_any r s2 _).mono ?_
      rintro e w1 ⟨rfl, rfl⟩
      rw [hr]
      go_wp2_with fail
      refine (refHash_any r A n c l1 _ hA.out).mono ?_
      rintro e w1 ⟨rfl, q, hw1⟩
      have hB1 : Holds w1 w1.heap.size 1 B m (l2.map bv) := by rw [hw1]; exact hB.out
      have c0 : w1.cell? ⟨w.heap.size, 0, none⟩ = some (.int .i64 r) := by rw [hw1]; simp [go_sem]
      have c1 : w1.cell? ⟨w.heap.size, 1, none⟩ = some (.int .i64 s) := by rw [hw1]; simp [go_sem]
      have c2 : w1.cell? ⟨w.heap.size + 1, 0, none⟩ = some (.int .i64 r) := by rw [hw1]; simp [go_sem]
      have c3 : w1.cell? ⟨w.heap.size + 1, 1, none⟩ = some (.int .i64 s2) := by rw [hw1]; simp [go_sem]
      have hb1 : Below w.heap.size w w1 := by rw [hw1]; exact below_drewN hb4 q
      clear hw1
      rw [HR1.out]
      simp only [intsV]
      go_wp2_with fail
      refine (refHash_any r B m d l2 _ hB1).mono ?_
      rintro e w2 ⟨rfl, q2, hw2⟩
      have d1 : w2.cell? ⟨w.heap.size, 1, none⟩ = some (.int .i64 s) := by rw [hw2]; exact c1
      have d3 : w2.cell? ⟨w.heap.size + 1, 1, none⟩ = some (.int .i64 s2) := by rw [hw2]; exact c3
      have hb1 : Below w.heap.size w w2 := by rw [hw2]; exact below_drewN hb1 q2
      clear hw2 c0 c1 c2 c3 hB1
      rw [HR2.out]
      simp only [intsV]
      go_wp2_with fail
      obtain ⟨T, HT⟩ : ∃ T : Nat, Hid (T = 3911) := ⟨_, Lib.hid rfl⟩
      go_loopg [14] T (SrchR x0 T w2)
      case atStart => exact ⟨0, rfl, by omega, rfl, rfl⟩
      case round =>
        obtain ⟨i, rfl, hi, hgk, rfl⟩ := hrel
        have Hgk := Lib.hid hgk
        clear hgk
        have hil : i < 3911 := by omega
        have p1 := prod_lt' hil hl1
        have p2 := prod_lt' hil hl2
        by_cases he : i = x0
        · have ht : (((i : Int) * x - i * y - (s - s2)).tmod 3911 == 0) = true := by
            rw [beq_iff_eq]; exact Int.tmod_eq_zero_of_dvd ((HI.out i hil).2 he)
          subst he
          go_wp2
          go_ret2
          exact ⟨rfl, hb1⟩
        · have ht : (((i : Int) * x - i * y - (s - s2)).tmod 3911 == 0) = false := by
            rw [beq_eq_false_iff_ne]; intro h; exact he ((HI.out i hil).1 (Int.dvd_of_tmod_eq_zero h))
          go_wp2
          go_roundg (T - (i + 1))
          case measure => have := Hgk.out; have := HT.out; omega
          case rel => exact ⟨i + 1, by go_num, by omega, rfl, rfl⟩
  · have H := Lib.hid (Hc.out.trans (if_neg hrr))
    have hne : ((r : Int) != (r2 : Int)) = true := by rw [bne_iff_ne]; omega
    rw [H.out]
    go_enter Try.func23, Try.ntmps23
    go_wp2_with fail
    refine (signMay_any r s _).mono ?_
    rintro e w1 ⟨rfl, rfl⟩
    rw [hp]
    go_wp2_with fail
    refine (signMay_any r2 s2 _).mono ?_
    rintro e w1 ⟨rfl, rfl⟩
    rw [hr]
    go_wp2_with fail
    go_ret2
    exact ⟨rfl, hb4⟩
end Go.Proofs.Ytafgaknhdiipdaa
