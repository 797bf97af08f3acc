/- Joined texts: WlRef, WlRefP, WlRefS. -/
import Derived.Test.YtploicbiapjfdaaBunWA
import Derived.Test.YtploicbiapjfdaaWlPack
import Derived.Test.YtploicbiapjfdaaWlScan
/- Package wal: the reference's two sums. -/
namespace Go.Proofs.Ytploicbiapjfdaa
set_option linter.unusedVariables false
set_option linter.unusedSimpArgs false
open Go.RowKit
theorem sumA_le (l : List UInt8) : sumA l ≤ l.length * 256 := by
  induction l with
  | nil => simp [sumA]
  | cons x r ih =>
    have := x.toNat_lt
    simp only [sumA, List.length_cons, Nat.add_mul]
    omega
/-- The reference's second sum of the first k of n bytes: each byte as often as there are bytes from it on, to the end of all. -/
def sumC (n : Nat) : Nat → List UInt8 → Nat
  | _, [] => 0
  | i, x :: r => (n - i) * (x.toNat + 1) + sumC n (i + 1) r
theorem sumC_snoc (n i : Nat) (l : List UInt8) (x : UInt8) : sumC n i (l ++ [x]) = sumC n i l + (n - (i + l.length)) * (x.toNat + 1) := by
  induction l generalizing i with
  | nil => simp [sumC]
  | cons y r ih =>
    simp only [List.cons_append, sumC, ih, List.length_cons]
    rw [show i + 1 + r.length = i + (r.length + 1) by omega]
    omega
theorem sumC_eq (n i : Nat) (l : List UInt8) (h : i + l.length = n) : sumC n i l = sumB l := by
  induction l generalizing i with
  | nil => rfl
  | cons y r ih =>
    simp only [List.length_cons] at h
    simp only [sumC, sumB]
    rw [ih (i + 1) (by omega), show n - i = r.length + 1 by omega]
    omega
theorem sumC_le (n i : Nat) (l : List UInt8) (h : i + l.length ≤ n) : sumC n i l ≤ l.length * (n * 256) := by
  induction l generalizing i with
  | nil => simp [sumC]
  | cons y r ih =>
    simp only [List.length_cons] at h
    have h1 := ih (i + 1) (by omega)
    have h2 : (n - i) * (y.toNat + 1) ≤ n * 256 := Nat.mul_le_mul (by omega) (by have := y.toNat_lt; omega)
    simp only [sumC, List.length_cons, Nat.add_mul]
    omega
def RsR (w : World) (l : List UInt8) (n : Nat) (gk : Nat) (va vb vi : Value) (wr : World) : Prop :=
  ∃ (k a b : Nat), vi = .int .i64 k ∧ va = .int .i64 a ∧ vb = .int .i64 b ∧ k ≤ n ∧ gk = n - k ∧ a = sumA (l.take k) ∧ b = sumC n 0 (l.take k) ∧ a ≤ 256000 ∧ b ≤ 256000000 ∧ w = wr
theorem walSums_any (A : Option Addr) (n c : Nat) (l : List UInt8) (w : World) (hh : Holds w w.heap.size 1 A n (l.map bv)) (hn : n ≤ 1000) :
    Calls Try.prog 65 #[.slice A n c] w fun e w' => e = .returned (.tuple #[.int .i64 ((sums l).1 : Nat), .int .i64 ((sums l).2 : Nat)]) ∧ w = w' := by
  have hl := hh.len
  have Hh := Lib.hid hh
  have Hl := Lib.hid hl
  clear hh hl
  go_enter Try.func65, Try.ntmps65
  go_wp2
  go_loopg [4, 5, 10] n (RsR w l n)
  case atStart => exact ⟨0, 0, 0, rfl, rfl, rfl, by omega, by omega, rfl, rfl, by omega, by omega, rfl⟩
  case round =>
    obtain ⟨k, a, b, rfl, rfl, rfl, hk, hgk, ha, hb, ha2, hb2, rfl⟩ := hrel
    have Hgk := Lib.hid hgk
    have Ha := Lib.hid ha
    have Hb := Lib.hid hb
    clear hgk ha hb
    by_cases hkn : k < n
    · obtain ⟨b', off, hkl, rfl, hbb, hc1⟩ := Hh.out.byte hkn
      have Hs1 := Lib.hid (show sumA (l.take (k + 1)) = a + (l[k].toNat + 1) by rw [List.take_succ_eq_append_getElem hkl, sumA_snoc, Ha.out])
      have Hs2 := Lib.hid (show sumC n 0 (l.take (k + 1)) = b + (n - k) * (l[k].toNat + 1) by
        rw [List.take_succ_eq_append_getElem hkl, sumC_snoc, Hb.out, Nat.zero_add, List.length_take, Nat.min_eq_left (by omega)])
      have hla : sumA (l.take (k + 1)) ≤ 256000 := Nat.le_trans (sumA_le _) (by rw [List.length_take]; omega)
      have hlc : sumC n 0 (l.take (k + 1)) ≤ 256000000 := by
        refine Nat.le_trans (sumC_le _ _ _ (by rw [List.length_take]; omega)) ?_
        have : (l.take (k + 1)).length * (n * 256) ≤ 1000 * (1000 * 256) := Nat.mul_le_mul (by rw [List.length_take]; omega) (by omega)
        omega
      have hcl := l[k].toNat_lt
      have Hla := Lib.hid hla
      have Hlc := Lib.hid hlc
      clear hla hlc
      generalize l[k].toNat = x at *
      obtain ⟨d, hd⟩ : ∃ d, n = k + d := ⟨n - k, by omega⟩
      have hdx : d * (x + 1) ≤ 1000 * 256 := Nat.mul_le_mul (by omega) (by omega)
      have hm : ((n : Int) - k) * ((x : Int) + 1) = ((d * (x + 1) : Nat) : Int) := by subst hd; rw [show ((k + d : Nat) : Int) - k = (d : Nat) by omega]; simp
      have hm1 : 0 ≤ ((n : Int) - k) * ((x : Int) + 1) := by rw [hm]; omega
      have hm2 : ((n : Int) - k) * ((x : Int) + 1) ≤ 256000 := by rw [hm]; omega
      have Hm := Lib.hid hm
      have Hd := Lib.hid (show n - k = d by omega)
      clear hm hd hdx
      go_wp2
      go_roundg (n - (k + 1))
      case measure => have := Hgk.out; omega
      case rel =>
        have h1 := Hs1.out
        have h2 := Hs2.out
        rw [Hd.out] at h2
        refine ⟨k + 1, a + (x + 1), b + d * (x + 1), by go_num, by go_num, ?_, by omega, rfl, h1.symm, h2.symm, by have := Hla.out; omega, by have := Hlc.out; omega, rfl⟩
        have := Hm.out
        go_num
    · have hkn' : k = n := by omega
      subst hkn'
      go_wp2
      go_ret2
      have e : sums l = (a % 251, b % 251) := by
        rw [sums_eq, Ha.out, Hb.out, List.take_of_length_le (by rw [Hl.out]; omega), sumC_eq k 0 l (by rw [Hl.out]; omega)]
      exact ⟨by rw [e]; simp, rfl⟩
end Go.Proofs.Ytploicbiapjfdaa

/- Package wal: the reference's WalPack. -/
namespace Go.Proofs.Ytploicbiapjfdaa
set_option linter.unusedVariables false
set_option linter.unusedSimpArgs false
open Go.RowKit
def RpR (w : World) (bs : List (List UInt8)) (n : Nat) (gk : Nat) (vi : Value) (wr : World) : Prop :=
  ∃ k : Nat, vi = .int .i64 k ∧ k ≤ n ∧ gk = n - k ∧ (bs.take k).all recB = true ∧ w = wr
theorem two_own (W : World) (x y : UInt8) : Own (W.alloc (.cells #[bv x, bv y] 5)) W.heap.size (.slice (some ⟨W.heap.size, 0, none⟩) 2 2) [x, y] := by
  refine ⟨rfl, .inr ⟨W.heap.size, 2, #[bv x, bv y], rfl, Nat.le_refl _, Blk.new W _ _, by simp, by unfold maxLen; omega, rfl, rfl⟩⟩
set_option maxHeartbeats 2000000 in
theorem refPack_any (A : Option Addr) (n c B : Nat) (bs : List (List UInt8)) (cs : List Value) (w : World) (hh : HoldsS w (lowB B) 1 A n cs) (ha : Ats (In1 w (lowB B)) bs cs) (hn : n = bs.length) (hB : B ≤ w.heap.size)
    (hn2 : n ≤ 9223372036854775807) (hl : ∀ r ∈ bs, r.length ≤ 9223372036854775807) :
    Calls Try.prog 61 #[.slice A n c] w fun e w' => ∃ v', e = .returned (.tuple #[v', .int .i64 (packR bs).2]) ∧ Own w' w.heap.size v' (packR bs).1 ∧ Below w.heap.size w w' := by
  have Hn := Lib.hid hn
  clear hn
  obtain ⟨i0, hi0, hz0, hz1, hz2⟩ := info_parts info_u8
  by_cases h1 : (n : Int) = 0
  · have H := Lib.hid (show packR bs = ([], 1) by unfold packR okB; rw [decide_eq_false (by have := Hn.out; omega)]; rfl)
    have h1b : ((n : Int) == 0) = true := by simp [h1]
    clear h1
    go_enter Try.func61, Try.ntmps61
    go_wp2
    go_ret2
    exact ⟨_, by rw [H.out]; rfl, by rw [H.out]; exact Own.nil _ _, Below.refl _ _⟩
  · have h1b : ((n : Int) == 0) = false := by simpa using h1
    have h1c : 1 ≤ n := by omega
    clear h1
    by_cases h2 : 60 < (n : Int)
    · have H := Lib.hid (show packR bs = ([], 1) by unfold packR okB; rw [decide_eq_false (show ¬ bs.length ≤ 60 by have := Hn.out; omega)]; simp)
      go_enter Try.func61, Try.ntmps61
      go_wp2
      go_ret2
      exact ⟨_, by rw [H.out]; rfl, by rw [H.out]; exact Own.nil _ _, Below.refl _ _⟩
    · have Hh := Lib.hid hh
      have Ha := Lib.hid ha
      have Hl := Lib.hid hl
      clear hh ha hl
      go_enter Try.func61, Try.ntmps61
      go_wp2
      go_loopg [22] n (RpR w bs n)
      case atStart => exact ⟨0, rfl, by omega, by omega, rfl, rfl⟩
      case round =>
        obtain ⟨k, rfl, hk, hgk, hall, rfl⟩ := hrel
        have Hgk := Lib.hid hgk
        have Hall := Lib.hid hall
        clear hgk hall
        by_cases hkn : k < n
        · obtain ⟨b, off, u, rfl, hbb, hc1, A1, c1, rfl, hc2, hA1, hr1⟩ := InL.at_ Hh.out Ha.out hkn Hn.out
          have hkl : k < bs.length := by have := Hn.out; omega
          have hl1 := Hl.out bs[k] (List.getElem_mem hkl)
          have Hs := Lib.hid (show (bs.take (k + 1)).all recB = recB bs[k] by rw [List.take_succ_eq_append_getElem hkl, List.all_append, Hall.out]; simp)
          have Hm := Lib.hid (show bs.all recB = true → recB bs[k] = true from fun h => List.all_eq_true.1 h _ (List.getElem_mem hkl))
          have Hr := Lib.hid (show recB bs[k] = (decide (1 ≤ bs[k].length) && decide (bs[k].length ≤ 60)) from rfl)
          generalize bs[k].length = m at *
          by_cases hm0 : (m : Int) = 0
          · have hm0b : ((m : Int) == 0) = true := by simp [hm0]
            have H := Lib.hid (show packR bs = ([], 1) by
              unfold packR okB
              cases h : bs.all recB
              · simp
              · have := Hm.out h; rw [Hr.out, decide_eq_false (by omega)] at this; cases this)
            clear hm0
            go_wp2
            go_ret2
            exact ⟨_, by rw [H.out]; rfl, by rw [H.out]; exact Own.nil _ _, Below.refl _ _⟩
          · have hm0b : ((m : Int) == 0) = false := by simpa using hm0
            by_cases hm1 : 60 < (m : Int)
            · have H := Lib.hid (show packR bs = ([], 1) by
                unfold packR okB
                cases h : bs.all recB
                · simp
                · have := Hm.out h; rw [Hr.out, decide_eq_false (show ¬ m ≤ 60 by omega)] at this; simp at this)
              clear hm0
              go_wp2
              go_ret2
              exact ⟨_, by rw [H.out]; rfl, by rw [H.out]; exact Own.nil _ _, Below.refl _ _⟩
            · have hb : recB bs[k] = true := by rw [Hr.out]; simp; omega
              rw [hb] at Hs
              clear hm0 hb
              go_wp2
              go_roundg (n - (k + 1))
              case measure => have := Hgk.out; omega
              case rel => exact ⟨k + 1, by go_num, by omega, rfl, Hs.out, rfl⟩
        · have hkn' : k = n := by omega
          subst hkn'
          have hb : bs.all recB = true := by
            have := Hall.out
            rwa [List.take_of_length_le (by have := Hn.out; omega)] at this
          have H := Lib.hid (show packR bs = (pack bs, 0) by unfold packR okB; rw [hb, decide_eq_true (show 1 ≤ bs.length by have := Hn.out; omega), decide_eq_true (show bs.length ≤ 60 by have := Hn.out; omega)]; rfl)
          have Hok := Lib.hid (show ∀ r ∈ bs, r.length ≤ 60 from fun r hr => ((recB_ok r).1 (List.all_eq_true.1 hb r hr)).2)
          clear hb
          go_wp2
          go_loopg [6, 37] k (PkR w bs k)
          case atStart => exact ⟨0, rfl, by omega, by omega, Own.nil _ _, Below.refl _ _⟩
          case round =>
            obtain ⟨j, rfl, hj, hgj, hown, hbe⟩ := hrel
            obtain ⟨Av, cv, rfl, hAv⟩ := own_form hown
            have Hgj := Lib.hid hgj
            have Hown := Lib.hid hown
            have Hbe := Lib.hid hbe
            have hsz := hbe.size
            clear hgj hown hbe
            by_cases hjk : j < k
            · have hh2 : HoldsS wr (lowB B) 1 A k cs := Hh.out.kept fun p hp => Hbe.out.cell (Nat.lt_of_lt_of_le hp hB)
              have ha2 : Ats (In1 wr (lowB B)) bs cs := stays1.ats Ha.out (fun p hp => Hbe.out.cell (Nat.lt_of_lt_of_le hp hB)) (fun _ h => h)
              obtain ⟨b, off, u, rfl, hbb, hc1, A1, c1, rfl, hc2, hA1, hr1⟩ := InL.at_ hh2 ha2 hjk Hn.out
              have hkl : j < bs.length := by have := Hn.out; omega
              have hl1 := Hok.out bs[j] (List.getElem_mem hkl)
              have hlp := pkT_len_le k 0 (bs.take j) (fun r hr => Hok.out r (List.mem_of_mem_take hr))
              have hlp2 : (pkT k 0 (bs.take j)).length ≤ 100000 := by rw [List.length_take] at hlp; have := Hn.out; omega
              have hr2 : Holds wr w.heap.size 1 A1 bs[j].length (bs[j].map bv) := Holds.wider (show Holds wr B 1 A1 _ _ from hr1) hB
              have Hs := Lib.hid (show pkT k 0 (bs.take (j + 1)) = pkT k 0 (bs.take j) ++ frm (flagOf k j) bs[j] by
                rw [List.take_succ_eq_append_getElem hkl, pkT_snoc, List.length_take, Nat.min_eq_left (by omega), Nat.zero_add])
              by_cases hlast : j + 1 = k
              · have he : ((j : Int) + 1 == (k : Int)) = true := by simp; omega
                have Hf := Lib.hid (show flagOf k j = 1 by unfold flagOf; rw [if_pos hlast])
                rw [Hf.out] at Hs
                obtain ⟨L, hL⟩ : ∃ L, bs[j].length = L := ⟨_, rfl⟩
                have hcs0 : (#[Value.int .u8 (L : Int), .int .u8 1] : Array Value) = #[bv (UInt8.ofNat L), bv 1] := by rw [u8_small (by omega)]; rfl
                have hf1 := two_own wr (UInt8.ofNat L) 1
                rw [← hcs0] at hf1
                have Hf1 := Lib.hid hf1
                have hrA : Holds (wr.alloc (.cells #[.int .u8 (L : Int), .int .u8 1] 5)) w.heap.size 1 A1 L (bs[j].map bv) := by rw [← hL]; exact hr2.alloc hsz _
                have HrA := Lib.hid hrA
                have hlen1 : 2 + L ≤ 1048576 := by omega
                have hbA := (Below.refl wr.heap.size wr).alloc (Nat.le_refl _) (.cells #[.int .u8 (L : Int), .int .u8 1] 5)
                have HbA := Lib.hid hbA
                have hszA := hbA.size
                have Hfrm := Lib.hid (show pkT k 0 (bs.take j) ++ ([UInt8.ofNat L, 1] ++ bs[j]) ++ [UInt8.ofNat (sums ([UInt8.ofNat L, 1] ++ bs[j])).1, UInt8.ofNat (sums ([UInt8.ofNat L, 1] ++ bs[j])).2] = pkT k 0 (bs.take (j + 1)) by
                  rw [Hs.out]; unfold frm; rw [hL]; simp)
                rw [hL] at hl1 hc2 hc1
                have Hbl := Lib.hid hL
                have Hpl := Lib.hid hlp2
                clear hlp hr1 hh2 ha2 hr2 hlp2 hf1 hcs0 hrA hbA Hs Hf hL
                obtain ⟨M, hM⟩ : ∃ M, (pkT k 0 (bs.take j)).length = M := ⟨_, rfl⟩
                have Hown' := Lib.hid (show wr.ownsRow w.heap.size 5 1 (.slice Av M cv) M ((pkT k 0 (bs.take j)).map bv) by have := Hown.out; unfold Own at this; rw [hM] at this; exact this)
                have hM1 : M ≤ 100000 := by rw [← hM]; exact Hpl.out
                rw [hM]
                have HM := Lib.hid hM
                clear hM Hown Hpl
                go_wp2_with (at_builtin; refine wpList_append_all (wr.alloc (.cells #[.int .u8 (L : Int), .int .u8 1] 5)) (by rfl) _ _ 24 (by rfl) wr.heap.size 5 i0 _ 1 1 Try.underlying24 hi0 hz0 hz1 hz2 rfl (by decide) _ _ _ (by rfl) Hf1.out w.heap.size A1 L c1 _ (by rfl) hA1 HrA.out (bv_one _) hlen1 (by decide) hszA ?_; clear HrA; intro v3 w3 ho3 hg3 _; obtain ⟨A3, c3, rfl, hA3⟩ := own_form ho3; have Ho3 := Lib.hid ho3; have Hb3 := Lib.hid (HbA.out.grown hg3 hszA (fun k hk => (Hf1.out.lt k hk).1)); clear ho3 hg3)
                have hs3 := Hb3.out.size
                have hh3 : Holds w3 w3.heap.size 1 A3 (2 + L) (([UInt8.ofNat L, 1] ++ bs[j]).map bv) := by rw [List.map_append]; exact Holds.own Ho3.out
                have Hh3 := Lib.hid hh3
                have Hout3 := Lib.hid (wl_below Hown'.out Hb3.out)
                have hst := sums_lt ([UInt8.ofNat L, 1] ++ bs[j])
                refine (walSums_any A3 (2 + L) c3 _ w3 hh3 (by omega)).mono ?_
                rintro e w4 ⟨rfl, rfl⟩
                obtain ⟨x, hx⟩ : ∃ x, (sums ([UInt8.ofNat L, 1] ++ bs[j])).1 = x := ⟨_, rfl⟩
                obtain ⟨y, hy⟩ : ∃ y, (sums ([UInt8.ofNat L, 1] ++ bs[j])).2 = y := ⟨_, rfl⟩
                rw [hx, hy] at hst Hfrm ⊢
                obtain ⟨hst1, hst2⟩ := hst
                have hcs5 : (#[Value.int .u8 (x : Int), .int .u8 (y : Int)] : Array Value) = ([UInt8.ofNat x, UInt8.ofNat y].map bv).toArray := by simp [u8_small (show x ≤ 255 by omega), u8_small (show y ≤ 255 by omega)]
                have Hcs5 := Lib.hid hcs5
                have hbs3 := Hbe.out.trans (Hb3.out.mono hsz)
                have Hbs3 := Lib.hid hbs3
                have hlen3 : M + (2 + L) ≤ 1048576 := by omega
                have hB3 : w.heap.size ≤ w3.heap.size := hbs3.size
                have hA3' : A3 = none → c3 = 0 := fun h => (hA3 h).2
                clear hx hy hcs5 hbs3 hh3 Ho3
                go_wp2_with (first
                  | (at_builtin; refine wpList_append_all w3 (by rfl) _ _ 24 (by rfl) w.heap.size 5 i0 _ 1 1 Try.underlying24 hi0 hz0 hz1 hz2 rfl (by decide) _ _ _ (by rfl) Hout3.out w3.heap.size A3 (2 + L) c3 _ (by rfl) hA3' Hh3.out (bv_one _) hlen3 (by decide) hB3 ?_; clear Hh3; intro v5 w5 ho5 hg5 _; have Hb5 := Lib.hid (Hbs3.out.grown hg5 hB3 (fun k hk => (Hout3.out.lt k hk).1)); have hB5 := Hb5.out.size; have Ho5 := Lib.hid (show Own w5 w.heap.size v5 (pkT k 0 (bs.take j) ++ ([UInt8.ofNat L, 1] ++ bs[j])) by (unfold Own; rw [List.map_append, List.length_append, HM.out, show ([UInt8.ofNat L, 1] ++ bs[j]).length = 2 + L by (rw [List.length_append, Hbl.out]; rfl)]; exact ho5)); have hlen5 : (pkT k 0 (bs.take j) ++ ([UInt8.ofNat L, 1] ++ bs[j])).length + ([UInt8.ofNat x, UInt8.ofNat y] : List UInt8).length ≤ 1048576 := (by rw [List.length_append, List.length_append, HM.out, Hbl.out]; simp; omega); clear ho5 hg5)
                  | (at_builtin; refine wpList_put (by rfl) _ _ (by rfl) w.heap.size _ _ [UInt8.ofNat x, UInt8.ofNat y] _ Hcs5.out (by rfl) Ho5.out _ (by rfl) _ (by rfl) (by rfl) hlen5 hB5 ?_; clear Hcs5; intro v6 w6 ho6 hf6; rw [Hfrm.out] at ho6; have Ho6 := Lib.hid ho6; have Hb6 := Lib.hid (Hb5.out.trans hf6.1); clear ho6 hf6))
                go_roundg (k - (j + 1))
                case measure => have := Hgj.out; omega
                case rel => exact ⟨j + 1, by go_num, by omega, rfl, Ho6.out, Hb6.out⟩
              · have he : ((j : Int) + 1 == (k : Int)) = false := by simp; omega
                have Hf := Lib.hid (show flagOf k j = 0 by unfold flagOf; rw [if_neg hlast])
                rw [Hf.out] at Hs
                obtain ⟨L, hL⟩ : ∃ L, bs[j].length = L := ⟨_, rfl⟩
                have hcs0 : (#[Value.int .u8 (L : Int), .int .u8 0] : Array Value) = #[bv (UInt8.ofNat L), bv 0] := by rw [u8_small (by omega)]; rfl
                have hf1 := two_own wr (UInt8.ofNat L) 0
                rw [← hcs0] at hf1
                have Hf1 := Lib.hid hf1
                have hrA : Holds (wr.alloc (.cells #[.int .u8 (L : Int), .int .u8 0] 5)) w.heap.size 1 A1 L (bs[j].map bv) := by rw [← hL]; exact hr2.alloc hsz _
                have HrA := Lib.hid hrA
                have hlen1 : 2 + L ≤ 1048576 := by omega
                have hbA := (Below.refl wr.heap.size wr).alloc (Nat.le_refl _) (.cells #[.int .u8 (L : Int), .int .u8 0] 5)
                have HbA := Lib.hid hbA
                have hszA := hbA.size
                have Hfrm := Lib.hid (show pkT k 0 (bs.take j) ++ ([UInt8.ofNat L, 0] ++ bs[j]) ++ [UInt8.ofNat (sums ([UInt8.ofNat L, 0] ++ bs[j])).1, UInt8.ofNat (sums ([UInt8.ofNat L, 0] ++ bs[j])).2] = pkT k 0 (bs.take (j + 1)) by
                  rw [Hs.out]; unfold frm; rw [hL]; simp)
                rw [hL] at hl1 hc2 hc1
                have Hbl := Lib.hid hL
                have Hpl := Lib.hid hlp2
                clear hlp hr1 hh2 ha2 hr2 hlp2 hf1 hcs0 hrA hbA Hs Hf hL
                obtain ⟨M, hM⟩ : ∃ M, (pkT k 0 (bs.take j)).length = M := ⟨_, rfl⟩
                have Hown' := Lib.hid (show wr.ownsRow w.heap.size 5 1 (.slice Av M cv) M ((pkT k 0 (bs.take j)).map bv) by have := Hown.out; unfold Own at this; rw [hM] at this; exact this)
                have hM1 : M ≤ 100000 := by rw [← hM]; exact Hpl.out
                rw [hM]
                have HM := Lib.hid hM
                clear hM Hown Hpl
                go_wp2_with (at_builtin; refine wpList_append_all (wr.alloc (.cells #[.int .u8 (L : Int), .int .u8 0] 5)) (by rfl) _ _ 24 (by rfl) wr.heap.size 5 i0 _ 1 1 Try.underlying24 hi0 hz0 hz1 hz2 rfl (by decide) _ _ _ (by rfl) Hf1.out w.heap.size A1 L c1 _ (by rfl) hA1 HrA.out (bv_one _) hlen1 (by decide) hszA ?_; clear HrA; intro v3 w3 ho3 hg3 _; obtain ⟨A3, c3, rfl, hA3⟩ := own_form ho3; have Ho3 := Lib.hid ho3; have Hb3 := Lib.hid (HbA.out.grown hg3 hszA (fun k hk => (Hf1.out.lt k hk).1)); clear ho3 hg3)
                have hs3 := Hb3.out.size
                have hh3 : Holds w3 w3.heap.size 1 A3 (2 + L) (([UInt8.ofNat L, 0] ++ bs[j]).map bv) := by rw [List.map_append]; exact Holds.own Ho3.out
                have Hh3 := Lib.hid hh3
                have Hout3 := Lib.hid (wl_below Hown'.out Hb3.out)
                have hst := sums_lt ([UInt8.ofNat L, 0] ++ bs[j])
                refine (walSums_any A3 (2 + L) c3 _ w3 hh3 (by omega)).mono ?_
                rintro e w4 ⟨rfl, rfl⟩
                obtain ⟨x, hx⟩ : ∃ x, (sums ([UInt8.ofNat L, 0] ++ bs[j])).1 = x := ⟨_, rfl⟩
                obtain ⟨y, hy⟩ : ∃ y, (sums ([UInt8.ofNat L, 0] ++ bs[j])).2 = y := ⟨_, rfl⟩
                rw [hx, hy] at hst Hfrm ⊢
                obtain ⟨hst1, hst2⟩ := hst
                have hcs5 : (#[Value.int .u8 (x : Int), .int .u8 (y : Int)] : Array Value) = ([UInt8.ofNat x, UInt8.ofNat y].map bv).toArray := by simp [u8_small (show x ≤ 255 by omega), u8_small (show y ≤ 255 by omega)]
                have Hcs5 := Lib.hid hcs5
                have hbs3 := Hbe.out.trans (Hb3.out.mono hsz)
                have Hbs3 := Lib.hid hbs3
                have hlen3 : M + (2 + L) ≤ 1048576 := by omega
                have hB3 : w.heap.size ≤ w3.heap.size := hbs3.size
                have hA3' : A3 = none → c3 = 0 := fun h => (hA3 h).2
                clear hx hy hcs5 hbs3 hh3 Ho3
                go_wp2_with (first
                  | (at_builtin; refine wpList_append_all w3 (by rfl) _ _ 24 (by rfl) w.heap.size 5 i0 _ 1 1 Try.underlying24 hi0 hz0 hz1 hz2 rfl (by decide) _ _ _ (by rfl) Hout3.out w3.heap.size A3 (2 + L) c3 _ (by rfl) hA3' Hh3.out (bv_one _) hlen3 (by decide) hB3 ?_; clear Hh3; intro v5 w5 ho5 hg5 _; have Hb5 := Lib.hid (Hbs3.out.grown hg5 hB3 (fun k hk => (Hout3.out.lt k hk).1)); have hB5 := Hb5.out.size; have Ho5 := Lib.hid (show Own w5 w.heap.size v5 (pkT k 0 (bs.take j) ++ ([UInt8.ofNat L, 0] ++ bs[j])) by (unfold Own; rw [List.map_append, List.length_append, HM.out, show ([UInt8.ofNat L, 0] ++ bs[j]).length = 2 + L by (rw [List.length_append, Hbl.out]; rfl)]; exact ho5)); have hlen5 : (pkT k 0 (bs.take j) ++ ([UInt8.ofNat L, 0] ++ bs[j])).length + ([UInt8.ofNat x, UInt8.ofNat y] : List UInt8).length ≤ 1048576 := (by rw [List.length_append, List.length_append, HM.out, Hbl.out]; simp; omega); clear ho5 hg5)
                  | (at_builtin; refine wpList_put (by rfl) _ _ (by rfl) w.heap.size _ _ [UInt8.ofNat x, UInt8.ofNat y] _ Hcs5.out (by rfl) Ho5.out _ (by rfl) _ (by rfl) (by rfl) hlen5 hB5 ?_; clear Hcs5; intro v6 w6 ho6 hf6; rw [Hfrm.out] at ho6; have Ho6 := Lib.hid ho6; have Hb6 := Lib.hid (Hb5.out.trans hf6.1); clear ho6 hf6))
                go_roundg (k - (j + 1))
                case measure => have := Hgj.out; omega
                case rel => exact ⟨j + 1, by go_num, by omega, rfl, Ho6.out, Hb6.out⟩
            · have hjk' : j = k := by omega
              subst hjk'
              go_wp2
              go_ret2
              have h0 := Hown.out
              have hL : bs.take j = bs := List.take_of_length_le (by have := Hn.out; omega)
              rw [hL] at h0 ⊢
              refine ⟨_, by rw [H.out]; rfl, ?_, Hbe.out⟩
              rw [H.out]
              show Own wr w.heap.size _ (pack bs)
              unfold pack
              rw [← Hn.out]
              exact h0
end Go.Proofs.Ytploicbiapjfdaa

/- Package wal: the reference's WalScan. -/
namespace Go.Proofs.Ytploicbiapjfdaa
set_option linter.unusedVariables false
set_option linter.unusedSimpArgs false
open Go.RowKit
theorem Holds.byteAt {w : World} {B n k b0 off : Nat} {l : List UInt8} {y : UInt8} (h : Holds w B 1 (some ⟨b0, off, none⟩) n (l.map bv)) (hy : l[k]? = some y) :
    w.cell? ⟨b0, off + k, none⟩ = some (.int .u8 (y.toNat : Int)) ∧ b0 < B := by
  have hk := (List.getElem?_eq_some_iff.1 hy).1
  have hl := h.len
  obtain ⟨_, _, e, hb, hc⟩ := h.2 (by omega)
  injection e with e
  injection e with e1 e2
  subst e1 e2
  exact ⟨hc k (bv y) (by rw [List.getElem?_map, hy]; rfl), hb⟩
theorem Holds.part {w : World} {B n b0 off : Nat} {l : List UInt8} (h : Holds w B 1 (some ⟨b0, off, none⟩) n (l.map bv)) (lo m : Nat) (hm : lo + m ≤ n) :
    Holds w B 1 (some ⟨b0, off + lo, none⟩) m (((l.drop lo).take m).map bv) := by
  have hl := h.len
  refine ⟨by simp; omega, fun h0 => ?_⟩
  obtain ⟨_, _, e, hb, hc⟩ := h.2 (by omega)
  injection e with e
  injection e with e1 e2
  subst e1 e2
  refine ⟨_, _, rfl, hb, fun j u hu => ?_⟩
  rw [Nat.add_assoc]
  refine hc (lo + j) u ?_
  rw [List.map_take, List.map_drop, List.getElem?_take] at hu
  split at hu
  · rwa [List.getElem?_drop] at hu
  · cases hu
def WfR (w : World) (l : List UInt8) (gk : Nat) (vB vC vU vR : Value) (wr : World) : Prop :=
  ∃ (read used : Nat) (cur : List (List UInt8)) (acc : List (List (List UInt8))),
    vU = .int .i64 used ∧ vR = .int .i64 read ∧ gk = l.length - read ∧ scn (l.drop read) read used cur acc = scan l ∧ read ≤ l.length ∧ used ≤ read ∧ cur.length ≤ read ∧ acc.length ≤ read ∧
    ScSt wr w.heap.size vB vC acc cur ∧ Below w.heap.size w wr
set_option maxRecDepth 100000 in
set_option maxHeartbeats 4000000 in
theorem refScan_any (A : Option Addr) (n c : Nat) (l : List UInt8) (w : World) (hh : Holds w w.heap.size 1 A n (l.map bv)) (hnc : n ≤ c) (hn : n ≤ 9223372036854775807) :
    Calls Try.prog 39 #[.slice A n c] w fun e w' => ∃ v, e = .returned (.tuple #[v, .int .i64 (scanR l).2.1, .int .i64 (scanR l).2.2]) ∧ In3 w' (newB w w') (scanR l).1 v ∧ Below w.heap.size w w' := by
  have hl := hh.len
  by_cases hbig : (1200 : Int) < n
  · have H := Lib.hid (show scanR l = ([], 0, 1) by unfold scanR; rw [if_pos (by omega)])
    clear hl
    go_enter Try.func39, Try.ntmps39
    go_wp2
    go_ret3
    refine ⟨_, by rw [H.out]; rfl, ?_, Below.refl _ _⟩
    rw [H.out]
    exact ⟨none, 0, [], rfl, by simp, fun _ => rfl, HoldsS.nil, Ats.nil⟩
  · have H := Lib.hid (show scanR l = ((scan l).1, (scan l).2, 0) by unfold scanR; rw [if_neg (by omega)])
    have Hl := Lib.hid hl
    have Hh := Lib.hid hh
    obtain ⟨i0, hi0, hz0, hz1, hz2⟩ := info_parts info_u8
    clear hl hh
    go_enter Try.func39, Try.ntmps39
    go_wp2
    go_loopg [5, 6, 7, 8] l.length (WfR w l)
    case atStart => exact ⟨0, 0, [], [], rfl, rfl, by omega, rfl, by omega, by omega, by simp, by simp, ScSt.empty _ _, Below.refl _ _⟩
    case round =>
      obtain ⟨p, used, cur, acc, rfl, rfl, hgk, hsc, hp, hur, hcr, har, hst, hbe⟩ := hrel
      have Hgk := Lib.hid hgk
      have Hst := Lib.hid hst
      have Hbe := Lib.hid hbe
      have hsz := hbe.size
      have hpn : p ≤ n := by have := Hl.out; omega
      have Hlen := Lib.hid (show ∀ q : Nat, (l.drop q).length = n - q from fun q => by rw [List.length_drop, Hl.out])
      clear hgk hst hbe
      have Hout := Lib.hid (show ff (l.drop p) = none → scan l = (acc, used) from fun h => by rw [← hsc, scn_none h])
      by_cases hlt : (p : Int) + 5 ≤ n
      · obtain ⟨x, f, rest, hb⟩ : ∃ x f rest, l.drop p = x :: f :: rest := by
          have := Hlen.out p
          match hd : l.drop p with
          | [] => rw [hd] at this; simp at this; omega
          | [_] => rw [hd] at this; simp at this; omega
          | x :: f :: rest => exact ⟨x, f, rest, rfl⟩
        have hrl : rest.length + 2 = n - p := by have := Hlen.out p; rw [hb] at this; simpa using this
        obtain ⟨b0, off, rfl, hb0, _⟩ := Hh.out.2 (by omega)
        have hhr : Holds wr w.heap.size 1 (some ⟨b0, off, none⟩) n (l.map bv) := Hh.out.below Hbe.out
        have hat : ∀ k : Nat, l[p + k]? = (x :: f :: rest)[k]? := fun k => by rw [← hb, List.getElem?_drop]
        have hc0 := (hhr.byteAt (k := p) (y := x) (by have := hat 0; simpa using this)).1
        have hc1 := (hhr.byteAt (k := p + 1) (y := f) (by have := hat 1; simpa using this)).1
        obtain ⟨X, hX⟩ : ∃ X, x.toNat = X := ⟨_, rfl⟩
        obtain ⟨F, hF⟩ : ∃ F, f.toNat = F := ⟨_, rfl⟩
        have hXl := x.toNat_lt
        have hFl := f.toNat_lt
        rw [hX] at hc0 hXl
        rw [hF] at hc1 hFl
        have HX := Lib.hid hX
        have HF := Lib.hid hF
        have Hb := Lib.hid hb
        have Hrl := Lib.hid hrl
        have Hhr := Lib.hid hhr
        have Hat := Lib.hid hat
        have Hsc := Lib.hid hsc
        clear hX hF hrl hhr hat hsc
        rw [Hb.out] at Hout
        have Hdone := Lib.hid (show ∀ (_ : ff (x :: f :: rest) = none), ∃ vv, vv = scanR l ∧ vv = (acc, used, 0) from fun h => ⟨_, rfl, by rw [H.out, Hout.out h]⟩)
        by_cases h1 : (X : Int) < 1
        · have Hd := Lib.hid (Hout.out (ff_no1 (by rw [HX.out]; omega)))
          clear Hdone Hout Hsc Hat
          go_wp2
          go_ret3
          refine ⟨_, by rw [H.out, Hd.out]; rfl, ?_, Hbe.out⟩
          rw [H.out, Hd.out]
          exact Hst.out.built
        · by_cases h2 : 60 < (X : Int)
          · have Hd := Lib.hid (Hout.out (ff_no1 (by rw [HX.out]; omega)))
            clear Hdone Hout Hsc Hat
            go_wp2
            go_ret3
            refine ⟨_, by rw [H.out, Hd.out]; rfl, ?_, Hbe.out⟩
            rw [H.out, Hd.out]
            exact Hst.out.built
          · by_cases h3 : 1 < (F : Int)
            · have Hd := Lib.hid (Hout.out (ff_no2 (by rw [HF.out]; omega)))
              clear Hdone Hout Hsc Hat
              go_wp2
              go_ret3
              refine ⟨_, by rw [H.out, Hd.out]; rfl, ?_, Hbe.out⟩
              rw [H.out, Hd.out]
              exact Hst.out.built
            · by_cases h4 : (n : Int) < p + X + 4
              · have Hd := Lib.hid (Hout.out (ff_no3 (by rw [HX.out]; have := Hrl.out; omega)))
                clear Hdone Hout Hsc Hat
                go_wp2
                go_ret3
                refine ⟨_, by rw [H.out, Hd.out]; rfl, ?_, Hbe.out⟩
                rw [H.out, Hd.out]
                exact Hst.out.built
              · have hX1 : 1 ≤ X := by omega
                have hrX : X + 2 ≤ rest.length := by have := Hrl.out; omega
                have hff := ff_sum (x := x) (f := f) (rest := rest) (by rw [HX.out]; omega) (by rw [HX.out]; omega) (by rw [HF.out]; omega) (by rw [HX.out]; omega)
                simp only [HX.out] at hff
                have hcE := (Hhr.out.byteAt (k := p + X + 2) (y := rest[X]'(by omega)) (by rw [Nat.add_assoc, Hat.out (X + 2)]; simp [List.getElem?_eq_getElem (show X < rest.length by omega)])).1
                have hcF := (Hhr.out.byteAt (k := p + X + 3) (y := rest[X + 1]'(by omega)) (by rw [Nat.add_assoc, Hat.out (X + 3)]; simp [List.getElem?_eq_getElem (show X + 1 < rest.length by omega)])).1
                have hYl := (rest[X]'(by omega)).toNat_lt
                have hZl := (rest[X + 1]'(by omega)).toNat_lt
                obtain ⟨Y, hY⟩ : ∃ Y, (rest[X]'(by omega)).toNat = Y := ⟨_, rfl⟩
                obtain ⟨Z, hZ⟩ : ∃ Z, (rest[X + 1]'(by omega)).toNat = Z := ⟨_, rfl⟩
                simp only [hY, hZ] at hff
                rw [hY] at hcE hYl
                rw [hZ] at hcF hZl
                have hhS : Holds wr wr.heap.size 1 (some ⟨b0, off + p, none⟩) (p + X + 2 - p) ((x :: f :: rest.take X).map bv) := by
                  rw [show p + X + 2 - p = X + 2 by omega]
                  have := (Hhr.out.part p (X + 2) (by omega)).wider hsz
                  rwa [Hb.out, show (x :: f :: rest).take (X + 2) = x :: f :: rest.take X from rfl] at this
                have hhD : Holds wr wr.heap.size 1 (some ⟨b0, off + (p + 2), none⟩) (p + 2 + X - (p + 2)) ((rest.take X).map bv) := by
                  rw [show p + 2 + X - (p + 2) = X by omega]
                  have := (Hhr.out.part (p + 2) X (by omega)).wider hsz
                  rwa [← List.drop_drop, Hb.out, show (x :: f :: rest).drop 2 = rest from rfl] at this
                have Hff := Lib.hid hff
                have HhS := Lib.hid hhS
                have HhD := Lib.hid hhD
                have hst := sums_lt (x :: f :: rest.take X)
                obtain ⟨s1, hs1⟩ : ∃ s1, (sums (x :: f :: rest.take X)).1 = s1 := ⟨_, rfl⟩
                obtain ⟨s2, hs2⟩ : ∃ s2, (sums (x :: f :: rest.take X)).2 = s2 := ⟨_, rfl⟩
                rw [hs1, hs2] at Hff hst
                have Hs1 := Lib.hid hs1
                have Hs2 := Lib.hid hs2
                obtain ⟨hst1, hst2⟩ := hst
                clear hff hhS hhD hs1 hs2 hY hZ
                have hnum : p + 2 + X - (p + 2) = X := by omega
                have HtX := Lib.hid (show (rest.take X).length = X by rw [List.length_take]; omega)
                have hlenX : p + 2 + X - (p + 2) ≤ 1048576 := by omega
                have hlen4 : cur.length + 1 ≤ 1048576 := by have := Hl.out; omega
                have hlen5 : acc.length + 1 ≤ 1048576 := by have := Hl.out; omega
                clear Hdone Hat hrX
                go_wp2_with fail
                refine (walSums_any _ _ _ (x :: f :: rest.take X) wr HhS.out (by omega)).mono ?_
                rintro e w1 ⟨rfl, rfl⟩
                rw [Hs1.out, Hs2.out]
                clear HhS
                by_cases hne1 : s1 = Y
                · by_cases hne2 : s2 = Z
                  · have hff2 := Hff.out
                    rw [if_pos ⟨hne1, hne2⟩] at hff2
                    clear Hff Hout
                    subst hne1 hne2
                    by_cases hlast : F = 1
                    · have hFb : ((F : Int) == 1) = true := by simp; omega
                      have Hnext := Lib.hid (show scn (l.drop (p + (X + 4))) (p + (X + 4)) (p + (X + 4)) [] (acc ++ [cur ++ [rest.take X]]) = scan l by
                        have h := Hsc.out
                        rw [Hb.out, scn_some hff2, HF.out, show (F == 1) = true by simp; omega, if_pos rfl, HtX.out] at h
                        rw [← List.drop_drop, Hb.out]
                        exact h)
                      clear hff2 Hsc
                      go_wp2_with (first
                        | (at_builtin; refine wpList_append_nil wr (by rfl) _ 24 (by rfl) 5 i0 _ 1 1 Try.underlying24 hi0 hz0 hz1 hz2 rfl (by decide) wr.heap.size _ _ _ _ HhD.out (by rfl) (fun h => by cases h) (bv_one _) hlenX (by decide) ?_; clear HhD; intro A3 c3 w3 ho3 _ _ hb3; rw [hnum] at ho3 ⊢; have ho3' : Own w3 wr.heap.size (.slice A3 X c3) (rest.take X) := (by unfold Own; rw [HtX.out]; exact ho3); have Hst3 := Lib.hid (Hst.out.below hb3); have Hin3 := Lib.hid (Hst3.out.in1 ho3' hsz); have Hb3 := Lib.hid (Hbe.out.trans (hb3.mono hsz)); have hs3 := Hb3.out.size; clear ho3 ho3' hb3)
                        | (at_builtin; refine wpList_scPush (by rfl) _ _ (by rfl) w.heap.size _ _ acc cur (by rfl) Hst3.out (rest.take X) _ Hin3.out (by rfl) hlen4 hs3 ?_; clear Hin3 Hst3; intro v4 w4 hst4 hb4 _; obtain ⟨A4, c4, hv4⟩ := hst4.formC; rw [List.length_append, List.length_singleton] at hv4; subst hv4; have Hst4 := Lib.hid hst4; have Hb4 := Lib.hid (Hb3.out.trans hb4); have hs4 := Hb4.out.size; have hc4 : w4.cell? ⟨b0, off + (p + 1), none⟩ = some (.int .u8 (F : Int)) := (by have h1 := (Hb4.out.cell (p := ⟨b0, off + (p + 1), none⟩) hb0); have h2 := (Hbe.out.cell (p := ⟨b0, off + (p + 1), none⟩) hb0); rw [h1, ← h2]; exact hc1); clear hst4 hb4)
                        | (at_builtin; refine wpList_scFlush (by rfl) _ _ (by rfl) w.heap.size _ _ acc (cur ++ [rest.take X]) (by rfl) Hst4.out (by rfl) hlen5 hs4 ?_; clear Hst4; intro v5 w5 hst5 hb5 _; have Hst5 := Lib.hid hst5; have Hb5 := Lib.hid (Hb4.out.trans hb5); clear hst5 hb5)
                        )
                      go_roundg (l.length - (p + (X + 4)))
                      case measure => have := Hgk.out; have := Hl.out; omega
                      case rel => exact ⟨p + (X + 4), p + (X + 4), [], acc ++ [cur ++ [rest.take X]], by go_num, by go_num, rfl, Hnext.out, by have := Hl.out; omega, by omega, by simp, by simp; omega, Hst5.out, Hb5.out⟩
                    · have hFb : ((F : Int) == 1) = false := by simp; omega
                      have Hnext := Lib.hid (show scn (l.drop (p + (X + 4))) (p + (X + 4)) used (cur ++ [rest.take X]) acc = scan l by
                        have h := Hsc.out
                        rw [Hb.out, scn_some hff2, HF.out, show (F == 1) = false by simp; omega, if_neg (by decide), HtX.out] at h
                        rw [← List.drop_drop, Hb.out]
                        exact h)
                      clear hff2 Hsc
                      go_wp2_with (first
                        | (at_builtin; refine wpList_append_nil wr (by rfl) _ 24 (by rfl) 5 i0 _ 1 1 Try.underlying24 hi0 hz0 hz1 hz2 rfl (by decide) wr.heap.size _ _ _ _ HhD.out (by rfl) (fun h => by cases h) (bv_one _) hlenX (by decide) ?_; clear HhD; intro A3 c3 w3 ho3 _ _ hb3; rw [hnum] at ho3 ⊢; have ho3' : Own w3 wr.heap.size (.slice A3 X c3) (rest.take X) := (by unfold Own; rw [HtX.out]; exact ho3); have Hst3 := Lib.hid (Hst.out.below hb3); have Hin3 := Lib.hid (Hst3.out.in1 ho3' hsz); have Hb3 := Lib.hid (Hbe.out.trans (hb3.mono hsz)); have hs3 := Hb3.out.size; clear ho3 ho3' hb3)
                        | (at_builtin; refine wpList_scPush (by rfl) _ _ (by rfl) w.heap.size _ _ acc cur (by rfl) Hst3.out (rest.take X) _ Hin3.out (by rfl) hlen4 hs3 ?_; clear Hin3 Hst3; intro v4 w4 hst4 hb4 _; obtain ⟨A4, c4, hv4⟩ := hst4.formC; rw [List.length_append, List.length_singleton] at hv4; subst hv4; have Hst4 := Lib.hid hst4; have Hb4 := Lib.hid (Hb3.out.trans hb4); have hs4 := Hb4.out.size; have hc4 : w4.cell? ⟨b0, off + (p + 1), none⟩ = some (.int .u8 (F : Int)) := (by have h1 := (Hb4.out.cell (p := ⟨b0, off + (p + 1), none⟩) hb0); have h2 := (Hbe.out.cell (p := ⟨b0, off + (p + 1), none⟩) hb0); rw [h1, ← h2]; exact hc1); clear hst4 hb4)
                        )
                      go_roundg (l.length - (p + (X + 4)))
                      case measure => have := Hgk.out; have := Hl.out; omega
                      case rel => exact ⟨p + (X + 4), used, cur ++ [rest.take X], acc, by go_num, by go_num, rfl, Hnext.out, by have := Hl.out; omega, by omega, by simp; omega, by omega, Hst4.out, Hb4.out⟩
                  · subst hne1
                    have hb2 : ((s2 : Int) != (Z : Int)) = true := by rw [bne_iff_ne]; omega
                    have hff2 := Hff.out
                    rw [if_neg (fun h => hne2 h.2)] at hff2
                    have Hd := Lib.hid (Hout.out hff2)
                    clear Hff hne2 Hout hff2 Hsc
                    go_wp2
                    go_ret3
                    refine ⟨_, by rw [H.out, Hd.out]; rfl, ?_, Hbe.out⟩
                    rw [H.out, Hd.out]
                    exact Hst.out.built
                · have hb1 : ((s1 : Int) != (Y : Int)) = true := by rw [bne_iff_ne]; omega
                  have hff2 := Hff.out
                  rw [if_neg (fun h => hne1 h.1)] at hff2
                  have Hd := Lib.hid (Hout.out hff2)
                  clear Hff hne1 Hout hff2 Hsc
                  go_wp2
                  go_ret3
                  refine ⟨_, by rw [H.out, Hd.out]; rfl, ?_, Hbe.out⟩
                  rw [H.out, Hd.out]
                  exact Hst.out.built
      · have hdone := Hout.out (ff_no0 (by rw [Hlen.out]; omega))
        have Hd := Lib.hid hdone
        clear hsc hdone
        go_wp2
        go_ret3
        refine ⟨_, by rw [H.out, Hd.out]; rfl, ?_, Hbe.out⟩
        rw [H.out, Hd.out]
        exact Hst.out.built
end Go.Proofs.Ytploicbiapjfdaa
