/- Package wal: the reference's WalPack. -/
import Derived.Test.YtbdbcffnjibjoaaWlPack
import Derived.Test.YtbdbcffnjibjoaaWlRef
namespace Go.Proofs.Ytbdbcffnjibjoaa
set_option linter.unusedVariables false
set_option linter.unusedSimpArgs false
open Go.RowKit
def RpR (w : World) (bs : List (List UInt8)) (n : Nat) (gk : Nat) (vi : Value) (wr : World) : Prop :=
  ∃ k : Nat, vi = .int .i64 k ∧ k ≤ n ∧ gk = n - k ∧ (bs.take k).all recB = true ∧ w = wr
theorem two_own (W : World) (x y : UInt8) : Own (W.alloc (.cells #[bv x, bv y] 5)) W.heap.size (.slice (some ⟨W.heap.size, 0, none⟩) 2 2) [x, y] := by
  refine ⟨rfl, .inr ⟨W.heap.size, 2, #[bv x, bv y], rfl, Nat.le_refl _, Blk.new W _ _, by simp, by unfold maxLen; omega, rfl, rfl⟩⟩
set_option maxHeartbeats 2000000 in
theorem refPack_any (A : Option Addr) (n c B : Nat) (bs : List (List UInt8)) (cs : List Value) (w : World) (hh : HoldsS w (lowB B) 1 A n cs) (ha : Ats (In1 w (lowB B)) bs cs) (hn : n = bs.length) (hB : B ≤ w.heap.size)
    (hn2 : n ≤ 9223372036854775807) (hl : ∀ r ∈ bs, r.length ≤ 9223372036854775807) :
    Calls Try.prog 11 #[.slice A n c] w fun e w' => ∃ v', e = .returned (.tuple #[v', .int .i64 (packR bs).2]) ∧ Own w' w.heap.size v' (packR bs).1 ∧ Below w.heap.size w w' := by
  have Hn := Lib.hid hn
  clear hn
  obtain ⟨i0, hi0, hz0, hz1, hz2⟩ := info_parts info_u8
  by_cases h1 : (n : Int) = 0
  · have H := Lib.hid (show packR bs = ([], 1) by unfold packR okB; rw [decide_eq_false (by have := Hn.out; omega)]; rfl)
    have h1b : ((n : Int) == 0) = true := by simp [h1]
    clear h1
    go_enter Try.func11, Try.ntmps11
    go_wp2
    go_ret2
    exact ⟨_, by rw [H.out]; rfl, by rw [H.out]; exact Own.nil _ _, Below.refl _ _⟩
  · have h1b : ((n : Int) == 0) = false := by simpa using h1
    have h1c : 1 ≤ n := by omega
    clear h1
    by_cases h2 : 60 < (n : Int)
    · have H := Lib.hid (show packR bs = ([], 1) by unfold packR okB; rw [decide_eq_false (show ¬ bs.length ≤ 60 by have := Hn.out; omega)]; simp)
      go_enter Try.func11, Try.ntmps11
      go_wp2
      go_ret2
      exact ⟨_, by rw [H.out]; rfl, by rw [H.out]; exact Own.nil _ _, Below.refl _ _⟩
    · have Hh := Lib.hid hh
      have Ha := Lib.hid ha
      have Hl := Lib.hid hl
      clear hh ha hl
      go_enter Try.func11, Try.ntmps11
      go_wp2
      go_loopg [22] n (RpR w bs n)
      case atStart => exact ⟨0, rfl, by omega, by omega, rfl, rfl⟩
      case round =>
        obtain ⟨k, rfl, hk, hgk, hall, rfl⟩ := hrel
        have Hgk := Lib.hid hgk
        have Hall := Lib.hid hall
        clear hgk hall
        by_cases hkn : k < n
        · obtain ⟨b, off, u, rfl, hbb, hc1, A1, c1, rfl, hc2, hA1, hr1⟩ := InL.at_ Hh.out Ha.out hkn Hn.out
          have hkl : k < bs.length := by have := Hn.out; omega
          have hl1 := Hl.out bs[k] (List.getElem_mem hkl)
          have Hs := Lib.hid (show (bs.take (k + 1)).all recB = recB bs[k] by rw [List.take_succ_eq_append_getElem hkl, List.all_append, Hall.out]; simp)
          have Hm := Lib.hid (show bs.all recB = true → recB bs[k] = true from fun h => List.all_eq_true.1 h _ (List.getElem_mem hkl))
          have Hr := Lib.hid (show recB bs[k] = (decide (1 ≤ bs[k].length) && decide (bs[k].length ≤ 60)) from rfl)
          generalize bs[k].length = m at *
          by_cases hm0 : (m : Int) = 0
          · have hm0b : ((m : Int) == 0) = true := by simp [hm0]
            have H := Lib.hid (show packR bs = ([], 1) by
              unfold packR okB
              cases h : bs.all recB
              · simp
              · have := Hm.out h; rw [Hr.out, decide_eq_false (by omega)] at this; cases this)
            clear hm0
            go_wp2
            go_ret2
            exact ⟨_, by rw [H.out]; rfl, by rw [H.out]; exact Own.nil _ _, Below.refl _ _⟩
          · have hm0b : ((m : Int) == 0) = false := by simpa using hm0
            by_cases hm1 : 60 < (m : Int)
            · have H := Lib.hid (show packR bs = ([], 1) by
                unfold packR okB
                cases h : bs.all recB
                · simp
                · have := Hm.out h; rw [Hr.out, decide_eq_false (show ¬ m ≤ 60 by omega)] at this; simp at this)
              clear hm0
              go_wp2
              go_ret2
              exact ⟨_, by rw [H.out]; rfl, by rw [H.out]; exact Own.nil _ _, Below.refl _ _⟩
            · have hb : recB bs[k] = true := by rw [Hr.out]; simp; omega
              rw [hb] at Hs
              clear hm0 hb
              go_wp2
              go_roundg (n - (k + 1))
              case measure => have := Hgk.out; omega
              case rel => exact ⟨k + 1, by go_num, by omega, rfl, Hs.out, rfl⟩
        · have hkn' : k = n := by omega
          subst hkn'
          have hb : bs.all recB = true := by
            have := Hall.out
            rwa [List.take_of_length_le (by have := Hn.out; omega)] at this
          have H := Lib.hid (show packR bs = (pack bs, 0) by unfold packR okB; rw [hb, decide_eq_true (show 1 ≤ bs.length by have := Hn.out; omega), decide_eq_true (show bs.length ≤ 60 by have := Hn.out; omega)]; rfl)
          have Hok := Lib.hid (show ∀ r ∈ bs, r.length ≤ 60 from fun r hr => ((recB_ok r).1 (List.all_eq_true.1 hb r hr)).2)
          clear hb
          go_wp2
          go_loopg [6, 37] k (PkR w bs k)
          case atStart => exact ⟨0, rfl, by omega, by omega, Own.nil _ _, Below.refl _ _⟩
          case round =>
            obtain ⟨j, rfl, hj, hgj, hown, hbe⟩ := hrel
            obtain ⟨Av, cv, rfl, hAv⟩ := own_form hown
            have Hgj := Lib.hid hgj
            have Hown := Lib.hid hown
            have Hbe := Lib.hid hbe
            have hsz := hbe.size
            clear hgj hown hbe
            by_cases hjk : j < k
            · have hh2 : HoldsS wr (lowB B) 1 A k cs := Hh.out.kept fun p hp => Hbe.out.cell (Nat.lt_of_lt_of_le hp hB)
              have ha2 : Ats (In1 wr (lowB B)) bs cs := stays1.ats Ha.out (fun p hp => Hbe.out.cell (Nat.lt_of_lt_of_le hp hB)) (fun _ h => h)
              obtain ⟨b, off, u, rfl, hbb, hc1, A1, c1, rfl, hc2, hA1, hr1⟩ := InL.at_ hh2 ha2 hjk Hn.out
              have hkl : j < bs.length := by have := Hn.out; omega
              have hl1 := Hok.out bs[j] (List.getElem_mem hkl)
              have hlp := pkT_len_le k 0 (bs.take j) (fun r hr => Hok.out r (List.mem_of_mem_take hr))
              have hlp2 : (pkT k 0 (bs.take j)).length ≤ 100000 := by rw [List.length_take] at hlp; have := Hn.out; omega
              have hr2 : Holds wr w.heap.size 1 A1 bs[j].length (bs[j].map bv) := Holds.wider (show Holds wr B 1 A1 _ _ from hr1) hB
              have Hs := Lib.hid (show pkT k 0 (bs.take (j + 1)) = pkT k 0 (bs.take j) ++ frm (flagOf k j) bs[j] by
                rw [List.take_succ_eq_append_getElem hkl, pkT_snoc, List.length_take, Nat.min_eq_left (by omega), Nat.zero_add])
              by_cases hlast : j + 1 = k
              · have he : ((j : Int) + 1 == (k : Int)) = true := by simp; omega
                have Hf := Lib.hid (show flagOf k j = 1 by unfold flagOf; rw [if_pos hlast])
                rw [Hf.out] at Hs
                obtain ⟨L, hL⟩ : ∃ L, bs[j].length = L := ⟨_, rfl⟩
                have hcs0 : (#[Value.int .u8 (L : Int), .int .u8 1] : Array Value) = #[bv (UInt8.ofNat L), bv 1] := by rw [u8_small (by omega)]; rfl
                have hf1 := two_own wr (UInt8.ofNat L) 1
                rw [← hcs0] at hf1
                have Hf1 := Lib.hid hf1
                have hrA : Holds (wr.alloc (.cells #[.int .u8 (L : Int), .int .u8 1] 5)) w.heap.size 1 A1 L (bs[j].map bv) := by rw [← hL]; exact hr2.alloc hsz _
                have HrA := Lib.hid hrA
                have hlen1 : 2 + L ≤ 1048576 := by omega
                have hbA := (Below.refl wr.heap.size wr).alloc (Nat.le_refl _) (.cells #[.int .u8 (L : Int), .int .u8 1] 5)
                have HbA := Lib.hid hbA
                have hszA := hbA.size
                have Hfrm := Lib.hid (show pkT k 0 (bs.take j) ++ ([UInt8.ofNat L, 1] ++ bs[j]) ++ [UInt8.ofNat (sums ([UInt8.ofNat L, 1] ++ bs[j])).1, UInt8.ofNat (sums ([UInt8.ofNat L, 1] ++ bs[j])).2] = pkT k 0 (bs.take (j + 1)) by
                  rw [Hs.out]; unfold frm; rw [hL]; simp)
                rw [hL] at hl1 hc2 hc1
                have Hbl := Lib.hid hL
                have Hpl := Lib.hid hlp2
                clear hlp hr1 hh2 ha2 hr2 hlp2 hf1 hcs0 hrA hbA Hs Hf hL
                obtain ⟨M, hM⟩ : ∃ M, (pkT k 0 (bs.take j)).length = M := ⟨_, rfl⟩
                have Hown' := Lib.hid (show wr.ownsRow w.heap.size 5 1 (.slice Av M cv) M ((pkT k 0 (bs.take j)).map bv) by have := Hown.out; unfold Own at this; rw [hM] at this; exact this)
                have hM1 : M ≤ 100000 := by rw [← hM]; exact Hpl.out
                rw [hM]
                have HM := Lib.hid hM
                clear hM Hown Hpl
                go_wp2_with (at_builtin; refine wpList_append_all (wr.alloc (.cells #[.int .u8 (L : Int), .int .u8 1] 5)) (by rfl) _ _ 23 (by rfl) wr.heap.size 5 i0 _ 1 1 Try.underlying23 hi0 hz0 hz1 hz2 rfl (by decide) _ _ _ (by rfl) Hf1.out w.heap.size A1 L c1 _ (by rfl) hA1 HrA.out (bv_one _) hlen1 (by decide) hszA ?_; clear HrA; intro v3 w3 ho3 hg3 _; obtain ⟨A3, c3, rfl, hA3⟩ := own_form ho3; have Ho3 := Lib.hid ho3; have Hb3 := Lib.hid (HbA.out.grown hg3 hszA (fun k hk => (Hf1.out.lt k hk).1)); clear ho3 hg3)
                have hs3 := Hb3.out.size
                have hh3 : Holds w3 w3.heap.size 1 A3 (2 + L) (([UInt8.ofNat L, 1] ++ bs[j]).map bv) := by rw [List.map_append]; exact Holds.own Ho3.out
                have Hh3 := Lib.hid hh3
                have Hout3 := Lib.hid (wl_below Hown'.out Hb3.out)
                have hst := sums_lt ([UInt8.ofNat L, 1] ++ bs[j])
                refine (walSums_any A3 (2 + L) c3 _ w3 hh3 (by omega)).mono ?_
                rintro e w4 ⟨rfl, rfl⟩
                obtain ⟨x, hx⟩ : ∃ x, (sums ([UInt8.ofNat L, 1] ++ bs[j])).1 = x := ⟨_, rfl⟩
                obtain ⟨y, hy⟩ : ∃ y, (sums ([UInt8.ofNat L, 1] ++ bs[j])).2 = y := ⟨_, rfl⟩
                rw [hx, hy] at hst Hfrm ⊢
                obtain ⟨hst1, hst2⟩ := hst
                have hcs5 : (#[Value.int .u8 (x : Int), .int .u8 (y : Int)] : Array Value) = ([UInt8.ofNat x, UInt8.ofNat y].map bv).toArray := by simp [u8_small (show x ≤ 255 by omega), u8_small (show y ≤ 255 by omega)]
                have Hcs5 := Lib.hid hcs5
                have hbs3 := Hbe.out.trans (Hb3.out.mono hsz)
                have Hbs3 := Lib.hid hbs3
                have hlen3 : M + (2 + L) ≤ 1048576 := by omega
                have hB3 : w.heap.size ≤ w3.heap.size := hbs3.size
                have hA3' : A3 = none → c3 = 0 := fun h => (hA3 h).2
                clear hx hy hcs5 hbs3 hh3 Ho3
                go_wp2_with (first
                  | (at_builtin; refine wpList_append_all w3 (by rfl) _ _ 23 (by rfl) w.heap.size 5 i0 _ 1 1 Try.underlying23 hi0 hz0 hz1 hz2 rfl (by decide) _ _ _ (by rfl) Hout3.out w3.heap.size A3 (2 + L) c3 _ (by rfl) hA3' Hh3.out (bv_one _) hlen3 (by decide) hB3 ?_; clear Hh3; intro v5 w5 ho5 hg5 _; have Hb5 := Lib.hid (Hbs3.out.grown hg5 hB3 (fun k hk => (Hout3.out.lt k hk).1)); have hB5 := Hb5.out.size; have Ho5 := Lib.hid (show Own w5 w.heap.size v5 (pkT k 0 (bs.take j) ++ ([UInt8.ofNat L, 1] ++ bs[j])) by (unfold Own; rw [List.map_append, List.length_append, HM.out, show ([UInt8.ofNat L, 1] ++ bs[j]).length = 2 + L by (rw [List.length_append, Hbl.out]; rfl)]; exact ho5)); have hlen5 : (pkT k 0 (bs.take j) ++ ([UInt8.ofNat L, 1] ++ bs[j])).length + ([UInt8.ofNat x, UInt8.ofNat y] : List UInt8).length ≤ 1048576 := (by rw [List.length_append, List.length_append, HM.out, Hbl.out]; simp; omega); clear ho5 hg5)
                  | (at_builtin; refine wpList_put (by rfl) _ _ (by rfl) w.heap.size _ _ [UInt8.ofNat x, UInt8.ofNat y] _ Hcs5.out (by rfl) Ho5.out _ (by rfl) _ (by rfl) (by rfl) hlen5 hB5 ?_; clear Hcs5; intro v6 w6 ho6 hf6; rw [Hfrm.out] at ho6; have Ho6 := Lib.hid ho6; have Hb6 := Lib.hid (Hb5.out.trans hf6.1); clear ho6 hf6))
                go_roundg (k - (j + 1))
                case measure => have := Hgj.out; omega
                case rel => exact ⟨j + 1, by go_num, by omega, rfl, Ho6.out, Hb6.out⟩
              · have he : ((j : Int) + 1 == (k : Int)) = false := by simp; omega
                have Hf := Lib.hid (show flagOf k j = 0 by unfold flagOf; rw [if_neg hlast])
                rw [Hf.out] at Hs
                obtain ⟨L, hL⟩ : ∃ L, bs[j].length = L := ⟨_, rfl⟩
                have hcs0 : (#[Value.int .u8 (L : Int), .int .u8 0] : Array Value) = #[bv (UInt8.ofNat L), bv 0] := by rw [u8_small (by omega)]; rfl
                have hf1 := two_own wr (UInt8.ofNat L) 0
                rw [← hcs0] at hf1
                have Hf1 := Lib.hid hf1
                have hrA : Holds (wr.alloc (.cells #[.int .u8 (L : Int), .int .u8 0] 5)) w.heap.size 1 A1 L (bs[j].map bv) := by rw [← hL]; exact hr2.alloc hsz _
                have HrA := Lib.hid hrA
                have hlen1 : 2 + L ≤ 1048576 := by omega
                have hbA := (Below.refl wr.heap.size wr).alloc (Nat.le_refl _) (.cells #[.int .u8 (L : Int), .int .u8 0] 5)
                have HbA := Lib.hid hbA
                have hszA := hbA.size
                have Hfrm := Lib.hid (show pkT k 0 (bs.take j) ++ ([UInt8.ofNat L, 0] ++ bs[j]) ++ [UInt8.ofNat (sums ([UInt8.ofNat L, 0] ++ bs[j])).1, UInt8.ofNat (sums ([UInt8.ofNat L, 0] ++ bs[j])).2] = pkT k 0 (bs.take (j + 1)) by
                  rw [Hs.out]; unfold frm; rw [hL]; simp)
                rw [hL] at hl1 hc2 hc1
                have Hbl := Lib.hid hL
                have Hpl := Lib.hid hlp2
                clear hlp hr1 hh2 ha2 hr2 hlp2 hf1 hcs0 hrA hbA Hs Hf hL
                obtain ⟨M, hM⟩ : ∃ M, (pkT k 0 (bs.take j)).length = M := ⟨_, rfl⟩
                have Hown' := Lib.hid (show wr.ownsRow w.heap.size 5 1 (.slice Av M cv) M ((pkT k 0 (bs.take j)).map bv) by have := Hown.out; unfold Own at this; rw [hM] at this; exact this)
                have hM1 : M ≤ 100000 := by rw [← hM]; exact Hpl.out
                rw [hM]
                have HM := Lib.hid hM
                clear hM Hown Hpl
                go_wp2_with (at_builtin; refine wpList_append_all (wr.alloc (.cells #[.int .u8 (L : Int), .int .u8 0] 5)) (by rfl) _ _ 23 (by rfl) wr.heap.size 5 i0 _ 1 1 Try.underlying23 hi0 hz0 hz1 hz2 rfl (by decide) _ _ _ (by rfl) Hf1.out w.heap.size A1 L c1 _ (by rfl) hA1 HrA.out (bv_one _) hlen1 (by decide) hszA ?_; clear HrA; intro v3 w3 ho3 hg3 _; obtain ⟨A3, c3, rfl, hA3⟩ := own_form ho3; have Ho3 := Lib.hid ho3; have Hb3 := Lib.hid (HbA.out.grown hg3 hszA (fun k hk => (Hf1.out.lt k hk).1)); clear ho3 hg3)
                have hs3 := Hb3.out.size
                have hh3 : Holds w3 w3.heap.size 1 A3 (2 + L) (([UInt8.ofNat L, 0] ++ bs[j]).map bv) := by rw [List.map_append]; exact Holds.own Ho3.out
                have Hh3 := Lib.hid hh3
                have Hout3 := Lib.hid (wl_below Hown'.out Hb3.out)
                have hst := sums_lt ([UInt8.ofNat L, 0] ++ bs[j])
                refine (walSums_any A3 (2 + L) c3 _ w3 hh3 (by omega)).mono ?_
                rintro e w4 ⟨rfl, rfl⟩
                obtain ⟨x, hx⟩ : ∃ x, (sums ([UInt8.ofNat L, 0] ++ bs[j])).1 = x := ⟨_, rfl⟩
                obtain ⟨y, hy⟩ : ∃ y, (sums ([UInt8.ofNat L, 0] ++ bs[j])).2 = y := ⟨_, rfl⟩
                rw [hx, hy] at hst Hfrm ⊢
                obtain ⟨hst1, hst2⟩ := hst
                have hcs5 : (#[Value.int .u8 (x : Int), .int .u8 (y : Int)] : Array Value) = ([UInt8.ofNat x, UInt8.ofNat y].map bv).toArray := by simp [u8_small (show x ≤ 255 by omega), u8_small (show y ≤ 255 by omega)]
                have Hcs5 := Lib.hid hcs5
                have hbs3 := Hbe.out.trans (Hb3.out.mono hsz)
                have Hbs3 := Lib.hid hbs3
                have hlen3 : M + (2 + L) ≤ 1048576 := by omega
                have hB3 : w.heap.size ≤ w3.heap.size := hbs3.size
                have hA3' : A3 = none → c3 = 0 := fun h => (hA3 h).2
                clear hx hy hcs5 hbs3 hh3 Ho3
                go_wp2_with (first
                  | (at_builtin; refine wpList_append_all w3 (by rfl) _ _ 23 (by rfl) w.heap.size 5 i0 _ 1 1 Try.underlying23 hi0 hz0 hz1 hz2 rfl (by decide) _ _ _ (by rfl) Hout3.out w3.heap.size A3 (2 + L) c3 _ (by rfl) hA3' Hh3.out (bv_one _) hlen3 (by decide) hB3 ?_; clear Hh3; intro v5 w5 ho5 hg5 _; have Hb5 := Lib.hid (Hbs3.out.grown hg5 hB3 (fun k hk => (Hout3.out.lt k hk).1)); have hB5 := Hb5.out.size; have Ho5 := Lib.hid (show Own w5 w.heap.size v5 (pkT k 0 (bs.take j) ++ ([UInt8.ofNat L, 0] ++ bs[j])) by (unfold Own; rw [List.map_append, List.length_append, HM.out, show ([UInt8.ofNat L, 0] ++ bs[j]).length = 2 + L by (rw [List.length_append, Hbl.out]; rfl)]; exact ho5)); have hlen5 : (pkT k 0 (bs.take j) ++ ([UInt8.ofNat L, 0] ++ bs[j])).length + ([UInt8.ofNat x, UInt8.ofNat y] : List UInt8).length ≤ 1048576 := (by rw [List.length_append, List.length_append, HM.out, Hbl.out]; simp; omega); clear ho5 hg5)
                  | (at_builtin; refine wpList_put (by rfl) _ _ (by rfl) w.heap.size _ _ [UInt8.ofNat x, UInt8.ofNat y] _ Hcs5.out (by rfl) Ho5.out _ (by rfl) _ (by rfl) (by rfl) hlen5 hB5 ?_; clear Hcs5; intro v6 w6 ho6 hf6; rw [Hfrm.out] at ho6; have Ho6 := Lib.hid ho6; have Hb6 := Lib.hid (Hb5.out.trans hf6.1); clear ho6 hf6))
                go_roundg (k - (j + 1))
                case measure => have := Hgj.out; omega
                case rel => exact ⟨j + 1, by go_num, by omega, rfl, Ho6.out, Hb6.out⟩
            · have hjk' : j = k := by omega
              subst hjk'
              go_wp2
              go_ret2
              have h0 := Hown.out
              have hL : bs.take j = bs := List.take_of_length_le (by have := Hn.out; omega)
              rw [hL] at h0 ⊢
              refine ⟨_, by rw [H.out]; rfl, ?_, Hbe.out⟩
              rw [H.out]
              show Own wr w.heap.size _ (pack bs)
              unfold pack
              rw [← Hn.out]
              exact h0
end Go.Proofs.Ytbdbcffnjibjoaa
