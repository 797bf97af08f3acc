/- Sorted tables: change, and Set at every table and changes. -/
import Derived.Test.YtmlgaedhfannmaaBunRE
import Derived.Test.YtmlgaedhfannmaaBunRA
import Derived.Test.YtmlgaedhfannmaaBunRB
import Derived.Test.YtmlgaedhfannmaaRwSetM
namespace Go.Proofs.Ytmlgaedhfannmaa
set_option linter.unusedVariables false
set_option linter.unusedSimpArgs false
open Go.RowKit
set_option maxHeartbeats 2000000 in
set_option maxRecDepth 100000 in
theorem change_any (base n : Nat) (v : Value) (l : List Rw) (r : Rw) (w : World) (hown : w.ownsRow base 51 2 v n (pcR l)) (hs : srt l) (hn : n ≤ 1000) (hbase : base ≤ w.heap.size) :
    Calls Try.prog 42 #[v, .agg #[str r.key, str r.val]] w fun e w' => ∃ v', e = .returned v' ∧ w'.ownsRow base 51 2 v' (setR r l).length (pcR (setR r l)) ∧ Below base w w' := by
  have hln : l.length = n := by have := hown.1; rw [pcR_len] at this; omega
  obtain ⟨k, x⟩ := r
  simp only
  obtain ⟨W, hW⟩ : ∃ W, W = w.alloc (.cells #[str k, str x] 51) := ⟨_, rfl⟩
  have hWb : Below w.heap.size w W := by rw [hW]; exact (Below.refl _ _).alloc (Nat.le_refl _) _
  have hBk : Blk W w.heap.size 51 #[str k, str x] := by rw [hW]; exact Blk.new w _ _
  have ho0 : W.ownsRow base 51 2 v n (pcR l) := by rw [hW]; exact hown.alloc _
  obtain ⟨A, c, rfl, hin⟩ := RIn.own ho0
  have hnc := hin.2.1
  have Ho0 := Lib.hid ho0
  have HBk := Lib.hid hBk
  have HWb := Lib.hid hWb
  have HW := Lib.hid hW
  have hWs := hWb.size
  have H1 := Lib.hid (show ∀ W1, Below W.heap.size W W1 → Calls Try.prog 61 #[.slice A n c, .func (.func 62) #[] #[.pointer (some ⟨w.heap.size, 0, none⟩)]] W1 fun e w' => e = .returned (.int .i64 (plc k l : Nat)) ∧ Below W1.heap.size W1 w' from fun W1 hb1 => by
    have hB1 := HBk.out.below hb1 HBk.out.lt
    have := firstFit_any _ (ge_mono k) A n c _ l W1 (hin.below hb1) hb1.size hs (by omega) _ _ (fits_ch1 hB1.lt (hB1.cell 0))
    simp only [Bool.not_not] at this
    rw [cnt_plc k hs] at this
    exact this)
  have H2 := Lib.hid (show ∀ W1, Below W.heap.size W W1 → Calls Try.prog 61 #[.slice A n c, .func (.func 63) #[] #[.pointer (some ⟨w.heap.size, 0, none⟩)]] W1 fun e w' => e = .returned (.int .i64 (plc k l + hit k l : Nat)) ∧ Below W1.heap.size W1 w' from fun W1 hb1 => by
    have hB1 := HBk.out.below hb1 HBk.out.lt
    have := firstFit_any _ (gt_mono k) A n c _ l W1 (hin.below hb1) hb1.size hs (by omega) _ _ (fits_ch2 hB1.lt (hB1.cell 0))
    simp only [Bool.not_not] at this
    rw [cnt_hit k hs] at this
    exact this)
  have hroom := hit_room k l
  have hhl := hit_le k l
  rw [hln] at hroom
  have hcell : ∀ W1, Below W.heap.size W W1 → W1.cell? ⟨w.heap.size, 0, none⟩ = some (str k) ∧ W1.cell? ⟨w.heap.size, 1, none⟩ = some (str x) := fun W1 hb1 => by
    have hB1 := HBk.out.below hb1 HBk.out.lt
    exact ⟨hB1.cell 0, hB1.cell 1⟩
  have HC := Lib.hid hcell
  have hse := setR_eq ⟨k, x⟩ l
  simp only at hse
  clear hcell hin hs hown ho0 hW hBk hWb
  by_cases hx : x = []
  · rw [if_pos hx, List.append_nil] at hse
    have HS := Lib.hid hse
    have hlen : (setR ⟨k, x⟩ l).length = n - (plc k l + hit k l - plc k l) := by rw [setR_len]; simp only; rw [if_pos hx]; omega
    have Hlen := Lib.hid hlen
    have hij : plc k l + hit k l = plc k l ∨ plc k l + hit k l = plc k l + 1 := by omega
    have hxb : x.isEmpty = true := by rw [hx]; rfl
    have HD := Lib.hid (show ∀ w2, Below W.heap.size W w2 → _ from fun w2 hb2 => delR_any base n c (plc k l) (plc k l + hit k l) A l w2 (rowR_below Ho0.out hb2) hij hroom (by omega) hnc)
    clear hse hlen hij hx
    go_enter Try.func42, Try.ntmps42
    go_wp2_with fail
    rw [← HW.out]
    refine (H1.out W (Below.refl _ _)).mono ?_
    rintro e w1 ⟨rfl, hb1⟩
    have Hb1 := Lib.hid hb1
    have H2' := Lib.hid (H2.out w1 hb1)
    clear hb1 H1 H2
    go_wp2_with fail
    refine H2'.out.mono ?_
    rintro e w2 ⟨rfl, hb2⟩
    have Hb2 := Lib.hid (Hb1.out.trans (hb2.mono Hb1.out.size))
    obtain ⟨y0, y1⟩ := HC.out w2 Hb2.out
    have HD' := Lib.hid (HD.out w2 Hb2.out)
    clear hb2 H2' HD
    generalize plc k l + hit k l = J at *
    go_wp2_with fail
    refine HD'.out.mono ?_
    rintro e w3 ⟨rfl, ho3, hg3⟩
    have Ho3 := Lib.hid ho3
    have Hbw := Lib.hid (below_own (HWb.out.trans (Hb2.out.mono hWs) |>.mono hbase) hg3 (rowR_below Ho0.out Hb2.out) (Nat.le_refl _) (by have := Hb2.out.size; omega))
    clear ho3 hg3 HD'
    go_wp2_with fail
    go_ret
    exact ⟨_, rfl, by rw [Hlen.out, HS.out]; exact Ho3.out, Hbw.out⟩
  · rw [if_neg hx] at hse
    have HS := Lib.hid hse
    have hlen : (setR ⟨k, x⟩ l).length = n + 1 - (plc k l + hit k l - plc k l) := by rw [setR_len]; simp only; rw [if_neg hx]; omega
    have Hlen := Lib.hid hlen
    have hij : plc k l + hit k l = plc k l ∨ plc k l + hit k l = plc k l + 1 := by omega
    have hxb : x.isEmpty = false := by cases x <;> simp_all
    have HD := Lib.hid (show ∀ w2, Below W.heap.size W w2 → _ from fun w2 hb2 => repR_any base n (plc k l) (plc k l + hit k l) w2.heap.size (.slice A n c) l ⟨k, x⟩ (w2.alloc (.cells #[str k, str x] 51)) ((rowR_below Ho0.out hb2).alloc _) hij hroom (by omega) (by have := hb2.size; simp; omega) (Blk.new w2 _ _) (fun e => by
      have := World.ownsRow.lt (rowR_below Ho0.out hb2) w2.heap.size e.symm
      omega))
    clear hse hlen hij hx
    go_enter Try.func42, Try.ntmps42
    go_wp2_with fail
    rw [← HW.out]
    refine (H1.out W (Below.refl _ _)).mono ?_
    rintro e w1 ⟨rfl, hb1⟩
    have Hb1 := Lib.hid hb1
    have H2' := Lib.hid (H2.out w1 hb1)
    clear hb1 H1 H2
    go_wp2_with fail
    refine H2'.out.mono ?_
    rintro e w2 ⟨rfl, hb2⟩
    have Hb2 := Lib.hid (Hb1.out.trans (hb2.mono Hb1.out.size))
    obtain ⟨y0, y1⟩ := HC.out w2 Hb2.out
    have HD' := Lib.hid (HD.out w2 Hb2.out)
    clear hb2 H2' HD
    generalize plc k l + hit k l = J at *
    go_wp2_with fail
    refine HD'.out.mono ?_
    rintro e w3 ⟨v', rfl, ho3, hg3⟩
    have Ho3 := Lib.hid ho3
    have Hbw := Lib.hid (below_own ((HWb.out.trans (Hb2.out.mono hWs) |>.mono hbase).alloc (by have := Hb2.out.size; omega) (.cells #[str k, str x] 51)) hg3 ((rowR_below Ho0.out Hb2.out).alloc _) (Nat.le_refl _) (by have := Hb2.out.size; simp; omega))
    clear ho3 hg3 HD'
    go_wp2_with fail
    go_ret
    exact ⟨v', rfl, by rw [Hlen.out, HS.out]; exact Ho3.out, Hbw.out⟩
def SetL (l cs : List Rw) (w : World) (n : Nat) (gk : Nat) (s8 s28 : Value) (wr : World) : Prop :=
  ∃ k : Nat, s28 = .int .i64 (k : Int) ∧ k ≤ n ∧ gk = n - k ∧ wr.ownsRow w.heap.size 51 2 s8 (sets l (cs.take k)).length (pcR (sets l (cs.take k))) ∧ Below w.heap.size w wr
set_option maxHeartbeats 2000000 in
set_option maxRecDepth 100000 in
theorem set_any (A A' : Option Addr) (n c n' c' B B' : Nat) (l cs : List Rw) (w : World) (hl : RIn w B A n c l) (hB : B ≤ w.heap.size) (hs : Short l) (hn : n ≤ 9223372036854775807)
    (hl' : RIn w B' A' n' c' cs) (hB' : B' ≤ w.heap.size) (hs' : Short cs) (hn' : n' ≤ 9223372036854775807) :
    Calls Try.prog 25 #[.slice A n c, .slice A' n' c'] w fun e w' => ∃ v, e = .returned (.tuple #[v, .int .i64 (setN l cs).2]) ∧ w'.ownsRow w.heap.size 51 2 v (setN l cs).1.length (pcR (setN l cs).1) ∧ Below w.heap.size w w' := by
  have H1 := Lib.hid (check_any A n c B l w hl hB hs hn)
  have hln := hl.1
  have hln' := hl'.1
  have Hl := Lib.hid hl
  have Hl' := Lib.hid hl'
  have Hs' := Lib.hid hs'
  clear hl hl' hs hs'
  by_cases h0 : chkT l = 0
  · have HF := Lib.hid (chkT_fit h0)
    have hn40 : n ≤ 40 := by have := HF.out.len; omega
    by_cases h60 : 60 < n'
    · have HR := Lib.hid (show setN l cs = ([], 1) by unfold setN; rw [if_neg (by simp [h0]), if_pos (.inl (by omega))])
      have h6 : (60 : Int) < (n' : Int) := by omega
      rw [h0] at H1
      clear HF hln hln'
      go_enter Try.func25, Try.ntmps25
      go_wp2_with fail
      refine H1.out.mono ?_
      rintro e w1 ⟨rfl, hb1⟩
      have Hb1 := Lib.hid hb1
      clear hb1 H1
      go_wp2_with fail
      go_ret2
      exact ⟨.slice none 0 0, by rw [HR.out] <;> rfl, by rw [HR.out]; exact World.ownsRow_nil _ _ _ _, Hb1.out⟩
    · have h6 : ¬ (60 : Int) < (n' : Int) := by omega
      rw [h0] at H1
      have H2 := Lib.hid (show ∀ W1, Below w.heap.size w W1 → _ from fun W1 hb => containsR_any A' n' c' B' cs W1 (Hl'.out.below (hb.mono hB')) (Nat.le_trans hB' hb.size) Hs'.out hn')
      cases hg : goodC cs
      · have HR := Lib.hid (show setN l cs = ([], 1) by unfold setN; rw [if_neg (by simp [h0]), if_pos (.inr hg)])
        rw [hg] at H2
        clear HF hln hln'
        go_enter Try.func25, Try.ntmps25
        go_wp2_with fail
        refine H1.out.mono ?_
        rintro e w1 ⟨rfl, hb1⟩
        have Hb1 := Lib.hid hb1
        clear hb1 H1
        go_wp2_with fail
        refine (H2.out w1 Hb1.out).mono ?_
        rintro e w2 ⟨rfl, hb2⟩
        have Hb2 := Lib.hid (Hb1.out.trans (hb2.mono Hb1.out.size))
        clear hb2 H2
        go_wp2_with fail
        go_ret2
        exact ⟨.slice none 0 0, by rw [HR.out] <;> rfl, by rw [HR.out]; exact World.ownsRow_nil _ _ _ _, Hb2.out⟩
      · rw [hg] at H2
        have HG := Lib.hid hg
        have H3 := Lib.hid (show ∀ W1, Below w.heap.size w W1 → _ from fun W1 hb => cloneR_any A n c B l W1 (Hl.out.below (hb.mono hB)) (Nat.le_trans hB hb.size) (by omega))
        have H0 := Lib.hid h0
        have Hln := Lib.hid hln
        have Hln' := Lib.hid hln'
        clear h0 hg hln hln'
        go_enter Try.func25, Try.ntmps25
        go_wp2_with fail
        refine H1.out.mono ?_
        rintro e w1 ⟨rfl, hb1⟩
        have Hb1 := Lib.hid hb1
        clear hb1 H1
        go_wp2_with fail
        refine (H2.out w1 Hb1.out).mono ?_
        rintro e w2 ⟨rfl, hb2⟩
        have Hb2 := Lib.hid (Hb1.out.trans (hb2.mono Hb1.out.size))
        clear hb2 H2
        go_wp2_with fail
        refine (H3.out w2 Hb2.out).mono ?_
        rintro e w3 ⟨v3, rfl, ho3, hb3⟩
        have Ho3 := Lib.hid (rw_le ho3 Hb2.out.size)
        have Hb3 := Lib.hid (Hb2.out.trans (hb3.mono Hb2.out.size))
        clear ho3 hb3 H3
        go_wp2_with fail
        go_loopg [8, 28] n' (SetL l cs w n')
        case atStart => exact ⟨0, rfl, Nat.zero_le _, by omega, by rw [List.take_zero]; show w3.ownsRow _ _ _ _ l.length (pcR l); rw [Hln.out]; exact Ho3.out, Hb3.out⟩
        case round =>
          obtain ⟨k, rfl, hk, hgk, ho, hbe⟩ := hrel
          have Hgk := Lib.hid hgk
          have Ho := Lib.hid ho
          have Hbe := Lib.hid hbe
          have hszw := hbe.size
          clear hgk ho hbe Ho3
          by_cases hkn : k < n'
          · have hkl : k < cs.length := by rw [Hln'.out]; exact hkn
            obtain ⟨b, off, hA, hbB, c0, c1⟩ := (Hl'.out.below (Hbe.out.mono hB')).at_ hkl
            subst hA
            have hbw : b < wr.heap.size := by omega
            have hsl := sets_len (l := l) (cs := cs.take k)
            rw [List.length_take, Hln.out] at hsl
            have HT := Lib.hid (show sets l (cs.take (k + 1)) = setR cs[k] (sets l (cs.take k)) by rw [List.take_succ_eq_append_getElem hkl, sets_app]; rfl)
            have HC := Lib.hid (change_any w.heap.size _ u8 _ cs[k] (wr.alloc (.cells #[str cs[k].key, str cs[k].val] 51)) (Ho.out.alloc _) (srt_sets HF.out.srt) (by omega) (by simp; omega))
            rw [← HT.out] at HC
            have HW := Lib.hid (Hbe.out.alloc hszw (.cells #[str cs[k].key, str cs[k].val] 51))
            generalize cs[k] = r at *
            obtain ⟨rk, rv⟩ := r
            simp only at c0 c1
            have hi1 : (k : Int) < (n' : Int) := by omega
            clear hsl HT
            go_wp2_with fail
            refine HC.out.mono ?_
            rintro e w4 ⟨v4, rfl, ho4, hb4⟩
            have Ho4 := Lib.hid ho4
            have Hb4 := Lib.hid (HW.out.trans hb4)
            clear ho4 hb4 HC Ho
            go_wp2_with fail
            go_roundg (n' - (k + 1))
            case measure => have := Hgk.out; omega
            case rel => exact ⟨k + 1, rfl, by omega, rfl, Ho4.out, Hb4.out⟩
          · have hkl : k = cs.length := by have := Hln'.out; omega
            have Ho' := Lib.hid Ho.out
            rw [hkl, List.take_length] at Ho'
            clear Ho hkl
            have hsl := sets_len (l := l) (cs := cs)
            rw [Hln.out, Hln'.out] at hsl
            obtain ⟨A5, c5, hv5, hin5⟩ := RIn.own Ho'.out
            subst hv5
            by_cases h40 : 40 < (sets l cs).length
            · have HR := Lib.hid (show setN l cs = ([], 10) by unfold setN; rw [if_neg (by simp [H0.out]), if_neg (by rw [HG.out, Hln'.out]; simp; omega), if_pos h40])
              generalize (sets l cs).length = N at *
              have h4 : (40 : Int) < (N : Int) := by omega
              clear hin5
              go_wp2_with fail
              go_ret2
              exact ⟨.slice none 0 0, by rw [HR.out] <;> rfl, by rw [HR.out]; exact World.ownsRow_nil _ _ _ _, Hbe.out⟩
            · have HR := Lib.hid (show setN l cs = (sets l cs, 0) by unfold setN; rw [if_neg (by simp [H0.out]), if_neg (by rw [HG.out, Hln'.out]; simp; omega), if_neg h40])
              have HC := Lib.hid (copied_any A5 _ c5 _ (sets l cs) wr hin5 (Nat.le_refl _) (sets_short HF.out HG.out) (by omega))
              have h4 : ¬ (40 : Int) < ((sets l cs).length : Int) := by omega
              generalize hN : (sets l cs).length = N at *
              clear hin5
              go_wp2_with fail
              refine HC.out.mono ?_
              rintro e w6 ⟨v6, rfl, ho6, hb6⟩
              have Ho6 := Lib.hid (rw_le ho6 hszw)
              have Hb6 := Lib.hid (Hbe.out.trans (hb6.mono hszw))
              clear ho6 hb6 HC
              go_wp2_with fail
              go_ret2
              exact ⟨v6, by rw [HR.out] <;> rfl, by rw [HR.out]; simp only; rw [hN]; exact Ho6.out, Hb6.out⟩
  · have HR := Lib.hid (show setN l cs = ([], chkT l) by unfold setN; rw [if_pos h0])
    generalize chkT l = x at *
    have h0b : (x == 0) = false := by simpa using h0
    clear hln hln'
    go_enter Try.func25, Try.ntmps25
    go_wp2_with fail
    refine H1.out.mono ?_
    rintro e w1 ⟨rfl, hb1⟩
    have Hb1 := Lib.hid hb1
    clear hb1 H1
    go_wp2_with fail
    go_ret2
    exact ⟨.slice none 0 0, by rw [HR.out] <;> rfl, by rw [HR.out]; exact World.ownsRow_nil _ _ _ _, Hb1.out⟩
end Go.Proofs.Ytmlgaedhfannmaa
