/- Joined texts: KyCm, KyEx. -/
import Derived.Test.YtgckihglgnbaoaaKyGv
import Derived.Test.YtgckihglgnbaoaaBunKA
/- One-time keys: claim. -/
namespace Go.Proofs.Ytgckihglgnbaoaa
set_option linter.unusedVariables false
set_option linter.unusedSimpArgs false
open Go.RowKit
attribute [local go_sem high] str_mk
theorem look_cl {w : World} {h : Nat} {s : Ks} (k : KsIn w h s) {x : List UInt8 × Int} (hn : okC x) (c : Bool) : (Instr.lookup 75 (.map (some (h + 3))) (ekC x) c).run Try.prog w = .ok (lookV evK (evK kv0) c (getA s.cl x)) w :=
  k.cl.look keyC Try.underlying75 (ky_zeroK w) hn c
theorem give_one {s : Ks} {S : List UInt8} {n : KNm} {r : List KNm} (h : leftR s S = n :: r) : giveR s S = (⟨n.2, (getA s.up n).getD [], false⟩, 0, { s with gv := putA s.gv n true }) := by unfold giveR; rw [h]
theorem give_two {s : Ks} {S : List UInt8} {k : Kv} (h : leftR s S = []) (h2 : getA s.sp S = some k) : giveR s S = (k, 0, s) := by unfold giveR; rw [h, h2]
theorem give_no {s : Ks} {S : List UInt8} (h : leftR s S = []) (h2 : getA s.sp S = none) : giveR s S = (kv0, 8, s) := by unfold giveR; rw [h, h2]
set_option maxHeartbeats 4000000 in
set_option maxRecDepth 100000 in
theorem claim_any (S : List UInt8) (b : Int) (s : Ks) (h : Nat) (w : World) (hk : KsIn w h s) (hup : s.up.length ≤ 1000) (hg : Gl w) (hS : S.length + 2 ≤ maxLen) (hb : -9223372036854775808 ≤ b ∧ b ≤ 9223372036854775807) :
    Calls Try.prog 35 #[.pointer (some ⟨h + 4, 0, none⟩), .agg #[str S, .int .i64 b]] w (GPost h (claimR s S b) w) := by
  have hwh := hk.lt
  have hx : okC (S, b) := ⟨show S.length ≤ maxLen by omega, hb⟩
  have hB1 := (Blk.new w 92 #[str S, .int .i64 b]).alloc (.cells #[str [], str [], .bool false] 79)
  have hB2 := Blk.new (w.alloc (.cells #[str S, .int .i64 b] 92)) 79 #[str [], str [], .bool false]
  rw [show (w.alloc (.cells #[str S, .int .i64 b] 92)).heap.size = w.heap.size + 1 by simp] at hB2
  have hWb : Below w.heap.size w ((w.alloc (.cells #[str S, .int .i64 b] 92)).alloc (.cells #[str [], str [], .bool false] 79)) := ((Below.refl _ _).alloc (Nat.le_refl _) _).alloc (by simp) _
  have hWs : ((w.alloc (.cells #[str S, .int .i64 b] 92)).alloc (.cells #[str [], str [], .bool false] 79)).heap.size = w.heap.size + 2 := by simp
  have HC := Lib.hid (checkSort_any S _ (hg.below hWb) hS)
  have HE := Lib.hid (claim_cases s S b)
  have HEb := Lib.hid (claim_bad s S b)
  have Hk := Lib.hid hk
  have HWb := Lib.hid hWb
  have HB1 := Lib.hid hB1
  have HB2 := Lib.hid hB2
  have HWs := Lib.hid hWs
  have Hx := Lib.hid hx
  clear hk hWb hB1 hB2 hWs hg hx
  obtain ⟨R, hR⟩ : ∃ R, claimR s S b = R := ⟨_, rfl⟩
  rw [hR] at HE HEb ⊢
  generalize sortR S = r at *
  go_enter Try.func35, Try.ntmps35
  go_wp2_with fail
  refine HC.out.mono ?_
  rintro e w1 ⟨rfl, hb1⟩
  have hbw1 : Below w.heap.size w w1 := below_tail HWb.out hb1 HWb.out.size
  have hsz1 : w.heap.size + 2 ≤ w1.heap.size := by have := hb1.size; rw [HWs.out] at this; exact this
  have hBc : Blk w1 w.heap.size 92 #[str S, .int .i64 b] := (hb1.block _ (by rw [HWs.out]; omega)).trans HB1.out
  have hBr : Blk w1 (w.heap.size + 1) 79 #[str [], str [], .bool false] := (hb1.block _ (by rw [HWs.out]; omega)).trans HB2.out
  have hk1 := Hk.out.below' hbw1
  have x0 : w1.cell? ⟨w.heap.size, 0, none⟩ = some (str S) := hBc.cell 0
  have x1 : w1.cell? ⟨w.heap.size, 1, none⟩ = some (.int .i64 b) := hBc.cell 1
  have x4 : w1.cell? ⟨h + 4, 3, none⟩ = some (.map (some (h + 3))) := hk1.box.cell 3
  have c0 : w1.cell? ⟨w.heap.size + 1, 0, none⟩ = some (str []) := hBr.cell 0
  have c1 : w1.cell? ⟨w.heap.size + 1, 1, none⟩ = some (str []) := hBr.cell 1
  have c2 : w1.cell? ⟨w.heap.size + 1, 2, none⟩ = some (.bool false) := hBr.cell 2
  have f0 := hBr.frozen 0
  have f1 := hBr.frozen 1
  have f2 := hBr.frozen 2
  have hw0 : w.heap.size < w1.heap.size := by omega
  have hw1 : w.heap.size + 1 < w1.heap.size := by omega
  have hh1 : h + 4 < w1.heap.size := hk1.lt
  have Hk1 := Lib.hid hk1
  have Hbw1 := Lib.hid hbw1
  have HBr := Lib.hid hBr
  have HBc := Lib.hid hBc
  clear hb1 hbw1 hBc hBr HC HB1 HB2
  by_cases hr : r = 0
  · subst hr
    by_cases hb1 : b < 1
    · have HR := Lib.hid ((HEb.out (by omega)).1)
      clear HE HEb hR hk1
      go_wp2_with fail
      refine ret_k2 (by rfl) (by rfl) (by rfl) (ky_set3 HBr.out _ _ _) (by rfl) ?_
      rw [HR.out]
      exact ⟨rfl, Hk1.out.set3 (by omega) _ _ _, beside_set3 (Beside.of_below Hbw1.out) (by omega) _ _ _⟩
    · have HLd := look_cl (hk1.below' (below_drewN (Below.refl w1.heap.size w1) 1)) Hx.out true
      have HLa := look_cl (hk1.below' (below_drewN ((Below.refl w1.heap.size w1).alloc (Nat.le_refl _) (.cells #[str [], str [], .bool false] 79)) 1)) Hx.out true
      change (Instr.lookup 75 (.map (some (h + 3))) (ekC (S, b)) true).run Try.prog w1.drew = .ok _ w1.drew at HLd
      change (Instr.lookup 75 (.map (some (h + 3))) (ekC (S, b)) true).run Try.prog (w1.alloc (.cells #[str [], str [], .bool false] 79)).drew = .ok _ (w1.alloc (.cells #[str [], str [], .bool false] 79)).drew at HLa
      have HE2 := Lib.hid (HE.out rfl (by omega))
      clear HE HEb hk1
      unfold ekC at HLd HLa
      rcases HE2.out with ⟨k, hc, hRR⟩ | ⟨hc, n, rr, hl, hRR⟩ | ⟨hc, hl, k, hs, hRR⟩ | ⟨hc, hl, hs, hRR⟩
      · rw [hc] at HLd HLa
        unfold lookV evK at HLd HLa
        simp only [if_true] at HLd HLa
        have HR := Lib.hid hRR
        clear HE2 hRR hc
        go_wp2_with fail
        go_region
        all_goals
          go_wp2_with fail
          refine ret_k2 (by rfl) (by rfl) (by rfl) ((ky_set3 HBr.out _ _ _).alloc _) (by rfl) ?_
          rw [HR.out]
          exact ⟨rfl, (Hk1.out.set3 (by omega) _ _ _).below' ((Below.refl _ _).alloc (Nat.le_refl _) _).drew, ((beside_set3 (Beside.of_below Hbw1.out) (by omega) _ _ _).alloc _).drew⟩
      · rw [hc] at HLd HLa
        unfold lookV evK kv0 at HLd HLa
        simp only [if_true] at HLd HLa
        obtain ⟨k, hkk⟩ : ∃ k : Kv, k = ⟨n.2, (getA s.up n).getD [], false⟩ := ⟨_, rfl⟩
        have HR := Lib.hid (show R = (k, 0, { s with gv := putA s.gv n true, cl := putA s.cl (S, b) k }) by rw [hRR, hkk])
        have HG := Lib.hid (show giveR s S = (k, 0, { s with gv := putA s.gv n true }) by rw [give_one hl, hkk])
        clear HE2 hRR hc hkk
        go_wp2_with fail
        go_region
        all_goals
          go_wp2_with fail
          refine (give_any S s h _ (Hk1.out.below' (((Below.refl _ _).alloc (Nat.le_refl _) _).drew)) hup (show S.length ≤ maxLen by omega)).mono ?_
          rw [HG.out]
          rintro e w3 ⟨rfl, hk3, hb3⟩
          have hb13 : Beside (Four h) w1 w3 := (Beside.of_below (((Below.refl _ _).alloc (Nat.le_refl _) _).drew)).trans hb3
          have hBc := (hb13.block _ hw0 (by unfold Four; omega)).trans HBc.out
          have hBr := (hb13.block _ hw1 (by unfold Four; omega)).trans HBr.out
          have hbe := (Beside.of_below (N := Four h) Hbw1.out).trans hb13
          have Hk3 := Lib.hid hk3
          have hsz3 := hb13.size
          have Hbe := Lib.hid hbe
          have HBc3 : Hid (Blk w3 w.heap.size 92 #[str S, .int .i64 b]) := Lib.hid hBc
          have HBr3 : Hid (Blk w3 (w.heap.size + 1) 79 #[str [], str [], .bool false]) := Lib.hid hBr
          clear hb3 hb13 hBc hBr hbe hk3 HLd HLa x0 x1 x4 c0 c1 c2 f0 f1 f2
          dsimp only at Hk3 ⊢
          obtain ⟨k1, k2, k3⟩ := k
          simp only at *
          obtain ⟨W4, hW4⟩ : ∃ W4, w3.alloc (.cells #[str k1, str k2, .bool k3] 79) = W4 := ⟨_, rfl⟩
          have hB4 := Blk.new w3 79 #[str k1, str k2, .bool k3]
          have hb4 : Below w3.heap.size w3 W4 := by rw [← hW4]; exact (Below.refl _ _).alloc (Nat.le_refl _) _
          rw [hW4] at hB4
          have hk4 := Hk3.out.below' hb4
          have hBc4 := (hb4.block _ (show w.heap.size < w3.heap.size by omega)).trans HBc3.out
          have hBc4 : Blk W4 w.heap.size 92 #[str S, .int .i64 b] := hBc4
          have x0 : W4.cell? ⟨w.heap.size, 0, none⟩ = some (str S) := hBc4.cell 0
          have x1 : W4.cell? ⟨w.heap.size, 1, none⟩ = some (.int .i64 b) := hBc4.cell 1
          have x4 : W4.cell? ⟨h + 4, 3, none⟩ = some (.map (some (h + 3))) := hk4.box.cell 3
          have y0 : W4.cell? ⟨w3.heap.size, 0, none⟩ = some (str k1) := hB4.cell 0
          have y1 : W4.cell? ⟨w3.heap.size, 1, none⟩ = some (str k2) := hB4.cell 1
          have y2 : W4.cell? ⟨w3.heap.size, 2, none⟩ = some (.bool k3) := hB4.cell 2
          have hs34 : w3.heap.size < W4.heap.size := hB4.lt
          have hh4 : h + 4 < W4.heap.size := hk4.lt
          have Hk4 := Lib.hid hk4
          have HB4 := Lib.hid hB4
          have Hbe4 := Lib.hid (Hbe.out.trans (Beside.of_below hb4))
          have HBr4 : Hid (Blk W4 (w.heap.size + 1) 79 #[str [], str [], .bool false]) := Lib.hid ((hb4.block _ (by omega)).trans HBr3.out)
          clear hB4 hb4 hk4 hBc4 Hk3 HBc3 HBr3 Hbe
          go_wp2_with fail
          go_still_tail 6, (by kernel_rfl)
          change wpList _ _ _ _ _ W4.drew
          have hd : Below W4.heap.size W4 W4.drew := (Below.refl _ _).drew
          have Hk5 := Lib.hid (Hk4.out.below' hd)
          have Hbe5 := Lib.hid (Hbe4.out.trans (Beside.of_below hd))
          have HB5 : Hid (Blk W4.drew w3.heap.size 79 #[str k1, str k2, .bool k3]) := Lib.hid ((hd.block _ hs34).trans HB4.out)
          have HBr5 : Hid (Blk W4.drew (w.heap.size + 1) 79 #[str [], str [], .bool false]) := Lib.hid ((hd.block _ (by omega)).trans HBr4.out)
          have hsz5 : W4.drew.heap.size = W4.heap.size := rfl
          clear hd x0 x1 x4 y0 y1 y2 Hk4 HB4 HBr4 Hbe4
          generalize W4.drew = w5 at *
          go_wp2_with (first
            | (at_mapUpdate; refine wpList_mapUpdate_it (ek := ekC) (ev := evK) rfl _ _ _ _ rfl keyC Try.underlying75 rfl Hk5.out.cl (S, b) ⟨k1, k2, k3⟩ rfl rfl Hx.out ?_
               intro w6 hm6 hb6 hs6
               have hk6 := Hk5.out.put_cl hm6 hb6
               have hbe6 := Hbe5.out.trans (four_up hb6 (by omega) (by omega))
               have hB6 : Blk w6 w3.heap.size 79 #[str k1, str k2, .bool k3] := (hb6.block _ (by omega) (by omega)).trans HB5.out
               have hBr6 : Blk w6 (w.heap.size + 1) 79 #[str [], str [], .bool false] := (hb6.block _ (by omega) (by omega)).trans HBr5.out
               have y0 : w6.cell? ⟨w3.heap.size, 0, none⟩ = some (str k1) := hB6.cell 0
               have y1 : w6.cell? ⟨w3.heap.size, 1, none⟩ = some (str k2) := hB6.cell 1
               have y2 : w6.cell? ⟨w3.heap.size, 2, none⟩ = some (.bool k3) := hB6.cell 2
               have c0 : w6.cell? ⟨w.heap.size + 1, 0, none⟩ = some (str []) := hBr6.cell 0
               have c1 : w6.cell? ⟨w.heap.size + 1, 1, none⟩ = some (str []) := hBr6.cell 1
               have c2 : w6.cell? ⟨w.heap.size + 1, 2, none⟩ = some (.bool false) := hBr6.cell 2
               have f0 := hBr6.frozen 0
               have f1 := hBr6.frozen 1
               have f2 := hBr6.frozen 2)
            | fail)
          refine ret_k2 (by rfl) (by rfl) (by rfl) (ky_set3 hBr6 _ _ _) (by rfl) ?_
          rw [HR.out]
          exact ⟨rfl, hk6.set3 (by omega) _ _ _, beside_set3 hbe6 (by omega) _ _ _⟩
      · rw [hc] at HLd HLa
        unfold lookV evK kv0 at HLd HLa
        simp only [if_true] at HLd HLa
        have HR := Lib.hid hRR
        have HG := Lib.hid (give_two hl hs)
        clear HE2 hRR hc
        go_wp2_with fail
        go_region
        all_goals
          go_wp2_with fail
          refine (give_any S s h _ (Hk1.out.below' (((Below.refl _ _).alloc (Nat.le_refl _) _).drew)) hup (show S.length ≤ maxLen by omega)).mono ?_
          rw [HG.out]
          rintro e w3 ⟨rfl, hk3, hb3⟩
          have hb13 : Beside (Four h) w1 w3 := (Beside.of_below (((Below.refl _ _).alloc (Nat.le_refl _) _).drew)).trans hb3
          have hBc := (hb13.block _ hw0 (by unfold Four; omega)).trans HBc.out
          have hBr := (hb13.block _ hw1 (by unfold Four; omega)).trans HBr.out
          have hbe := (Beside.of_below (N := Four h) Hbw1.out).trans hb13
          have Hk3 := Lib.hid hk3
          have hsz3 := hb13.size
          have Hbe := Lib.hid hbe
          have HBc3 : Hid (Blk w3 w.heap.size 92 #[str S, .int .i64 b]) := Lib.hid hBc
          have HBr3 : Hid (Blk w3 (w.heap.size + 1) 79 #[str [], str [], .bool false]) := Lib.hid hBr
          clear hb3 hb13 hBc hBr hbe hk3 HLd HLa x0 x1 x4 c0 c1 c2 f0 f1 f2
          dsimp only at Hk3 ⊢
          obtain ⟨k1, k2, k3⟩ := k
          simp only at *
          obtain ⟨W4, hW4⟩ : ∃ W4, w3.alloc (.cells #[str k1, str k2, .bool k3] 79) = W4 := ⟨_, rfl⟩
          have hB4 := Blk.new w3 79 #[str k1, str k2, .bool k3]
          have hb4 : Below w3.heap.size w3 W4 := by rw [← hW4]; exact (Below.refl _ _).alloc (Nat.le_refl _) _
          rw [hW4] at hB4
          have hk4 := Hk3.out.below' hb4
          have hBc4 := (hb4.block _ (show w.heap.size < w3.heap.size by omega)).trans HBc3.out
          have hBc4 : Blk W4 w.heap.size 92 #[str S, .int .i64 b] := hBc4
          have x0 : W4.cell? ⟨w.heap.size, 0, none⟩ = some (str S) := hBc4.cell 0
          have x1 : W4.cell? ⟨w.heap.size, 1, none⟩ = some (.int .i64 b) := hBc4.cell 1
          have x4 : W4.cell? ⟨h + 4, 3, none⟩ = some (.map (some (h + 3))) := hk4.box.cell 3
          have y0 : W4.cell? ⟨w3.heap.size, 0, none⟩ = some (str k1) := hB4.cell 0
          have y1 : W4.cell? ⟨w3.heap.size, 1, none⟩ = some (str k2) := hB4.cell 1
          have y2 : W4.cell? ⟨w3.heap.size, 2, none⟩ = some (.bool k3) := hB4.cell 2
          have hs34 : w3.heap.size < W4.heap.size := hB4.lt
          have hh4 : h + 4 < W4.heap.size := hk4.lt
          have Hk4 := Lib.hid hk4
          have HB4 := Lib.hid hB4
          have Hbe4 := Lib.hid (Hbe.out.trans (Beside.of_below hb4))
          have HBr4 : Hid (Blk W4 (w.heap.size + 1) 79 #[str [], str [], .bool false]) := Lib.hid ((hb4.block _ (by omega)).trans HBr3.out)
          clear hB4 hb4 hk4 hBc4 Hk3 HBc3 HBr3 Hbe
          go_wp2_with fail
          go_still_tail 6, (by kernel_rfl)
          change wpList _ _ _ _ _ W4.drew
          have hd : Below W4.heap.size W4 W4.drew := (Below.refl _ _).drew
          have Hk5 := Lib.hid (Hk4.out.below' hd)
          have Hbe5 := Lib.hid (Hbe4.out.trans (Beside.of_below hd))
          have HB5 : Hid (Blk W4.drew w3.heap.size 79 #[str k1, str k2, .bool k3]) := Lib.hid ((hd.block _ hs34).trans HB4.out)
          have HBr5 : Hid (Blk W4.drew (w.heap.size + 1) 79 #[str [], str [], .bool false]) := Lib.hid ((hd.block _ (by omega)).trans HBr4.out)
          have hsz5 : W4.drew.heap.size = W4.heap.size := rfl
          clear hd x0 x1 x4 y0 y1 y2 Hk4 HB4 HBr4 Hbe4
          generalize W4.drew = w5 at *
          go_wp2_with (first
            | (at_mapUpdate; refine wpList_mapUpdate_it (ek := ekC) (ev := evK) rfl _ _ _ _ rfl keyC Try.underlying75 rfl Hk5.out.cl (S, b) ⟨k1, k2, k3⟩ rfl rfl Hx.out ?_
               intro w6 hm6 hb6 hs6
               have hk6 := Hk5.out.put_cl hm6 hb6
               have hbe6 := Hbe5.out.trans (four_up hb6 (by omega) (by omega))
               have hB6 : Blk w6 w3.heap.size 79 #[str k1, str k2, .bool k3] := (hb6.block _ (by omega) (by omega)).trans HB5.out
               have hBr6 : Blk w6 (w.heap.size + 1) 79 #[str [], str [], .bool false] := (hb6.block _ (by omega) (by omega)).trans HBr5.out
               have y0 : w6.cell? ⟨w3.heap.size, 0, none⟩ = some (str k1) := hB6.cell 0
               have y1 : w6.cell? ⟨w3.heap.size, 1, none⟩ = some (str k2) := hB6.cell 1
               have y2 : w6.cell? ⟨w3.heap.size, 2, none⟩ = some (.bool k3) := hB6.cell 2
               have c0 : w6.cell? ⟨w.heap.size + 1, 0, none⟩ = some (str []) := hBr6.cell 0
               have c1 : w6.cell? ⟨w.heap.size + 1, 1, none⟩ = some (str []) := hBr6.cell 1
               have c2 : w6.cell? ⟨w.heap.size + 1, 2, none⟩ = some (.bool false) := hBr6.cell 2
               have f0 := hBr6.frozen 0
               have f1 := hBr6.frozen 1
               have f2 := hBr6.frozen 2)
            | fail)
          refine ret_k2 (by rfl) (by rfl) (by rfl) (ky_set3 hBr6 _ _ _) (by rfl) ?_
          rw [HR.out]
          exact ⟨rfl, hk6.set3 (by omega) _ _ _, beside_set3 hbe6 (by omega) _ _ _⟩
      · rw [hc] at HLd HLa
        unfold lookV evK kv0 at HLd HLa
        simp only [if_true] at HLd HLa
        have HR := Lib.hid hRR
        have HG := Lib.hid (give_no hl hs)
        clear HE2 hRR hc
        go_wp2_with fail
        go_region
        all_goals
          go_wp2_with fail
          refine (give_any S s h _ (Hk1.out.below' (((Below.refl _ _).alloc (Nat.le_refl _) _).drew)) hup (show S.length ≤ maxLen by omega)).mono ?_
          rw [HG.out]
          rintro e w3 ⟨rfl, hk3, hb3⟩
          have hb13 : Beside (Four h) w1 w3 := (Beside.of_below (((Below.refl _ _).alloc (Nat.le_refl _) _).drew)).trans hb3
          have hBc := (hb13.block _ hw0 (by unfold Four; omega)).trans HBc.out
          have hBr := (hb13.block _ hw1 (by unfold Four; omega)).trans HBr.out
          have hbe := (Beside.of_below (N := Four h) Hbw1.out).trans hb13
          have Hk3 := Lib.hid hk3
          have hsz3 := hb13.size
          have Hbe := Lib.hid hbe
          have HBc3 : Hid (Blk w3 w.heap.size 92 #[str S, .int .i64 b]) := Lib.hid hBc
          have HBr3 : Hid (Blk w3 (w.heap.size + 1) 79 #[str [], str [], .bool false]) := Lib.hid hBr
          clear hb3 hb13 hBc hBr hbe hk3 HLd HLa x0 x1 x4 c0 c1 c2 f0 f1 f2
          have hBr := HBr3.out
          have c0 : w3.cell? ⟨w.heap.size + 1, 0, none⟩ = some (str []) := hBr.cell 0
          have c1 : w3.cell? ⟨w.heap.size + 1, 1, none⟩ = some (str []) := hBr.cell 1
          have c2 : w3.cell? ⟨w.heap.size + 1, 2, none⟩ = some (.bool false) := hBr.cell 2
          have f0 := hBr.frozen 0
          have f1 := hBr.frozen 1
          have f2 := hBr.frozen 2
          have hw3 : w.heap.size + 1 < w3.heap.size := by omega
          unfold kv0
          go_wp2_with fail
          refine ret_k2 (by rfl) (by rfl) (by rfl) ((ky_set3 HBr3.out _ _ _).alloc _) (by rfl) ?_
          rw [HR.out]
          exact ⟨rfl, (Hk3.out.set3 (by omega) _ _ _).below' ((Below.refl _ _).alloc (Nat.le_refl _) _), (beside_set3 Hbe.out (by omega) _ _ _).alloc _⟩
  · have HR := Lib.hid ((HEb.out (fun h => hr h.1)).1)
    have HR2 := Lib.hid (show R = (kv0, r, s) by rw [HR.out, if_pos hr])
    clear HE HEb hR HR hk1
    go_wp2_with fail
    refine ret_k2 (by rfl) (by rfl) (by rfl) (ky_set3 HBr.out _ _ _) (by rfl) ?_
    rw [HR2.out]
    exact ⟨rfl, Hk1.out.set3 (by omega) _ _ _, beside_set3 (Beside.of_below Hbw1.out) (by omega) _ _ _⟩
end Go.Proofs.Ytgckihglgnbaoaa

/- One-time keys: execute. -/
namespace Go.Proofs.Ytgckihglgnbaoaa
set_option linter.unusedVariables false
set_option linter.unusedSimpArgs false
open Go.RowKit
attribute [local go_sem high] str_mk
/-- What is kept is short enough to be copied. -/
def kvLim (k : Kv) : Prop := k.id.length ≤ 140737488355328 ∧ k.body.length ≤ 140737488355328
structure KLim (s : Ks) : Prop where
  up : ∀ p ∈ s.up, p.1.2.length ≤ 140737488355328 ∧ p.2.length ≤ 140737488355328
  sp : ∀ p ∈ s.sp, kvLim p.2
  cl : ∀ p ∈ s.cl, kvLim p.2
theorem kLim0 : KLim ks0 := ⟨by simp [ks0], by simp [ks0], by simp [ks0]⟩
theorem put_mem {K V : Type} [DecidableEq K] (L : List (K × V)) (k : K) (v : V) : ∀ p ∈ putA L k v, p ∈ L ∨ p = (k, v) := by
  induction L with
  | nil => simp [putA]
  | cons q L ih =>
    unfold putA
    intro p hp
    split at hp
    · rcases List.mem_cons.1 hp with h | h
      · exact .inr h
      · exact .inl (List.mem_cons_of_mem _ h)
    · rcases List.mem_cons.1 hp with h | h
      · exact .inl (by rw [h]; exact List.mem_cons_self)
      · rcases ih p h with h | h
        · exact .inl (List.mem_cons_of_mem _ h)
        · exact .inr h
theorem KLim.give {s : Ks} (h : KLim s) (S : List UInt8) : kvLim (giveR s S).1 ∧ KLim (giveR s S).2.2 := by
  rcases give_cases s S with ⟨n, r, hl, e⟩ | ⟨hl, k, hs, e⟩ | ⟨hl, hs, e⟩
  · rw [e]
    refine ⟨?_, ⟨h.up, h.sp, h.cl⟩⟩
    obtain ⟨p, hp, e1⟩ := List.mem_map.1 (head_left hl).1
    refine ⟨by rw [← e1]; exact (h.up p hp).1, ?_⟩
    show ((getA s.up n).getD []).length ≤ _
    cases hg : getA s.up n with
    | none => simp
    | some v => exact (h.up _ (getA_some_mem hg)).2
  · rw [e]; exact ⟨h.sp _ (getA_some_mem hs), h⟩
  · rw [e]; exact ⟨⟨by simp [kv0], by simp [kv0]⟩, h⟩
theorem KLim.claim {s : Ks} (h : KLim s) (S : List UInt8) (b : Int) : kvLim (claimR s S b).1 ∧ KLim (claimR s S b).2.2 := by
  have h0 : kvLim kv0 := ⟨by simp [kv0], by simp [kv0]⟩
  unfold claimR
  split
  · exact ⟨h0, h⟩
  · split
    · exact ⟨h0, h⟩
    · split
      · rename_i k hk
        exact ⟨h.cl _ (getA_some_mem hk), h⟩
      · split
        · exact ⟨h0, h⟩
        · obtain ⟨g1, g2⟩ := h.give S
          refine ⟨g1, ⟨g2.up, g2.sp, fun p hp => ?_⟩⟩
          rcases put_mem _ _ _ p hp with hp | hp
          · exact g2.cl p hp
          · rw [hp]; exact g1
theorem KLim.exec {s : Ks} (h : KLim s) {a : Ak} (ha : AkOk a) : kvLim (execR s a).1 ∧ KLim (execR s a).2.2 := by
  have h0 : kvLim kv0 := ⟨by simp [kv0], by simp [kv0]⟩
  obtain ⟨h1, h2, h3, _⟩ := ha
  unfold execR
  split
  · refine ⟨h0, ?_⟩
    show KLim (leaveR s a.sort a.id a.body).2
    unfold leaveR
    split
    · exact h
    · split
      · exact h
      · split
        · exact h
        · refine ⟨fun p hp => ?_, h.sp, h.cl⟩
          rcases put_mem _ _ _ p hp with hp | hp
          · exact h.up p hp
          · rw [hp]; exact ⟨h2, h3⟩
  · split
    · refine ⟨h0, ?_⟩
      show KLim (spareR s a.sort a.id a.body).2
      unfold spareR
      split
      · exact h
      · refine ⟨h.up, fun p hp => ?_, h.cl⟩
        rcases put_mem _ _ _ p hp with hp | hp
        · exact h.sp p hp
        · rw [hp]; exact ⟨h2, h3⟩
    · split
      · exact h.claim _ _
      · split <;> exact ⟨h0, h⟩
theorem beside_two {N : Nat → Prop} (w : World) (o1 o2 : Obj) : Beside N w ((w.alloc o1).alloc o2) := ((Beside.refl N w).alloc _).alloc _
set_option maxHeartbeats 4000000 in
set_option maxRecDepth 100000 in
theorem exec_any (a : Ak) (s : Ks) (h : Nat) (w : World) (hk : KsIn w h s) (hup : s.up.length ≤ 1000) (hg : Gl w) (hgh : 0 < h) (ha : AkOk a) :
    Calls Try.prog 26 #[.pointer (some ⟨h + 4, 0, none⟩), .agg #[.int .i64 a.kind, str a.sort, str a.id, str a.body, .int .i64 a.by_]] w (GPost h (execR s a) w) := by
  have hwh := hk.lt
  obtain ⟨E, hE⟩ : ∃ E, E = (w.alloc (.cells #[.int .i64 a.kind, str a.sort, str a.id, str a.body, .int .i64 a.by_] 55)).alloc (.cells #[str [], str [], .bool false] 79) := ⟨_, rfl⟩
  have hB2 : Blk E (w.heap.size + 1) 79 #[str [], str [], .bool false] := by
    rw [hE]
    have := Blk.new (w.alloc (.cells #[.int .i64 a.kind, str a.sort, str a.id, str a.body, .int .i64 a.by_] 55)) 79 #[str [], str [], .bool false]
    rwa [show (w.alloc (.cells #[.int .i64 a.kind, str a.sort, str a.id, str a.body, .int .i64 a.by_] 55)).heap.size = w.heap.size + 1 by simp] at this
  have hWb : Below w.heap.size w E := by rw [hE]; exact ((Below.refl _ _).alloc (Nat.le_refl _) _).alloc (by simp) _
  have hWs : E.heap.size = w.heap.size + 2 := by rw [hE]; simp
  have hkE := hk.below' hWb
  have hgE := hg.below hWb
  have HLv := Lib.hid (leave_any a s h E hkE hup hgE hgh ha)
  have HSp := Lib.hid (spare_any a s h E hkE hgE ha)
  have HCl := Lib.hid (claim_any a.sort a.by_ s h E hkE hup hgE (by have := ha.old.1; omega) ha.old.2.2)
  have HCt := Lib.hid (checkSort_any a.sort E hgE (by have := ha.old.1; omega))
  have HE1 := Lib.hid (exec_leave s a)
  have HE2 := Lib.hid (exec_spare s a)
  have HE3 := Lib.hid (exec_claim s a)
  have HE4 := Lib.hid (exec_count s a)
  have HE5 := Lib.hid (show ¬ a.kind = 1 → ¬ a.kind = 2 → ¬ a.kind = 3 → ¬ a.kind = 4 → execR s a = (kv0, 3, s) from fun h1 h2 h3 h4 => by unfold execR; simp [h1, h2, h3, h4])
  have HkE := Lib.hid hkE
  have HWb := Lib.hid hWb
  have HWs := Lib.hid hWs
  have HB2 := Lib.hid hB2
  clear hkE hgE hWb hWs hB2 hk hg ha
  obtain ⟨kd, S, I, B, by_⟩ := a
  simp only at *
  generalize execR s ⟨kd, S, I, B, by_⟩ = R at *
  generalize leaveR s S I B = R1 at *
  generalize spareR s S I B = R2 at *
  generalize claimR s S by_ = R3 at *
  generalize sortR S = r4 at *
  by_cases k1 : kd = 1
  · subst k1
    have HR := Lib.hid (HE1.out rfl)
    clear HE1 HE2 HE3 HE4 HE5 HSp HCl HCt
    go_enter Try.func26, Try.ntmps26
    go_wp2_with fail
    rw [← hE]
    refine HLv.out.mono ?_
    rintro e w3 ⟨rfl, hk3, hb3⟩
    have hBr : Blk w3 (w.heap.size + 1) 79 #[str [], str [], .bool false] := (hb3.block _ (by rw [HWs.out]; omega) (by unfold Four; omega)).trans HB2.out
    have c0 : w3.cell? ⟨w.heap.size + 1, 0, none⟩ = some (str []) := hBr.cell 0
    have c1 : w3.cell? ⟨w.heap.size + 1, 1, none⟩ = some (str []) := hBr.cell 1
    have c2 : w3.cell? ⟨w.heap.size + 1, 2, none⟩ = some (.bool false) := hBr.cell 2
    have f0 := hBr.frozen 0
    have f1 := hBr.frozen 1
    have f2 := hBr.frozen 2
    have Hk3 := Lib.hid hk3
    have Hbe := Lib.hid ((Beside.of_below (N := Four h) HWb.out).trans hb3)
    clear hE hb3 hk3
    go_wp2_with fail
    refine ret_k2 (by rfl) (by rfl) (by rfl) (ky_set3 hBr _ _ _) (by rfl) ?_
    rw [HR.out]
    exact ⟨rfl, Hk3.out.set3 (by omega) _ _ _, beside_set3 Hbe.out (by omega) _ _ _⟩
  · by_cases k2 : kd = 2
    · subst k2
      have HR := Lib.hid (HE2.out rfl)
      clear HE1 HE2 HE3 HE4 HE5 HLv HCl HCt
      go_enter Try.func26, Try.ntmps26
      go_wp2_with fail
      rw [← hE]
      refine HSp.out.mono ?_
      rintro e w3 ⟨rfl, hk3, hb3⟩
      have hBr : Blk w3 (w.heap.size + 1) 79 #[str [], str [], .bool false] := (hb3.block _ (by rw [HWs.out]; omega) (by unfold Four; omega)).trans HB2.out
      have c0 : w3.cell? ⟨w.heap.size + 1, 0, none⟩ = some (str []) := hBr.cell 0
      have c1 : w3.cell? ⟨w.heap.size + 1, 1, none⟩ = some (str []) := hBr.cell 1
      have c2 : w3.cell? ⟨w.heap.size + 1, 2, none⟩ = some (.bool false) := hBr.cell 2
      have f0 := hBr.frozen 0
      have f1 := hBr.frozen 1
      have f2 := hBr.frozen 2
      have Hk3 := Lib.hid hk3
      have Hbe := Lib.hid ((Beside.of_below (N := Four h) HWb.out).trans hb3)
      clear hE hb3 hk3
      go_wp2_with fail
      refine ret_k2 (by rfl) (by rfl) (by rfl) (ky_set3 hBr _ _ _) (by rfl) ?_
      rw [HR.out]
      exact ⟨rfl, Hk3.out.set3 (by omega) _ _ _, beside_set3 Hbe.out (by omega) _ _ _⟩
    · by_cases k3 : kd = 3
      · subst k3
        have HR := Lib.hid (HE3.out rfl)
        clear HE1 HE2 HE3 HE4 HE5 HLv HSp HCt
        go_enter Try.func26, Try.ntmps26
        go_wp2_with fail
        rw [← hE]
        refine HCl.out.mono ?_
        rintro e w3 ⟨rfl, hk3, hb3⟩
        have hBr : Blk w3 (w.heap.size + 1) 79 #[str [], str [], .bool false] := (hb3.block _ (by rw [HWs.out]; omega) (by unfold Four; omega)).trans HB2.out
        have c0 : w3.cell? ⟨w.heap.size + 1, 0, none⟩ = some (str []) := hBr.cell 0
        have c1 : w3.cell? ⟨w.heap.size + 1, 1, none⟩ = some (str []) := hBr.cell 1
        have c2 : w3.cell? ⟨w.heap.size + 1, 2, none⟩ = some (.bool false) := hBr.cell 2
        have f0 := hBr.frozen 0
        have f1 := hBr.frozen 1
        have f2 := hBr.frozen 2
        have Hk3 := Lib.hid hk3
        have Hbe := Lib.hid ((Beside.of_below (N := Four h) HWb.out).trans hb3)
        clear hE hb3 hk3
        go_wp2_with fail
        refine ret_k2 (by rfl) (by rfl) (by rfl) (ky_set3 hBr _ _ _) (by rfl) ?_
        rw [HR.out]
        exact ⟨rfl, Hk3.out.set3 (by omega) _ _ _, beside_set3 Hbe.out (by omega) _ _ _⟩
      · by_cases k4 : kd = 4
        · subst k4
          have HR := Lib.hid (HE4.out rfl)
          clear HE1 HE2 HE3 HE4 HE5 HLv HSp HCl
          go_enter Try.func26, Try.ntmps26
          go_wp2_with fail
          rw [← hE]
          refine HCt.out.mono ?_
          rintro e w3 ⟨rfl, hb3'⟩
          have hk3 := HkE.out.below' hb3'
          have hb3 : Beside (Four h) E w3 := Beside.of_below hb3'
          clear hb3'
          have hBr : Blk w3 (w.heap.size + 1) 79 #[str [], str [], .bool false] := (hb3.block _ (by rw [HWs.out]; omega) (by unfold Four; omega)).trans HB2.out
          have c0 : w3.cell? ⟨w.heap.size + 1, 0, none⟩ = some (str []) := hBr.cell 0
          have c1 : w3.cell? ⟨w.heap.size + 1, 1, none⟩ = some (str []) := hBr.cell 1
          have c2 : w3.cell? ⟨w.heap.size + 1, 2, none⟩ = some (.bool false) := hBr.cell 2
          have f0 := hBr.frozen 0
          have f1 := hBr.frozen 1
          have f2 := hBr.frozen 2
          have Hk3 := Lib.hid hk3
          have Hbe := Lib.hid ((Beside.of_below (N := Four h) HWb.out).trans hb3)
          clear hE hb3 hk3
          go_wp2_with fail
          refine ret_k2 (by rfl) (by rfl) (by rfl) (ky_set3 hBr _ _ _) (by rfl) ?_
          rw [HR.out]
          exact ⟨rfl, Hk3.out.set3 (by omega) _ _ _, beside_set3 Hbe.out (by omega) _ _ _⟩
        · have HR := Lib.hid (HE5.out k1 k2 k3 k4)
          clear HE1 HE2 HE3 HE4 HE5 HLv HSp HCl HCt
          go_enter Try.func26, Try.ntmps26
          go_wp2_with fail
          rw [← hE]
          refine ret_k2 (by rfl) (by rfl) (by rfl) HB2.out (by rfl) ?_
          rw [HR.out]
          exact ⟨rfl, HkE.out, Beside.of_below HWb.out⟩
end Go.Proofs.Ytgckihglgnbaoaa
