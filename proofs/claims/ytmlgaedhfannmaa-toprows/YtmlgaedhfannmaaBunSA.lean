/- Joined texts: StRec, StChg, StMore, StSet, StPack. -/
import Derived.Test.YtmlgaedhfannmaaBunSG
import Derived.Test.YtmlgaedhfannmaaBunWA
import Derived.BigRegion
import Derived.Test.YtmlgaedhfannmaaRwApp
import Derived.Test.YtmlgaedhfannmaaBunWD
import Derived.Test.YtmlgaedhfannmaaBunWC
/- The store: record and change. -/
namespace Go.Proofs.Ytmlgaedhfannmaa
set_option linter.unusedVariables false
set_option linter.unusedSimpArgs false
open Go.RowKit
theorem one_ownS (W : World) (x : UInt8) (base : Nat) (hb : base ≤ W.heap.size) : Own (W.alloc (.cells #[bv x] 5)) base (.slice (some ⟨W.heap.size, 0, none⟩) 1 1) [x] := by
  refine ⟨rfl, .inr ⟨W.heap.size, 1, #[bv x], rfl, hb, Blk.new W _ _, by simp, by unfold maxLen; omega, rfl, rfl⟩⟩
set_option maxHeartbeats 1000000 in
theorem record_any (r : Rw) (w : World) (hs : sizedR r = true) :
    Calls Try.prog 107 #[.agg #[str r.key, str r.val]] w fun e w' => ∃ v, e = .returned v ∧ Own w' w.heap.size v (recOf r) ∧ Below w.heap.size w w' := by
  obtain ⟨h1, h2, h3⟩ := (sized_iff r).1 hs
  have Hr := Lib.hid (show recOf r = [UInt8.ofNat r.key.length] ++ r.key ++ r.val by simp [recOf])
  obtain ⟨k, x⟩ := r
  simp only at h1 h2 h3
  have Hr2 := Lib.hid (show recOf ⟨k, x⟩ = [UInt8.ofNat k.length] ++ k ++ x from Hr.out)
  clear Hr hs
  obtain ⟨W, hW⟩ : ∃ W, w.alloc (.cells #[str k, str x] 51) = W := ⟨_, rfl⟩
  have hB := Blk.new w 51 #[str k, str x]
  rw [hW] at hB
  have hb : Below w.heap.size w W := by rw [← hW]; exact (Below.refl _ _).alloc (Nat.le_refl _) _
  have hws : W.heap.size = w.heap.size + 1 := by rw [← hW]; simp
  have ho := one_ownS W (UInt8.ofNat k.length) w.heap.size hb.size
  rw [u8_small (show k.length ≤ 255 by omega), hws] at ho
  have hB1 := hB.alloc (.cells #[.int .u8 (k.length : Int)] 5)
  have hb1 := hb.alloc hb.size (.cells #[.int .u8 (k.length : Int)] 5)
  have hl1 : ([UInt8.ofNat k.length] : List UInt8).length + k.length ≤ 1048576 := by simp; omega
  have hl2 : ([UInt8.ofNat k.length] ++ k : List UInt8).length + x.length ≤ 1048576 := by simp; omega
  have hw1 : IntKind.u8.wrap (k.length : Int) = (k.length : Int) := IntWalk.u8_in _ (by omega)
  obtain ⟨W1, hW1⟩ : ∃ W1, W.alloc (.cells #[.int .u8 (k.length : Int)] 5) = W1 := ⟨_, rfl⟩
  rw [hW1] at ho hB1 hb1
  have hs1 := hb1.size
  have x0 : W.cell? ⟨w.heap.size, 0, none⟩ = some (str k) := hB.cell 0
  have x1 : W.cell? ⟨w.heap.size, 1, none⟩ = some (str x) := hB.cell 1
  have y0 : W1.cell? ⟨w.heap.size, 0, none⟩ = some (str k) := hB1.cell 0
  have y1 : W1.cell? ⟨w.heap.size, 1, none⟩ = some (str x) := hB1.cell 1
  have Ho := Lib.hid ho
  have HB1 := Lib.hid hB1
  have Hb1 := Lib.hid hb1
  clear ho hB hB1 hb hb1
  go_enter Try.func107, Try.ntmps107
  go_wp2_with (first
    | (at_builtin; refine wpList_putS (by rfl) _ _ (by rfl) w.heap.size _ [UInt8.ofNat k.length] k (by rfl) Ho.out (by rfl) hl1 hs1 ?_; clear Ho; intro v2 w2 ho2 hf2; have hB2 := hf2.blk HB1.out (by decide); have z1 : w2.cell? ⟨w.heap.size, 1, none⟩ = some (str x) := hB2.cell 1; have Hb2 := Lib.hid (Hb1.out.trans hf2.1); have hs2 := Hb2.out.size; have Ho2 := Lib.hid ho2; clear hf2 ho2 hB2)
    | (at_builtin; refine wpList_putS (by rfl) _ _ (by rfl) w.heap.size _ ([UInt8.ofNat k.length] ++ k) x (by rfl) Ho2.out (by rfl) hl2 hs2 ?_; clear Ho2; intro v3 w3 ho3 hf3; have Hb3 := Lib.hid (Hb2.out.trans hf3.1); have Ho3 := Lib.hid ho3; clear hf3 ho3))
  go_ret
  exact ⟨v3, rfl, by rw [Hr2.out]; exact Ho3.out, Hb3.out⟩
end Go.Proofs.Ytmlgaedhfannmaa

/- The store: change. -/
namespace Go.Proofs.Ytmlgaedhfannmaa
set_option linter.unusedVariables false
set_option linter.unusedSimpArgs false
open Go.RowKit
theorem ret_chg {fn : Func} {R : Ending → World → Prop} {a : Act} {W : World} {g : Nat} {s1 s2 : Tmp} {v x0 x1 : Value}
    (hf : fn.results = #[.cell s1 51, .tmp s2]) (h1 : a.tmps.getD s1 undef = .pointer (some ⟨g, 0, none⟩)) (h2 : a.tmps.getD s2 undef = v)
    (hb : Blk W g 51 #[x0, x1]) (hd : a.defers = []) (hR : R (.returned (.tuple #[.agg #[x0, x1], v])) W) : bodyPost Try.prog fn R .ret a W := by
  refine bodyPost_ret ?_ hd hR
  have c0 : W.cell? ⟨g, 0, none⟩ = some x0 := hb.cell 0
  have c1 : W.cell? ⟨g, 1, none⟩ = some x1 := hb.cell 1
  simp only [Array.getD_eq_getD_getElem?] at h1 h2
  simp [results, hf, h1, h2, go_sem, c0, c1]
theorem chg_no {n0 : UInt8} {rest : List UInt8} (h : ¬ (1 ≤ n0.toNat ∧ n0.toNat ≤ 20 ∧ n0.toNat ≤ rest.length ∧ rest.length ≤ n0.toNat + 20)) : chgF (n0 :: rest) = rw0 ∧ (chgOf (n0 :: rest)).isSome = false := by
  unfold chgF chgOf; simp only; rw [if_neg h]; exact ⟨rfl, rfl⟩
theorem chg_yes {n0 : UInt8} {rest : List UInt8} (h : 1 ≤ n0.toNat ∧ n0.toNat ≤ 20 ∧ n0.toNat ≤ rest.length ∧ rest.length ≤ n0.toNat + 20) : chgF (n0 :: rest) = ⟨rest.take n0.toNat, rest.drop n0.toNat⟩ ∧ (chgOf (n0 :: rest)).isSome = true := by
  unfold chgF chgOf; simp only; rw [if_pos h]; exact ⟨rfl, rfl⟩
set_option maxHeartbeats 1000000 in
theorem stChange_any (A : Option Addr) (n c : Nat) (b : List UInt8) (w : World) (hh : Holds w w.heap.size 1 A n (b.map bv)) (hnc : n ≤ c) (hn : n ≤ 1048576) (h0 : 0 < n) :
    Calls Try.prog 145 #[.slice A n c] w fun e w' => e = .returned (.tuple #[.agg #[str (chgF b).key, str (chgF b).val], .bool (chgOf b).isSome]) ∧ Below w.heap.size w w' := by
  have hl := hh.len
  obtain ⟨bb, off, rfl, hbb, hce⟩ := hh.2 h0
  obtain ⟨W, hW⟩ : ∃ W, w.alloc (.cells #[.string ⟨#[]⟩, .string ⟨#[]⟩] 51) = W := ⟨_, rfl⟩
  have hWB := Blk.new w 51 #[.string ⟨#[]⟩, .string ⟨#[]⟩]
  have hb : Below w.heap.size w W := by rw [← hW]; exact (Below.refl _ _).alloc (Nat.le_refl _) _
  rw [hW] at hWB
  match b, hl with
  | [], hl => simp at hl; omega
  | n0 :: rest, hl =>
    have c0 : W.cell? ⟨bb, off, none⟩ = some (.int .u8 (n0.toNat : Int)) := (hb.cell (p := ⟨bb, off, none⟩) hbb).trans (hce 0 _ rfl)
    have hrl : rest.length + 1 = n := by simpa using hl
    have hnl := n0.toNat_lt
    have hi : (0 : Int) < (n : Int) := by omega
    have hholds := hh.below hb
    have hno := fun h => chg_no (n0 := n0) (rest := rest) h
    have hyes := fun h => chg_yes (n0 := n0) (rest := rest) h
    obtain ⟨m, hm⟩ : ∃ m, n0.toNat = m := ⟨_, rfl⟩
    rw [hm] at c0 hnl hno hyes
    have Hno := Lib.hid hno
    have Hyes := Lib.hid hyes
    have Hrl := Lib.hid hrl
    have Hb := Lib.hid hb
    have HB := Lib.hid hWB
    have Hholds := Lib.hid hholds
    have g0 : W.cell? ⟨w.heap.size, 0, none⟩ = some (.string ⟨#[]⟩) := hWB.cell 0
    have g1 : W.cell? ⟨w.heap.size, 1, none⟩ = some (.string ⟨#[]⟩) := hWB.cell 1
    have f0 := hWB.frozen 0
    have f1 := hWB.frozen 1
    clear hno hyes hl hh hce hb hWB hm hholds hrl
    by_cases hz : m = 0
    · subst hz
      have HE := Lib.hid (Hno.out (by omega))
      rw [HE.out.1, HE.out.2]
      go_enter Try.func145, Try.ntmps145
      go_wp2_with fail
      refine ret_chg (g := w.heap.size) rfl rfl rfl ((HB.out.set_ 0 _).set_ 1 _) rfl ?_
      exact ⟨rfl, (Hb.out.setCell (p := ⟨w.heap.size, 0, none⟩) (Nat.le_refl _) _).setCell (p := ⟨w.heap.size, 1, none⟩) (Nat.le_refl _) _⟩
    · have hzb : ((m : Int) == 0) = false := by simp; omega
      by_cases h20 : 20 < m
      · have h20i : (20 : Int) < (m : Int) := by omega
        have HE := Lib.hid (Hno.out (by omega))
        rw [HE.out.1, HE.out.2]
        go_enter Try.func145, Try.ntmps145
        go_wp2_with fail
        refine ret_chg (g := w.heap.size) rfl rfl rfl ((HB.out.set_ 0 _).set_ 1 _) rfl ?_
        exact ⟨rfl, (Hb.out.setCell (p := ⟨w.heap.size, 0, none⟩) (Nat.le_refl _) _).setCell (p := ⟨w.heap.size, 1, none⟩) (Nat.le_refl _) _⟩
      · have h20i : ¬ (20 : Int) < (m : Int) := by omega
        by_cases hs : n < 1 + m
        · have hsi : (n : Int) < 1 + (m : Int) := by omega
          have HE := Lib.hid (Hno.out (by have := Hrl.out; omega))
          rw [HE.out.1, HE.out.2]
          go_enter Try.func145, Try.ntmps145
          go_wp2_with fail
          refine ret_chg (g := w.heap.size) rfl rfl rfl ((HB.out.set_ 0 _).set_ 1 _) rfl ?_
          exact ⟨rfl, (Hb.out.setCell (p := ⟨w.heap.size, 0, none⟩) (Nat.le_refl _) _).setCell (p := ⟨w.heap.size, 1, none⟩) (Nat.le_refl _) _⟩
        · have hsi : ¬ (n : Int) < 1 + (m : Int) := by omega
          by_cases hb2 : 1 + m + 20 < n
          · have hbi : 1 + (m : Int) + 20 < (n : Int) := by omega
            have HE := Lib.hid (Hno.out (by have := Hrl.out; omega))
            rw [HE.out.1, HE.out.2]
            go_enter Try.func145, Try.ntmps145
            go_wp2_with fail
            refine ret_chg (g := w.heap.size) rfl rfl rfl ((HB.out.set_ 0 _).set_ 1 _) rfl ?_
            exact ⟨rfl, (Hb.out.setCell (p := ⟨w.heap.size, 0, none⟩) (Nat.le_refl _) _).setCell (p := ⟨w.heap.size, 1, none⟩) (Nat.le_refl _) _⟩
          · have hbi : ¬ 1 + (m : Int) + 20 < (n : Int) := by omega
            have HE := Lib.hid (Hyes.out (by have := Hrl.out; omega))
            rw [HE.out.1, HE.out.2]
            obtain ⟨i0, hi0, hz0, hz1, hz2⟩ := info_parts info_u8
            have hcut1 := fun W' => run_cut_lh (P := Try.prog) W' 56 5 i0 Try.underlying56 hi0 (some ⟨bb, off, none⟩) n c .i64 .i64 1 (1 + (m : Int)) 1 (1 + m) (by rfl) (by omega) (by omega) (by omega)
            have hcut2 := fun W' => run_cut_l (P := Try.prog) W' 56 5 i0 Try.underlying56 hi0 (some ⟨bb, off, none⟩) n c .i64 (1 + (m : Int)) (1 + m) (by omega) (by omega)
            simp only [hz1] at hcut1 hcut2
            have q1 := Hholds.out.cutBytes (c := c) (lo := 1) (hg := 1 + m) (by omega) (by omega) hnc
            have q2 := Hholds.out.cutBytes (c := c) (lo := 1 + m) (hg := n) (by omega) (by omega) hnc
            have hcv1 := run_convert_bytes (P := Try.prog) (c := c - 1) 56 9 5 Try.underlying56 Try.underlying5 Try.underlying9 q1 (fun h => by have := cutAt_none h; cases this)
            have hcv2 := run_convert_bytes (P := Try.prog) (c := c - (1 + m)) 56 9 5 Try.underlying56 Try.underlying5 Try.underlying9 q2 (fun h => by have := cutAt_none h; cases this)
            have e1 : ((n0 :: rest).drop 1).take (1 + m - 1) = rest.take m := by rw [show 1 + m - 1 = m by omega]; rfl
            have e2 : ((n0 :: rest).drop (1 + m)).take (n - (1 + m)) = rest.drop m := by
              rw [show 1 + m = m + 1 by omega, List.drop_succ_cons, List.take_of_length_le (by rw [List.length_drop]; have := Hrl.out; omega)]
            have hcv3 := run_convert_bytes (P := Try.prog) (c := c - 1) 56 9 5 Try.underlying56 Try.underlying5 Try.underlying9 (q1.below (Below.refl _ W).drew) (fun h => by have := cutAt_none h; cases this)
            have hcv4 := run_convert_bytes (P := Try.prog) (c := c - (1 + m)) 56 9 5 Try.underlying56 Try.underlying5 Try.underlying9 (q2.below (Below.refl _ W).drew) (fun h => by have := cutAt_none h; cases this)
            rw [e1] at hcv1 hcv3
            rw [e2] at hcv2 hcv4
            clear q1 q2 e1 e2
            generalize cutAt (some ⟨bb, off, none⟩) c 1 1 = A1 at *
            generalize cutAt (some ⟨bb, off, none⟩) c (1 + m) 1 = A2 at *
            generalize 1 + m - 1 = m1 at *
            generalize c - 1 = c1 at *
            generalize n - (1 + m) = m2 at *
            generalize c - (1 + m) = c2 at *
            go_enter Try.func145, Try.ntmps145
            go_wp2_with fail
            go_region
            all_goals
              go_wp2_with fail
              refine ret_chg (g := w.heap.size) rfl rfl rfl ((HB.out.set_ 0 _).set_ 1 _) rfl ?_
              exact ⟨rfl, below_drewN ((Hb.out.setCell (p := ⟨w.heap.size, 0, none⟩) (Nat.le_refl _) _).setCell (p := ⟨w.heap.size, 1, none⟩) (Nat.le_refl _) _) 1⟩
end Go.Proofs.Ytmlgaedhfannmaa

/- The store: is there a later change of a key? (slices.ContainsFunc with settled's test). -/
namespace Go.Proofs.Ytmlgaedhfannmaa
set_option linter.unusedVariables false
set_option linter.unusedSimpArgs false
open Go.RowKit
theorem sameKey_any (k : List UInt8) (q : Rw) (g : Nat) (w : World) (hg : g < w.heap.size) (hc : w.cell? ⟨g, 0, none⟩ = some (str k)) :
    Calls Try.prog 173 #[.agg #[str q.key, str q.val], .pointer (some ⟨g, 0, none⟩)] w fun e w' => e = .returned (.bool (q.key == k)) ∧ Below w.heap.size w w' := by
  obtain ⟨W, hW⟩ : ∃ W, w.alloc (.cells #[str q.key, str q.val] 51) = W := ⟨_, rfl⟩
  have hB := Blk.new w 51 #[str q.key, str q.val]
  rw [hW] at hB
  have hb : Below w.heap.size w W := by rw [← hW]; exact (Below.refl _ _).alloc (Nat.le_refl _) _
  have x0 : W.cell? ⟨w.heap.size, 0, none⟩ = some (str q.key) := hB.cell 0
  have y0 : W.cell? ⟨g, 0, none⟩ = some (str k) := (hb.cell (p := ⟨g, 0, none⟩) hg).trans hc
  have Hb := Lib.hid hb
  clear hB hb hc
  go_enter Try.func173, Try.ntmps173
  go_wp2_with fail
  go_ret
  exact ⟨rfl, Hb.out⟩
def IfM (w : World) (k : List UInt8) (l : List Rw) (n : Nat) (gk : Nat) (vi : Value) (wr : World) : Prop :=
  ∃ i : Nat, vi = .int .i64 (i : Int) ∧ i ≤ n ∧ gk = n - i ∧ (l.take i).any (fun q => q.key == k) = false ∧ Below w.heap.size w wr
set_option maxHeartbeats 1000000 in
theorem indexM_any (A : Option Addr) (n c B g : Nat) (k : List UInt8) (l : List Rw) (w : World) (hl : RIn w B A n c l) (hB : B ≤ w.heap.size) (hn : n ≤ 9223372036854775807) (hg : g < w.heap.size) (hc : w.cell? ⟨g, 0, none⟩ = some (str k)) :
    Calls Try.prog 60 #[.slice A n c, .func (.func 173) #[] #[.pointer (some ⟨g, 0, none⟩)]] w fun e w' => ∃ i : Int, e = .returned (.int .i64 i) ∧ decide (0 ≤ i) = l.any (fun q => q.key == k) ∧ Below w.heap.size w w' := by
  have Hln := Lib.hid hl.1
  have Hl := Lib.hid hl
  have Hc := Lib.hid hc
  clear hl hc
  go_enter Try.func60, Try.ntmps60
  go_wp2
  go_loopg [8] n (IfM w k l n)
  case atStart => exact ⟨0, rfl, Nat.zero_le _, by omega, rfl, Below.refl _ _⟩
  case round =>
    obtain ⟨i, rfl, hk, hgk, hall, hbe⟩ := hrel
    have Hgk := Lib.hid hgk
    have Hall := Lib.hid hall
    have Hbe := Lib.hid hbe
    have hszw := hbe.size
    clear hgk hall hbe
    by_cases hkn : i < n
    · have hkl : i < l.length := by rw [Hln.out]; exact hkn
      obtain ⟨b, off, hA, hbB, c0, c1⟩ := (Hl.out.below (Hbe.out.mono hB)).at_ hkl
      subst hA
      have H1 := Lib.hid (sameKey_any k l[i] g wr (by omega) ((Hbe.out.cell (p := ⟨g, 0, none⟩) hg).trans Hc.out))
      have Ht := Lib.hid (show (l.take (i + 1)).any (fun q => q.key == k) = (l[i].key == k) by
        rw [List.take_succ_eq_append_getElem hkl, List.any_append, Hall.out]; simp)
      have Hm := Lib.hid (show (l[i].key == k) = true → l.any (fun q => q.key == k) = true from fun h => List.any_eq_true.2 ⟨_, List.getElem_mem hkl, h⟩)
      generalize l[i] = r at *
      have hi1 : (i : Int) < (n : Int) := by omega
      cases hb : (r.key == k)
      · rw [hb] at Ht H1
        clear hb
        go_wp2_with fail
        refine H1.out.mono ?_
        rintro e w1 ⟨rfl, hb1⟩
        have Hb1 := Lib.hid (Hbe.out.trans (hb1.mono hszw))
        clear hb1 H1
        go_wp2
        go_roundg (n - (i + 1))
        case measure => have := Hgk.out; omega
        case rel => exact ⟨i + 1, by go_num, by omega, rfl, Ht.out, Hb1.out⟩
      · have HG := Lib.hid (show decide ((0 : Int) ≤ (i : Int)) = l.any (fun q => q.key == k) by
          rw [Hm.out hb, decide_eq_true (by omega)])
        rw [hb] at H1
        clear hb
        go_wp2_with fail
        refine H1.out.mono ?_
        rintro e w1 ⟨rfl, hb1⟩
        have Hb1 := Lib.hid (Hbe.out.trans (hb1.mono hszw))
        clear hb1 H1
        go_wp2
        go_ret
        exact ⟨i, rfl, HG.out, Hb1.out⟩
    · have hkn' : i = l.length := by have := Hln.out; omega
      have HG := Lib.hid (show decide ((0 : Int) ≤ (-1 : Int)) = l.any (fun q => q.key == k) by
        have := Hall.out
        rw [hkn', List.take_length] at this
        rw [this]; rfl)
      clear hkn'
      go_wp2
      go_ret
      exact ⟨-1, rfl, HG.out, Hbe.out⟩
theorem containsM_any (A : Option Addr) (n c B g : Nat) (k : List UInt8) (l : List Rw) (w : World) (hl : RIn w B A n c l) (hB : B ≤ w.heap.size) (hn : n ≤ 9223372036854775807) (hg : g < w.heap.size) (hc : w.cell? ⟨g, 0, none⟩ = some (str k)) :
    Calls Try.prog 40 #[.slice A n c, .func (.func 173) #[] #[.pointer (some ⟨g, 0, none⟩)]] w fun e w' => e = .returned (.bool (l.any (fun q => q.key == k))) ∧ Below w.heap.size w w' := by
  have H0 := Lib.hid (indexM_any A n c B g k l w hl hB hn hg hc)
  clear hl hc
  go_enter Try.func40, Try.ntmps40
  go_wp2_with fail
  refine H0.out.mono ?_
  rintro e w1 ⟨i, rfl, h3, hb⟩
  go_wp2
  go_ret
  exact ⟨ret_bool (by rw [← h3]), hb⟩
end Go.Proofs.Ytmlgaedhfannmaa

/- The store: settled. -/
namespace Go.Proofs.Ytmlgaedhfannmaa
set_option linter.unusedVariables false
set_option linter.unusedSimpArgs false
open Go.RowKit
/-- Two rows of rows, in different blocks. -/
def Two (w : World) (base : Nat) (v1 v2 : Value) (l1 l2 : List Rw) : Prop :=
  w.ownsRow base 51 2 v1 l1.length (pcR l1) ∧ w.ownsRow base 51 2 v2 l2.length (pcR l2) ∧ (v1.ownBlock = none ∨ v1.ownBlock ≠ v2.ownBlock)
theorem Two.sym {w : World} {base : Nat} {v1 v2 : Value} {l1 l2 : List Rw} (h : Two w base v1 v2 l1 l2) : Two w base v2 v1 l2 l1 := by
  refine ⟨h.2.1, h.1, ?_⟩
  rcases h.2.2 with h | h
  · cases h2 : v2.ownBlock with
    | none => exact .inl rfl
    | some k => rw [h]; exact .inr (by simp)
  · exact .inr (fun e => h e.symm)
theorem Two.below {w w' : World} {base : Nat} {v1 v2 : Value} {l1 l2 : List Rw} (h : Two w base v1 v2 l1 l2) (hb : Below w.heap.size w w') : Two w' base v1 v2 l1 l2 :=
  ⟨rowR_below h.1 hb, rowR_below h.2.1 hb, h.2.2⟩
/-- One row put behind the first. -/
theorem Two.put {W : World} {base : Nat} {v1 v2 : Value} {l1 l2 : List Rw} (h : Two W base v1 v2 l1 l2) (r : Rw) (hn : l1.length + 1 ≤ 1048576) (hb : base ≤ W.heap.size) :
    ∃ v' wf, (Builtin.append_ #[52, 52] 52 #[v1, .slice (some ⟨W.heap.size, 0, none⟩) 1 1]).run Try.prog (W.alloc (.cells #[str r.key, str r.val] 51)) = .ok v' wf ∧
      Two wf base v' v2 (l1 ++ [r]) l2 ∧ ∀ B a, Below B a W → B ≤ base → B ≤ W.heap.size → Below B a wf := by
  obtain ⟨v', wf, h1, h2, h3, h4⟩ := run_app_row4 W base l1.length v1 l1 r h.1 hn hb
  have ho2 := h.2.1.alloc (.cells #[str r.key, str r.val] 51)
  refine ⟨v', wf, h1, ⟨by simpa using h2, World.ownsRow.kept ho2 h3 h.sym.2.2, ?_⟩, fun B a hB hbb hBW => below_own (hB.alloc hBW _) h3 (h.1.alloc _) hbb (by simp; omega)⟩
  rcases h4 with h4 | h4
  · rw [h4]; exact h.2.2
  · refine .inr fun e => ?_
    have := (World.ownsRow.lt h.2.1 (W.heap.size + 1) (by rw [← e, h4])).2
    omega
theorem Two.both {W : World} {base : Nat} {v1 v2 : Value} {l1 l2 : List Rw} (h : Two W base v1 v2 l1 l2) (hn : l1.length + l2.length ≤ 1048576) (hb : base ≤ W.heap.size) :
    ∃ v' wf, (Builtin.append_ #[52, 52] 52 #[v1, v2]).run Try.prog W = .ok v' wf ∧ wf.ownsRow base 51 2 v' (l1 ++ l2).length (pcR (l1 ++ l2)) ∧ ∀ B a, Below B a W → B ≤ base → B ≤ W.heap.size → Below B a wf := by
  obtain ⟨i0, hi0, hz0, hzs, hzb⟩ := info_parts info_row
  obtain ⟨A2, c2, rfl, hA⟩ := own_form h.2.1
  obtain ⟨v', wf, h1, h2, h3, h4⟩ := run_app_all (P := Try.prog) W 52 52 base 51 i0 _ 2 32 Try.underlying52 hi0 hz0 hzs hzb rfl (by decide) v1 l1.length (pcR l1) h.1 W.heap.size A2 l2.length c2 (pcR l2) (fun h => (hA h).2) (Holds.own h.2.1) (pcR_one l2) hn (by decide) hb
  exact ⟨v', wf, h1, by rw [pcR_app, List.length_append]; exact h2, fun B a hB hbb hBW => below_own hB h3 h.1 hbb hBW⟩
def SetlR (cs : List Rw) (w : World) (n : Nat) (gk : Nat) (s3 s4 s10 : Value) (wr : World) : Prop :=
  ∃ (k : Nat) (R P : List Rw), s10 = .int .i64 (k : Int) ∧ k ≤ n ∧ gk = n - k ∧ R ++ (keepL (cs.drop k)).filter gone = (keepL cs).filter gone ∧ P ++ (keepL (cs.drop k)).filter (fun r => !gone r) = (keepL cs).filter (fun r => !gone r) ∧
    R.length ≤ k ∧ P.length ≤ k ∧ Two wr w.heap.size s3 s4 R P ∧ Below w.heap.size w wr
set_option maxHeartbeats 2000000 in
set_option maxRecDepth 100000 in
theorem settled_any (A : Option Addr) (n c B : Nat) (cs : List Rw) (w : World) (hl : RIn w B A n c cs) (hB : B ≤ w.heap.size) (hn : n ≤ 1000) :
    Calls Try.prog 147 #[.slice A n c] w fun e w' => ∃ v, e = .returned v ∧ w'.ownsRow w.heap.size 51 2 v (settledR cs).length (pcR (settledR cs)) ∧ Below w.heap.size w w' := by
  have Hln := Lib.hid hl.1
  have Hl := Lib.hid hl
  obtain ⟨i0, hi0, hz0, hzs, hzb⟩ := info_parts info_row
  have hnc := hl.2.1
  clear hl
  go_enter Try.func147, Try.ntmps147
  go_wp2
  go_loopg [3, 4, 10] n (SetlR cs w n)
  case atStart => exact ⟨0, [], [], rfl, Nat.zero_le _, by omega, rfl, rfl, by simp, by simp, ⟨World.ownsRow_nil _ _ _ _, World.ownsRow_nil _ _ _ _, .inl rfl⟩, Below.refl _ _⟩
  case round =>
    obtain ⟨k, R, P, rfl, hk, hgk, hR, hP, hrl, hpl, htw, hbe⟩ := hrel
    obtain ⟨A3, c3, rfl, _⟩ := own_form htw.1
    obtain ⟨A4, c4, rfl, _⟩ := own_form htw.2.1
    have Hgk := Lib.hid hgk
    have Hbe := Lib.hid hbe
    have Htw := Lib.hid htw
    have HR := Lib.hid hR
    have HP := Lib.hid hP
    have hszw := hbe.size
    clear hgk hbe htw hR hP
    by_cases hkn : k < n
    · have hkl : k < cs.length := by rw [Hln.out]; exact hkn
      obtain ⟨b, off, hA, hbB, c0, c1⟩ := (Hl.out.below (Hbe.out.mono hB)).at_ hkl
      have hcut := RIn.cut (Hl.out.below (Hbe.out.mono hB)) (lo := k + 1) (hg := n) (by omega) (Nat.le_refl _)
      rw [show (cs.take n).drop (k + 1) = cs.drop (k + 1) by rw [List.take_of_length_le (by have := Hln.out; omega)]] at hcut
      have hrcut := fun W' => run_cut_l (P := Try.prog) W' 52 51 i0 Try.underlying52 hi0 A n c .i64 ((k : Int) + 1) (k + 1) (by omega) (by omega)
      simp only [hzs] at hrcut
      have hdrop : cs.drop k = cs[k] :: cs.drop (k + 1) := List.drop_eq_getElem_cons hkl
      have HR2 := HR.out
      have HP2 := HP.out
      rw [hdrop] at HR2 HP2
      clear HR HP
      subst hA
      obtain ⟨W, hW⟩ : ∃ W, wr.alloc (.cells #[str cs[k].key, str cs[k].val] 51) = W := ⟨_, rfl⟩
      have hWB := Blk.new wr 51 #[str cs[k].key, str cs[k].val]
      have hWb : Below wr.heap.size wr W := by rw [← hW]; exact (Below.refl _ _).alloc (Nat.le_refl _) _
      rw [hW] at hWB
      have hWl := hWB.lt
      have HC := Lib.hid (containsM_any _ _ _ B wr.heap.size cs[k].key (cs.drop (k + 1)) W (hcut.below (hWb.mono (by omega))) (by have := hWb.size; omega) (by omega) hWl (hWB.cell 0))
      have Htw2 := Lib.hid (Htw.out.below hWb)
      have Hbe2 := Lib.hid (Hbe.out.trans (hWb.mono hszw))
      have HWB := Lib.hid hWB
      generalize cs[k] = r at *
      have hi1 : (k : Int) < (n : Int) := by omega
      obtain ⟨Ac, hAc⟩ : ∃ Ac, cutAt (some ⟨b, off, none⟩) c (k + 1) 2 = Ac := ⟨_, rfl⟩
      obtain ⟨nc, hnc'⟩ : ∃ nc, n - (k + 1) = nc := ⟨_, rfl⟩
      obtain ⟨cc, hcc⟩ : ∃ cc, c - (k + 1) = cc := ⟨_, rfl⟩
      rw [hAc, hnc', hcc] at HC
      simp only [hAc, hnc', hcc] at hrcut
      clear hcut hAc hcc hdrop hWB hWb Hbe Htw
      replace HC : Hid (Calls Try.prog _ _ W _) := HC
      obtain ⟨rk, rv⟩ := r
      simp only at c0 c1 hW HC
      have HC' : Hid (Calls Try.prog 40 #[.slice Ac nc cc, .func (.func 173) #[] #[.pointer (some ⟨wr.heap.size, 0, none⟩)]] W fun e w' => e = .returned (.bool (more ⟨rk, rv⟩ (cs.drop (k + 1)))) ∧ Below W.heap.size W w') := HC
      clear HC
      cases hm : more ⟨rk, rv⟩ (cs.drop (k + 1))
      · rw [hm] at HC'
        rw [keepL, if_neg (by rw [hm]; decide)] at HR2 HP2
        by_cases hv : rv = []
        · have hg : gone ⟨rk, rv⟩ = true := by unfold gone; rw [hv]; rfl
          rw [List.filter_cons_of_pos hg] at HR2
          rw [List.filter_cons_of_neg (by simp [hg])] at HP2
          have HR3 := Lib.hid (show (R ++ [⟨rk, rv⟩]) ++ (keepL (cs.drop (k + 1))).filter gone = (keepL cs).filter gone by rw [List.append_assoc]; exact HR2)
          have HP3 := Lib.hid HP2
          have hve : rv.isEmpty = true := by rw [hv]; rfl
          clear HR2 HP2 hm hg hv
          go_wp2_with fail
          refine HC'.out.mono ?_
          rintro e w1 ⟨rfl, hb1⟩
          have hB1 := HWB.out.below hb1 hWl
          have x0 : w1.cell? ⟨wr.heap.size, 0, none⟩ = some (str rk) := hB1.cell 0
          have x1 : w1.cell? ⟨wr.heap.size, 1, none⟩ = some (str rv) := hB1.cell 1
          have hbe1 := Hbe2.out.trans (hb1.mono Hbe2.out.size)
          obtain ⟨v', wf, hrun, htw', hbf⟩ := (Htw2.out.below hb1).put ⟨rk, rv⟩ (by omega) (by have := hbe1.size; omega)
          have Hrun := Lib.hid hrun
          have Htw' := Lib.hid htw'
          have Hbf := Lib.hid (hbf _ _ hbe1 (Nat.le_refl _) (by have := hbe1.size; omega))
          clear hrun htw' hbf hB1 HC' Htw2 HWB
          go_wp2_with (first | (at_builtin; refine rw_app rfl _ _ _ rfl _ _ (by rfl) (by rfl) Hrun.out ?_; clear Hrun) | fail)
          go_roundg (n - (k + 1))
          case measure => have := Hgk.out; omega
          case rel => exact ⟨k + 1, _, _, by go_num, by omega, rfl, HR3.out, HP3.out, by simp; omega, by omega, Htw'.out, Hbf.out⟩
        · have hg : gone ⟨rk, rv⟩ = false := by unfold gone; simpa using hv
          rw [List.filter_cons_of_neg (by simp [hg])] at HR2
          rw [List.filter_cons_of_pos (by simp [hg])] at HP2
          have HP3 := Lib.hid (show (P ++ [⟨rk, rv⟩]) ++ (keepL (cs.drop (k + 1))).filter (fun r => !gone r) = (keepL cs).filter (fun r => !gone r) by rw [List.append_assoc]; exact HP2)
          have HR3 := Lib.hid HR2
          have hve : rv.isEmpty = false := by simpa using hv
          clear HR2 HP2 hm hg hv
          go_wp2_with fail
          refine HC'.out.mono ?_
          rintro e w1 ⟨rfl, hb1⟩
          have hB1 := HWB.out.below hb1 hWl
          have x0 : w1.cell? ⟨wr.heap.size, 0, none⟩ = some (str rk) := hB1.cell 0
          have x1 : w1.cell? ⟨wr.heap.size, 1, none⟩ = some (str rv) := hB1.cell 1
          have hbe1 := Hbe2.out.trans (hb1.mono Hbe2.out.size)
          obtain ⟨v', wf, hrun, htw', hbf⟩ := (Htw2.out.below hb1).sym.put ⟨rk, rv⟩ (by omega) (by have := hbe1.size; omega)
          have Hrun := Lib.hid hrun
          have Htw' := Lib.hid htw'.sym
          have Hbf := Lib.hid (hbf _ _ hbe1 (Nat.le_refl _) (by have := hbe1.size; omega))
          clear hrun htw' hbf hB1 HC' Htw2 HWB
          go_wp2_with (first | (at_builtin; refine rw_app rfl _ _ _ rfl _ _ (by rfl) (by rfl) Hrun.out ?_; clear Hrun) | fail)
          go_roundg (n - (k + 1))
          case measure => have := Hgk.out; omega
          case rel => exact ⟨k + 1, _, _, by go_num, by omega, rfl, HR3.out, HP3.out, by omega, by simp; omega, Htw'.out, Hbf.out⟩
      · rw [hm] at HC'
        rw [keepL, if_pos hm] at HR2 HP2
        have HR3 := Lib.hid HR2
        have HP3 := Lib.hid HP2
        clear HR2 HP2 hm
        go_wp2_with fail
        refine HC'.out.mono ?_
        rintro e w1 ⟨rfl, hb1⟩
        have Hbe1 := Lib.hid (Hbe2.out.trans (hb1.mono Hbe2.out.size))
        have Htw' := Lib.hid (Htw2.out.below hb1)
        clear hb1 HC' Htw2 HWB
        go_wp2_with fail
        go_roundg (n - (k + 1))
        case measure => have := Hgk.out; omega
        case rel => exact ⟨k + 1, _, _, by go_num, by omega, rfl, HR3.out, HP3.out, by omega, by omega, Htw'.out, Hbe1.out⟩
    · have hke : k = cs.length := by have := Hln.out; omega
      have hdr : cs.drop k = [] := by rw [hke]; exact List.drop_length
      have HR2 := HR.out
      have HP2 := HP.out
      rw [hdr, keepL, List.filter_nil, List.append_nil] at HR2 HP2
      obtain ⟨v', wf, hrun, hof, hbf⟩ := Htw.out.both (by omega) hszw
      have HS := Lib.hid (show settledR cs = R ++ P by unfold settledR; rw [HR2, HP2])
      have Hrun := Lib.hid hrun
      have Hof := Lib.hid hof
      have Hbf := Lib.hid (hbf _ _ Hbe.out (Nat.le_refl _) hszw)
      clear hrun hof hbf HR2 HP2 hdr hke HR HP
      go_wp2_with (first | (at_builtin; refine rw_app rfl _ _ _ rfl _ _ (by rfl) (by rfl) Hrun.out ?_; clear Hrun) | fail)
      go_ret
      exact ⟨v', rfl, by rw [HS.out]; exact Hof.out, Hbf.out⟩
end Go.Proofs.Ytmlgaedhfannmaa

/- The store: pack. -/
namespace Go.Proofs.Ytmlgaedhfannmaa
set_option linter.unusedVariables false
set_option linter.unusedSimpArgs false
open Go.RowKit
def PckR (cs : List Rw) (w : World) (n : Nat) (gk : Nat) (s3 s10 : Value) (wr : World) : Prop :=
  ∃ k : Nat, s10 = .int .i64 (k : Int) ∧ k ≤ n ∧ gk = n - k ∧ ScSt wr w.heap.size (.slice none 0 0) s3 [] (batOf (cs.take k)) ∧ Below w.heap.size w wr
theorem bat_snoc (cs : List Rw) (r : Rw) : batOf (cs ++ [r]) = batOf cs ++ [recOf r] := by simp [batOf]
theorem bat_len (cs : List Rw) : (batOf cs).length = cs.length := by simp [batOf]
set_option maxHeartbeats 2000000 in
set_option maxRecDepth 100000 in
theorem stPack_any (A : Option Addr) (n c B : Nat) (cs : List Rw) (w : World) (hl : RIn w B A n c cs) (hB : B ≤ w.heap.size) (hn : n ≤ 1000) (hg : goodC cs = true) :
    Calls Try.prog 83 #[.slice A n c] w fun e w' => ∃ v, e = .returned v ∧ Own w' w.heap.size v (pkF cs) ∧ Below w.heap.size w w' := by
  have Hln := Lib.hid hl.1
  have Hl := Lib.hid hl
  have Hg := Lib.hid hg
  clear hl hg
  go_enter Try.func83, Try.ntmps83
  go_wp2
  go_loopg [3, 10] n (PckR cs w n)
  case atStart => exact ⟨0, rfl, Nat.zero_le _, by omega, ScSt.empty _ _, Below.refl _ _⟩
  case round =>
    obtain ⟨k, rfl, hk, hgk, hst, hbe⟩ := hrel
    obtain ⟨A3, c3, hv3⟩ := hst.formC
    have htk : (cs.take k).length = k := by rw [List.length_take]; have := Hln.out; omega
    rw [bat_len, htk] at hv3
    subst hv3
    have Hgk := Lib.hid hgk
    have Hbe := Lib.hid hbe
    have Hst := Lib.hid hst
    have hszw := hbe.size
    clear hgk hbe hst
    by_cases hkn : k < n
    · have hkl : k < cs.length := by rw [Hln.out]; exact hkn
      obtain ⟨b, off, hA, hbB, c0, c1⟩ := (Hl.out.below (Hbe.out.mono hB)).at_ hkl
      subst hA
      have hsz := List.all_eq_true.1 Hg.out cs[k] (List.getElem_mem hkl)
      have HT := Lib.hid (show batOf (cs.take (k + 1)) = batOf (cs.take k) ++ [recOf cs[k]] by rw [List.take_succ_eq_append_getElem hkl, bat_snoc])
      obtain ⟨W, hW⟩ : ∃ W, wr.alloc (.cells #[str cs[k].key, str cs[k].val] 51) = W := ⟨_, rfl⟩
      have hWB := Blk.new wr 51 #[str cs[k].key, str cs[k].val]
      have hWb : Below wr.heap.size wr W := by rw [← hW]; exact (Below.refl _ _).alloc (Nat.le_refl _) _
      rw [hW] at hWB
      have x0 : W.cell? ⟨wr.heap.size, 0, none⟩ = some (str cs[k].key) := hWB.cell 0
      have x1 : W.cell? ⟨wr.heap.size, 1, none⟩ = some (str cs[k].val) := hWB.cell 1
      have HC := Lib.hid (record_any cs[k] W hsz)
      have Hst2 := Lib.hid (Hst.out.below hWb)
      have Hbe2 := Lib.hid (Hbe.out.trans (hWb.mono hszw))
      have hs2 := Hbe2.out.size
      have hlen : (batOf (cs.take k)).length + 1 ≤ 1048576 := by rw [bat_len, htk]; omega
      generalize cs[k] = r at *
      obtain ⟨rk, rv⟩ := r
      simp only at c0 c1 x0 x1 hW HC
      have hi1 : (k : Int) < (n : Int) := by omega
      clear hWB hWb hsz Hst Hbe
      go_wp2_with (first
        | (at_builtin; refine wpList_scPush (by rfl) _ _ (by rfl) w.heap.size _ _ [] (batOf (cs.take k)) (by rfl) Hst3.out (recOf ⟨rk, rv⟩) _ Hin3.out (by rfl) hlen hs3 ?_; clear Hin3 Hst3; intro v4 w4 hst4 hb4 _; have Hst4 := Lib.hid hst4; have Hb4 := Lib.hid (Hb3.out.trans hb4); clear hst4 hb4)
        | (refine HC.out.mono ?_; rintro e w3 ⟨v3, rfl, ho3, hb3⟩; obtain ⟨A3', c3', rfl, _⟩ := own_form ho3; have Hst3 := Lib.hid (Hst2.out.below hb3); have Hin3 := Lib.hid (Hst3.out.in1 ho3 hs2); have Hb3 := Lib.hid (Hbe2.out.trans (hb3.mono hs2)); have hs3 := Hb3.out.size; clear ho3 hb3 HC Hst2))
      go_roundg (n - (k + 1))
      case measure => have := Hgk.out; omega
      case rel => exact ⟨k + 1, by go_num, by omega, rfl, by rw [HT.out]; exact Hst4.out, Hb4.out⟩
    · have hke : k = cs.length := by have := Hln.out; omega
      have hte : cs.take k = cs := by rw [hke]; exact List.take_length
      have Hst2 := Lib.hid Hst.out
      rw [hte] at Hst2
      obtain ⟨csB, csC, _, _, h3, h4⟩ := Hst2.out
      rw [show (batOf cs).length = k by rw [bat_len, hke]] at h3
      obtain ⟨_, _, e3, hA3⟩ := own_form h3
      injection e3 with e31 e32 e33
      subst e31 e33
      have hh : HoldsS wr (lowB wr.heap.size) 1 A3 k csC := by
        exact Holds.own h3
      have ha : Ats (In1 wr (lowB wr.heap.size)) (batOf cs) csC := h4.imp fun x v hv => stays1.2 _ _ _ _ _ hv fun b hb => hb.2.1
      have HC := Lib.hid (pack_any A3 k c3 wr.heap.size (batOf cs) csC wr hh ha (by rw [bat_len]; exact hke) (Nat.le_refl _) (by omega) (fun r hr => by have := (bat_ok Hg.out r hr).2; omega))
      clear hh ha h3 h4 hA3 Hst2 Hst hte e32 htk hke
      obtain ⟨X, hX⟩ : ∃ X, packR (batOf cs) = X := ⟨_, rfl⟩
      rw [hX] at HC
      have HX := Lib.hid (show pkF cs = X.1 by unfold pkF; rw [hX])
      clear hX
      go_wp2_with fail
      refine HC.out.mono ?_
      rintro e w1 ⟨v1, rfl, ho1, hb1⟩
      have Ho1 := Lib.hid ho1
      have Hb1 := Lib.hid (Hbe.out.trans (hb1.mono hszw))
      clear ho1 hb1 HC
      go_wp2_with fail
      go_ret
      exact ⟨v1, rfl, by rw [HX.out]; exact rw_le Ho1.out hszw, Hb1.out⟩
end Go.Proofs.Ytmlgaedhfannmaa
