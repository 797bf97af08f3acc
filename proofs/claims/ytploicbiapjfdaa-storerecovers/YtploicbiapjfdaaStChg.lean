/- The store: change. -/
import Derived.Test.YtploicbiapjfdaaStRec
namespace Go.Proofs.Ytploicbiapjfdaa
set_option linter.unusedVariables false
set_option linter.unusedSimpArgs false
open Go.RowKit
theorem ret_chg {fn : Func} {R : Ending → World → Prop} {a : Act} {W : World} {g : Nat} {s1 s2 : Tmp} {v x0 x1 : Value}
    (hf : fn.results = #[.cell s1 50, .tmp s2]) (h1 : a.tmps.getD s1 undef = .pointer (some ⟨g, 0, none⟩)) (h2 : a.tmps.getD s2 undef = v)
    (hb : Blk W g 50 #[x0, x1]) (hd : a.defers = []) (hR : R (.returned (.tuple #[.agg #[x0, x1], v])) W) : bodyPost Try.prog fn R .ret a W := by
  refine bodyPost_ret ?_ hd hR
  have c0 : W.cell? ⟨g, 0, none⟩ = some x0 := hb.cell 0
  have c1 : W.cell? ⟨g, 1, none⟩ = some x1 := hb.cell 1
  simp only [Array.getD_eq_getD_getElem?] at h1 h2
  simp [results, hf, h1, h2, go_sem, c0, c1]
theorem chg_no {n0 : UInt8} {rest : List UInt8} (h : ¬ (1 ≤ n0.toNat ∧ n0.toNat ≤ 20 ∧ n0.toNat ≤ rest.length ∧ rest.length ≤ n0.toNat + 20)) : chgF (n0 :: rest) = rw0 ∧ (chgOf (n0 :: rest)).isSome = false := by
  unfold chgF chgOf; simp only; rw [if_neg h]; exact ⟨rfl, rfl⟩
theorem chg_yes {n0 : UInt8} {rest : List UInt8} (h : 1 ≤ n0.toNat ∧ n0.toNat ≤ 20 ∧ n0.toNat ≤ rest.length ∧ rest.length ≤ n0.toNat + 20) : chgF (n0 :: rest) = ⟨rest.take n0.toNat, rest.drop n0.toNat⟩ ∧ (chgOf (n0 :: rest)).isSome = true := by
  unfold chgF chgOf; simp only; rw [if_pos h]; exact ⟨rfl, rfl⟩
set_option maxHeartbeats 1000000 in
theorem stChange_any (A : Option Addr) (n c : Nat) (b : List UInt8) (w : World) (hh : Holds w w.heap.size 1 A n (b.map bv)) (hnc : n ≤ c) (hn : n ≤ 1048576) (h0 : 0 < n) :
    Calls Try.prog 62 #[.slice A n c] w fun e w' => e = .returned (.tuple #[.agg #[str (chgF b).key, str (chgF b).val], .bool (chgOf b).isSome]) ∧ Below w.heap.size w w' := by
  have hl := hh.len
  obtain ⟨bb, off, rfl, hbb, hce⟩ := hh.2 h0
  obtain ⟨W, hW⟩ : ∃ W, w.alloc (.cells #[.string ⟨#[]⟩, .string ⟨#[]⟩] 50) = W := ⟨_, rfl⟩
  have hWB := Blk.new w 50 #[.string ⟨#[]⟩, .string ⟨#[]⟩]
  have hb : Below w.heap.size w W := by rw [← hW]; exact (Below.refl _ _).alloc (Nat.le_refl _) _
  rw [hW] at hWB
  match b, hl with
  | [], hl => simp at hl; omega
  | n0 :: rest, hl =>
    have c0 : W.cell? ⟨bb, off, none⟩ = some (.int .u8 (n0.toNat : Int)) := (hb.cell (p := ⟨bb, off, none⟩) hbb).trans (hce 0 _ rfl)
    have hrl : rest.length + 1 = n := by simpa using hl
    have hnl := n0.toNat_lt
    have hi : (0 : Int) < (n : Int) := by omega
    have hholds := hh.below hb
    have hno := fun h => chg_no (n0 := n0) (rest := rest) h
    have hyes := fun h => chg_yes (n0 := n0) (rest := rest) h
    obtain ⟨m, hm⟩ : ∃ m, n0.toNat = m := ⟨_, rfl⟩
    rw [hm] at c0 hnl hno hyes
    have Hno := Lib.hid hno
    have Hyes := Lib.hid hyes
    have Hrl := Lib.hid hrl
    have Hb := Lib.hid hb
    have HB := Lib.hid hWB
    have Hholds := Lib.hid hholds
    have g0 : W.cell? ⟨w.heap.size, 0, none⟩ = some (.string ⟨#[]⟩) := hWB.cell 0
    have g1 : W.cell? ⟨w.heap.size, 1, none⟩ = some (.string ⟨#[]⟩) := hWB.cell 1
    have f0 := hWB.frozen 0
    have f1 := hWB.frozen 1
    clear hno hyes hl hh hce hb hWB hm hholds hrl
    by_cases hz : m = 0
    · subst hz
      have HE := Lib.hid (Hno.out (by omega))
      rw [HE.out.1, HE.out.2]
      go_enter Try.func62, Try.ntmps62
      go_wp2_with fail
      refine ret_chg (g := w.heap.size) rfl rfl rfl ((HB.out.set_ 0 _).set_ 1 _) rfl ?_
      exact ⟨rfl, (Hb.out.setCell (p := ⟨w.heap.size, 0, none⟩) (Nat.le_refl _) _).setCell (p := ⟨w.heap.size, 1, none⟩) (Nat.le_refl _) _⟩
    · have hzb : ((m : Int) == 0) = false := by simp; omega
      by_cases h20 : 20 < m
      · have h20i : (20 : Int) < (m : Int) := by omega
        have HE := Lib.hid (Hno.out (by omega))
        rw [HE.out.1, HE.out.2]
        go_enter Try.func62, Try.ntmps62
        go_wp2_with fail
        refine ret_chg (g := w.heap.size) rfl rfl rfl ((HB.out.set_ 0 _).set_ 1 _) rfl ?_
        exact ⟨rfl, (Hb.out.setCell (p := ⟨w.heap.size, 0, none⟩) (Nat.le_refl _) _).setCell (p := ⟨w.heap.size, 1, none⟩) (Nat.le_refl _) _⟩
      · have h20i : ¬ (20 : Int) < (m : Int) := by omega
        by_cases hs : n < 1 + m
        · have hsi : (n : Int) < 1 + (m : Int) := by omega
          have HE := Lib.hid (Hno.out (by have := Hrl.out; omega))
          rw [HE.out.1, HE.out.2]
          go_enter Try.func62, Try.ntmps62
          go_wp2_with fail
          refine ret_chg (g := w.heap.size) rfl rfl rfl ((HB.out.set_ 0 _).set_ 1 _) rfl ?_
          exact ⟨rfl, (Hb.out.setCell (p := ⟨w.heap.size, 0, none⟩) (Nat.le_refl _) _).setCell (p := ⟨w.heap.size, 1, none⟩) (Nat.le_refl _) _⟩
        · have hsi : ¬ (n : Int) < 1 + (m : Int) := by omega
          by_cases hb2 : 1 + m + 20 < n
          · have hbi : 1 + (m : Int) + 20 < (n : Int) := by omega
            have HE := Lib.hid (Hno.out (by have := Hrl.out; omega))
            rw [HE.out.1, HE.out.2]
            go_enter Try.func62, Try.ntmps62
            go_wp2_with fail
            refine ret_chg (g := w.heap.size) rfl rfl rfl ((HB.out.set_ 0 _).set_ 1 _) rfl ?_
            exact ⟨rfl, (Hb.out.setCell (p := ⟨w.heap.size, 0, none⟩) (Nat.le_refl _) _).setCell (p := ⟨w.heap.size, 1, none⟩) (Nat.le_refl _) _⟩
          · have hbi : ¬ 1 + (m : Int) + 20 < (n : Int) := by omega
            have HE := Lib.hid (Hyes.out (by have := Hrl.out; omega))
            rw [HE.out.1, HE.out.2]
            obtain ⟨i0, hi0, hz0, hz1, hz2⟩ := info_parts info_u8
            have hcut1 := fun W' => run_cut_lh (P := Try.prog) W' 24 5 i0 Try.underlying24 hi0 (some ⟨bb, off, none⟩) n c .i64 .i64 1 (1 + (m : Int)) 1 (1 + m) (by rfl) (by omega) (by omega) (by omega)
            have hcut2 := fun W' => run_cut_l (P := Try.prog) W' 24 5 i0 Try.underlying24 hi0 (some ⟨bb, off, none⟩) n c .i64 (1 + (m : Int)) (1 + m) (by omega) (by omega)
            simp only [hz1] at hcut1 hcut2
            have q1 := Hholds.out.cutBytes (c := c) (lo := 1) (hg := 1 + m) (by omega) (by omega) hnc
            have q2 := Hholds.out.cutBytes (c := c) (lo := 1 + m) (hg := n) (by omega) (by omega) hnc
            have hcv1 := run_convert_bytes (P := Try.prog) (c := c - 1) 24 9 5 Try.underlying24 Try.underlying5 Try.underlying9 q1 (fun h => by have := cutAt_none h; cases this)
            have hcv2 := run_convert_bytes (P := Try.prog) (c := c - (1 + m)) 24 9 5 Try.underlying24 Try.underlying5 Try.underlying9 q2 (fun h => by have := cutAt_none h; cases this)
            have e1 : ((n0 :: rest).drop 1).take (1 + m - 1) = rest.take m := by rw [show 1 + m - 1 = m by omega]; rfl
            have e2 : ((n0 :: rest).drop (1 + m)).take (n - (1 + m)) = rest.drop m := by
              rw [show 1 + m = m + 1 by omega, List.drop_succ_cons, List.take_of_length_le (by rw [List.length_drop]; have := Hrl.out; omega)]
            have hcv3 := run_convert_bytes (P := Try.prog) (c := c - 1) 24 9 5 Try.underlying24 Try.underlying5 Try.underlying9 (q1.below (Below.refl _ W).drew) (fun h => by have := cutAt_none h; cases this)
            have hcv4 := run_convert_bytes (P := Try.prog) (c := c - (1 + m)) 24 9 5 Try.underlying24 Try.underlying5 Try.underlying9 (q2.below (Below.refl _ W).drew) (fun h => by have := cutAt_none h; cases this)
            rw [e1] at hcv1 hcv3
            rw [e2] at hcv2 hcv4
            clear q1 q2 e1 e2
            generalize cutAt (some ⟨bb, off, none⟩) c 1 1 = A1 at *
            generalize cutAt (some ⟨bb, off, none⟩) c (1 + m) 1 = A2 at *
            generalize 1 + m - 1 = m1 at *
            generalize c - 1 = c1 at *
            generalize n - (1 + m) = m2 at *
            generalize c - (1 + m) = c2 at *
            go_enter Try.func62, Try.ntmps62
            go_wp2_with fail
            go_region
            all_goals
              go_wp2_with fail
              refine ret_chg (g := w.heap.size) rfl rfl rfl ((HB.out.set_ 0 _).set_ 1 _) rfl ?_
              exact ⟨rfl, below_drewN ((Hb.out.setCell (p := ⟨w.heap.size, 0, none⟩) (Nat.le_refl _) _).setCell (p := ⟨w.heap.size, 1, none⟩) (Nat.le_refl _) _) 1⟩
end Go.Proofs.Ytploicbiapjfdaa
