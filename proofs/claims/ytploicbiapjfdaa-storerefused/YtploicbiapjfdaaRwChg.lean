/- Sorted tables: slices.Replace at every place, slices.Clone; change of a table of the call's own. -/
import Derived.Test.YtploicbiapjfdaaRwRep
import Derived.Test.YtploicbiapjfdaaRwFit
namespace Go.Proofs.Ytploicbiapjfdaa
set_option linter.unusedVariables false
set_option linter.unusedSimpArgs false
open Go.RowKit
theorem rw_drewN {a w : World} {row : Option Nat} (n : Nat) (h : a.grownBy w row) : a.grownBy (w.drewN n) row := ⟨h.os, h.tape, h.output, h.size, h.block⟩
set_option maxHeartbeats 1000000 in
set_option maxRecDepth 100000 in
theorem repR_any (base n i j vb : Nat) (v : Value) (l : List Rw) (r : Rw) (w : World) (hown : w.ownsRow base 50 2 v n (pcR l)) (hij : j = i ∨ j = i + 1) (hj : j ≤ n) (hn : n + 1 ≤ 1048576) (hbase : base ≤ w.heap.size)
    (hv : Blk w vb 50 #[str r.key, str r.val]) (hvb : some vb ≠ v.ownBlock) :
    Calls Try.prog 76 #[v, .int .i64 (i : Nat), .int .i64 (j : Nat), .slice (some ⟨vb, 0, none⟩) 1 1] w fun e w' =>
      ∃ v', e = .returned v' ∧ w'.ownsRow base 50 2 v' (n + 1 - (j - i)) (pcR (l.take i ++ [r] ++ l.drop j)) ∧ w.grownBy w' v.ownBlock := by
  have hln : l.length = n := by have := hown.1; rw [pcR_len] at this; omega
  have hrc : (rc r).toArray = #[str r.key, str r.val] := rfl
  rcases hij with rfl | rfl
  · obtain ⟨A, c, rfl, hA⟩ := own_form hown
    obtain ⟨i0, hi0, hz0, hzs, hzb⟩ := info_parts info_row
    have hnc : n ≤ c := by
      rcases hown.2 with ⟨hv0, h0⟩ | ⟨g, c', cur, hv0, hbg, hg, hnc, hrest⟩
      · omega
      · injection hv0; omega
    have s1 := fun W => run_cut_lh (P := Try.prog) W 29 50 i0 Try.underlying29 hi0 A n c .i64 .i64 ((j : Nat) : Int) ((j : Nat) : Int) j j rfl rfl (Nat.le_refl _) (by omega)
    have HI := Lib.hid (insR_own base n j vb (.slice A n c) (pcR l) (rc r) w hown hj hn hbase hv hvb rfl (pcR_one l) (rc_one r))
    clear hown hv
    go_enter Try.func76, Try.ntmps76
    go_wp2_with fail
    refine HI.out.mono ?_
    rintro e w1 ⟨v', rfl, k1, k2, k3⟩
    have K1 := Lib.hid k1
    have K2 := Lib.hid k2
    clear k1 k2 HI
    go_wp2_with fail
    go_ret
    refine ⟨v', rfl, ?_, K2.out⟩
    rw [Nat.sub_self, Nat.sub_zero, pcR_app, pcR_app, ← pcR_take, ← pcR_drop]
    have := K1.out
    simpa [pcR] using this
  · obtain ⟨m, rfl⟩ : ∃ m, n = i + 1 + m := ⟨n - (i + 1), by omega⟩
    rcases hown.2 with ⟨hv0, h0⟩ | ⟨g, c, cur, rfl, hbg, hg, hnc, hcm, hcs, htk⟩
    · omega
    · have hne : vb ≠ g := fun e => hvb (by rw [e]; rfl)
      have e1 : i + 1 + m + 1 - (i + 1 - i) = i + 1 + m := by omega
      rw [e1]
      have hb1 := fun q => Blk.setCells (w := w) (rc r) (i * 2) (show Blk (w.drewN q) g 50 cur from hg) (by rw [rc_len, hcs]; omega)
      have hl1 : (overL cur.toList (i * 2) (rc r)).length = c * 2 := by rw [overL_len (by rw [rc_len, Array.length_toList, hcs]; omega), Array.length_toList, hcs]
      have htk1 : cur.toList.take (i * 2) = pcR (l.take i) := by rw [← pcR_take, ← htk, List.take_take, Nat.min_eq_left (by omega)]
      rcases Nat.eq_zero_or_pos m with rfl | hm
      · refine (rep_last g i c vb (pcR l) (rc r) cur w hnc hcm hg hcs hv rfl (rc_one r)).mono ?_
        rintro e w' ⟨rfl, rfl⟩
        refine ⟨_, rfl, ⟨?_, .inr ⟨g, c, _, rfl, hbg, hb1 0, hnc, hcm, ?_, ?_⟩⟩, only_setCells _ _ (World.grownBy.refl _ _)⟩
        · rw [pcR_len, List.length_append, List.length_append, List.length_take, List.length_drop, List.length_singleton]; omega
        · rw [List.size_toArray, hl1]
        · rw [List.toList_toArray, show (i + 1 + 0) * 2 = i * 2 + (rc r).length by rw [rc_len]; omega, overL_take2 (by rw [rc_len, Array.length_toList, hcs]; omega), htk1, List.drop_of_length_le (by omega), List.append_nil, pcR_app]
          simp [pcR]
      · refine (rep_mid g i m c vb (pcR l) (rc r) cur w hm hnc hcm hne hg hcs htk (pcR_one l) hv rfl (rc_one r)).mono ?_
        rintro e w' ⟨rfl, q, s, rfl⟩
        have hdl : ((pcR l).drop ((i + 1) * 2)).length = m * 2 := by rw [List.length_drop, pcR_len]; omega
        have hb2 := Blk.setCells (w := w) ((pcR l).drop ((i + 1) * 2)) ((i + 1) * 2) (show Blk (((w.drewN q).setCells g (i * 2) (rc r)).drewN s) g 50 _ from hb1 q) (by rw [hdl, List.size_toArray, hl1]; omega)
        refine ⟨_, rfl, ⟨?_, .inr ⟨g, c, _, rfl, hbg, hb2, hnc, hcm, ?_, ?_⟩⟩, only_setCells _ _ (rw_drewN s (only_setCells _ _ (rw_drewN q (World.grownBy.refl _ _))))⟩
        · rw [pcR_len, List.length_append, List.length_append, List.length_take, List.length_drop, List.length_singleton]; omega
        · rw [List.size_toArray, overL_len (by rw [hdl, List.toList_toArray, hl1]; omega), List.toList_toArray, hl1]
        · rw [List.toList_toArray]
          have := overL_two (R := cur.toList) (a := pcR (l.take i)) (cs := rc r) (d := (pcR l).drop ((i + 1) * 2)) (o := i * 2) (o2 := (i + 1) * 2) (m := (i + 1 + m) * 2) (by rw [hdl, Array.length_toList, hcs]; omega) (by rw [rc_len]; omega) htk1 (by rw [hdl]; omega) (by rw [hdl, Array.length_toList, hcs]; omega) (by rw [pcR_len, List.length_take]; omega)
          rw [List.toList_toArray] at this
          rw [this, pcR_app, pcR_app, ← pcR_drop]
          simp [pcR]
theorem rw_eql_nil (w : World) (a : Option Addr) (n c : Nat) : (binOp .eql 29 (.slice a n c) (.slice none 0 0)).run Try.prog w = .ok (.bool a.isNone) w := by
  simp only [binOp]
  simp [Op.equal, Op.maxDepth, Lib.run_equalIn_slice_nil w 9999 29 _ a n c 0 0 Try.underlying29]
/-- slices.Clone. -/
theorem cloneR_any (A : Option Addr) (n c B : Nat) (l : List Rw) (w : World) (hl : RIn w B A n c l) (hB : B ≤ w.heap.size) (hn : n ≤ 1048576) :
    Calls Try.prog 53 #[.slice A n c] w fun e w' => ∃ v, e = .returned v ∧ w'.ownsRow w.heap.size 50 2 v n (pcR l) ∧ Below w.heap.size w w' := by
  obtain ⟨hln, hnc, hA, hh⟩ := hl
  have q22 := rw_eql_nil
  cases A with
  | none =>
    obtain rfl : c = 0 := hA rfl
    obtain rfl : n = 0 := by omega
    have hl0 : l = [] := List.eq_nil_of_length_eq_zero hln
    subst hl0
    clear hh hA hln hnc
    go_enter Try.func53, Try.ntmps53
    go_wp2
    go_ret
    exact ⟨_, rfl, World.ownsRow_nil _ _ _ _, Below.refl _ _⟩
  | some ad =>
    obtain ⟨i0, hi0, hz0, hzs, hzb⟩ := info_parts info_row
    have hW : Below w.heap.size w (w.alloc (.cells #[] 50)) := (Below.refl _ _).alloc (Nat.le_refl _) _
    have ho : (w.alloc (.cells #[] 50)).ownsRow w.heap.size 50 2 (.slice (some ⟨w.heap.size, 0, none⟩) 0 0) 0 [] :=
      ⟨rfl, .inr ⟨w.heap.size, 0, #[], rfl, Nat.le_refl _, Blk.new w _ _, Nat.le_refl _, Nat.zero_le _, rfl, rfl⟩⟩
    obtain ⟨v', w', hr, h1, h2, h3⟩ := run_app_all (P := Try.prog) (w.alloc (.cells #[] 50)) 29 29 w.heap.size 50 i0 _ 2 32 Try.underlying29 hi0 hz0 hzs hzb rfl (by decide) _ 0 [] ho B (some ad) n c (pcR l) (fun h => by cases h) (hh.below (hW.mono hB)) (pcR_one l) (by omega) (by decide) (by simp)
    have HR := Lib.hid hr
    have H1 := Lib.hid h1
    have HB := Lib.hid (below_own hW h2 ho (Nat.le_refl _) (by simp))
    clear hr h1 h2 ho hW hh hA
    go_enter Try.func53, Try.ntmps53
    go_wp2_with (first | (at_builtin; refine rw_app rfl _ _ _ rfl _ _ (by rfl) (by rfl) HR.out ?_) | fail)
    go_ret
    exact ⟨v', rfl, by simpa using H1.out, HB.out⟩
end Go.Proofs.Ytploicbiapjfdaa
