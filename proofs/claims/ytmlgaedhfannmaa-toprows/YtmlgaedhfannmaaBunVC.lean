/- Joined texts: DvDel, InsD, DvApp. -/
import Derived.Test.YtmlgaedhfannmaaRwDel
import Derived.Test.YtmlgaedhfannmaaDvMem
import Derived.Test.YtmlgaedhfannmaaInsLaws
import Derived.Test.YtmlgaedhfannmaaRows
import Derived.Outline
import Derived.Deep.RegionLaw
import Derived.Test.YtmlgaedhfannmaaDvFn
/- slices.Delete of one device of a row of the call's own. -/
namespace Go.Proofs.Ytmlgaedhfannmaa
set_option linter.unusedVariables false
set_option linter.unusedSimpArgs false
open Go.RowKit
/-- clear of one row. -/
theorem run_clear_dev (W : World) (ty : TypeId) (b o c : Nat) (hc : ∀ j, j < 2 → (W.cell? ⟨b, o + j, none⟩).isSome = true) (hf : ∀ j, j < 2 → W.frozen? ⟨b, o + j, none⟩ = false) :
    (Builtin.clear_ #[23] ty #[.slice (some ⟨b, o, none⟩) 1 c]).run Try.prog W = .ok (.tuple #[]) (W.setCells b o [.string ⟨#[]⟩, .string ⟨#[]⟩]) := by
  have hst := run_storeCells_cells (P := Try.prog) b o [.string ⟨#[]⟩, .string ⟨#[]⟩] 0 W (by simpa using hc) (by simpa using hf) (by intro v hv; simp at hv; rw [hv]; rfl)
  have hz : (Builtin.zeroCells (Value.agg #[.string ⟨#[]⟩, .string ⟨#[]⟩]).cells 1).toList = [.string ⟨#[]⟩, .string ⟨#[]⟩] := by kernel_rfl
  simp only [Nat.add_zero] at hst
  simp [Builtin.clear_, run_underlying Try.underlying23, Try.zeroValue42, hz, hst]
set_option maxHeartbeats 4000000 in
set_option maxRecDepth 100000 in
theorem del_oneD (g i m c : Nat) (xs : List Value) (cur : Array Value) (w : World) (hnc : i + 1 + m ≤ c) (hc : c ≤ maxLen)
    (hb : Blk w g 42 cur) (hcur : cur.size = c * 2) (hx : cur.toList.take ((i + 1 + m) * 2) = xs) (h1c : ∀ v ∈ xs, v.oneCell' = true) :
    Calls Try.prog 73 #[.slice (some ⟨g, 0, none⟩) (i + 1 + m : Nat) c, .int .i64 (i : Nat), .int .i64 (i + 1 : Nat)] w fun e w' =>
      e = .returned (.slice (some ⟨g, 0, none⟩) (i + m) c) ∧ w' = (w.drew.setCells g (i * 2) (xs.drop ((i + 1) * 2))).setCells g ((i + m) * 2) [.string ⟨#[]⟩, .string ⟨#[]⟩] := by
  obtain ⟨i0, hi0, hz0, hzs, hzb⟩ := info_parts info_dev
  unfold maxLen at hc
  have hxl : xs.length = (i + 1 + m) * 2 := by rw [← hx, List.length_take, Array.length_toList, hcur]; exact Nat.min_eq_left (by omega)
  have hcs : ∀ j v, xs[j]? = some v → w.cell? ⟨g, j, none⟩ = some v := fun j v hj => by
    rw [hb.cell j]
    have hj' : j < (i + 1 + m) * 2 := by rw [← hxl]; exact (List.getElem?_eq_some_iff.1 hj).1
    rw [← hx, List.getElem?_take_of_lt hj'] at hj
    rw [← hj]; simp
  have hdl : (xs.drop ((i + 1) * 2)).length = m * 2 := by rw [List.length_drop, hxl]; omega
  obtain ⟨ad, had, hadc⟩ : ∃ ad, cutAt (some ⟨g, 0, none⟩) c (i + 1) 2 = some ad ∧ ∀ j u, (xs.drop ((i + 1) * 2))[j]? = some u → w.drew.cell? (ad.add j) = some u := by
    unfold cutAt
    by_cases h : c = i + 1
    · refine ⟨⟨g, 0, none⟩, by rw [if_pos h], fun j u hj => ?_⟩
      have h0 : (xs.drop ((i + 1) * 2)) = [] := List.eq_nil_of_length_eq_zero (by rw [hdl]; omega)
      rw [h0] at hj; simp at hj
    · refine ⟨⟨g, (i + 1) * 2, none⟩, by rw [if_neg h]; simp [plus_addr], fun j u hj => ?_⟩
      rw [plus_addr]
      rw [List.getElem?_drop] at hj
      exact hcs _ _ hj
  have s1 := fun W => run_cut3 (P := Try.prog) W 23 42 i0 Try.underlying23 hi0 (some ⟨g, 0, none⟩) (i + 1 + m) c .i64 .i64 .i64 ((i : Nat) : Int) ((i + 1 : Nat) : Int) ((i + 1 + m : Nat) : Int) i (i + 1) (i + 1 + m) rfl rfl rfl (by omega) (by omega) hnc
  have s2 := fun W => run_cut_h (P := Try.prog) W 23 42 i0 Try.underlying23 hi0 (some ⟨g, 0, none⟩) (i + 1 + m) c .i64 ((i : Nat) : Int) i rfl (by omega)
  have s3 := fun W => run_cut_l (P := Try.prog) W 23 42 i0 Try.underlying23 hi0 (some ⟨g, 0, none⟩) (i + 1 + m) c .i64 ((i : Int) + 1) (i + 1) (by omega) (by omega)
  rw [hzs, had, show i + 1 + m - (i + 1) = m by omega] at s3
  have s4 := fun W => run_cut_lh (P := Try.prog) W 23 42 i0 Try.underlying23 hi0 (some ⟨g, 0, none⟩) (i + m) c .i64 .i64 ((i : Int) + (m : Int)) ((i : Int) + 1 + (m : Int)) (i + m) (i + 1 + m) (by omega) (by omega) (by omega) hnc
  have hcz : cutAt (some ⟨g, 0, none⟩) c (i + m) 2 = some ⟨g, (i + m) * 2, none⟩ := by unfold cutAt; rw [if_neg (by omega)]; simp [plus_addr]
  rw [hzs, hcz, show i + 1 + m - (i + m) = 1 by omega] at s4
  have hsp : ∀ j, j < c * 2 → (w.drew.cell? ⟨g, j, none⟩).isSome = true := fun j hj => by
    show (w.cell? ⟨g, j, none⟩).isSome = true
    rw [hb.cell j, Array.getElem?_eq_getElem (by omega)]; rfl
  have R1 := run_append_room_cells (P := Try.prog) w.drew 23 23 42 i0 Try.underlying23 hi0 g 0 i c ad m (c - (i + 1)) (xs.drop ((i + 1) * 2)) (by rw [hdl, hzs]) hadc (fun v hv => h1c v (List.mem_of_mem_drop hv)) (by omega)
    (fun j hj => by rw [hdl] at hj; rw [hzs, Nat.zero_add]; exact hsp _ (by omega)) (fun j _ => hb.frozen _)
  rw [hzs, Nat.zero_add] at R1
  obtain ⟨W1, hW1⟩ : ∃ W1, W1 = w.drew.setCells g (i * 2) (xs.drop ((i + 1) * 2)) := ⟨_, rfl⟩
  have hb1 : Blk W1 g 42 (overL cur.toList (i * 2) (xs.drop ((i + 1) * 2))).toArray := by
    rw [hW1]; exact Blk.setCells (w := w) _ _ (show Blk w.drew g 42 cur from hb) (by rw [hdl, hcur]; omega)
  have hb1s : (overL cur.toList (i * 2) (xs.drop ((i + 1) * 2))).toArray.size = c * 2 := by
    rw [List.size_toArray, overL_len (by rw [hdl, Array.length_toList, hcur]; omega), Array.length_toList, hcur]
  have R2 := fun ty => run_clear_dev W1 ty g ((i + m) * 2) (c - (i + m)) (fun j hj => by rw [hb1.cell, Array.getElem?_eq_getElem (by rw [hb1s]; omega)]; rfl) (fun j _ => hb1.frozen _)
  rw [← hW1] at R1
  have HR1 := Lib.hid R1
  have HR2 := Lib.hid R2
  have HW1 := Lib.hid hW1
  have hij : ((i : Nat) : Int) ≠ ((i + 1 : Nat) : Int) := by omega
  have hijb : (((i : Nat) : Int) == ((i + 1 : Nat) : Int)) = false := by rw [beq_eq_false_iff_ne]; exact hij
  clear R1 R2 hW1 hx hxl hcs hdl had hadc hcz hsp hb1 hb1s hcur h1c hb
  go_enter Try.func73, Try.ntmps73
  go_wp2_with fail
  go_region_law (refine rw_step_app rfl (.tmp 22) (.tmp 25) 23 rfl _ _ (by simp [Act.eval, Act.put]) (by simp [Act.eval, Act.put]) HR1.out ?_)
  have R2 := HR2.out 0
  go_wp2
  go_ret
  exact ⟨rfl, by rw [← HW1.out]⟩
/-- slices.Delete of rows from..to of a row of the call's own: one at most. -/
theorem delD_any (base n c i j : Nat) (A : Option Addr) (l : List Rw) (w : World) (hown : w.ownsRow base 42 2 (.slice A n c) n (pcR l)) (hij : j = i ∨ j = i + 1) (hj : j ≤ n) (hn : n ≤ 1048576) (hnc : n ≤ c) :
    Calls Try.prog 73 #[.slice A n c, .int .i64 (i : Nat), .int .i64 (j : Nat)] w fun e w' =>
      e = .returned (.slice A (n - (j - i)) c) ∧ w'.ownsRow base 42 2 (.slice A (n - (j - i)) c) (n - (j - i)) (pcR (l.take i ++ l.drop j)) ∧ w.grownBy w' (.slice A n c : Value).ownBlock := by
  have hln : l.length = n := by have := hown.1; rw [pcR_len] at this; omega
  rcases hij with rfl | rfl
  · have Hown := Lib.hid hown
    obtain ⟨i0, hi0, hz0, hzs, hzb⟩ := info_parts info_dev
    have s1 := fun W => run_cut3 (P := Try.prog) W 23 42 i0 Try.underlying23 hi0 A n c .i64 .i64 .i64 ((j : Nat) : Int) ((j : Nat) : Int) (n : Int) j j n rfl rfl rfl (Nat.le_refl _) hj hnc
    clear hown
    go_enter Try.func73, Try.ntmps73
    go_wp2
    go_ret
    refine ⟨by rw [Nat.sub_self, Nat.sub_zero] <;> rfl, ?_, World.grownBy.refl _ _⟩
    rw [Nat.sub_self, Nat.sub_zero, List.take_append_drop]
    exact Hown.out
  · obtain ⟨m, rfl⟩ : ∃ m, n = i + 1 + m := ⟨n - (i + 1), by omega⟩
    rcases hown.2 with ⟨hv, h0⟩ | ⟨g, c', cur, hv, hbg, hg, hnc', hcm, hcs, htk⟩
    · omega
    · injection hv with hA _ hc'
      subst hA hc'
      refine (del_oneD g i m c (pcR l) cur w hnc hcm hg hcs htk (pcR_one l)).mono ?_
      rintro e w' ⟨rfl, rfl⟩
      have e1 : i + 1 + m - (i + 1 - i) = i + m := by omega
      rw [e1]
      have hdl : ((pcR l).drop ((i + 1) * 2)).length = m * 2 := by rw [List.length_drop, pcR_len]; omega
      have hb1 := Blk.setCells (w := w) ((pcR l).drop ((i + 1) * 2)) (i * 2) (show Blk w.drew g 42 cur from hg) (by rw [hdl, hcs]; omega)
      have hl1 : (overL cur.toList (i * 2) ((pcR l).drop ((i + 1) * 2))).length = c * 2 := by rw [overL_len (by rw [hdl, Array.length_toList, hcs]; omega), Array.length_toList, hcs]
      have hb2 := Blk.setCells (w := w) [.string ⟨#[]⟩, .string ⟨#[]⟩] ((i + m) * 2) hb1 (by rw [List.size_toArray, hl1]; simp; omega)
      refine ⟨rfl, ⟨?_, .inr ⟨g, c, _, rfl, hbg, hb2, by omega, hcm, ?_, ?_⟩⟩, only_setCells _ _ (only_setCells _ _ (only_drew (World.grownBy.refl _ _)))⟩
      · rw [pcR_len, List.length_append, List.length_take, List.length_drop]; omega
      · rw [List.size_toArray, overL_len (by rw [List.toList_toArray, hl1]; simp; omega), List.toList_toArray, hl1]
      · rw [List.toList_toArray, overL_take (by rw [List.toList_toArray, hl1]; omega), List.toList_toArray, show (i + m) * 2 = i * 2 + ((pcR l).drop ((i + 1) * 2)).length by rw [hdl]; omega,
          overL_take2 (by rw [hdl, Array.length_toList, hcs]; omega), pcR_app, ← pcR_take, ← pcR_drop, ← htk, List.take_take, Nat.min_eq_left (by omega)]
end Go.Proofs.Ytmlgaedhfannmaa

/- slices.Insert at devices: a row of the call's own, with one element more. -/
namespace Go.Proofs.Ytmlgaedhfannmaa
set_option linter.unusedVariables false
set_option linter.unusedSimpArgs false
open Go.RowKit

/-! ### slices.Insert at elements of api.Device -/
theorem insD_info : (Try.prog.info? 42).map (fun i => (i.zero, i.size, i.bytes)) = some (some (.agg #[.string ⟨#[]⟩, .string ⟨#[]⟩]), 2, 32) := by kernel_rfl

set_option maxHeartbeats 4000000 in
set_option maxRecDepth 100000 in
theorem insD_shift (g n c i vb : Nat) (xs cs : List Value) (cur : Array Value) (w : World) (hi : i < n) (hroom : n + 1 ≤ c) (hc : c ≤ maxLen) (hvb : vb ≠ g)
    (hb : Blk w g 42 cur) (hcur : cur.size = c * 2) (hx : cur.toList.take (n * 2) = xs) (hv : Blk w vb 42 cs.toArray) (hcl : cs.length = 2)
    (h1c : ∀ v ∈ xs, v.oneCell' = true) (h1v : ∀ v ∈ cs, v.oneCell' = true) :
    Calls Try.prog 74 #[.slice (some ⟨g, 0, none⟩) n c, .int .i64 i, .slice (some ⟨vb, 0, none⟩) 1 1] w fun e w' =>
      e = .returned (.slice (some ⟨g, 0, none⟩) (n + 1) c) ∧ w' = (w.drew.setCells g ((i + 1) * 2) (xs.drop (i * 2))).setCells g (i * 2) cs := by
  obtain ⟨i0, hi0, hz0, hzs, hzb⟩ := info_parts insD_info
  unfold maxLen at hc
  have hz2 : ¬ ((i : Int) = (n : Int)) := by omega
  have hz2b : ((i : Int) == (n : Int)) = false := by rw [beq_eq_false_iff_ne]; exact hz2
  have hz3 : ¬ ((c : Int) < (n : Int) + 1) := by omega
  have hxl : xs.length = n * 2 := by rw [← hx, List.length_take, Array.length_toList, hcur]; exact Nat.min_eq_left (by omega)
  have hcs : ∀ j v, xs[j]? = some v → w.cell? ⟨g, j, none⟩ = some v := fun j v hj => by
    rw [hb.cell j]
    have hj' : j < n * 2 := by rw [← hxl]; exact (List.getElem?_eq_some_iff.1 hj).1
    rw [← hx, List.getElem?_take_of_lt hj'] at hj
    rw [← hj]; simp
  have hsp : ∀ j, j < (n + 1) * 2 → (w.cell? ⟨g, j, none⟩).isSome = true := fun j hj => by
    rw [hb.cell j, Array.getElem?_eq_getElem (by omega)]; rfl
  have hvs : ∀ j v, cs[j]? = some v → w.cell? ⟨vb, j, none⟩ = some v := fun j v hj => by rw [hv.cell j]; simpa using hj
  have hdl : (xs.drop (i * 2)).length = (n - i) * 2 := by rw [List.length_drop, hxl] <;> omega
  have s1 := fun W => run_from (P := Try.prog) W 23 42 i0 Try.underlying23 hi0 g 0 n c .i64 (i : Int) i (i * 2) (n - i) (c - i) rfl (by omega) (by omega) (by rw [hzs]; omega) rfl rfl
  have s2 := fun W => run_cut_h (P := Try.prog) W 23 42 i0 Try.underlying23 hi0 (some ⟨g, 0, none⟩) n c .i64 ((n : Int) + 1) (n + 1) (by omega) hroom
  have s3 := fun W => run_from (P := Try.prog) W 23 42 i0 Try.underlying23 hi0 g 0 (n + 1) c .i64 ((i : Int) + 1) (i + 1) ((i + 1) * 2) (n - i) (c - (i + 1)) (by omega) (by omega) (by omega) (by rw [hzs]; omega) (by omega) rfl
  have s4 := fun W => run_from (P := Try.prog) W 23 42 i0 Try.underlying23 hi0 g 0 (n + 1) c .i64 (i : Int) i (i * 2) (n + 1 - i) (c - i) rfl (by omega) (by omega) (by rw [hzs]; omega) rfl rfl
  have hov : ∀ lb cb, (callFunc 102 #[.slice (some ⟨vb, 0, none⟩) 1 1, .slice (some ⟨g, (i + 1) * 2, none⟩) lb cb]).run Try.prog w = .ok (.value (.bool false)) w := fun lb cb => by
    rw [run_callFunc_extern Try.func102 (by kernel_rfl) (by kernel_rfl) (by kernel_rfl) (e := Extern.SlicesOverlaps.overlaps #[23, 23] #[4]) (by kernel_rfl),
      Lib.run_overlaps_apart w 23 4 42 Try.underlying23 2 (fun W => by simp [sizeOf, typeInfo, hi0, hzs]) ⟨vb, 0, none⟩ ⟨g, (i + 1) * 2, none⟩ 1 1 lb cb hvb 42 42 cs.toArray.size cur.size
        (by unfold World.shape?; rw [hv]) (by unfold World.shape?; rw [hb]) (by omega) (hv.frozen 0) (hv.frozen _)]
    rfl
  have hcp1 : ∀ ty, (Builtin.copy_ #[23, 23] ty #[.slice (some ⟨g, (i + 1) * 2, none⟩) (n - i) (c - (i + 1)), .slice (some ⟨g, i * 2, none⟩) (n + 1 - i) (c - i)]).run Try.prog w.drew = .ok (goInt (n - i : Nat)) (w.drew.setCells g ((i + 1) * 2) (xs.drop (i * 2))) := fun ty => by
    have hm : Nat.min (n + 1 - i) (n - i) = n - i := Nat.min_eq_right (by omega)
    have := run_copy_size (P := Try.prog) w.drew 23 23 ty 42 i0 g ((i + 1) * 2) (n - i) (c - (i + 1)) ⟨g, i * 2, none⟩ (n + 1 - i) (c - i) (xs.drop (i * 2)) Try.underlying23 hi0 (by rw [hm, hdl, hzs] <;> omega)
      (fun j v hj => by rw [plus_addr]; exact hcs (i * 2 + j) v (by rwa [List.getElem?_drop] at hj))
      (fun j hj => hsp _ (by rw [hdl] at hj; omega)) (fun j hj => hb.frozen _) (fun v hv' => h1c v (List.mem_of_mem_drop hv'))
    rw [hm] at this
    exact this
  obtain ⟨W1, hW1⟩ : ∃ W1, W1 = w.drew.setCells g ((i + 1) * 2) (xs.drop (i * 2)) := ⟨_, rfl⟩
  have hb1 : Blk W1 g 42 (overL cur.toList ((i + 1) * 2) (xs.drop (i * 2))).toArray := by
    rw [hW1]; exact Blk.setCells (w := w) _ _ (show Blk w.drew g 42 cur from hb) (by rw [hdl, hcur]; omega)
  have hb1s : (overL cur.toList ((i + 1) * 2) (xs.drop (i * 2))).toArray.size = c * 2 := by
    rw [List.size_toArray, overL_len (by rw [hdl, Array.length_toList, hcur]; omega), Array.length_toList, hcur]
  have hv1 : Blk W1 vb 42 cs.toArray := by
    rw [hW1]
    have hw0 : w.grownBy (w.drew.setCells g ((i + 1) * 2) (xs.drop (i * 2))) (some g) := only_setCells _ _ ⟨rfl, rfl, rfl, Nat.le_refl _, fun _ _ _ => rfl⟩
    exact hv.grown hw0 (fun e => hvb (by injection e))
  have hcp2 : ∀ ty, (Builtin.copy_ #[23, 23] ty #[.slice (some ⟨g, i * 2, none⟩) (n + 1 - i) (c - i), .slice (some ⟨vb, 0, none⟩) 1 1]).run Try.prog W1 = .ok (goInt 1) (W1.setCells g (i * 2) cs) := fun ty => by
    have hm : Nat.min 1 (n + 1 - i) = 1 := Nat.min_eq_left (by omega)
    have := run_copy_size (P := Try.prog) W1 23 23 ty 42 i0 g (i * 2) (n + 1 - i) (c - i) ⟨vb, 0, none⟩ 1 1 cs Try.underlying23 hi0 (by rw [hm, hzs, hcl])
      (fun j v hj => by rw [plus_addr, Nat.zero_add, hv1.cell j]; simpa using hj)
      (fun j hj => by rw [hb1.cell, Array.getElem?_eq_getElem (by omega)]; rfl) (fun j hj => hb1.frozen _) h1v
    rw [hm] at this
    exact this
  rw [← hW1] at hcp1
  have hW1d : ∀ ty, (Builtin.copy_ #[23, 23] ty #[.slice (some ⟨g, i * 2, none⟩) (n + 1 - i) (c - i), .slice (some ⟨vb, 0, none⟩) 1 1]).run Try.prog W1 = .ok (goInt 1) (W1.setCells g (i * 2) cs) := hcp2
  have hwn : IntKind.i64.wrap ((n : Int) + 1) = (n : Int) + 1 := IntWalk.i64_in _ (by omega)
  have hwi : IntKind.i64.wrap ((i : Int) + 1) = (i : Int) + 1 := IntWalk.i64_in _ (by omega)
  have HW1 := Lib.hid hW1
  clear hW1 hx hxl hcs hsp hvs hdl hb1 hb1s hv1 hcur
  go_enter Try.func74, Try.ntmps74
  go_wp2_with (simp only [hov])
  go_region_law (refine step_copy_runI rfl _ _ 23 23 rfl _ _ (by simp [Act.eval, Act.put]) (by simp [Act.eval, Act.put]) (hcp1 _) ?_)
  go_wp2_with (at_builtin; refine wpList_copy_runI _ rfl _ _ 23 23 rfl _ _ rfl rfl (hcp2 _) ?_)
  go_ret
  exact ⟨rfl, by rw [← HW1.out]⟩

set_option maxHeartbeats 4000000 in
set_option maxRecDepth 100000 in
theorem insD_grow (g n c i vb : Nat) (xs cs : List Value) (cur : Array Value) (w : World) (hi : i < n) (hnc : n ≤ c) (hroom : c < n + 1) (hn : n + 1 ≤ 1048576)
    (hb : Blk w g 42 cur) (hcur : cur.size = c * 2) (hx : cur.toList.take (n * 2) = xs) (hv : Blk w vb 42 cs.toArray) (hcl : cs.length = 2)
    (h1c : ∀ v ∈ xs, v.oneCell' = true) (h1v : ∀ v ∈ cs, v.oneCell' = true) :
    Calls Try.prog 74 #[.slice (some ⟨g, 0, none⟩) n c, .int .i64 i, .slice (some ⟨vb, 0, none⟩) 1 1] w fun e w' =>
      ∃ G row, e = .returned (.slice (some ⟨w.heap.size, 0, none⟩) (n + 1) G) ∧ Blk w' w.heap.size 42 row ∧ row.size = G * 2 ∧ n + 1 ≤ G ∧ G ≤ maxLen ∧
        row.toList.take ((n + 1) * 2) = xs.take (i * 2) ++ cs ++ xs.drop (i * 2) ∧ w.grownBy w' none := by
  obtain ⟨i0, hi0, hz0, hzs, hzb⟩ := info_parts insD_info
  have hz2 : ¬ ((i : Int) = (n : Int)) := by omega
  have hz2b : ((i : Int) == (n : Int)) = false := by rw [beq_eq_false_iff_ne]; exact hz2
  have hz3 : (c : Int) < (n : Int) + 1 := by omega
  have hxl : xs.length = n * 2 := by rw [← hx, List.length_take, Array.length_toList, hcur]; exact Nat.min_eq_left (by omega)
  have hcs : ∀ j v, xs[j]? = some v → w.cell? ⟨g, j, none⟩ = some v := fun j v hj => by
    rw [hb.cell j]
    have hj' : j < n * 2 := by rw [← hxl]; exact (List.getElem?_eq_some_iff.1 hj).1
    rw [← hx, List.getElem?_take_of_lt hj'] at hj
    rw [← hj]; simp
  have hdl : (xs.drop (i * 2)).length = (n - i) * 2 := by rw [List.length_drop, hxl] <;> omega
  have htl : (xs.take (i * 2)).length = i * 2 := by rw [List.length_take, hxl]; exact Nat.min_eq_left (by omega)
  have hold : (Builtin.firstCells i0.size i (.slice (some ⟨g, 0, none⟩) i c)).run Try.prog w.drew = .ok (xs.take (i * 2)).toArray w.drew := by
    rw [hzs]
    exact run_firstCells_some w.drew 2 i ⟨g, 0, none⟩ i c (xs.take (i * 2)) (by rw [htl] <;> omega) (fun j v hj => by
      rw [plus_addr, Nat.zero_add]
      rw [List.getElem?_take] at hj
      split at hj
      · exact hcs j v hj
      · cases hj)
  obtain ⟨G, hG⟩ : ∃ G, G = grownCap w (n + 1) c 42 := ⟨_, rfl⟩
  have hGn : n + 1 ≤ G := by rw [hG]; exact grownCap_ge w _ _ _
  have hGm : G ≤ maxLen := by rw [hG]; exact grownCap_le_maxLen w (n + 1) c 42 (by unfold maxLen; omega)
  have hik : i + (n + 1 - i) = n + 1 := by omega
  have hkk : (n : Int) + 1 - (i : Int) = ((n + 1 - i : Nat) : Int) := by omega
  obtain ⟨ROW, hROW⟩ : ∃ ROW : Array Value, ROW = (xs.take (i * 2)).toArray ++ Builtin.zeroCells (.agg #[.string ⟨#[]⟩, .string ⟨#[]⟩] : Value).cells (n + 1 - i) ++ Builtin.zeroCells (.agg #[.string ⟨#[]⟩, .string ⟨#[]⟩] : Value).cells (G - (n + 1)) := ⟨_, rfl⟩
  have hRs : ROW.size = G * 2 := by
    rw [hROW]
    simp only [Array.size_append, List.size_toArray, htl]
    simp [Builtin.zeroCells, Value.cells]
    omega
  have hRt : ROW.toList.take (i * 2) = xs.take (i * 2) := by
    rw [hROW]
    simp only [Array.toList_append]
    rw [List.append_assoc, List.take_append_of_le_length (by rw [htl]; exact Nat.le_refl _), List.take_of_length_le (by rw [htl]; exact Nat.le_refl _)]
  have hrz : ∀ ty, (Builtin.append_ #[23, 3] ty #[.slice (some ⟨g, 0, none⟩) i c, .int .i64 ((n : Int) + 1 - (i : Int))]).run Try.prog w =
      .ok (.slice (some ⟨w.heap.size, 0, none⟩) (n + 1) G) (w.drew.alloc (.cells ROW 42)) := fun ty => by
    have h := Lib.run_append_grow_zeros (P := Try.prog) w 23 3 ty 42 i0 _ .i64 .i64 Try.underlying23 Try.underlying3 hi0 hz0 (some ⟨g, 0, none⟩) i c (xs.take (i * 2)) hold (n + 1 - i) (by omega) (by omega) (by omega) (by omega) (by rw [hzb]; omega) (by rw [hzb, hik]; exact growslice_fits hroom (by omega))
    rw [hik] at h
    rw [hkk, hROW, hG]
    exact h
  have s1 := fun W => run_from (P := Try.prog) W 23 42 i0 Try.underlying23 hi0 g 0 n c .i64 (i : Int) i (i * 2) (n - i) (c - i) rfl (by omega) (by omega) (by rw [hzs]; omega) rfl rfl
  have s2 := fun W => run_cut_h (P := Try.prog) W 23 42 i0 Try.underlying23 hi0 (some ⟨g, 0, none⟩) n c .i64 (i : Int) i rfl (by omega)
  have s3 := fun W => run_from (P := Try.prog) W 23 42 i0 Try.underlying23 hi0 w.heap.size 0 (n + 1) G .i64 (i : Int) i (i * 2) (n + 1 - i) (G - i) rfl (by omega) (by omega) (by rw [hzs]; omega) rfl rfl
  have s4 := fun W => run_from (P := Try.prog) W 23 42 i0 Try.underlying23 hi0 w.heap.size 0 (n + 1) G .i64 ((i : Int) + 1) (i + 1) ((i + 1) * 2) (n - i) (G - (i + 1)) (by omega) (by omega) (by omega) (by rw [hzs]; omega) (by omega) rfl
  have hcpA : ∀ (W : World), Blk W w.heap.size 42 ROW → Blk W vb 42 cs.toArray → ∀ ty, (Builtin.copy_ #[23, 23] ty #[.slice (some ⟨w.heap.size, i * 2, none⟩) (n + 1 - i) (G - i), .slice (some ⟨vb, 0, none⟩) 1 1]).run Try.prog W = .ok (goInt 1) (W.setCells w.heap.size (i * 2) cs) := fun W hbW hvW ty => by
    have hm : Nat.min 1 (n + 1 - i) = 1 := Nat.min_eq_left (by omega)
    have := run_copy_size (P := Try.prog) W 23 23 ty 42 i0 w.heap.size (i * 2) (n + 1 - i) (G - i) ⟨vb, 0, none⟩ 1 1 cs Try.underlying23 hi0 (by rw [hm, hzs, hcl])
      (fun j v hj => by rw [plus_addr, Nat.zero_add, hvW.cell j]; simpa using hj)
      (fun j hj => by rw [hbW.cell, Array.getElem?_eq_getElem (by rw [hRs]; omega)]; rfl) (fun j hj => hbW.frozen _) h1v
    rw [hm] at this
    exact this
  have hR2s : (overL ROW.toList (i * 2) cs).toArray.size = G * 2 := by
    rw [List.size_toArray, overL_len (by rw [hcl, Array.length_toList, hRs]; omega), Array.length_toList, hRs]
  have hcpB : ∀ (W : World), Blk W w.heap.size 42 (overL ROW.toList (i * 2) cs).toArray → Blk W g 42 cur → ∀ ty, (Builtin.copy_ #[23, 23] ty #[.slice (some ⟨w.heap.size, (i + 1) * 2, none⟩) (n - i) (G - (i + 1)), .slice (some ⟨g, i * 2, none⟩) (n - i) (c - i)]).run Try.prog W = .ok (goInt (n - i : Nat)) (W.setCells w.heap.size ((i + 1) * 2) (xs.drop (i * 2))) := fun W hbW hgW ty => by
    have hm : Nat.min (n - i) (n - i) = n - i := Nat.min_self _
    have := run_copy_size (P := Try.prog) W 23 23 ty 42 i0 w.heap.size ((i + 1) * 2) (n - i) (G - (i + 1)) ⟨g, i * 2, none⟩ (n - i) (c - i) (xs.drop (i * 2)) Try.underlying23 hi0 (by rw [hm, hdl, hzs] <;> omega)
      (fun j v hj => by
        rw [plus_addr]
        rw [List.getElem?_drop] at hj
        rw [hgW.cell, ← hb.cell]
        exact hcs _ v hj)
      (fun j hj => by rw [hbW.cell, Array.getElem?_eq_getElem (by rw [hR2s]; rw [hdl] at hj; omega)]; rfl) (fun j hj => hbW.frozen _) (fun v hv' => h1c v (List.mem_of_mem_drop hv'))
    rw [hm] at this
    exact this
  have hbA : Blk ((w.alloc (.cells ROW 42)).drew) w.heap.size 42 ROW := Blk.new w 42 ROW
  have hvA : Blk ((w.alloc (.cells ROW 42)).drew) vb 42 cs.toArray := hv.alloc _
  have hgrA : w.grownBy ((w.alloc (.cells ROW 42)).drew.setCells w.heap.size (i * 2) cs) none :=
    new_setCells (Nat.le_refl _) _ _ (only_drew (only_alloc (World.grownBy.refl w none) (.cells ROW 42)))
  have hbB : Blk (((w.alloc (.cells ROW 42)).drew.setCells w.heap.size (i * 2) cs).drew) w.heap.size 42 (overL ROW.toList (i * 2) cs).toArray :=
    Blk.setCells (w := w) cs _ hbA (by rw [hcl, hRs]; omega)
  have hgB : Blk (((w.alloc (.cells ROW 42)).drew.setCells w.heap.size (i * 2) cs).drew) g 42 cur := hb.grown (only_drew hgrA) (by simp)
  have hend : row_end ((((w.alloc (.cells ROW 42)).drew.setCells w.heap.size (i * 2) cs).drew).setCells w.heap.size ((i + 1) * 2) (xs.drop (i * 2))) w.heap.size 42 (G * 2) ((n + 1) * 2) (xs.take (i * 2) ++ cs ++ xs.drop (i * 2)) := by
    refine ⟨_, Blk.setCells (w := w) _ _ hbB (by rw [hdl, hR2s]; omega), ?_, ?_⟩
    · have e : (overL ROW.toList (i * 2) cs).length = G * 2 := by simpa using hR2s
      show (overL (overL ROW.toList (i * 2) cs) ((i + 1) * 2) (xs.drop (i * 2))).toArray.size = G * 2
      rw [List.size_toArray, overL_len (by rw [hdl, e]; omega), e]
    · have hRl : ROW.toList.length = G * 2 := by rw [Array.length_toList, hRs]
      exact overL_two (by rw [hdl, hRl]; omega) (by omega) hRt (by rw [hdl]; omega) (by rw [hdl, hRl]; omega) htl
  have hgr : w.grownBy ((((w.alloc (.cells ROW 42)).drew.setCells w.heap.size (i * 2) cs).drew).setCells w.heap.size ((i + 1) * 2) (xs.drop (i * 2))) none :=
    new_setCells (Nat.le_refl _) _ _ (only_drew hgrA)
  have hwi : IntKind.i64.wrap ((i : Int) + 1) = (i : Int) + 1 := IntWalk.i64_in _ (by omega)
  have HE := Lib.hid hend
  have HG := Lib.hid hgr
  have HGm := Lib.hid hGm
  clear hkk hik hold hROW hG hRs hRt hxl hcs hdl htl hcur hx hend hgr hgrA hR2s hGm
  go_enter Try.func74, Try.ntmps74
  go_wp2_with (first
    | (at_builtin; refine Lib.wpList_append_run _ rfl _ _ _ _ rfl _ _ rfl rfl _ _ (hrz _) ?_)
    | (at_builtin; refine wpList_copy_runI _ rfl _ _ 23 23 rfl _ _ rfl rfl (hcpA _ hbA hvA _) ?_))
  go_region_law (refine step_copy_runI rfl _ _ 23 23 rfl _ _ (by simp [Act.eval, Act.put]) (by simp [Act.eval, Act.put]) (hcpB _ hbB hgB _) ?_)
  go_wp2
  go_ret
  obtain ⟨row, e1, e2, e3⟩ := HE.out
  exact ⟨G, row, rfl, e1, e2, hGn, HGm.out, e3, HG.out⟩

set_option maxHeartbeats 1000000 in
theorem insD_last (base n vb : Nat) (v : Value) (xs cs : List Value) (w : World) (hown : w.ownsRow base 42 2 v n xs) (hn : n + 1 ≤ 1048576) (hbase : base ≤ w.heap.size)
    (hv : Blk w vb 42 cs.toArray) (hcl : cs.length = 2) (h1v : ∀ v ∈ cs, v.oneCell' = true) :
    Calls Try.prog 74 #[v, .int .i64 n, .slice (some ⟨vb, 0, none⟩) 1 1] w fun e w' =>
      ∃ v', e = .returned v' ∧ w'.ownsRow base 42 2 v' (n + 1) (xs ++ cs) ∧ w.grownBy w' v.ownBlock ∧ (v'.ownBlock = v.ownBlock ∨ v'.ownBlock = some w.heap.size) := by
  obtain ⟨i0, hi0, hz0, hzs, hzb⟩ := info_parts insD_info
  obtain ⟨A, c, rfl, hA⟩ := own_form hown
  have s1 := fun W => run_cut_l (P := Try.prog) W 23 42 i0 Try.underlying23 hi0 A n c .i64 (n : Int) n rfl (Nat.le_refl _)
  have hcs : ∀ j u, cs[j]? = some u → w.cell? ((⟨vb, 0, none⟩ : Addr).add j) = some u := fun j u hj => by
    rw [plus_addr, Nat.zero_add, hv.cell j]; simpa using hj
  go_enter Try.func74, Try.ntmps74
  go_wp2_with (at_builtin
               refine wpList_append_own_at w rfl _ _ 23 rfl base 42 i0 _ 2 32 Try.underlying23 hi0 hz0 hzs hzb rfl (by decide) (.slice A n c) n xs rfl hown ⟨vb, 0, none⟩ 1 1 cs rfl (by omega) hcs h1v (by unfold maxLen; omega) (by omega) hbase ?_
               intro v' w' k1 k2 k3 k4)
  go_ret
  exact ⟨v', rfl, k1, k2, k4⟩

/-- slices.Insert of one element into a row of the call's own. -/
theorem insD_own (base n i vb : Nat) (v : Value) (xs cs : List Value) (w : World) (hown : w.ownsRow base 42 2 v n xs) (hi : i ≤ n) (hn : n + 1 ≤ 1048576) (hbase : base ≤ w.heap.size)
    (hv : Blk w vb 42 cs.toArray) (hvb : some vb ≠ v.ownBlock) (hcl : cs.length = 2) (h1c : ∀ v ∈ xs, v.oneCell' = true) (h1v : ∀ v ∈ cs, v.oneCell' = true) :
    Calls Try.prog 74 #[v, .int .i64 i, .slice (some ⟨vb, 0, none⟩) 1 1] w fun e w' =>
      ∃ v', e = .returned v' ∧ w'.ownsRow base 42 2 v' (n + 1) (xs.take (i * 2) ++ cs ++ xs.drop (i * 2)) ∧ w.grownBy w' v.ownBlock ∧ (v'.ownBlock = v.ownBlock ∨ v'.ownBlock = some w.heap.size) := by
  have hxl : xs.length = n * 2 := by have := hown.1; omega
  rcases Nat.lt_or_ge i n with hlt | hge
  · rcases hown.2 with ⟨_, h0⟩ | ⟨g, c, cur, rfl, hbg, hg, hnc, hcm, hcs, htk⟩
    · omega
    · have hgb : Blk w g 42 cur := hg
      have hne : vb ≠ g := fun e => hvb (by rw [e]; rfl)
      rcases Nat.lt_or_ge c (n + 1) with hr | hr
      · refine (insD_grow g n c i vb xs cs cur w hlt hnc hr hn hgb hcs htk hv hcl h1c h1v).mono ?_
        rintro e w' ⟨G, row, rfl, k1, k2, k3, k4, k5, k6⟩
        refine ⟨_, rfl, ⟨?_, .inr ⟨_, G, row, rfl, hbase, k1, k3, k4, k2, k5⟩⟩, ?_, .inr rfl⟩
        · simp only [List.length_append, List.length_take, List.length_drop, hxl, hcl]; omega
        · exact ⟨k6.os, k6.tape, k6.output, k6.size, fun k hk _ => k6.block k hk (by simp)⟩
      · refine (insD_shift g n c i vb xs cs cur w hlt hr hcm hne hgb hcs htk hv hcl h1c h1v).mono ?_
        rintro e w' ⟨rfl, rfl⟩
        have hdl : (xs.drop (i * 2)).length = (n - i) * 2 := by rw [List.length_drop, hxl] <;> omega
        have hb1 := Blk.setCells (w := w) (xs.drop (i * 2)) ((i + 1) * 2) (show Blk w.drew g 42 cur from hgb) (by rw [hdl, hcs]; omega)
        have hl1 : (overL cur.toList ((i + 1) * 2) (xs.drop (i * 2))).length = c * 2 := by rw [overL_len (by rw [hdl, Array.length_toList, hcs]; omega), Array.length_toList, hcs]
        have hb2 := Blk.setCells (w := w) cs (i * 2) hb1 (by rw [List.size_toArray, hl1, hcl]; omega)
        refine ⟨_, rfl, ⟨?_, .inr ⟨g, c, _, rfl, hbg, hb2, hr, hcm, ?_, ?_⟩⟩, ?_, .inl rfl⟩
        · simp only [List.length_append, List.length_take, List.length_drop, hxl, hcl]; omega
        · show (overL (overL cur.toList ((i + 1) * 2) (xs.drop (i * 2))) (i * 2) cs).toArray.size = c * 2
          rw [List.size_toArray, overL_len (by rw [hl1, hcl]; omega), hl1]
        · refine overL_two2 (by rw [hdl, Array.length_toList, hcs]; omega) (by omega) ?_ (by rw [hdl]; omega) (by rw [List.length_take, hxl]; omega)
          rw [← htk, List.take_take, Nat.min_eq_left (by omega)]
        · exact only_setCells _ _ (only_setCells _ _ (only_drew (World.grownBy.refl _ _)))
  · obtain rfl : i = n := by omega
    refine (insD_last base i vb v xs cs w hown hn hbase hv hcl h1v).mono ?_
    rintro e w' ⟨v', rfl, k1, k2, k3⟩
    refine ⟨v', rfl, ?_, k2, k3⟩
    rw [List.take_of_length_le (by omega), List.drop_of_length_le (by omega), List.append_nil]
    exact k1

end Go.Proofs.Ytmlgaedhfannmaa

/- Device lists: addUpdate. -/
namespace Go.Proofs.Ytmlgaedhfannmaa
set_option linter.unusedVariables false
set_option linter.unusedSimpArgs false
open Go.RowKit
theorem dvN_below {B : Nat} {w w' : World} {us : List Uc} {ds : List Rw} {vu vd : Value} (h : DvS B w us ds vu vd) (hb : Beside (DvN B vu vd) w w') : Below B w w' :=
  hb.below (fun k hk => by
    rcases hk with e | e | e
    · omega
    · have := (World.ownsRow.lt h.ru k e).1; omega
    · have := (World.ownsRow.lt h.rd k e).1; omega) (by have := h.size; omega)
theorem wrap_up {n : Nat} (h : n ≤ 1000) : IntKind.i64.wrap ((n : Int) + 1) = (n : Int) + 1 := IntWalk.i64_in _ (by omega)
set_option maxHeartbeats 4000000 in
set_option maxRecDepth 100000 in
theorem addUpdate_any (B : Nat) (us : List Uc) (ds : List Rw) (vu vd : Value) (k v : List UInt8) (g : Bool) (w : World) (h : DvS B w us ds vu vd) (hn : us.length + 1 ≤ 1000) :
    Calls Try.prog 75 #[.pointer (some ⟨B, 0, none⟩), .bool g, .agg #[str k, str v]] w fun e w' =>
      ∃ vu', e = .returned (.tuple #[]) ∧ DvS B w' (us ++ [⟨(us.length : Int) + 1, us.length, k, v, g⟩]) ds vu' vd ∧ Beside (DvN B vu vd) w w' := by
  obtain ⟨A, c, rfl, hA⟩ := LIn.own ucL_len h.ru
  obtain ⟨W, hW⟩ : ∃ W, w.alloc (.cells #[str k, str v] 42) = W := ⟨_, rfl⟩
  have hWB := Blk.new w 42 #[str k, str v]
  have hWb : Below w.heap.size w W := by rw [← hW]; exact (Below.refl _ _).alloc (Nat.le_refl _) _
  rw [hW] at hWB
  have x0 : w.cell? ⟨B, 0, none⟩ = some (.slice A us.length c) := h.box.cell 0
  have y0 : W.cell? ⟨B, 0, none⟩ = some (.slice A us.length c) := (h.below hWb).box.cell 0
  have hBw : B < w.heap.size := h.box.lt
  -- the world in which the order is drawn
  obtain ⟨Wd, hWd⟩ : ∃ Wd, W.drew = Wd := ⟨_, rfl⟩
  have hbd : Below W.heap.size W Wd := by rw [← hWd]; exact below_drewN (Below.refl _ _) 1
  have hd := (h.below hWb).below hbd
  have hWBd := hWB.below hbd hWB.lt
  have hwd : Below w.heap.size w Wd := hWb.trans (hbd.mono hWb.size)
  obtain ⟨v', wf, hrun, f0, f1, hB5, hbs5, hn5, hg5⟩ := hd.push ⟨(us.length : Int) + 1, us.length, k, v, g⟩ #[.int .i64 ((us.length : Int) + 1), .int .i64 (us.length : Int), str k, str v, .bool g] rfl (by omega)
  obtain ⟨A', c', rfl, -⟩ := own_form hB5.ru
  generalize (us ++ [(⟨(us.length : Int) + 1, us.length, k, v, g⟩ : Uc)]).length = n' at *
  have hne : ∀ b, (Value.slice A us.length c).ownBlock = some b → b < w.heap.size := fun b hb => (World.ownsRow.lt h.ru b hb).2
  have hWB5 := hWBd.grown hg5 (fun e => by have := hne _ e.symm; omega)
  have hWBa := hWBd.alloc (.cells #[.int .i64 ((us.length : Int) + 1), .int .i64 (us.length : Int), str k, str v, .bool g] 44)
  have hba := hd.box.alloc (.cells #[.int .i64 ((us.length : Int) + 1), .int .i64 (us.length : Int), str k, str v, .bool g] 44)
  have hS0 : Wd.cell? ⟨B, 0, none⟩ = some (.slice A us.length c) ∧ Wd.cell? ⟨w.heap.size, 0, none⟩ = some (str k) ∧ Wd.cell? ⟨w.heap.size, 1, none⟩ = some (str v) := ⟨hd.box.cell 0, hWBd.cell 0, hWBd.cell 1⟩
  have hS6 : (Wd.alloc (.cells #[.int .i64 ((us.length : Int) + 1), .int .i64 (us.length : Int), str k, str v, .bool g] 44)).cell? ⟨B, 0, none⟩ = some (.slice A us.length c) ∧ (Wd.alloc (.cells #[.int .i64 ((us.length : Int) + 1), .int .i64 (us.length : Int), str k, str v, .bool g] 44)).cell? ⟨w.heap.size, 0, none⟩ = some (str k) ∧ (Wd.alloc (.cells #[.int .i64 ((us.length : Int) + 1), .int .i64 (us.length : Int), str k, str v, .bool g] 44)).cell? ⟨w.heap.size, 1, none⟩ = some (str v) :=
    ⟨hba.cell 0, hWBa.cell 0, hWBa.cell 1⟩
  have hS7 : wf.cell? ⟨B, 0, none⟩ = some (.slice A us.length c) ∧ wf.cell? ⟨w.heap.size, 0, none⟩ = some (str k) ∧ wf.cell? ⟨w.heap.size, 1, none⟩ = some (str v) := ⟨f0, hWB5.cell 0, hWB5.cell 1⟩
  have Hfin := Lib.hid (show ∃ vu', Ending.returned (.tuple #[]) = .returned (.tuple #[]) ∧ DvS B (wf.setCell ⟨B, 0, none⟩ (.slice A' n' c')) (us ++ [⟨(us.length : Int) + 1, us.length, k, v, g⟩]) ds vu' vd ∧ Beside (DvN B (.slice A us.length c) vd) w (wf.setCell ⟨B, 0, none⟩ (.slice A' n' c')) from
    ⟨.slice A' n' c', rfl, hB5, (Beside.of_below hwd).trans hbs5⟩)
  have hnb : us.length ≤ 1000 := by omega
  have hwr : IntKind.i64.wrap ((us.length : Int) + 1) = (us.length : Int) + 1 := wrap_up hnb
  clear hB5 hbs5 hn5 hg5 hne hWB5 hWBa hba hwd hWBd hd hbd hWB hWb hA h
  generalize us.length = n at *
  go_enter Try.func75, Try.ntmps75
  go_wp2_with fail
  refine region_S (fun w' => w'.cell? ⟨B, 0, none⟩ = some (.slice A n c) ∧ w'.cell? ⟨w.heap.size, 0, none⟩ = some (str k) ∧ w'.cell? ⟨w.heap.size, 1, none⟩ = some (str v)) [15] (by kernel_rfl) ?_
  try rw [hW]
  rw [hWd]
  refine anyS_take 0 (v := .pointer (some ⟨B, 0, none⟩)) rfl (by kernel_rfl) (by kernel_rfl) (by kernel_rfl) (by kernel_rfl) (fun _ _ _ h => h) (.inl ⟨by kernel_rfl, fun w' hS' => by kernel_rfl⟩) hS0 ?_
  refine anyS_take 1 (v := .pointer (some ⟨B, 0, none⟩)) rfl (by kernel_rfl) (by kernel_rfl) (by kernel_rfl) (by kernel_rfl) (fun _ _ _ h => h) (.inl ⟨by kernel_rfl, fun w' hS' => by kernel_rfl⟩) hS0 ?_
  refine anyS_take 2 (v := .pointer (some ⟨B, 0, none⟩)) rfl (by kernel_rfl) (by kernel_rfl) (by kernel_rfl) (by kernel_rfl) (fun _ _ _ h => h) (.inl ⟨by kernel_rfl, fun w' hS' => by go_simp⟩) hS0 ?_
  refine anyS_take 3 (v := .pointer (some ⟨B, 0, none⟩)) rfl (by kernel_rfl) (by kernel_rfl) (by kernel_rfl) (by kernel_rfl) (fun _ _ _ h => h) (.inl ⟨by kernel_rfl, fun w' hS' => by go_simp⟩) hS0 ?_
  refine anyS_take 4 (v := .slice A n c) rfl (by kernel_rfl) (by kernel_rfl) (by kernel_rfl) (by kernel_rfl) (fun _ _ _ h => h) (.inl ⟨by kernel_rfl, fun w' hS' => by obtain ⟨s0, s1, s2⟩ := hS'; go_simp⟩) hS0 ?_
  refine anyS_take 5 (v := .int .i64 (n : Int)) rfl (by kernel_rfl) (by kernel_rfl) (by kernel_rfl) (by kernel_rfl) (fun _ _ _ h => h) (.inl ⟨by kernel_rfl, fun w' hS' => by kernel_rfl⟩) hS0 ?_
  refine anyS_take 6 (v := .int .i64 ((n : Int) + 1)) rfl (by kernel_rfl) (by kernel_rfl) (by kernel_rfl) (by kernel_rfl) (fun _ _ _ h => h) (.inl ⟨by kernel_rfl, fun w' hS' => by go_simp⟩) hS0 ?_
  refine anyS_take 7 (v := .int .i64 (n : Int)) rfl (by kernel_rfl) (by kernel_rfl) (by kernel_rfl) (by kernel_rfl) (fun _ _ _ h => h) (.inl ⟨by kernel_rfl, fun w' hS' => by kernel_rfl⟩) hS0 ?_
  refine anyS_take 8 (v := .agg #[str k, str v]) rfl (by kernel_rfl) (by kernel_rfl) (by kernel_rfl) (by kernel_rfl) (fun _ _ _ h => h) (.inl ⟨by kernel_rfl, fun w' hS' => by obtain ⟨s0, s1, s2⟩ := hS'; go_simp⟩) hS0 ?_
  refine anyS_take 9 (v := .bool g) rfl (by kernel_rfl) (by kernel_rfl) (by kernel_rfl) (by kernel_rfl) (fun _ _ _ h => h) (.inl ⟨by kernel_rfl, fun w' hS' => by kernel_rfl⟩) hS0 ?_
  refine anyS_take 10 (v := .agg #[.int .i64 ((n : Int) + 1), .int .i64 (n : Int), str k, str v, .bool g]) rfl (by kernel_rfl) (by kernel_rfl) (by kernel_rfl) (by kernel_rfl) (fun _ _ _ h => h) (.inl ⟨by kernel_rfl, fun w' hS' => by go_simp⟩) hS0 ?_
  refine anyS_one 11 rfl (by kernel_rfl) rfl ?_
  intro K6 hK6
  go_simp
  refine hK6 _ _ ⟨fun _ => hS6, ?_⟩
  refine anyS_one 12 rfl (by kernel_rfl) rfl ?_
  intro K7 hK7
  refine oper_app _ _ _ rfl _ _ (by rfl) (by rfl) hrun ?_
  refine hK7 _ _ ⟨fun _ => hS7, ?_⟩
  refine anyS_one 13 rfl (by kernel_rfl) rfl ?_
  intro K8 hK8
  go_simp
  refine hK8 _ _ ⟨fun _ => hS7, ?_⟩
  refine anyS_one 14 rfl (by kernel_rfl) rfl ?_
  intro K9 hK9
  go_simp
  refine hK9 _ _ ⟨fun _ => hS7, ?_⟩
  refine anyS_one 15 rfl (by kernel_rfl) rfl ?_
  intro K10 hK10
  have c0 := hS7.1
  go_simp
  refine hK10 _ _ ⟨fun h => absurd (List.mem_singleton.2 rfl) h, ?_⟩
  refine anyS_done (by kernel_rfl) ?_
  clear hK6 hK7 hK8 hK9 hK10 hS0 hS6 hS7 hrun c0
  go_wp2_with fail
  go_end0
  obtain ⟨u, -, q⟩ := Hfin.out
  exact ⟨u, rfl, q⟩
end Go.Proofs.Ytmlgaedhfannmaa
