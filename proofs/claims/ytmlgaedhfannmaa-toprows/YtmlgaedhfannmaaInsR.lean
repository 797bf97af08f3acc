/- slices.Insert at rows of a table: a row of the call's own, with one element more. -/
import Derived.Test.YtmlgaedhfannmaaInsLaws
import Derived.Test.YtmlgaedhfannmaaRows
import Derived.Outline
import Derived.Deep.RegionLaw
namespace Go.Proofs.Ytmlgaedhfannmaa
set_option linter.unusedVariables false
set_option linter.unusedSimpArgs false
open Go.RowKit

/-! ### slices.Insert at elements of api.Row -/
theorem insR_info : (Try.prog.info? 51).map (fun i => (i.zero, i.size, i.bytes)) = some (some (.agg #[.string ⟨#[]⟩, .string ⟨#[]⟩]), 2, 32) := by kernel_rfl

set_option maxHeartbeats 4000000 in
set_option maxRecDepth 100000 in
theorem insR_shift (g n c i vb : Nat) (xs cs : List Value) (cur : Array Value) (w : World) (hi : i < n) (hroom : n + 1 ≤ c) (hc : c ≤ maxLen) (hvb : vb ≠ g)
    (hb : Blk w g 51 cur) (hcur : cur.size = c * 2) (hx : cur.toList.take (n * 2) = xs) (hv : Blk w vb 51 cs.toArray) (hcl : cs.length = 2)
    (h1c : ∀ v ∈ xs, v.oneCell' = true) (h1v : ∀ v ∈ cs, v.oneCell' = true) :
    Calls Try.prog 87 #[.slice (some ⟨g, 0, none⟩) n c, .int .i64 i, .slice (some ⟨vb, 0, none⟩) 1 1] w fun e w' =>
      e = .returned (.slice (some ⟨g, 0, none⟩) (n + 1) c) ∧ w' = (w.drew.setCells g ((i + 1) * 2) (xs.drop (i * 2))).setCells g (i * 2) cs := by
  obtain ⟨i0, hi0, hz0, hzs, hzb⟩ := info_parts insR_info
  unfold maxLen at hc
  have hz2 : ¬ ((i : Int) = (n : Int)) := by omega
  have hz2b : ((i : Int) == (n : Int)) = false := by rw [beq_eq_false_iff_ne]; exact hz2
  have hz3 : ¬ ((c : Int) < (n : Int) + 1) := by omega
  have hxl : xs.length = n * 2 := by rw [← hx, List.length_take, Array.length_toList, hcur]; exact Nat.min_eq_left (by omega)
  have hcs : ∀ j v, xs[j]? = some v → w.cell? ⟨g, j, none⟩ = some v := fun j v hj => by
    rw [hb.cell j]
    have hj' : j < n * 2 := by rw [← hxl]; exact (List.getElem?_eq_some_iff.1 hj).1
    rw [← hx, List.getElem?_take_of_lt hj'] at hj
    rw [← hj]; simp
  have hsp : ∀ j, j < (n + 1) * 2 → (w.cell? ⟨g, j, none⟩).isSome = true := fun j hj => by
    rw [hb.cell j, Array.getElem?_eq_getElem (by omega)]; rfl
  have hvs : ∀ j v, cs[j]? = some v → w.cell? ⟨vb, j, none⟩ = some v := fun j v hj => by rw [hv.cell j]; simpa using hj
  have hdl : (xs.drop (i * 2)).length = (n - i) * 2 := by rw [List.length_drop, hxl] <;> omega
  have s1 := fun W => run_from (P := Try.prog) W 52 51 i0 Try.underlying52 hi0 g 0 n c .i64 (i : Int) i (i * 2) (n - i) (c - i) rfl (by omega) (by omega) (by rw [hzs]; omega) rfl rfl
  have s2 := fun W => run_cut_h (P := Try.prog) W 52 51 i0 Try.underlying52 hi0 (some ⟨g, 0, none⟩) n c .i64 ((n : Int) + 1) (n + 1) (by omega) hroom
  have s3 := fun W => run_from (P := Try.prog) W 52 51 i0 Try.underlying52 hi0 g 0 (n + 1) c .i64 ((i : Int) + 1) (i + 1) ((i + 1) * 2) (n - i) (c - (i + 1)) (by omega) (by omega) (by omega) (by rw [hzs]; omega) (by omega) rfl
  have s4 := fun W => run_from (P := Try.prog) W 52 51 i0 Try.underlying52 hi0 g 0 (n + 1) c .i64 (i : Int) i (i * 2) (n + 1 - i) (c - i) rfl (by omega) (by omega) (by rw [hzs]; omega) rfl rfl
  have hov : ∀ lb cb, (callFunc 88 #[.slice (some ⟨vb, 0, none⟩) 1 1, .slice (some ⟨g, (i + 1) * 2, none⟩) lb cb]).run Try.prog w = .ok (.value (.bool false)) w := fun lb cb => by
    rw [run_callFunc_extern Try.func88 (by kernel_rfl) (by kernel_rfl) (by kernel_rfl) (e := Extern.SlicesOverlaps.overlaps #[52, 52] #[4]) (by kernel_rfl),
      Lib.run_overlaps_apart w 52 4 51 Try.underlying52 2 (fun W => by simp [sizeOf, typeInfo, hi0, hzs]) ⟨vb, 0, none⟩ ⟨g, (i + 1) * 2, none⟩ 1 1 lb cb hvb 51 51 cs.toArray.size cur.size
        (by unfold World.shape?; rw [hv]) (by unfold World.shape?; rw [hb]) (by omega) (hv.frozen 0) (hv.frozen _)]
    rfl
  have hcp1 : ∀ ty, (Builtin.copy_ #[52, 52] ty #[.slice (some ⟨g, (i + 1) * 2, none⟩) (n - i) (c - (i + 1)), .slice (some ⟨g, i * 2, none⟩) (n + 1 - i) (c - i)]).run Try.prog w.drew = .ok (goInt (n - i : Nat)) (w.drew.setCells g ((i + 1) * 2) (xs.drop (i * 2))) := fun ty => by
    have hm : Nat.min (n + 1 - i) (n - i) = n - i := Nat.min_eq_right (by omega)
    have := run_copy_size (P := Try.prog) w.drew 52 52 ty 51 i0 g ((i + 1) * 2) (n - i) (c - (i + 1)) ⟨g, i * 2, none⟩ (n + 1 - i) (c - i) (xs.drop (i * 2)) Try.underlying52 hi0 (by rw [hm, hdl, hzs] <;> omega)
      (fun j v hj => by rw [plus_addr]; exact hcs (i * 2 + j) v (by rwa [List.getElem?_drop] at hj))
      (fun j hj => hsp _ (by rw [hdl] at hj; omega)) (fun j hj => hb.frozen _) (fun v hv' => h1c v (List.mem_of_mem_drop hv'))
    rw [hm] at this
    exact this
  obtain ⟨W1, hW1⟩ : ∃ W1, W1 = w.drew.setCells g ((i + 1) * 2) (xs.drop (i * 2)) := ⟨_, rfl⟩
  have hb1 : Blk W1 g 51 (overL cur.toList ((i + 1) * 2) (xs.drop (i * 2))).toArray := by
    rw [hW1]; exact Blk.setCells (w := w) _ _ (show Blk w.drew g 51 cur from hb) (by rw [hdl, hcur]; omega)
  have hb1s : (overL cur.toList ((i + 1) * 2) (xs.drop (i * 2))).toArray.size = c * 2 := by
    rw [List.size_toArray, overL_len (by rw [hdl, Array.length_toList, hcur]; omega), Array.length_toList, hcur]
  have hv1 : Blk W1 vb 51 cs.toArray := by
    rw [hW1]
    have hw0 : w.grownBy (w.drew.setCells g ((i + 1) * 2) (xs.drop (i * 2))) (some g) := only_setCells _ _ ⟨rfl, rfl, rfl, Nat.le_refl _, fun _ _ _ => rfl⟩
    exact hv.grown hw0 (fun e => hvb (by injection e))
  have hcp2 : ∀ ty, (Builtin.copy_ #[52, 52] ty #[.slice (some ⟨g, i * 2, none⟩) (n + 1 - i) (c - i), .slice (some ⟨vb, 0, none⟩) 1 1]).run Try.prog W1 = .ok (goInt 1) (W1.setCells g (i * 2) cs) := fun ty => by
    have hm : Nat.min 1 (n + 1 - i) = 1 := Nat.min_eq_left (by omega)
    have := run_copy_size (P := Try.prog) W1 52 52 ty 51 i0 g (i * 2) (n + 1 - i) (c - i) ⟨vb, 0, none⟩ 1 1 cs Try.underlying52 hi0 (by rw [hm, hzs, hcl])
      (fun j v hj => by rw [plus_addr, Nat.zero_add, hv1.cell j]; simpa using hj)
      (fun j hj => by rw [hb1.cell, Array.getElem?_eq_getElem (by omega)]; rfl) (fun j hj => hb1.frozen _) h1v
    rw [hm] at this
    exact this
  rw [← hW1] at hcp1
  have hW1d : ∀ ty, (Builtin.copy_ #[52, 52] ty #[.slice (some ⟨g, i * 2, none⟩) (n + 1 - i) (c - i), .slice (some ⟨vb, 0, none⟩) 1 1]).run Try.prog W1 = .ok (goInt 1) (W1.setCells g (i * 2) cs) := hcp2
  have hwn : IntKind.i64.wrap ((n : Int) + 1) = (n : Int) + 1 := IntWalk.i64_in _ (by omega)
  have hwi : IntKind.i64.wrap ((i : Int) + 1) = (i : Int) + 1 := IntWalk.i64_in _ (by omega)
  have HW1 := Lib.hid hW1
  clear hW1 hx hxl hcs hsp hvs hdl hb1 hb1s hv1 hcur
  go_enter Try.func87, Try.ntmps87
  go_wp2_with (simp only [hov])
  go_region_law (refine step_copy_runI rfl _ _ 52 52 rfl _ _ (by simp [Act.eval, Act.put]) (by simp [Act.eval, Act.put]) (hcp1 _) ?_)
  go_wp2_with (at_builtin; refine wpList_copy_runI _ rfl _ _ 52 52 rfl _ _ rfl rfl (hcp2 _) ?_)
  go_ret
  exact ⟨rfl, by rw [← HW1.out]⟩

set_option maxHeartbeats 4000000 in
set_option maxRecDepth 100000 in
theorem insR_grow (g n c i vb : Nat) (xs cs : List Value) (cur : Array Value) (w : World) (hi : i < n) (hnc : n ≤ c) (hroom : c < n + 1) (hn : n + 1 ≤ 1048576)
    (hb : Blk w g 51 cur) (hcur : cur.size = c * 2) (hx : cur.toList.take (n * 2) = xs) (hv : Blk w vb 51 cs.toArray) (hcl : cs.length = 2)
    (h1c : ∀ v ∈ xs, v.oneCell' = true) (h1v : ∀ v ∈ cs, v.oneCell' = true) :
    Calls Try.prog 87 #[.slice (some ⟨g, 0, none⟩) n c, .int .i64 i, .slice (some ⟨vb, 0, none⟩) 1 1] w fun e w' =>
      ∃ G row, e = .returned (.slice (some ⟨w.heap.size, 0, none⟩) (n + 1) G) ∧ Blk w' w.heap.size 51 row ∧ row.size = G * 2 ∧ n + 1 ≤ G ∧ G ≤ maxLen ∧
        row.toList.take ((n + 1) * 2) = xs.take (i * 2) ++ cs ++ xs.drop (i * 2) ∧ w.grownBy w' none := by
  obtain ⟨i0, hi0, hz0, hzs, hzb⟩ := info_parts insR_info
  have hz2 : ¬ ((i : Int) = (n : Int)) := by omega
  have hz2b : ((i : Int) == (n : Int)) = false := by rw [beq_eq_false_iff_ne]; exact hz2
  have hz3 : (c : Int) < (n : Int) + 1 := by omega
  have hxl : xs.length = n * 2 := by rw [← hx, List.length_take, Array.length_toList, hcur]; exact Nat.min_eq_left (by omega)
  have hcs : ∀ j v, xs[j]? = some v → w.cell? ⟨g, j, none⟩ = some v := fun j v hj => by
    rw [hb.cell j]
    have hj' : j < n * 2 := by rw [← hxl]; exact (List.getElem?_eq_some_iff.1 hj).1
    rw [← hx, List.getElem?_take_of_lt hj'] at hj
    rw [← hj]; simp
  have hdl : (xs.drop (i * 2)).length = (n - i) * 2 := by rw [List.length_drop, hxl] <;> omega
  have htl : (xs.take (i * 2)).length = i * 2 := by rw [List.length_take, hxl]; exact Nat.min_eq_left (by omega)
  have hold : (Builtin.firstCells i0.size i (.slice (some ⟨g, 0, none⟩) i c)).run Try.prog w.drew = .ok (xs.take (i * 2)).toArray w.drew := by
    rw [hzs]
    exact run_firstCells_some w.drew 2 i ⟨g, 0, none⟩ i c (xs.take (i * 2)) (by rw [htl] <;> omega) (fun j v hj => by
      rw [plus_addr, Nat.zero_add]
      rw [List.getElem?_take] at hj
      split at hj
      · exact hcs j v hj
      · cases hj)
  obtain ⟨G, hG⟩ : ∃ G, G = grownCap w (n + 1) c 51 := ⟨_, rfl⟩
  have hGn : n + 1 ≤ G := by rw [hG]; exact grownCap_ge w _ _ _
  have hGm : G ≤ maxLen := by rw [hG]; exact grownCap_le_maxLen w (n + 1) c 51 (by unfold maxLen; omega)
  have hik : i + (n + 1 - i) = n + 1 := by omega
  have hkk : (n : Int) + 1 - (i : Int) = ((n + 1 - i : Nat) : Int) := by omega
  obtain ⟨ROW, hROW⟩ : ∃ ROW : Array Value, ROW = (xs.take (i * 2)).toArray ++ Builtin.zeroCells (.agg #[.string ⟨#[]⟩, .string ⟨#[]⟩] : Value).cells (n + 1 - i) ++ Builtin.zeroCells (.agg #[.string ⟨#[]⟩, .string ⟨#[]⟩] : Value).cells (G - (n + 1)) := ⟨_, rfl⟩
  have hRs : ROW.size = G * 2 := by
    rw [hROW]
    simp only [Array.size_append, List.size_toArray, htl]
    simp [Builtin.zeroCells, Value.cells]
    omega
  have hRt : ROW.toList.take (i * 2) = xs.take (i * 2) := by
    rw [hROW]
    simp only [Array.toList_append]
    rw [List.append_assoc, List.take_append_of_le_length (by rw [htl]; exact Nat.le_refl _), List.take_of_length_le (by rw [htl]; exact Nat.le_refl _)]
  have hrz : ∀ ty, (Builtin.append_ #[52, 3] ty #[.slice (some ⟨g, 0, none⟩) i c, .int .i64 ((n : Int) + 1 - (i : Int))]).run Try.prog w =
      .ok (.slice (some ⟨w.heap.size, 0, none⟩) (n + 1) G) (w.drew.alloc (.cells ROW 51)) := fun ty => by
    have h := Lib.run_append_grow_zeros (P := Try.prog) w 52 3 ty 51 i0 _ .i64 .i64 Try.underlying52 Try.underlying3 hi0 hz0 (some ⟨g, 0, none⟩) i c (xs.take (i * 2)) hold (n + 1 - i) (by omega) (by omega) (by omega) (by omega) (by rw [hzb]; omega) (by rw [hzb, hik]; exact growslice_fits hroom (by omega))
    rw [hik] at h
    rw [hkk, hROW, hG]
    exact h
  have s1 := fun W => run_from (P := Try.prog) W 52 51 i0 Try.underlying52 hi0 g 0 n c .i64 (i : Int) i (i * 2) (n - i) (c - i) rfl (by omega) (by omega) (by rw [hzs]; omega) rfl rfl
  have s2 := fun W => run_cut_h (P := Try.prog) W 52 51 i0 Try.underlying52 hi0 (some ⟨g, 0, none⟩) n c .i64 (i : Int) i rfl (by omega)
  have s3 := fun W => run_from (P := Try.prog) W 52 51 i0 Try.underlying52 hi0 w.heap.size 0 (n + 1) G .i64 (i : Int) i (i * 2) (n + 1 - i) (G - i) rfl (by omega) (by omega) (by rw [hzs]; omega) rfl rfl
  have s4 := fun W => run_from (P := Try.prog) W 52 51 i0 Try.underlying52 hi0 w.heap.size 0 (n + 1) G .i64 ((i : Int) + 1) (i + 1) ((i + 1) * 2) (n - i) (G - (i + 1)) (by omega) (by omega) (by omega) (by rw [hzs]; omega) (by omega) rfl
  have hcpA : ∀ (W : World), Blk W w.heap.size 51 ROW → Blk W vb 51 cs.toArray → ∀ ty, (Builtin.copy_ #[52, 52] ty #[.slice (some ⟨w.heap.size, i * 2, none⟩) (n + 1 - i) (G - i), .slice (some ⟨vb, 0, none⟩) 1 1]).run Try.prog W = .ok (goInt 1) (W.setCells w.heap.size (i * 2) cs) := fun W hbW hvW ty => by
    have hm : Nat.min 1 (n + 1 - i) = 1 := Nat.min_eq_left (by omega)
    have := run_copy_size (P := Try.prog) W 52 52 ty 51 i0 w.heap.size (i * 2) (n + 1 - i) (G - i) ⟨vb, 0, none⟩ 1 1 cs Try.underlying52 hi0 (by rw [hm, hzs, hcl])
      (fun j v hj => by rw [plus_addr, Nat.zero_add, hvW.cell j]; simpa using hj)
      (fun j hj => by rw [hbW.cell, Array.getElem?_eq_getElem (by rw [hRs]; omega)]; rfl) (fun j hj => hbW.frozen _) h1v
    rw [hm] at this
    exact this
  have hR2s : (overL ROW.toList (i * 2) cs).toArray.size = G * 2 := by
    rw [List.size_toArray, overL_len (by rw [hcl, Array.length_toList, hRs]; omega), Array.length_toList, hRs]
  have hcpB : ∀ (W : World), Blk W w.heap.size 51 (overL ROW.toList (i * 2) cs).toArray → Blk W g 51 cur → ∀ ty, (Builtin.copy_ #[52, 52] ty #[.slice (some ⟨w.heap.size, (i + 1) * 2, none⟩) (n - i) (G - (i + 1)), .slice (some ⟨g, i * 2, none⟩) (n - i) (c - i)]).run Try.prog W = .ok (goInt (n - i : Nat)) (W.setCells w.heap.size ((i + 1) * 2) (xs.drop (i * 2))) := fun W hbW hgW ty => by
    have hm : Nat.min (n - i) (n - i) = n - i := Nat.min_self _
    have := run_copy_size (P := Try.prog) W 52 52 ty 51 i0 w.heap.size ((i + 1) * 2) (n - i) (G - (i + 1)) ⟨g, i * 2, none⟩ (n - i) (c - i) (xs.drop (i * 2)) Try.underlying52 hi0 (by rw [hm, hdl, hzs] <;> omega)
      (fun j v hj => by
        rw [plus_addr]
        rw [List.getElem?_drop] at hj
        rw [hgW.cell, ← hb.cell]
        exact hcs _ v hj)
      (fun j hj => by rw [hbW.cell, Array.getElem?_eq_getElem (by rw [hR2s]; rw [hdl] at hj; omega)]; rfl) (fun j hj => hbW.frozen _) (fun v hv' => h1c v (List.mem_of_mem_drop hv'))
    rw [hm] at this
    exact this
  have hbA : Blk ((w.alloc (.cells ROW 51)).drew) w.heap.size 51 ROW := Blk.new w 51 ROW
  have hvA : Blk ((w.alloc (.cells ROW 51)).drew) vb 51 cs.toArray := hv.alloc _
  have hgrA : w.grownBy ((w.alloc (.cells ROW 51)).drew.setCells w.heap.size (i * 2) cs) none :=
    new_setCells (Nat.le_refl _) _ _ (only_drew (only_alloc (World.grownBy.refl w none) (.cells ROW 51)))
  have hbB : Blk (((w.alloc (.cells ROW 51)).drew.setCells w.heap.size (i * 2) cs).drew) w.heap.size 51 (overL ROW.toList (i * 2) cs).toArray :=
    Blk.setCells (w := w) cs _ hbA (by rw [hcl, hRs]; omega)
  have hgB : Blk (((w.alloc (.cells ROW 51)).drew.setCells w.heap.size (i * 2) cs).drew) g 51 cur := hb.grown (only_drew hgrA) (by simp)
  have hend : row_end ((((w.alloc (.cells ROW 51)).drew.setCells w.heap.size (i * 2) cs).drew).setCells w.heap.size ((i + 1) * 2) (xs.drop (i * 2))) w.heap.size 51 (G * 2) ((n + 1) * 2) (xs.take (i * 2) ++ cs ++ xs.drop (i * 2)) := by
    refine ⟨_, Blk.setCells (w := w) _ _ hbB (by rw [hdl, hR2s]; omega), ?_, ?_⟩
    · have e : (overL ROW.toList (i * 2) cs).length = G * 2 := by simpa using hR2s
      show (overL (overL ROW.toList (i * 2) cs) ((i + 1) * 2) (xs.drop (i * 2))).toArray.size = G * 2
      rw [List.size_toArray, overL_len (by rw [hdl, e]; omega), e]
    · have hRl : ROW.toList.length = G * 2 := by rw [Array.length_toList, hRs]
      exact overL_two (by rw [hdl, hRl]; omega) (by omega) hRt (by rw [hdl]; omega) (by rw [hdl, hRl]; omega) htl
  have hgr : w.grownBy ((((w.alloc (.cells ROW 51)).drew.setCells w.heap.size (i * 2) cs).drew).setCells w.heap.size ((i + 1) * 2) (xs.drop (i * 2))) none :=
    new_setCells (Nat.le_refl _) _ _ (only_drew hgrA)
  have hwi : IntKind.i64.wrap ((i : Int) + 1) = (i : Int) + 1 := IntWalk.i64_in _ (by omega)
  have HE := Lib.hid hend
  have HG := Lib.hid hgr
  have HGm := Lib.hid hGm
  clear hkk hik hold hROW hG hRs hRt hxl hcs hdl htl hcur hx hend hgr hgrA hR2s hGm
  go_enter Try.func87, Try.ntmps87
  go_wp2_with (first
    | (at_builtin; refine Lib.wpList_append_run _ rfl _ _ _ _ rfl _ _ rfl rfl _ _ (hrz _) ?_)
    | (at_builtin; refine wpList_copy_runI _ rfl _ _ 52 52 rfl _ _ rfl rfl (hcpA _ hbA hvA _) ?_))
  go_region_law (refine step_copy_runI rfl _ _ 52 52 rfl _ _ (by simp [Act.eval, Act.put]) (by simp [Act.eval, Act.put]) (hcpB _ hbB hgB _) ?_)
  go_wp2
  go_ret
  obtain ⟨row, e1, e2, e3⟩ := HE.out
  exact ⟨G, row, rfl, e1, e2, hGn, HGm.out, e3, HG.out⟩

set_option maxHeartbeats 1000000 in
theorem insR_last (base n vb : Nat) (v : Value) (xs cs : List Value) (w : World) (hown : w.ownsRow base 51 2 v n xs) (hn : n + 1 ≤ 1048576) (hbase : base ≤ w.heap.size)
    (hv : Blk w vb 51 cs.toArray) (hcl : cs.length = 2) (h1v : ∀ v ∈ cs, v.oneCell' = true) :
    Calls Try.prog 87 #[v, .int .i64 n, .slice (some ⟨vb, 0, none⟩) 1 1] w fun e w' =>
      ∃ v', e = .returned v' ∧ w'.ownsRow base 51 2 v' (n + 1) (xs ++ cs) ∧ w.grownBy w' v.ownBlock ∧ (v'.ownBlock = v.ownBlock ∨ v'.ownBlock = some w.heap.size) := by
  obtain ⟨i0, hi0, hz0, hzs, hzb⟩ := info_parts insR_info
  obtain ⟨A, c, rfl, hA⟩ := own_form hown
  have s1 := fun W => run_cut_l (P := Try.prog) W 52 51 i0 Try.underlying52 hi0 A n c .i64 (n : Int) n rfl (Nat.le_refl _)
  have hcs : ∀ j u, cs[j]? = some u → w.cell? ((⟨vb, 0, none⟩ : Addr).add j) = some u := fun j u hj => by
    rw [plus_addr, Nat.zero_add, hv.cell j]; simpa using hj
  go_enter Try.func87, Try.ntmps87
  go_wp2_with (at_builtin
               refine wpList_append_own_at w rfl _ _ 52 rfl base 51 i0 _ 2 32 Try.underlying52 hi0 hz0 hzs hzb rfl (by decide) (.slice A n c) n xs rfl hown ⟨vb, 0, none⟩ 1 1 cs rfl (by omega) hcs h1v (by unfold maxLen; omega) (by omega) hbase ?_
               intro v' w' k1 k2 k3 k4)
  go_ret
  exact ⟨v', rfl, k1, k2, k4⟩

/-- slices.Insert of one element into a row of the call's own. -/
theorem insR_own (base n i vb : Nat) (v : Value) (xs cs : List Value) (w : World) (hown : w.ownsRow base 51 2 v n xs) (hi : i ≤ n) (hn : n + 1 ≤ 1048576) (hbase : base ≤ w.heap.size)
    (hv : Blk w vb 51 cs.toArray) (hvb : some vb ≠ v.ownBlock) (hcl : cs.length = 2) (h1c : ∀ v ∈ xs, v.oneCell' = true) (h1v : ∀ v ∈ cs, v.oneCell' = true) :
    Calls Try.prog 87 #[v, .int .i64 i, .slice (some ⟨vb, 0, none⟩) 1 1] w fun e w' =>
      ∃ v', e = .returned v' ∧ w'.ownsRow base 51 2 v' (n + 1) (xs.take (i * 2) ++ cs ++ xs.drop (i * 2)) ∧ w.grownBy w' v.ownBlock ∧ (v'.ownBlock = v.ownBlock ∨ v'.ownBlock = some w.heap.size) := by
  have hxl : xs.length = n * 2 := by have := hown.1; omega
  rcases Nat.lt_or_ge i n with hlt | hge
  · rcases hown.2 with ⟨_, h0⟩ | ⟨g, c, cur, rfl, hbg, hg, hnc, hcm, hcs, htk⟩
    · omega
    · have hgb : Blk w g 51 cur := hg
      have hne : vb ≠ g := fun e => hvb (by rw [e]; rfl)
      rcases Nat.lt_or_ge c (n + 1) with hr | hr
      · refine (insR_grow g n c i vb xs cs cur w hlt hnc hr hn hgb hcs htk hv hcl h1c h1v).mono ?_
        rintro e w' ⟨G, row, rfl, k1, k2, k3, k4, k5, k6⟩
        refine ⟨_, rfl, ⟨?_, .inr ⟨_, G, row, rfl, hbase, k1, k3, k4, k2, k5⟩⟩, ?_, .inr rfl⟩
        · simp only [List.length_append, List.length_take, List.length_drop, hxl, hcl]; omega
        · exact ⟨k6.os, k6.tape, k6.output, k6.size, fun k hk _ => k6.block k hk (by simp)⟩
      · refine (insR_shift g n c i vb xs cs cur w hlt hr hcm hne hgb hcs htk hv hcl h1c h1v).mono ?_
        rintro e w' ⟨rfl, rfl⟩
        have hdl : (xs.drop (i * 2)).length = (n - i) * 2 := by rw [List.length_drop, hxl] <;> omega
        have hb1 := Blk.setCells (w := w) (xs.drop (i * 2)) ((i + 1) * 2) (show Blk w.drew g 51 cur from hgb) (by rw [hdl, hcs]; omega)
        have hl1 : (overL cur.toList ((i + 1) * 2) (xs.drop (i * 2))).length = c * 2 := by rw [overL_len (by rw [hdl, Array.length_toList, hcs]; omega), Array.length_toList, hcs]
        have hb2 := Blk.setCells (w := w) cs (i * 2) hb1 (by rw [List.size_toArray, hl1, hcl]; omega)
        refine ⟨_, rfl, ⟨?_, .inr ⟨g, c, _, rfl, hbg, hb2, hr, hcm, ?_, ?_⟩⟩, ?_, .inl rfl⟩
        · simp only [List.length_append, List.length_take, List.length_drop, hxl, hcl]; omega
        · show (overL (overL cur.toList ((i + 1) * 2) (xs.drop (i * 2))) (i * 2) cs).toArray.size = c * 2
          rw [List.size_toArray, overL_len (by rw [hl1, hcl]; omega), hl1]
        · refine overL_two2 (by rw [hdl, Array.length_toList, hcs]; omega) (by omega) ?_ (by rw [hdl]; omega) (by rw [List.length_take, hxl]; omega)
          rw [← htk, List.take_take, Nat.min_eq_left (by omega)]
        · exact only_setCells _ _ (only_setCells _ _ (only_drew (World.grownBy.refl _ _)))
  · obtain rfl : i = n := by omega
    refine (insR_last base i vb v xs cs w hown hn hbase hv hcl h1v).mono ?_
    rintro e w' ⟨v', rfl, k1, k2, k3⟩
    refine ⟨v', rfl, ?_, k2, k3⟩
    rw [List.take_of_length_le (by omega), List.drop_of_length_le (by omega), List.append_nil]
    exact k1

end Go.Proofs.Ytmlgaedhfannmaa
