/- slices.Replace of one row (or none) by one, in a row of the call's own. -/
import Derived.Test.YtploicbiapjfdaaRwDel
import Derived.Test.YtploicbiapjfdaaInsR
import Derived.BigQuiet
namespace Go.Proofs.Ytploicbiapjfdaa
set_option linter.unusedVariables false
set_option linter.unusedSimpArgs false
open Go.RowKit
/-- An append, by its run. -/
theorem run_clear_none (W : World) (ty : TypeId) (A : Option Addr) (c : Nat) : (Builtin.clear_ #[29] ty #[.slice A 0 c]).run Try.prog W = .ok (.tuple #[]) W := by
  cases A <;> simp [Builtin.clear_, run_underlying Try.underlying29]
set_option maxHeartbeats 4000000 in
set_option maxRecDepth 100000 in
theorem rep_last (g i c vb : Nat) (xs cs : List Value) (cur : Array Value) (w : World) (hnc : i + 1 ≤ c) (hc : c ≤ maxLen)
    (hb : Blk w g 50 cur) (hcur : cur.size = c * 2) (hv : Blk w vb 50 cs.toArray) (hcl : cs.length = 2) (h1v : ∀ v ∈ cs, v.oneCell' = true) :
    Calls Try.prog 76 #[.slice (some ⟨g, 0, none⟩) (i + 1 : Nat) c, .int .i64 (i : Nat), .int .i64 (i + 1 : Nat), .slice (some ⟨vb, 0, none⟩) 1 1] w fun e w' =>
      e = .returned (.slice (some ⟨g, 0, none⟩) (i + 1) c) ∧ w' = w.setCells g (i * 2) cs := by
  obtain ⟨i0, hi0, hz0, hzs, hzb⟩ := info_parts info_row
  unfold maxLen at hc
  have hvs : ∀ j v, cs[j]? = some v → w.cell? ((⟨vb, 0, none⟩ : Addr).add j) = some v := fun j v hj => by rw [plus_addr, Nat.zero_add, hv.cell j]; simpa using hj
  have s1 := fun W => run_cut_lh (P := Try.prog) W 29 50 i0 Try.underlying29 hi0 (some ⟨g, 0, none⟩) (i + 1) c .i64 .i64 (i : Int) ((i : Int) + 1) i (i + 1) rfl (by omega) (by omega) hnc
  have s2 := fun W => run_cut_h (P := Try.prog) W 29 50 i0 Try.underlying29 hi0 (some ⟨g, 0, none⟩) (i + 1) c .i64 ((i : Nat) : Int) i rfl (by omega)
  have hsp : ∀ j, j < c * 2 → (w.cell? ⟨g, j, none⟩).isSome = true := fun j hj => by rw [hb.cell j, Array.getElem?_eq_getElem (by omega)]; rfl
  have R1 := run_append_room_cells (P := Try.prog) w 29 29 50 i0 Try.underlying29 hi0 g 0 i c ⟨vb, 0, none⟩ 1 1 cs (by rw [hcl, hzs]) hvs h1v hnc
    (fun j hj => by rw [hcl] at hj; rw [hzs, Nat.zero_add]; exact hsp _ (by omega)) (fun j _ => hb.frozen _)
  rw [hzs, Nat.zero_add] at R1
  have HR1 := Lib.hid R1
  have hij : ((i : Nat) : Int) ≠ ((i : Int) + 1) := by omega
  have hijb : (((i : Nat) : Int) == ((i : Int) + 1)) = false := by rw [beq_eq_false_iff_ne]; exact hij
  clear R1 hsp hvs hb hv hcur hcl h1v
  go_enter Try.func76, Try.ntmps76
  go_wp2_with (first | (at_builtin; refine rw_app rfl _ _ _ rfl _ _ (by rfl) (by rfl) HR1.out ?_) | fail)
  go_ret
  exact ⟨rfl, rfl⟩
set_option maxHeartbeats 4000000 in
set_option maxRecDepth 100000 in
theorem rep_mid (g i m c vb : Nat) (xs cs : List Value) (cur : Array Value) (w : World) (hm : 0 < m) (hnc : i + 1 + m ≤ c) (hc : c ≤ maxLen) (hvb : vb ≠ g)
    (hb : Blk w g 50 cur) (hcur : cur.size = c * 2) (hx : cur.toList.take ((i + 1 + m) * 2) = xs) (h1c : ∀ v ∈ xs, v.oneCell' = true) (hv : Blk w vb 50 cs.toArray) (hcl : cs.length = 2) (h1v : ∀ v ∈ cs, v.oneCell' = true) :
    Calls Try.prog 76 #[.slice (some ⟨g, 0, none⟩) (i + 1 + m : Nat) c, .int .i64 (i : Nat), .int .i64 (i + 1 : Nat), .slice (some ⟨vb, 0, none⟩) 1 1] w fun e w' =>
      e = .returned (.slice (some ⟨g, 0, none⟩) (i + 1 + m) c) ∧ ∃ q r, w' = ((w.drewN q).setCells g (i * 2) cs |>.drewN r).setCells g ((i + 1) * 2) (xs.drop ((i + 1) * 2)) := by
  obtain ⟨i0, hi0, hz0, hzs, hzb⟩ := info_parts info_row
  unfold maxLen at hc
  have hxl : xs.length = (i + 1 + m) * 2 := by rw [← hx, List.length_take, Array.length_toList, hcur]; exact Nat.min_eq_left (by omega)
  have hdl : (xs.drop ((i + 1) * 2)).length = m * 2 := by rw [List.length_drop, hxl]; omega
  have s1 := fun W => run_cut_lh (P := Try.prog) W 29 50 i0 Try.underlying29 hi0 (some ⟨g, 0, none⟩) (i + 1 + m) c .i64 .i64 (i : Int) ((i : Int) + 1) i (i + 1) rfl (by omega) (by omega) (by omega)
  have s2 := fun W => run_cut_h (P := Try.prog) W 29 50 i0 Try.underlying29 hi0 (some ⟨g, 0, none⟩) (i + 1 + m) c .i64 ((i : Nat) : Int) i rfl (by omega)
  have s3 := fun W => run_from (P := Try.prog) W 29 50 i0 Try.underlying29 hi0 g 0 (i + 1 + m) c .i64 ((i : Int) + 1) (i + 1) ((i + 1) * 2) m (c - (i + 1)) (by omega) (by omega) (by omega) (by rw [hzs]; omega) (by omega) rfl
  have s4 := fun W => run_cut_h (P := Try.prog) W 29 50 i0 Try.underlying29 hi0 (some ⟨g, 0, none⟩) (i + 1 + m) c .i64 ((i : Int) + 1 + (m : Int)) (i + 1 + m) (by omega) hnc
  have s5 := fun W => run_from (P := Try.prog) W 29 50 i0 Try.underlying29 hi0 g 0 (i + 1 + m) c .i64 (i : Int) i (i * 2) (1 + m) (c - i) rfl (by omega) (by omega) (by rw [hzs]; omega) (by omega) rfl
  have s6 := fun W => run_cut_l (P := Try.prog) W 29 50 i0 Try.underlying29 hi0 (some ⟨g, 0, none⟩) (i + 1 + m) c .i64 ((i : Int) + 1 + (m : Int)) (i + 1 + m) (by omega) (Nat.le_refl _)
  rw [Nat.sub_self] at s6
  have hw1 : IntKind.i64.wrap ((i : Int) + 1) = (i : Int) + 1 := IntWalk.i64_in _ (by omega)
  have hw2 : IntKind.i64.wrap ((i : Int) + 1 + (m : Int)) = (i : Int) + 1 + (m : Int) := IntWalk.i64_in _ (by omega)
  have hcp1 : ∀ q ty, (Builtin.copy_ #[29, 29] ty #[.slice (some ⟨g, i * 2, none⟩) (1 + m) (c - i), .slice (some ⟨vb, 0, none⟩) 1 1]).run Try.prog (w.drewN q) = .ok (goInt 1) ((w.drewN q).setCells g (i * 2) cs) := fun q ty => by
    have hm : Nat.min 1 (1 + m) = 1 := Nat.min_eq_left (by omega)
    have := run_copy_size (P := Try.prog) (w.drewN q) 29 29 ty 50 i0 g (i * 2) (1 + m) (c - i) ⟨vb, 0, none⟩ 1 1 cs Try.underlying29 hi0 (by rw [hm, hzs, hcl])
      (fun j v hj => by rw [plus_addr, Nat.zero_add]; show w.cell? _ = _; rw [hv.cell j]; simpa using hj)
      (fun j hj => by show (w.cell? _).isSome = true; rw [hb.cell, Array.getElem?_eq_getElem (by omega)]; rfl) (fun j hj => hb.frozen _) h1v
    rw [hm] at this
    exact this
  have hW2 : ∀ q, ∃ W2, W2 = (w.drewN q).setCells g (i * 2) cs := fun q => ⟨_, rfl⟩
  have hcp2 : ∀ q r ty, (Builtin.copy_ #[29, 29] ty #[.slice (some ⟨g, (i + 1) * 2, none⟩) m (c - (i + 1)), .slice (some ⟨g, (i + 1) * 2, none⟩) m (c - (i + 1))]).run Try.prog (((w.drewN q).setCells g (i * 2) cs).drewN r) = .ok (goInt (m : Nat)) ((((w.drewN q).setCells g (i * 2) cs).drewN r).setCells g ((i + 1) * 2) (xs.drop ((i + 1) * 2))) := fun q r ty => by
    have hm2 : Nat.min m m = m := Nat.min_self _
    have hb1 : Blk (((w.drewN q).setCells g (i * 2) cs).drewN r) g 50 (overL cur.toList (i * 2) cs).toArray := Blk.setCells (w := w) cs (i * 2) (show Blk (w.drewN q) g 50 cur from hb) (by rw [hcl, hcur]; omega)
    have hl1 : (overL cur.toList (i * 2) cs).length = c * 2 := by rw [overL_len (by rw [hcl, Array.length_toList, hcur]; omega), Array.length_toList, hcur]
    have := run_copy_size (P := Try.prog) (((w.drewN q).setCells g (i * 2) cs).drewN r) 29 29 ty 50 i0 g ((i + 1) * 2) m (c - (i + 1)) ⟨g, (i + 1) * 2, none⟩ m (c - (i + 1)) (xs.drop ((i + 1) * 2)) Try.underlying29 hi0 (by rw [hm2, hzs, hdl])
      (fun j v hj => by
        rw [plus_addr, hb1.cell]
        rw [List.getElem?_drop] at hj
        have hjl : (i + 1) * 2 + j < (i + 1 + m) * 2 := by rw [← hxl]; exact (List.getElem?_eq_some_iff.1 hj).1
        rw [← hx, List.getElem?_take_of_lt hjl] at hj
        rw [List.getElem?_toArray]
        unfold overL
        rw [List.append_assoc, List.getElem?_append_right (by simp; omega), List.getElem?_append_right (by simp [hcl]; omega), List.getElem?_drop]
        rw [← hj]
        congr 1
        simp [hcl]; omega)
      (fun j hj => by rw [hb1.cell, Array.getElem?_eq_getElem (by rw [List.size_toArray, hl1]; rw [hdl] at hj; omega)]; rfl) (fun j hj => hb1.frozen _) (fun v hv' => h1c v (List.mem_of_mem_drop hv'))
    rw [hm2] at this
    exact this
  have Hcp1 := Lib.hid hcp1
  have Hcp2 := Lib.hid hcp2
  have hcn := fun W A c => run_clear_none W 0 A c
  have hij : ((i : Nat) : Int) ≠ ((i : Int) + 1) := by omega
  have hijb : (((i : Nat) : Int) == ((i : Int) + 1)) = false := by rw [beq_eq_false_iff_ne]; exact hij
  have hjn : ((i : Int) + 1) ≠ ((i : Int) + 1 + (m : Int)) := by omega
  have hjnb : (((i : Int) + 1) == ((i : Int) + 1 + (m : Int))) = false := by rw [beq_eq_false_iff_ne]; exact hjn
  have hcc : ¬ ((c : Int) < (i : Int) + 1 + (m : Int)) := by omega
  clear hcp1 hcp2 hdl hxl hb hv hcur hcl h1v hx h1c hW2
  go_enter Try.func76, Try.ntmps76
  go_wp2_with fail
  go_quiet (fail)
  have R1 := fun ty => Hcp1.out nq ty
  go_wp2_with fail
  clear R1
  go_region_law (refine step_copy_runI rfl _ _ 29 29 rfl _ _ (by simp [Act.eval, Act.put]) (by simp [Act.eval, Act.put]) (Hcp2.out nq 1 _) ?_)
  go_wp2
  go_ret
  exact ⟨rfl, nq, 1, rfl⟩
end Go.Proofs.Ytploicbiapjfdaa
