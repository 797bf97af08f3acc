/- slices.Delete of one row (or none) of a row of the call's own. -/
import Derived.Test.YtmlgaedhfannmaaRwCopy
import Derived.Test.YtmlgaedhfannmaaInsLaws
import Derived.Test.YtmlgaedhfannmaaRows
import Derived.Outline
import Derived.Deep.RegionLaw
namespace Go.Proofs.Ytmlgaedhfannmaa
set_option linter.unusedVariables false
set_option linter.unusedSimpArgs false
open Go.RowKit
/-- The append at an operation of a region that draws. -/
theorem rw_step_app {W w' : World} {ops : Array Oper} {o : Oper} {a : Act} {K : Act → World → Prop} {Q : Exit → Act → World → Prop} {E : Prop} {v' : Value} (hgd : o.guard = none) (s x : Operand) (t : TypeId)
    (ho : o.op = .call { callee := .builtin .append, args := #[s, x], argTypes := #[t, t] }) (vs vx : Value) (hs : a.eval s = vs) (hx : a.eval x = vx)
    (hrun : (Builtin.append_ #[t, t] o.type #[vs, vx]).run Try.prog W = .ok v' w') (h : K (a.put o.dst v') w') :
    if Region.wanted o (yielded ops a.tmps) = true then Oper.wp Try.prog o a W K Q else E := by
  have hw : Region.wanted o (yielded ops a.tmps) = true := by simp [Region.wanted, hgd]
  rw [if_pos hw]
  unfold Oper.wp execOp
  simp only [ho, resolve, invoke, builtin, Sem.run_bind, Sem.run_pure, Result.andThen_ok, List.map_toArray, List.map_cons, List.map_nil, hs, hx, hrun]
  exact h
/-- A slice with three bounds. -/
theorem run_cut3 {P : Program} (w : World) (t e : TypeId) (i : TypeInfo) (ht : P.underlying t = some (.slice e)) (hi : P.info? e = some i) (A : Option Addr) (n c : Nat) (kl kh km : IntKind) (L H M : Int) (lo hg m : Nat) (hL : L = lo) (hH : H = hg) (hM : M = m) (h1 : lo ≤ hg) (h2 : hg ≤ m) (h3 : m ≤ c) :
    (Instr.slice t (.slice A n c) (some (.int kl L)) (some (.int kh H)) (some (.int km M))).run P w = .ok (.slice (cutAt A m lo i.size) (hg - lo) (m - lo)) w := by
  subst hL hH hM
  simp [Instr.slice, run_underlying ht, Instr.sliceBounds, run_sliceBound, sizeOf, typeInfo, hi, cutAt, h1, h2, h3]
/-- clear of one row. -/
theorem run_clear_row (W : World) (ty : TypeId) (b o c : Nat) (hc : ∀ j, j < 2 → (W.cell? ⟨b, o + j, none⟩).isSome = true) (hf : ∀ j, j < 2 → W.frozen? ⟨b, o + j, none⟩ = false) :
    (Builtin.clear_ #[52] ty #[.slice (some ⟨b, o, none⟩) 1 c]).run Try.prog W = .ok (.tuple #[]) (W.setCells b o [.string ⟨#[]⟩, .string ⟨#[]⟩]) := by
  have hst := run_storeCells_cells (P := Try.prog) b o [.string ⟨#[]⟩, .string ⟨#[]⟩] 0 W (by simpa using hc) (by simpa using hf) (by intro v hv; simp at hv; rw [hv]; rfl)
  have hz : (Builtin.zeroCells (Value.agg #[.string ⟨#[]⟩, .string ⟨#[]⟩]).cells 1).toList = [.string ⟨#[]⟩, .string ⟨#[]⟩] := by kernel_rfl
  simp only [Nat.add_zero] at hst
  simp [Builtin.clear_, run_underlying Try.underlying52, Try.zeroValue51, hz, hst]
theorem overL_take {R d : List Value} {o : Nat} (h : o ≤ R.length) : (overL R o d).take o = R.take o := by
  unfold overL
  rw [List.append_assoc, List.take_append_of_le_length (by simp; omega), List.take_take, Nat.min_self]
theorem overL_take2 {R d : List Value} {o : Nat} (h : o + d.length ≤ R.length) : (overL R o d).take (o + d.length) = R.take o ++ d := by
  unfold overL
  rw [List.take_append_of_le_length (by simp; omega), List.take_of_length_le (by simp; omega)]
set_option maxHeartbeats 4000000 in
set_option maxRecDepth 100000 in
theorem del_one (g i m c : Nat) (xs : List Value) (cur : Array Value) (w : World) (hnc : i + 1 + m ≤ c) (hc : c ≤ maxLen)
    (hb : Blk w g 51 cur) (hcur : cur.size = c * 2) (hx : cur.toList.take ((i + 1 + m) * 2) = xs) (h1c : ∀ v ∈ xs, v.oneCell' = true) :
    Calls Try.prog 64 #[.slice (some ⟨g, 0, none⟩) (i + 1 + m : Nat) c, .int .i64 (i : Nat), .int .i64 (i + 1 : Nat)] w fun e w' =>
      e = .returned (.slice (some ⟨g, 0, none⟩) (i + m) c) ∧ w' = (w.drew.setCells g (i * 2) (xs.drop ((i + 1) * 2))).setCells g ((i + m) * 2) [.string ⟨#[]⟩, .string ⟨#[]⟩] := by
  obtain ⟨i0, hi0, hz0, hzs, hzb⟩ := info_parts info_row
  unfold maxLen at hc
  have hxl : xs.length = (i + 1 + m) * 2 := by rw [← hx, List.length_take, Array.length_toList, hcur]; exact Nat.min_eq_left (by omega)
  have hcs : ∀ j v, xs[j]? = some v → w.cell? ⟨g, j, none⟩ = some v := fun j v hj => by
    rw [hb.cell j]
    have hj' : j < (i + 1 + m) * 2 := by rw [← hxl]; exact (List.getElem?_eq_some_iff.1 hj).1
    rw [← hx, List.getElem?_take_of_lt hj'] at hj
    rw [← hj]; simp
  have hdl : (xs.drop ((i + 1) * 2)).length = m * 2 := by rw [List.length_drop, hxl]; omega
  obtain ⟨ad, had, hadc⟩ : ∃ ad, cutAt (some ⟨g, 0, none⟩) c (i + 1) 2 = some ad ∧ ∀ j u, (xs.drop ((i + 1) * 2))[j]? = some u → w.drew.cell? (ad.add j) = some u := by
    unfold cutAt
    by_cases h : c = i + 1
    · refine ⟨⟨g, 0, none⟩, by rw [if_pos h], fun j u hj => ?_⟩
      have h0 : (xs.drop ((i + 1) * 2)) = [] := List.eq_nil_of_length_eq_zero (by rw [hdl]; omega)
      rw [h0] at hj; simp at hj
    · refine ⟨⟨g, (i + 1) * 2, none⟩, by rw [if_neg h]; simp [plus_addr], fun j u hj => ?_⟩
      rw [plus_addr]
      rw [List.getElem?_drop] at hj
      exact hcs _ _ hj
  have s1 := fun W => run_cut3 (P := Try.prog) W 52 51 i0 Try.underlying52 hi0 (some ⟨g, 0, none⟩) (i + 1 + m) c .i64 .i64 .i64 ((i : Nat) : Int) ((i + 1 : Nat) : Int) ((i + 1 + m : Nat) : Int) i (i + 1) (i + 1 + m) rfl rfl rfl (by omega) (by omega) hnc
  have s2 := fun W => run_cut_h (P := Try.prog) W 52 51 i0 Try.underlying52 hi0 (some ⟨g, 0, none⟩) (i + 1 + m) c .i64 ((i : Nat) : Int) i rfl (by omega)
  have s3 := fun W => run_cut_l (P := Try.prog) W 52 51 i0 Try.underlying52 hi0 (some ⟨g, 0, none⟩) (i + 1 + m) c .i64 ((i : Int) + 1) (i + 1) (by omega) (by omega)
  rw [hzs, had, show i + 1 + m - (i + 1) = m by omega] at s3
  have s4 := fun W => run_cut_lh (P := Try.prog) W 52 51 i0 Try.underlying52 hi0 (some ⟨g, 0, none⟩) (i + m) c .i64 .i64 ((i : Int) + (m : Int)) ((i : Int) + 1 + (m : Int)) (i + m) (i + 1 + m) (by omega) (by omega) (by omega) hnc
  have hcz : cutAt (some ⟨g, 0, none⟩) c (i + m) 2 = some ⟨g, (i + m) * 2, none⟩ := by unfold cutAt; rw [if_neg (by omega)]; simp [plus_addr]
  rw [hzs, hcz, show i + 1 + m - (i + m) = 1 by omega] at s4
  have hsp : ∀ j, j < c * 2 → (w.drew.cell? ⟨g, j, none⟩).isSome = true := fun j hj => by
    show (w.cell? ⟨g, j, none⟩).isSome = true
    rw [hb.cell j, Array.getElem?_eq_getElem (by omega)]; rfl
  have R1 := run_append_room_cells (P := Try.prog) w.drew 52 52 51 i0 Try.underlying52 hi0 g 0 i c ad m (c - (i + 1)) (xs.drop ((i + 1) * 2)) (by rw [hdl, hzs]) hadc (fun v hv => h1c v (List.mem_of_mem_drop hv)) (by omega)
    (fun j hj => by rw [hdl] at hj; rw [hzs, Nat.zero_add]; exact hsp _ (by omega)) (fun j _ => hb.frozen _)
  rw [hzs, Nat.zero_add] at R1
  obtain ⟨W1, hW1⟩ : ∃ W1, W1 = w.drew.setCells g (i * 2) (xs.drop ((i + 1) * 2)) := ⟨_, rfl⟩
  have hb1 : Blk W1 g 51 (overL cur.toList (i * 2) (xs.drop ((i + 1) * 2))).toArray := by
    rw [hW1]; exact Blk.setCells (w := w) _ _ (show Blk w.drew g 51 cur from hb) (by rw [hdl, hcur]; omega)
  have hb1s : (overL cur.toList (i * 2) (xs.drop ((i + 1) * 2))).toArray.size = c * 2 := by
    rw [List.size_toArray, overL_len (by rw [hdl, Array.length_toList, hcur]; omega), Array.length_toList, hcur]
  have R2 := fun ty => run_clear_row W1 ty g ((i + m) * 2) (c - (i + m)) (fun j hj => by rw [hb1.cell, Array.getElem?_eq_getElem (by rw [hb1s]; omega)]; rfl) (fun j _ => hb1.frozen _)
  rw [← hW1] at R1
  have HR1 := Lib.hid R1
  have HR2 := Lib.hid R2
  have HW1 := Lib.hid hW1
  have hij : ((i : Nat) : Int) ≠ ((i + 1 : Nat) : Int) := by omega
  have hijb : (((i : Nat) : Int) == ((i + 1 : Nat) : Int)) = false := by rw [beq_eq_false_iff_ne]; exact hij
  clear R1 R2 hW1 hx hxl hcs hdl had hadc hcz hsp hb1 hb1s hcur h1c hb
  go_enter Try.func64, Try.ntmps64
  go_wp2_with fail
  go_region_law (refine rw_step_app rfl (.tmp 22) (.tmp 25) 52 rfl _ _ (by simp [Act.eval, Act.put]) (by simp [Act.eval, Act.put]) HR1.out ?_)
  have R2 := HR2.out 0
  go_wp2
  go_ret
  exact ⟨rfl, by rw [← HW1.out]⟩
/-- slices.Delete of rows from..to of a row of the call's own: one at most. -/
theorem delR_any (base n c i j : Nat) (A : Option Addr) (l : List Rw) (w : World) (hown : w.ownsRow base 51 2 (.slice A n c) n (pcR l)) (hij : j = i ∨ j = i + 1) (hj : j ≤ n) (hn : n ≤ 1048576) (hnc : n ≤ c) :
    Calls Try.prog 64 #[.slice A n c, .int .i64 (i : Nat), .int .i64 (j : Nat)] w fun e w' =>
      e = .returned (.slice A (n - (j - i)) c) ∧ w'.ownsRow base 51 2 (.slice A (n - (j - i)) c) (n - (j - i)) (pcR (l.take i ++ l.drop j)) ∧ w.grownBy w' (.slice A n c : Value).ownBlock := by
  have hln : l.length = n := by have := hown.1; rw [pcR_len] at this; omega
  rcases hij with rfl | rfl
  · have Hown := Lib.hid hown
    obtain ⟨i0, hi0, hz0, hzs, hzb⟩ := info_parts info_row
    have s1 := fun W => run_cut3 (P := Try.prog) W 52 51 i0 Try.underlying52 hi0 A n c .i64 .i64 .i64 ((j : Nat) : Int) ((j : Nat) : Int) (n : Int) j j n rfl rfl rfl (Nat.le_refl _) hj hnc
    clear hown
    go_enter Try.func64, Try.ntmps64
    go_wp2
    go_ret
    refine ⟨by rw [Nat.sub_self, Nat.sub_zero] <;> rfl, ?_, World.grownBy.refl _ _⟩
    rw [Nat.sub_self, Nat.sub_zero, List.take_append_drop]
    exact Hown.out
  · obtain ⟨m, rfl⟩ : ∃ m, n = i + 1 + m := ⟨n - (i + 1), by omega⟩
    rcases hown.2 with ⟨hv, h0⟩ | ⟨g, c', cur, hv, hbg, hg, hnc', hcm, hcs, htk⟩
    · omega
    · injection hv with hA _ hc'
      subst hA hc'
      refine (del_one g i m c (pcR l) cur w hnc hcm hg hcs htk (pcR_one l)).mono ?_
      rintro e w' ⟨rfl, rfl⟩
      have e1 : i + 1 + m - (i + 1 - i) = i + m := by omega
      rw [e1]
      have hdl : ((pcR l).drop ((i + 1) * 2)).length = m * 2 := by rw [List.length_drop, pcR_len]; omega
      have hb1 := Blk.setCells (w := w) ((pcR l).drop ((i + 1) * 2)) (i * 2) (show Blk w.drew g 51 cur from hg) (by rw [hdl, hcs]; omega)
      have hl1 : (overL cur.toList (i * 2) ((pcR l).drop ((i + 1) * 2))).length = c * 2 := by rw [overL_len (by rw [hdl, Array.length_toList, hcs]; omega), Array.length_toList, hcs]
      have hb2 := Blk.setCells (w := w) [.string ⟨#[]⟩, .string ⟨#[]⟩] ((i + m) * 2) hb1 (by rw [List.size_toArray, hl1]; simp; omega)
      refine ⟨rfl, ⟨?_, .inr ⟨g, c, _, rfl, hbg, hb2, by omega, hcm, ?_, ?_⟩⟩, only_setCells _ _ (only_setCells _ _ (only_drew (World.grownBy.refl _ _)))⟩
      · rw [pcR_len, List.length_append, List.length_take, List.length_drop]; omega
      · rw [List.size_toArray, overL_len (by rw [List.toList_toArray, hl1]; simp; omega), List.toList_toArray, hl1]
      · rw [List.toList_toArray, overL_take (by rw [List.toList_toArray, hl1]; omega), List.toList_toArray, show (i + m) * 2 = i * 2 + ((pcR l).drop ((i + 1) * 2)).length by rw [hdl]; omega,
          overL_take2 (by rw [hdl, Array.length_toList, hcs]; omega), pcR_app, ← pcR_take, ← pcR_drop, ← htk, List.take_take, Nat.min_eq_left (by omega)]
end Go.Proofs.Ytmlgaedhfannmaa
