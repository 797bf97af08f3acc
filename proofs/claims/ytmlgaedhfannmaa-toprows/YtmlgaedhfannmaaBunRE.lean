/- Joined texts: RwRep, RwSrch, RwFit, RwChg. -/
import Derived.Test.YtmlgaedhfannmaaRwDel
import Derived.Test.YtmlgaedhfannmaaInsR
import Derived.BigQuiet
import Derived.Test.YtmlgaedhfannmaaBunRA
import Derived.Shelf.SlSorted.Search
import Derived.StillTailTactics
import Derived.Test.YtmlgaedhfannmaaShelfJ
/- slices.Replace of one row (or none) by one, in a row of the call's own. -/
namespace Go.Proofs.Ytmlgaedhfannmaa
set_option linter.unusedVariables false
set_option linter.unusedSimpArgs false
open Go.RowKit
/-- An append, by its run. -/
theorem run_clear_none (W : World) (ty : TypeId) (A : Option Addr) (c : Nat) : (Builtin.clear_ #[52] ty #[.slice A 0 c]).run Try.prog W = .ok (.tuple #[]) W := by
  cases A <;> simp [Builtin.clear_, run_underlying Try.underlying52]
set_option maxHeartbeats 4000000 in
set_option maxRecDepth 100000 in
theorem rep_last (g i c vb : Nat) (xs cs : List Value) (cur : Array Value) (w : World) (hnc : i + 1 ≤ c) (hc : c ≤ maxLen)
    (hb : Blk w g 51 cur) (hcur : cur.size = c * 2) (hv : Blk w vb 51 cs.toArray) (hcl : cs.length = 2) (h1v : ∀ v ∈ cs, v.oneCell' = true) :
    Calls Try.prog 65 #[.slice (some ⟨g, 0, none⟩) (i + 1 : Nat) c, .int .i64 (i : Nat), .int .i64 (i + 1 : Nat), .slice (some ⟨vb, 0, none⟩) 1 1] w fun e w' =>
      e = .returned (.slice (some ⟨g, 0, none⟩) (i + 1) c) ∧ w' = w.setCells g (i * 2) cs := by
  obtain ⟨i0, hi0, hz0, hzs, hzb⟩ := info_parts info_row
  unfold maxLen at hc
  have hvs : ∀ j v, cs[j]? = some v → w.cell? ((⟨vb, 0, none⟩ : Addr).add j) = some v := fun j v hj => by rw [plus_addr, Nat.zero_add, hv.cell j]; simpa using hj
  have s1 := fun W => run_cut_lh (P := Try.prog) W 52 51 i0 Try.underlying52 hi0 (some ⟨g, 0, none⟩) (i + 1) c .i64 .i64 (i : Int) ((i : Int) + 1) i (i + 1) rfl (by omega) (by omega) hnc
  have s2 := fun W => run_cut_h (P := Try.prog) W 52 51 i0 Try.underlying52 hi0 (some ⟨g, 0, none⟩) (i + 1) c .i64 ((i : Nat) : Int) i rfl (by omega)
  have hsp : ∀ j, j < c * 2 → (w.cell? ⟨g, j, none⟩).isSome = true := fun j hj => by rw [hb.cell j, Array.getElem?_eq_getElem (by omega)]; rfl
  have R1 := run_append_room_cells (P := Try.prog) w 52 52 51 i0 Try.underlying52 hi0 g 0 i c ⟨vb, 0, none⟩ 1 1 cs (by rw [hcl, hzs]) hvs h1v hnc
    (fun j hj => by rw [hcl] at hj; rw [hzs, Nat.zero_add]; exact hsp _ (by omega)) (fun j _ => hb.frozen _)
  rw [hzs, Nat.zero_add] at R1
  have HR1 := Lib.hid R1
  have hij : ((i : Nat) : Int) ≠ ((i : Int) + 1) := by omega
  have hijb : (((i : Nat) : Int) == ((i : Int) + 1)) = false := by rw [beq_eq_false_iff_ne]; exact hij
  clear R1 hsp hvs hb hv hcur hcl h1v
  go_enter Try.func65, Try.ntmps65
  go_wp2_with (first | (at_builtin; refine rw_app rfl _ _ _ rfl _ _ (by rfl) (by rfl) HR1.out ?_) | fail)
  go_ret
  exact ⟨rfl, rfl⟩
set_option maxHeartbeats 4000000 in
set_option maxRecDepth 100000 in
theorem rep_mid (g i m c vb : Nat) (xs cs : List Value) (cur : Array Value) (w : World) (hm : 0 < m) (hnc : i + 1 + m ≤ c) (hc : c ≤ maxLen) (hvb : vb ≠ g)
    (hb : Blk w g 51 cur) (hcur : cur.size = c * 2) (hx : cur.toList.take ((i + 1 + m) * 2) = xs) (h1c : ∀ v ∈ xs, v.oneCell' = true) (hv : Blk w vb 51 cs.toArray) (hcl : cs.length = 2) (h1v : ∀ v ∈ cs, v.oneCell' = true) :
    Calls Try.prog 65 #[.slice (some ⟨g, 0, none⟩) (i + 1 + m : Nat) c, .int .i64 (i : Nat), .int .i64 (i + 1 : Nat), .slice (some ⟨vb, 0, none⟩) 1 1] w fun e w' =>
      e = .returned (.slice (some ⟨g, 0, none⟩) (i + 1 + m) c) ∧ ∃ q r, w' = ((w.drewN q).setCells g (i * 2) cs |>.drewN r).setCells g ((i + 1) * 2) (xs.drop ((i + 1) * 2)) := by
  obtain ⟨i0, hi0, hz0, hzs, hzb⟩ := info_parts info_row
  unfold maxLen at hc
  have hxl : xs.length = (i + 1 + m) * 2 := by rw [← hx, List.length_take, Array.length_toList, hcur]; exact Nat.min_eq_left (by omega)
  have hdl : (xs.drop ((i + 1) * 2)).length = m * 2 := by rw [List.length_drop, hxl]; omega
  have s1 := fun W => run_cut_lh (P := Try.prog) W 52 51 i0 Try.underlying52 hi0 (some ⟨g, 0, none⟩) (i + 1 + m) c .i64 .i64 (i : Int) ((i : Int) + 1) i (i + 1) rfl (by omega) (by omega) (by omega)
  have s2 := fun W => run_cut_h (P := Try.prog) W 52 51 i0 Try.underlying52 hi0 (some ⟨g, 0, none⟩) (i + 1 + m) c .i64 ((i : Nat) : Int) i rfl (by omega)
  have s3 := fun W => run_from (P := Try.prog) W 52 51 i0 Try.underlying52 hi0 g 0 (i + 1 + m) c .i64 ((i : Int) + 1) (i + 1) ((i + 1) * 2) m (c - (i + 1)) (by omega) (by omega) (by omega) (by rw [hzs]; omega) (by omega) rfl
  have s4 := fun W => run_cut_h (P := Try.prog) W 52 51 i0 Try.underlying52 hi0 (some ⟨g, 0, none⟩) (i + 1 + m) c .i64 ((i : Int) + 1 + (m : Int)) (i + 1 + m) (by omega) hnc
  have s5 := fun W => run_from (P := Try.prog) W 52 51 i0 Try.underlying52 hi0 g 0 (i + 1 + m) c .i64 (i : Int) i (i * 2) (1 + m) (c - i) rfl (by omega) (by omega) (by rw [hzs]; omega) (by omega) rfl
  have s6 := fun W => run_cut_l (P := Try.prog) W 52 51 i0 Try.underlying52 hi0 (some ⟨g, 0, none⟩) (i + 1 + m) c .i64 ((i : Int) + 1 + (m : Int)) (i + 1 + m) (by omega) (Nat.le_refl _)
  rw [Nat.sub_self] at s6
  have hw1 : IntKind.i64.wrap ((i : Int) + 1) = (i : Int) + 1 := IntWalk.i64_in _ (by omega)
  have hw2 : IntKind.i64.wrap ((i : Int) + 1 + (m : Int)) = (i : Int) + 1 + (m : Int) := IntWalk.i64_in _ (by omega)
  have hcp1 : ∀ q ty, (Builtin.copy_ #[52, 52] ty #[.slice (some ⟨g, i * 2, none⟩) (1 + m) (c - i), .slice (some ⟨vb, 0, none⟩) 1 1]).run Try.prog (w.drewN q) = .ok (goInt 1) ((w.drewN q).setCells g (i * 2) cs) := fun q ty => by
    have hm : Nat.min 1 (1 + m) = 1 := Nat.min_eq_left (by omega)
    have := run_copy_size (P := Try.prog) (w.drewN q) 52 52 ty 51 i0 g (i * 2) (1 + m) (c - i) ⟨vb, 0, none⟩ 1 1 cs Try.underlying52 hi0 (by rw [hm, hzs, hcl])
      (fun j v hj => by rw [plus_addr, Nat.zero_add]; show w.cell? _ = _; rw [hv.cell j]; simpa using hj)
      (fun j hj => by show (w.cell? _).isSome = true; rw [hb.cell, Array.getElem?_eq_getElem (by omega)]; rfl) (fun j hj => hb.frozen _) h1v
    rw [hm] at this
    exact this
  have hW2 : ∀ q, ∃ W2, W2 = (w.drewN q).setCells g (i * 2) cs := fun q => ⟨_, rfl⟩
  have hcp2 : ∀ q r ty, (Builtin.copy_ #[52, 52] ty #[.slice (some ⟨g, (i + 1) * 2, none⟩) m (c - (i + 1)), .slice (some ⟨g, (i + 1) * 2, none⟩) m (c - (i + 1))]).run Try.prog (((w.drewN q).setCells g (i * 2) cs).drewN r) = .ok (goInt (m : Nat)) ((((w.drewN q).setCells g (i * 2) cs).drewN r).setCells g ((i + 1) * 2) (xs.drop ((i + 1) * 2))) := fun q r ty => by
    have hm2 : Nat.min m m = m := Nat.min_self _
    have hb1 : Blk (((w.drewN q).setCells g (i * 2) cs).drewN r) g 51 (overL cur.toList (i * 2) cs).toArray := Blk.setCells (w := w) cs (i * 2) (show Blk (w.drewN q) g 51 cur from hb) (by rw [hcl, hcur]; omega)
    have hl1 : (overL cur.toList (i * 2) cs).length = c * 2 := by rw [overL_len (by rw [hcl, Array.length_toList, hcur]; omega), Array.length_toList, hcur]
    have := run_copy_size (P := Try.prog) (((w.drewN q).setCells g (i * 2) cs).drewN r) 52 52 ty 51 i0 g ((i + 1) * 2) m (c - (i + 1)) ⟨g, (i + 1) * 2, none⟩ m (c - (i + 1)) (xs.drop ((i + 1) * 2)) Try.underlying52 hi0 (by rw [hm2, hzs, hdl])
      (fun j v hj => by
        rw [plus_addr, hb1.cell]
        rw [List.getElem?_drop] at hj
        have hjl : (i + 1) * 2 + j < (i + 1 + m) * 2 := by rw [← hxl]; exact (List.getElem?_eq_some_iff.1 hj).1
        rw [← hx, List.getElem?_take_of_lt hjl] at hj
        rw [List.getElem?_toArray]
        unfold overL
        rw [List.append_assoc, List.getElem?_append_right (by simp; omega), List.getElem?_append_right (by simp [hcl]; omega), List.getElem?_drop]
        rw [← hj]
        congr 1
        simp [hcl]; omega)
      (fun j hj => by rw [hb1.cell, Array.getElem?_eq_getElem (by rw [List.size_toArray, hl1]; rw [hdl] at hj; omega)]; rfl) (fun j hj => hb1.frozen _) (fun v hv' => h1c v (List.mem_of_mem_drop hv'))
    rw [hm2] at this
    exact this
  have Hcp1 := Lib.hid hcp1
  have Hcp2 := Lib.hid hcp2
  have hcn := fun W A c => run_clear_none W 0 A c
  have hij : ((i : Nat) : Int) ≠ ((i : Int) + 1) := by omega
  have hijb : (((i : Nat) : Int) == ((i : Int) + 1)) = false := by rw [beq_eq_false_iff_ne]; exact hij
  have hjn : ((i : Int) + 1) ≠ ((i : Int) + 1 + (m : Int)) := by omega
  have hjnb : (((i : Int) + 1) == ((i : Int) + 1 + (m : Int))) = false := by rw [beq_eq_false_iff_ne]; exact hjn
  have hcc : ¬ ((c : Int) < (i : Int) + 1 + (m : Int)) := by omega
  clear hcp1 hcp2 hdl hxl hb hv hcur hcl h1v hx h1c hW2
  go_enter Try.func65, Try.ntmps65
  go_wp2_with fail
  go_quiet (fail)
  have R1 := fun ty => Hcp1.out nq ty
  go_wp2_with fail
  clear R1
  go_region_law (refine step_copy_runI rfl _ _ 52 52 rfl _ _ (by simp [Act.eval, Act.put]) (by simp [Act.eval, Act.put]) (Hcp2.out nq 1 _) ?_)
  go_wp2
  go_ret
  exact ⟨rfl, nq, 1, rfl⟩
end Go.Proofs.Ytmlgaedhfannmaa

/- Sorted tables: sort.Search, and firstFit over it. -/
namespace Go.Proofs.Ytmlgaedhfannmaa
set_option linter.unusedVariables false
set_option linter.unusedSimpArgs false
open Go.RowKit Go.Lib Go.Sort
def srchRen : Go.Shelf.Ren := ⟨fun | 16 => 85 | n => n, fun | 3 => 3 | 4 => 4 | 35 => 163 | 38 => 193 | n => n, fun | n => n⟩
theorem srchLay : SlLaysO.n16 Try.prog srchRen := {
  mixed := by kernel_rfl
  f16 := Try.func85.trans (congrArg some (by kernel_rfl))
  t3 := Try.underlying3
  a3 := Try.isAgg3
  z3 := Try.sizeOf3
  v3 := Try.zeroValue3
  t4 := Try.underlying4
  a4 := Try.isAgg4
  z4 := Try.sizeOf4
  v4 := Try.zeroValue4
  t35 := Try.underlying163
  a35 := Try.isAgg163
  z35 := Try.sizeOf163
  v35 := Try.zeroValue163
  t38 := Try.underlying193
  a38 := Try.isAgg193
  z38 := Try.sizeOf193
  v38 := Try.zeroValue193 }

def keyAt (l : List Rw) (i : Nat) : List UInt8 := ((l[i]?).map (·.key)).getD []
theorem keyAt_eq {l : List Rw} {i : Nat} (h : i < l.length) : keyAt l i = l[i].key := by unfold keyAt; rw [List.getElem?_eq_getElem h]; rfl
theorem count_at (f : List UInt8 → Bool) : ∀ l : List Rw, (List.range l.length).countP (fun i => f (keyAt l i)) = l.countP (fun r => f r.key)
  | [] => rfl
  | r :: l => by
    rw [List.length_cons, List.range_succ_eq_map, List.countP_cons, List.countP_cons, List.countP_map, ← count_at f l]
    rfl
theorem mono_at {p : List UInt8 → Bool} (hp : upP p) {l : List Rw} (hs : srt l) : ∀ a b, a ≤ b → b < l.length → p (keyAt l a) = true → p (keyAt l b) = true := by
  intro a b hab hb h
  rcases Nat.lt_or_ge a b with hlt | hge
  · rw [keyAt_eq (by omega)] at h
    rw [keyAt_eq hb]
    exact hp _ _ (srt_at (by omega) hb hs hlt) h
  · obtain rfl : a = b := by omega
    exact h
/-- What a test of keys must do: a closure that reads only. -/
def Fits (w : World) (g : Nat) (cb : Array Value) (p : List UInt8 → Bool) : Prop :=
  (∀ args W, (callFunc g args).run Try.prog W = .ok (.enter g args) W) ∧
  ∀ (k : List UInt8) (W : World), Below w.heap.size w W → Calls Try.prog g (#[str k] ++ cb) W fun e w' => e = .returned (.bool (p k)) ∧ w' = W
set_option maxHeartbeats 1000000 in
set_option maxRecDepth 100000 in
theorem fit1_any (w : World) (g : Nat) (cb : Array Value) (p : List UInt8 → Bool) (hf : Fits w g cb p) (A : Option Addr) (n c B : Nat) (l : List Rw) (hl : RIn w B A n c l) (hB : B ≤ w.heap.size)
    (W : World) (hW : Below w.heap.size w W) (bl bf i : Nat) (hi : i < n) (hcl : W.cell? ⟨bl, 0, none⟩ = some (.slice A n c)) (hcf : W.cell? ⟨bf, 0, none⟩ = some (.func (.func g) #[] cb)) :
    Calls Try.prog 86 (#[.int .i64 i] ++ #[.pointer (some ⟨bf, 0, none⟩), .pointer (some ⟨bl, 0, none⟩)]) W fun e w' => e = .returned (.bool (p (keyAt l i))) ∧ ∃ q, w' = W.drewN q := by
  have hil : i < l.length := by rw [hl.1]; exact hi
  obtain ⟨b, off, rfl, hb, c0, _⟩ := (hl.below (hW.mono hB)).at_ hil
  rw [keyAt_eq hil]
  have HC := Lib.hid (hf.2 l[i].key W.drew hW.drew)
  have eg := hf.1
  generalize l[i].key = k at *
  have hii : (i : Int) < (n : Int) := by omega
  clear hf hl hW
  go_enter Try.func86, Try.ntmps86
  go_wp2_with fail
  go_still_tail 6, (by kernel_rfl)
  change wpList _ _ _ _ _ W.drew
  go_wp2_with (go_at_fn g; refine HC.out.mono ?_; rintro e w' ⟨rfl, rfl⟩)
  go_ret
  exact ⟨rfl, 1, rfl⟩
set_option maxHeartbeats 1000000 in
set_option maxRecDepth 100000 in
theorem firstFit_any (p : List UInt8 → Bool) (hp : upP p) (A : Option Addr) (n c B : Nat) (l : List Rw) (w : World) (hl : RIn w B A n c l) (hB : B ≤ w.heap.size) (hs : srt l) (hn : n ≤ 1048576) (g : Nat) (cb : Array Value) (hf : Fits w g cb p) :
    Calls Try.prog 61 #[.slice A n c, .func (.func g) #[] cb] w fun e w' => e = .returned (.int .i64 (l.countP (fun r => !p r.key) : Nat)) ∧ Below w.heap.size w w' := by
  obtain ⟨W0, hW0⟩ : ∃ W0, W0 = (w.alloc (.cells #[.slice A n c] 52)).alloc (.cells #[.func (.func g) #[] cb] 87) := ⟨_, rfl⟩
  have hsize : W0.heap.size = w.heap.size + 1 + 1 := by rw [hW0]; simp
  have ca : W0.cell? ⟨w.heap.size, 0, none⟩ = some (.slice A n c) := by rw [hW0]; exact cell_alloc_sl _ (cell_new_sl w _ _)
  have cx : W0.cell? ⟨w.heap.size + 1, 0, none⟩ = some (.func (.func g) #[] cb) := by
    rw [hW0]
    have := cell_new_sl (w.alloc (.cells #[.slice A n c] 52)) (.func (.func g) #[] cb) 87
    rwa [World.size_alloc] at this
  have hb0 : Below w.heap.size w W0 := by rw [hW0]; exact ((Below.refl _ _).alloc (Nat.le_refl _) _).alloc (by simp) _
  have eg : ∀ args W, (callFunc 86 args).run Try.prog W = .ok (.enter 86 args) W := enters_of Try.func86 (by kernel_rfl) rfl
  have hln := hl.1
  have hS : Calls Try.prog 85 #[.int .i64 n, .func (.func 86) #[] #[.pointer (some ⟨w.heap.size + 1, 0, none⟩), .pointer (some ⟨w.heap.size, 0, none⟩)]] W0 fun e w' => e = .returned (.int .i64 ((List.range n).countP (fun i => !p (keyAt l i)) : Nat)) ∧ ∃ q os, w' = grow (W0.drewN q) os :=
    Any.sort_Search srchLay 86 #[.pointer (some ⟨w.heap.size + 1, 0, none⟩), .pointer (some ⟨w.heap.size, 0, none⟩)] n (fun i => p (keyAt l i)) W0 eg (by omega)
      (fun m os i hi => (fit1_any w g cb p hf A n c B l hl hB (grow (W0.drewN m) os) (hb0.trans (below_grown_sl w.heap.size W0 m os (by omega))) w.heap.size (w.heap.size + 1) i hi
        (cell_grown (by simp [hsize]; omega) ca m os) (cell_grown (by simp [hsize]) cx m os)).mono fun _ _ ⟨he, q, hq⟩ => ⟨he, q, #[], by rw [hq, grow_empty]⟩)
      (fun a b hab hb h => mono_at hp hs a b hab (by omega) h)
  rw [← hln, count_at (fun k => !p k) l, hln] at hS
  have HS := Lib.hid hS
  have Hb0 := Lib.hid hb0
  generalize l.countP (fun r => !p r.key) = r at *
  have HW0 := Lib.hid hW0
  clear hS hb0 hf hl ca cx hs hp hln eg hW0
  go_enter Try.func61, Try.ntmps61
  go_wp2_with (go_at_call 85; rw [← HW0.out]; refine HS.out.mono ?_; rintro e w' ⟨rfl, q, os, rfl⟩)
  go_ret
  exact ⟨rfl, Hb0.out.trans (below_grown_sl w.heap.size W0 q os (by omega))⟩
end Go.Proofs.Ytmlgaedhfannmaa

/- Sorted tables: the tests of keys that firstFit is called with. -/
namespace Go.Proofs.Ytmlgaedhfannmaa
set_option linter.unusedVariables false
set_option linter.unusedSimpArgs false
open Go.RowKit Go.Lib
section
variable {w : World} {bx : Nat} {key : List UInt8} (hb : bx < w.heap.size) (hc : w.cell? ⟨bx, 0, none⟩ = some (str key))
include hb hc
theorem fits_find : Fits w 105 #[.pointer (some ⟨bx, 0, none⟩)] (fun k => !Op.bytesLess k key) := by
  refine ⟨enters_of Try.func105 (by kernel_rfl) rfl, fun k W hW => ?_⟩
  have hx : W.cell? ⟨bx, 0, none⟩ = some (str key) := (hW.cell hb).trans hc
  clear hc hW
  go_enter Try.func105, Try.ntmps105
  go_wp2
  go_ret
  exact ⟨rfl, rfl⟩
theorem fits_beg1 : Fits w 80 #[.pointer (some ⟨bx, 0, none⟩)] (fun k => !Op.bytesLess k key) := by
  refine ⟨enters_of Try.func80 (by kernel_rfl) rfl, fun k W hW => ?_⟩
  have hx : W.cell? ⟨bx, 0, none⟩ = some (str key) := (hW.cell hb).trans hc
  clear hc hW
  go_enter Try.func80, Try.ntmps80
  go_wp2
  go_ret
  exact ⟨rfl, rfl⟩
theorem fits_ch1 : Fits w 62 #[.pointer (some ⟨bx, 0, none⟩)] (fun k => !Op.bytesLess k key) := by
  refine ⟨enters_of Try.func62 (by kernel_rfl) rfl, fun k W hW => ?_⟩
  have hx : W.cell? ⟨bx, 0, none⟩ = some (str key) := (hW.cell hb).trans hc
  clear hc hW
  go_enter Try.func62, Try.ntmps62
  go_wp2
  go_ret
  exact ⟨rfl, rfl⟩
theorem fits_ch2 : Fits w 63 #[.pointer (some ⟨bx, 0, none⟩)] (fun k => !(Op.bytesLess k key || k == key)) := by
  refine ⟨enters_of Try.func63 (by kernel_rfl) rfl, fun k W hW => ?_⟩
  have hx : W.cell? ⟨bx, 0, none⟩ = some (str key) := (hW.cell hb).trans hc
  have HE := Lib.hid (bl_leq2 k key)
  clear hc hW
  go_enter Try.func63, Try.ntmps63
  go_wp2
  go_ret
  exact ⟨by rw [HE.out, Bool.not_not] <;> rfl, rfl⟩
theorem fits_beg2 : Fits w 81 #[.pointer (some ⟨bx, 0, none⟩)] (fun k => !Op.bytesLess k key && !key.isPrefixOf k) := by
  refine ⟨enters_of Try.func81 (by kernel_rfl) rfl, fun k W hW => ?_⟩
  have hx : W.cell? ⟨bx, 0, none⟩ = some (str key) := (hW.cell hb).trans hc
  have HP := Lib.hid (show Calls Try.prog 82 #[str k, str key] W fun e w' => e = .returned (.bool (key.isPrefixOf k)) ∧ w' = W from Try.strings_HasPrefix ⟨k.toArray⟩ ⟨key.toArray⟩ W)
  clear hc hW
  cases hl : Op.bytesLess k key
  · go_enter Try.func81, Try.ntmps81
    go_wp2_with (first | (go_at_call 82; refine HP.out.mono ?_; rintro e w' ⟨rfl, rfl⟩) | fail)
    go_ret
    exact ⟨by simp [hl], rfl⟩
  · go_enter Try.func81, Try.ntmps81
    go_wp2
    go_ret
    exact ⟨by simp [hl], rfl⟩
end
end Go.Proofs.Ytmlgaedhfannmaa

/- Sorted tables: slices.Replace at every place, slices.Clone; change of a table of the call's own. -/
namespace Go.Proofs.Ytmlgaedhfannmaa
set_option linter.unusedVariables false
set_option linter.unusedSimpArgs false
open Go.RowKit
theorem rw_drewN {a w : World} {row : Option Nat} (n : Nat) (h : a.grownBy w row) : a.grownBy (w.drewN n) row := ⟨h.os, h.tape, h.output, h.size, h.block⟩
set_option maxHeartbeats 1000000 in
set_option maxRecDepth 100000 in
theorem repR_any (base n i j vb : Nat) (v : Value) (l : List Rw) (r : Rw) (w : World) (hown : w.ownsRow base 51 2 v n (pcR l)) (hij : j = i ∨ j = i + 1) (hj : j ≤ n) (hn : n + 1 ≤ 1048576) (hbase : base ≤ w.heap.size)
    (hv : Blk w vb 51 #[str r.key, str r.val]) (hvb : some vb ≠ v.ownBlock) :
    Calls Try.prog 65 #[v, .int .i64 (i : Nat), .int .i64 (j : Nat), .slice (some ⟨vb, 0, none⟩) 1 1] w fun e w' =>
      ∃ v', e = .returned v' ∧ w'.ownsRow base 51 2 v' (n + 1 - (j - i)) (pcR (l.take i ++ [r] ++ l.drop j)) ∧ w.grownBy w' v.ownBlock := by
  have hln : l.length = n := by have := hown.1; rw [pcR_len] at this; omega
  have hrc : (rc r).toArray = #[str r.key, str r.val] := rfl
  rcases hij with rfl | rfl
  · obtain ⟨A, c, rfl, hA⟩ := own_form hown
    obtain ⟨i0, hi0, hz0, hzs, hzb⟩ := info_parts info_row
    have hnc : n ≤ c := by
      rcases hown.2 with ⟨hv0, h0⟩ | ⟨g, c', cur, hv0, hbg, hg, hnc, hrest⟩
      · omega
      · injection hv0; omega
    have s1 := fun W => run_cut_lh (P := Try.prog) W 52 51 i0 Try.underlying52 hi0 A n c .i64 .i64 ((j : Nat) : Int) ((j : Nat) : Int) j j rfl rfl (Nat.le_refl _) (by omega)
    have HI := Lib.hid (insR_own base n j vb (.slice A n c) (pcR l) (rc r) w hown hj hn hbase hv hvb rfl (pcR_one l) (rc_one r))
    clear hown hv
    go_enter Try.func65, Try.ntmps65
    go_wp2_with fail
    refine HI.out.mono ?_
    rintro e w1 ⟨v', rfl, k1, k2, k3⟩
    have K1 := Lib.hid k1
    have K2 := Lib.hid k2
    clear k1 k2 HI
    go_wp2_with fail
    go_ret
    refine ⟨v', rfl, ?_, K2.out⟩
    rw [Nat.sub_self, Nat.sub_zero, pcR_app, pcR_app, ← pcR_take, ← pcR_drop]
    have := K1.out
    simpa [pcR] using this
  · obtain ⟨m, rfl⟩ : ∃ m, n = i + 1 + m := ⟨n - (i + 1), by omega⟩
    rcases hown.2 with ⟨hv0, h0⟩ | ⟨g, c, cur, rfl, hbg, hg, hnc, hcm, hcs, htk⟩
    · omega
    · have hne : vb ≠ g := fun e => hvb (by rw [e]; rfl)
      have e1 : i + 1 + m + 1 - (i + 1 - i) = i + 1 + m := by omega
      rw [e1]
      have hb1 := fun q => Blk.setCells (w := w) (rc r) (i * 2) (show Blk (w.drewN q) g 51 cur from hg) (by rw [rc_len, hcs]; omega)
      have hl1 : (overL cur.toList (i * 2) (rc r)).length = c * 2 := by rw [overL_len (by rw [rc_len, Array.length_toList, hcs]; omega), Array.length_toList, hcs]
      have htk1 : cur.toList.take (i * 2) = pcR (l.take i) := by rw [← pcR_take, ← htk, List.take_take, Nat.min_eq_left (by omega)]
      rcases Nat.eq_zero_or_pos m with rfl | hm
      · refine (rep_last g i c vb (pcR l) (rc r) cur w hnc hcm hg hcs hv rfl (rc_one r)).mono ?_
        rintro e w' ⟨rfl, rfl⟩
        refine ⟨_, rfl, ⟨?_, .inr ⟨g, c, _, rfl, hbg, hb1 0, hnc, hcm, ?_, ?_⟩⟩, only_setCells _ _ (World.grownBy.refl _ _)⟩
        · rw [pcR_len, List.length_append, List.length_append, List.length_take, List.length_drop, List.length_singleton]; omega
        · rw [List.size_toArray, hl1]
        · rw [List.toList_toArray, show (i + 1 + 0) * 2 = i * 2 + (rc r).length by rw [rc_len]; omega, overL_take2 (by rw [rc_len, Array.length_toList, hcs]; omega), htk1, List.drop_of_length_le (by omega), List.append_nil, pcR_app]
          simp [pcR]
      · refine (rep_mid g i m c vb (pcR l) (rc r) cur w hm hnc hcm hne hg hcs htk (pcR_one l) hv rfl (rc_one r)).mono ?_
        rintro e w' ⟨rfl, q, s, rfl⟩
        have hdl : ((pcR l).drop ((i + 1) * 2)).length = m * 2 := by rw [List.length_drop, pcR_len]; omega
        have hb2 := Blk.setCells (w := w) ((pcR l).drop ((i + 1) * 2)) ((i + 1) * 2) (show Blk (((w.drewN q).setCells g (i * 2) (rc r)).drewN s) g 51 _ from hb1 q) (by rw [hdl, List.size_toArray, hl1]; omega)
        refine ⟨_, rfl, ⟨?_, .inr ⟨g, c, _, rfl, hbg, hb2, hnc, hcm, ?_, ?_⟩⟩, only_setCells _ _ (rw_drewN s (only_setCells _ _ (rw_drewN q (World.grownBy.refl _ _))))⟩
        · rw [pcR_len, List.length_append, List.length_append, List.length_take, List.length_drop, List.length_singleton]; omega
        · rw [List.size_toArray, overL_len (by rw [hdl, List.toList_toArray, hl1]; omega), List.toList_toArray, hl1]
        · rw [List.toList_toArray]
          have := overL_two (R := cur.toList) (a := pcR (l.take i)) (cs := rc r) (d := (pcR l).drop ((i + 1) * 2)) (o := i * 2) (o2 := (i + 1) * 2) (m := (i + 1 + m) * 2) (by rw [hdl, Array.length_toList, hcs]; omega) (by rw [rc_len]; omega) htk1 (by rw [hdl]; omega) (by rw [hdl, Array.length_toList, hcs]; omega) (by rw [pcR_len, List.length_take]; omega)
          rw [List.toList_toArray] at this
          rw [this, pcR_app, pcR_app, ← pcR_drop]
          simp [pcR]
theorem rw_eql_nil (w : World) (a : Option Addr) (n c : Nat) : (binOp .eql 52 (.slice a n c) (.slice none 0 0)).run Try.prog w = .ok (.bool a.isNone) w := by
  simp only [binOp]
  simp [Op.equal, Op.maxDepth, Lib.run_equalIn_slice_nil w 9999 52 _ a n c 0 0 Try.underlying52]
/-- slices.Clone. -/
theorem cloneR_any (A : Option Addr) (n c B : Nat) (l : List Rw) (w : World) (hl : RIn w B A n c l) (hB : B ≤ w.heap.size) (hn : n ≤ 1048576) :
    Calls Try.prog 41 #[.slice A n c] w fun e w' => ∃ v, e = .returned v ∧ w'.ownsRow w.heap.size 51 2 v n (pcR l) ∧ Below w.heap.size w w' := by
  obtain ⟨hln, hnc, hA, hh⟩ := hl
  have q22 := rw_eql_nil
  cases A with
  | none =>
    obtain rfl : c = 0 := hA rfl
    obtain rfl : n = 0 := by omega
    have hl0 : l = [] := List.eq_nil_of_length_eq_zero hln
    subst hl0
    clear hh hA hln hnc
    go_enter Try.func41, Try.ntmps41
    go_wp2
    go_ret
    exact ⟨_, rfl, World.ownsRow_nil _ _ _ _, Below.refl _ _⟩
  | some ad =>
    obtain ⟨i0, hi0, hz0, hzs, hzb⟩ := info_parts info_row
    have hW : Below w.heap.size w (w.alloc (.cells #[] 51)) := (Below.refl _ _).alloc (Nat.le_refl _) _
    have ho : (w.alloc (.cells #[] 51)).ownsRow w.heap.size 51 2 (.slice (some ⟨w.heap.size, 0, none⟩) 0 0) 0 [] :=
      ⟨rfl, .inr ⟨w.heap.size, 0, #[], rfl, Nat.le_refl _, Blk.new w _ _, Nat.le_refl _, Nat.zero_le _, rfl, rfl⟩⟩
    obtain ⟨v', w', hr, h1, h2, h3⟩ := run_app_all (P := Try.prog) (w.alloc (.cells #[] 51)) 52 52 w.heap.size 51 i0 _ 2 32 Try.underlying52 hi0 hz0 hzs hzb rfl (by decide) _ 0 [] ho B (some ad) n c (pcR l) (fun h => by cases h) (hh.below (hW.mono hB)) (pcR_one l) (by omega) (by decide) (by simp)
    have HR := Lib.hid hr
    have H1 := Lib.hid h1
    have HB := Lib.hid (below_own hW h2 ho (Nat.le_refl _) (by simp))
    clear hr h1 h2 ho hW hh hA
    go_enter Try.func41, Try.ntmps41
    go_wp2_with (first | (at_builtin; refine rw_app rfl _ _ _ rfl _ _ (by rfl) (by rfl) HR.out ?_) | fail)
    go_ret
    exact ⟨v', rfl, by simpa using H1.out, HB.out⟩
end Go.Proofs.Ytmlgaedhfannmaa
