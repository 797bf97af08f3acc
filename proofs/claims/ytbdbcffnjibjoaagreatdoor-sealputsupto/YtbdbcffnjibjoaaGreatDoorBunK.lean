/- Joined texts: InsLaws, InsV, InsS. -/
import Derived.Test.YtbdbcffnjibjoaaGreatDoorBunA
import Derived.Shelf.Spec.SlicesInsertGrow
import Derived.Test.YtbdbcffnjibjoaaGreatDoorRows
import Derived.Outline
import Derived.Deep.RegionLaw
/- Words for rows that a call of slices.Insert turns: a block written in part, a copy of elements of any size, a part of a slice from a place on. Nothing of the program is named here. -/
namespace Go.Proofs.YtbdbcffnjibjoaaGreatDoor
set_option linter.unusedVariables false
set_option linter.unusedSimpArgs false
open Go.RowKit

/-- A list written over from place o on. -/
def overL (l : List Value) (o : Nat) (vs : List Value) : List Value := l.take o ++ vs ++ l.drop (o + vs.length)
theorem overL_len {l vs : List Value} {o : Nat} (h : o + vs.length ≤ l.length) : (overL l o vs).length = l.length := by
  simp [overL]; omega
theorem overL_nil {l : List Value} {o : Nat} : overL l o [] = l := by simp [overL]
theorem overL_cons {l : List Value} {o : Nat} {v : Value} {vs : List Value} (h : o < l.length) : overL (l.set o v) (o + 1) vs = overL l o (v :: vs) := by
  unfold overL
  rw [List.take_set, List.drop_set_of_lt (by omega)]
  simp only [List.length_cons]
  rw [show o + 1 + vs.length = o + (vs.length + 1) by omega]
  congr 1
  rw [List.append_cons]
  congr 1
  apply List.ext_getElem?
  intro k
  rcases Nat.lt_trichotomy k o with hk | rfl | hk
  · rw [List.getElem?_set_ne (by omega), List.getElem?_take_of_lt (by omega), List.getElem?_append_left (by simp; omega), List.getElem?_take_of_lt hk]
  · rw [List.getElem?_set_self (by simp; omega), List.getElem?_append_right (by simp; omega)]
    simp
    rw [Nat.min_eq_left (by omega)]
    simp
  · rw [List.getElem?_eq_none (by simp; omega), List.getElem?_eq_none (by simp; omega)]
/-- The row's end: a block whose first m cells are l. -/
def row_end (w : World) (g : Nat) (t : TypeId) (size m : Nat) (l : List Value) : Prop := ∃ cur : Array Value, Blk w g t cur ∧ cur.size = size ∧ cur.toList.take m = l
/-- Two parts laid one behind the other. -/
theorem overL_two {R a cs d : List Value} {o o2 m : Nat} (hR : o2 + d.length ≤ R.length) (ho : o + cs.length = o2) (ha : R.take o = a) (hm : m = o2 + d.length) (hd : o2 + d.length ≤ R.length) (hal : a.length = o) :
    (overL (overL R o cs) o2 d).toArray.toList.take m = a ++ cs ++ d := by
  have h1 : (overL R o cs).take o2 = a ++ cs := by
    unfold overL
    rw [ha, List.take_append_of_le_length (by simp; omega), List.take_of_length_le (by simp; omega)]
  show (overL (overL R o cs) o2 d).take m = _
  unfold overL at h1 ⊢
  rw [h1, List.take_append_of_le_length (by simp; omega), List.take_of_length_le (by simp; omega)]
theorem overL_two2 {R a cs d : List Value} {o o2 m : Nat} (hR : o2 + d.length ≤ R.length) (ho : o + cs.length = o2) (ha : R.take o = a) (hm : m = o2 + d.length) (hal : a.length = o) :
    (overL (overL R o2 d) o cs).toArray.toList.take m = a ++ cs ++ d := by
  have h1 : (overL R o2 d).take o = a := by
    unfold overL
    rw [List.append_assoc, List.take_append_of_le_length (by simp; omega), List.take_take, Nat.min_eq_left (by omega), ha]
  have h2 : (overL R o2 d).drop (o + cs.length) = d ++ R.drop (o2 + d.length) := by
    unfold overL
    rw [ho, List.append_assoc, List.drop_append_of_le_length (by simp; omega), List.drop_of_length_le (by simp; omega), List.nil_append]
  show (overL (overL R o2 d) o cs).take m = _
  rw [show overL (overL R o2 d) o cs = (overL R o2 d).take o ++ cs ++ (overL R o2 d).drop (o + cs.length) from rfl, h1, h2, ← List.append_assoc,
    List.take_append_of_le_length (by simp; omega), List.take_of_length_le (by simp; omega)]
theorem Blk.setCells {w : World} {g : Nat} {t : TypeId} : ∀ (vs : List Value) (o : Nat) {w : World} {cur : Array Value}, Blk w g t cur → o + vs.length ≤ cur.size → Blk (w.setCells g o vs) g t (overL cur.toList o vs).toArray
  | [], o, w, cur, h, _ => by rw [overL_nil]; simpa [World.setCells] using h
  | v :: r, o, w, cur, h, hl => by
    have h1 := h.set_ o v
    have h2 := Blk.setCells (w := w) r (o + 1) h1 (by simp at hl ⊢; omega)
    have e : overL (cur.setIfInBounds o v).toList (o + 1) r = overL cur.toList o (v :: r) := by
      rw [Array.toList_setIfInBounds]
      exact overL_cons (by simp at hl ⊢; omega)
    rw [e] at h2
    exact h2
theorem only_drew {a w : World} {row : Option Nat} (h : a.grownBy w row) : a.grownBy w.drew row := ⟨h.os, h.tape, h.output, h.size, h.block⟩
theorem only_setCells {a : World} {g : Nat} : ∀ (vs : List Value) (o : Nat) {w : World}, a.grownBy w (some g) → a.grownBy (w.setCells g o vs) (some g)
  | [], o, w, h => h
  | v :: r, o, w, h => only_setCells r (o + 1) (only_setCell h (.inl rfl) v)
theorem new_setCells {a : World} {g : Nat} {row : Option Nat} (hg : a.heap.size ≤ g) : ∀ (vs : List Value) (o : Nat) {w : World}, a.grownBy w row → a.grownBy (w.setCells g o vs) row
  | [], o, w, h => h
  | v :: r, o, w, h => new_setCells hg r (o + 1) ⟨h.os, h.tape, h.output, by simpa [World.setCell] using h.size, fun i hi hne => (Below.heap_setCell w ⟨g, o, none⟩ v i (by show i ≠ g; omega)).trans (h.block i hi hne)⟩

/-- 'copy(d, s)' at elements of any size: all is read before anything is written. -/
theorem run_copy_size {P : Program} (w : World) (dT sT ty elem : TypeId) (i : TypeInfo) (b o dLen dCap : Nat) (a : Addr) (sLen sCap : Nat) (cs : List Value)
    (hu : P.underlying dT = some (.slice elem)) (hi : P.info? elem = some i) (hn : cs.length = Nat.min sLen dLen * i.size)
    (hsrc : ∀ j v, cs[j]? = some v → w.cell? (a.add j) = some v) (hc : ∀ j, j < cs.length → (w.cell? ⟨b, o + j, none⟩).isSome = true) (hf : ∀ j, j < cs.length → w.frozen? ⟨b, o + j, none⟩ = false) (h1 : ∀ v ∈ cs, v.oneCell' = true) :
    (Builtin.copy_ #[dT, sT] ty #[.slice (some ⟨b, o, none⟩) dLen dCap, .slice (some a) sLen sCap]).run P w = .ok (goInt (Nat.min sLen dLen)) (w.setCells b o cs) := by
  have hl := run_loadCells_list (P := P) w a cs hsrc
  have hst := run_storeCells_cells (P := P) b o cs 0 w (by simpa using hc) (by simpa using hf) h1
  simp [Builtin.copy_, run_underlying hu, Builtin.lenOf, Builtin.firstCells, sizeOf, typeInfo, hi, ← hn, hl, hst]

section
variable {P : Program} (w : World) (t e : TypeId) (i : TypeInfo) (ht : P.underlying t = some (.slice e)) (hi : P.info? e = some i) (b off n c : Nat)
include ht hi
theorem run_from (kl : IntKind) (L : Int) (lo o' n' c' : Nat) (hL : L = lo) (h1 : lo ≤ n) (h2 : lo < c) (ho : o' = off + lo * i.size) (hn' : n' = n - lo) (hc' : c' = c - lo) :
    (Instr.slice t (.slice (some ⟨b, off, none⟩) n c) (some (.int kl L)) none none).run P w = .ok (.slice (some ⟨b, o', none⟩) n' c') w := by
  rw [run_cut_l w t e i ht hi _ n c kl L lo hL h1]
  subst ho hn' hc'
  unfold cutAt
  rw [if_neg (by omega)]
  simp [plus_addr]
end
end Go.Proofs.YtbdbcffnjibjoaaGreatDoor

/- slices.Insert at values: a row of the call's own, with one element more. -/
namespace Go.Proofs.YtbdbcffnjibjoaaGreatDoor
set_option linter.unusedVariables false
set_option linter.unusedSimpArgs false
open Go.RowKit

/-! ### slices.Insert at elements of api.Value -/
theorem insV_info : (Tryz.prog.info? 25).map (fun i => (i.zero, i.size, i.bytes)) = some (some (.agg #[.int .i64 0, .int .i64 0, .string ⟨#[]⟩, .slice none 0 0, .slice none 0 0]), 5, 80) := by kernel_rfl

set_option maxHeartbeats 4000000 in
set_option maxRecDepth 100000 in
theorem insV_shift (g n c i vb : Nat) (xs cs : List Value) (cur : Array Value) (w : World) (hi : i < n) (hroom : n + 1 ≤ c) (hc : c ≤ maxLen) (hvb : vb ≠ g)
    (hb : Blk w g 25 cur) (hcur : cur.size = c * 5) (hx : cur.toList.take (n * 5) = xs) (hv : Blk w vb 25 cs.toArray) (hcl : cs.length = 5)
    (h1c : ∀ v ∈ xs, v.oneCell' = true) (h1v : ∀ v ∈ cs, v.oneCell' = true) :
    Calls Tryz.prog 32 #[.slice (some ⟨g, 0, none⟩) n c, .int .i64 i, .slice (some ⟨vb, 0, none⟩) 1 1] w fun e w' =>
      e = .returned (.slice (some ⟨g, 0, none⟩) (n + 1) c) ∧ w' = (w.drew.setCells g ((i + 1) * 5) (xs.drop (i * 5))).setCells g (i * 5) cs := by
  obtain ⟨i0, hi0, hz0, hzs, hzb⟩ := info_parts insV_info
  unfold maxLen at hc
  have hz2 : ¬ ((i : Int) = (n : Int)) := by omega
  have hz2b : ((i : Int) == (n : Int)) = false := by rw [beq_eq_false_iff_ne]; exact hz2
  have hz3 : ¬ ((c : Int) < (n : Int) + 1) := by omega
  have hxl : xs.length = n * 5 := by rw [← hx, List.length_take, Array.length_toList, hcur]; exact Nat.min_eq_left (by omega)
  have hcs : ∀ j v, xs[j]? = some v → w.cell? ⟨g, j, none⟩ = some v := fun j v hj => by
    rw [hb.cell j]
    have hj' : j < n * 5 := by rw [← hxl]; exact (List.getElem?_eq_some_iff.1 hj).1
    rw [← hx, List.getElem?_take_of_lt hj'] at hj
    rw [← hj]; simp
  have hsp : ∀ j, j < (n + 1) * 5 → (w.cell? ⟨g, j, none⟩).isSome = true := fun j hj => by
    rw [hb.cell j, Array.getElem?_eq_getElem (by omega)]; rfl
  have hvs : ∀ j v, cs[j]? = some v → w.cell? ⟨vb, j, none⟩ = some v := fun j v hj => by rw [hv.cell j]; simpa using hj
  have hdl : (xs.drop (i * 5)).length = (n - i) * 5 := by rw [List.length_drop, hxl] <;> omega
  have s1 := fun W => run_from (P := Tryz.prog) W 23 25 i0 Tryz.underlying23 hi0 g 0 n c .i64 (i : Int) i (i * 5) (n - i) (c - i) rfl (by omega) (by omega) (by rw [hzs]; omega) rfl rfl
  have s2 := fun W => run_cut_h (P := Tryz.prog) W 23 25 i0 Tryz.underlying23 hi0 (some ⟨g, 0, none⟩) n c .i64 ((n : Int) + 1) (n + 1) (by omega) hroom
  have s3 := fun W => run_from (P := Tryz.prog) W 23 25 i0 Tryz.underlying23 hi0 g 0 (n + 1) c .i64 ((i : Int) + 1) (i + 1) ((i + 1) * 5) (n - i) (c - (i + 1)) (by omega) (by omega) (by omega) (by rw [hzs]; omega) (by omega) rfl
  have s4 := fun W => run_from (P := Tryz.prog) W 23 25 i0 Tryz.underlying23 hi0 g 0 (n + 1) c .i64 (i : Int) i (i * 5) (n + 1 - i) (c - i) rfl (by omega) (by omega) (by rw [hzs]; omega) rfl rfl
  have hov : ∀ lb cb, (callFunc 57 #[.slice (some ⟨vb, 0, none⟩) 1 1, .slice (some ⟨g, (i + 1) * 5, none⟩) lb cb]).run Tryz.prog w = .ok (.value (.bool false)) w := fun lb cb => by
    rw [run_callFunc_extern Tryz.func57 (by kernel_rfl) (by kernel_rfl) (by kernel_rfl) (e := Extern.SlicesOverlaps.overlaps #[23, 23] #[4]) (by kernel_rfl),
      Lib.run_overlaps_apart w 23 4 25 Tryz.underlying23 5 (fun W => by simp [sizeOf, typeInfo, hi0, hzs]) ⟨vb, 0, none⟩ ⟨g, (i + 1) * 5, none⟩ 1 1 lb cb hvb 25 25 cs.toArray.size cur.size
        (by unfold World.shape?; rw [hv]) (by unfold World.shape?; rw [hb]) (by omega) (hv.frozen 0) (hv.frozen _)]
    rfl
  have hcp1 : ∀ ty, (Builtin.copy_ #[23, 23] ty #[.slice (some ⟨g, (i + 1) * 5, none⟩) (n - i) (c - (i + 1)), .slice (some ⟨g, i * 5, none⟩) (n + 1 - i) (c - i)]).run Tryz.prog w.drew = .ok (goInt (n - i : Nat)) (w.drew.setCells g ((i + 1) * 5) (xs.drop (i * 5))) := fun ty => by
    have hm : Nat.min (n + 1 - i) (n - i) = n - i := Nat.min_eq_right (by omega)
    have := run_copy_size (P := Tryz.prog) w.drew 23 23 ty 25 i0 g ((i + 1) * 5) (n - i) (c - (i + 1)) ⟨g, i * 5, none⟩ (n + 1 - i) (c - i) (xs.drop (i * 5)) Tryz.underlying23 hi0 (by rw [hm, hdl, hzs] <;> omega)
      (fun j v hj => by rw [plus_addr]; exact hcs (i * 5 + j) v (by rwa [List.getElem?_drop] at hj))
      (fun j hj => hsp _ (by rw [hdl] at hj; omega)) (fun j hj => hb.frozen _) (fun v hv' => h1c v (List.mem_of_mem_drop hv'))
    rw [hm] at this
    exact this
  obtain ⟨W1, hW1⟩ : ∃ W1, W1 = w.drew.setCells g ((i + 1) * 5) (xs.drop (i * 5)) := ⟨_, rfl⟩
  have hb1 : Blk W1 g 25 (overL cur.toList ((i + 1) * 5) (xs.drop (i * 5))).toArray := by
    rw [hW1]; exact Blk.setCells (w := w) _ _ (show Blk w.drew g 25 cur from hb) (by rw [hdl, hcur]; omega)
  have hb1s : (overL cur.toList ((i + 1) * 5) (xs.drop (i * 5))).toArray.size = c * 5 := by
    rw [List.size_toArray, overL_len (by rw [hdl, Array.length_toList, hcur]; omega), Array.length_toList, hcur]
  have hv1 : Blk W1 vb 25 cs.toArray := by
    rw [hW1]
    have hw0 : w.grownBy (w.drew.setCells g ((i + 1) * 5) (xs.drop (i * 5))) (some g) := only_setCells _ _ ⟨rfl, rfl, rfl, Nat.le_refl _, fun _ _ _ => rfl⟩
    exact hv.grown hw0 (fun e => hvb (by injection e))
  have hcp2 : ∀ ty, (Builtin.copy_ #[23, 23] ty #[.slice (some ⟨g, i * 5, none⟩) (n + 1 - i) (c - i), .slice (some ⟨vb, 0, none⟩) 1 1]).run Tryz.prog W1 = .ok (goInt 1) (W1.setCells g (i * 5) cs) := fun ty => by
    have hm : Nat.min 1 (n + 1 - i) = 1 := Nat.min_eq_left (by omega)
    have := run_copy_size (P := Tryz.prog) W1 23 23 ty 25 i0 g (i * 5) (n + 1 - i) (c - i) ⟨vb, 0, none⟩ 1 1 cs Tryz.underlying23 hi0 (by rw [hm, hzs, hcl])
      (fun j v hj => by rw [plus_addr, Nat.zero_add, hv1.cell j]; simpa using hj)
      (fun j hj => by rw [hb1.cell, Array.getElem?_eq_getElem (by omega)]; rfl) (fun j hj => hb1.frozen _) h1v
    rw [hm] at this
    exact this
  rw [← hW1] at hcp1
  have hW1d : ∀ ty, (Builtin.copy_ #[23, 23] ty #[.slice (some ⟨g, i * 5, none⟩) (n + 1 - i) (c - i), .slice (some ⟨vb, 0, none⟩) 1 1]).run Tryz.prog W1 = .ok (goInt 1) (W1.setCells g (i * 5) cs) := hcp2
  have hwn : IntKind.i64.wrap ((n : Int) + 1) = (n : Int) + 1 := IntWalk.i64_in _ (by omega)
  have hwi : IntKind.i64.wrap ((i : Int) + 1) = (i : Int) + 1 := IntWalk.i64_in _ (by omega)
  have HW1 := Lib.hid hW1
  clear hW1 hx hxl hcs hsp hvs hdl hb1 hb1s hv1 hcur
  go_enter Tryz.func32, Tryz.ntmps32
  go_wp2_with (simp only [hov])
  go_region_law (refine step_copy_runI rfl _ _ 23 23 rfl _ _ (by simp [Act.eval, Act.put]) (by simp [Act.eval, Act.put]) (hcp1 _) ?_)
  go_wp2_with (at_builtin; refine wpList_copy_runI _ rfl _ _ 23 23 rfl _ _ rfl rfl (hcp2 _) ?_)
  go_ret
  exact ⟨rfl, by rw [← HW1.out]⟩

set_option maxHeartbeats 4000000 in
set_option maxRecDepth 100000 in
theorem insV_grow (g n c i vb : Nat) (xs cs : List Value) (cur : Array Value) (w : World) (hi : i < n) (hnc : n ≤ c) (hroom : c < n + 1) (hn : n + 1 ≤ 1048576)
    (hb : Blk w g 25 cur) (hcur : cur.size = c * 5) (hx : cur.toList.take (n * 5) = xs) (hv : Blk w vb 25 cs.toArray) (hcl : cs.length = 5)
    (h1c : ∀ v ∈ xs, v.oneCell' = true) (h1v : ∀ v ∈ cs, v.oneCell' = true) :
    Calls Tryz.prog 32 #[.slice (some ⟨g, 0, none⟩) n c, .int .i64 i, .slice (some ⟨vb, 0, none⟩) 1 1] w fun e w' =>
      ∃ G row, e = .returned (.slice (some ⟨w.heap.size, 0, none⟩) (n + 1) G) ∧ Blk w' w.heap.size 25 row ∧ row.size = G * 5 ∧ n + 1 ≤ G ∧ G ≤ maxLen ∧
        row.toList.take ((n + 1) * 5) = xs.take (i * 5) ++ cs ++ xs.drop (i * 5) ∧ w.grownBy w' none := by
  obtain ⟨i0, hi0, hz0, hzs, hzb⟩ := info_parts insV_info
  have hz2 : ¬ ((i : Int) = (n : Int)) := by omega
  have hz2b : ((i : Int) == (n : Int)) = false := by rw [beq_eq_false_iff_ne]; exact hz2
  have hz3 : (c : Int) < (n : Int) + 1 := by omega
  have hxl : xs.length = n * 5 := by rw [← hx, List.length_take, Array.length_toList, hcur]; exact Nat.min_eq_left (by omega)
  have hcs : ∀ j v, xs[j]? = some v → w.cell? ⟨g, j, none⟩ = some v := fun j v hj => by
    rw [hb.cell j]
    have hj' : j < n * 5 := by rw [← hxl]; exact (List.getElem?_eq_some_iff.1 hj).1
    rw [← hx, List.getElem?_take_of_lt hj'] at hj
    rw [← hj]; simp
  have hdl : (xs.drop (i * 5)).length = (n - i) * 5 := by rw [List.length_drop, hxl] <;> omega
  have htl : (xs.take (i * 5)).length = i * 5 := by rw [List.length_take, hxl]; exact Nat.min_eq_left (by omega)
  have hold : (Builtin.firstCells i0.size i (.slice (some ⟨g, 0, none⟩) i c)).run Tryz.prog w.drew = .ok (xs.take (i * 5)).toArray w.drew := by
    rw [hzs]
    exact run_firstCells_some w.drew 5 i ⟨g, 0, none⟩ i c (xs.take (i * 5)) (by rw [htl] <;> omega) (fun j v hj => by
      rw [plus_addr, Nat.zero_add]
      rw [List.getElem?_take] at hj
      split at hj
      · exact hcs j v hj
      · cases hj)
  obtain ⟨G, hG⟩ : ∃ G, G = grownCap w (n + 1) c 25 := ⟨_, rfl⟩
  have hGn : n + 1 ≤ G := by rw [hG]; exact grownCap_ge w _ _ _
  have hGm : G ≤ maxLen := by rw [hG]; exact grownCap_le_maxLen w (n + 1) c 25 (by unfold maxLen; omega)
  have hik : i + (n + 1 - i) = n + 1 := by omega
  have hkk : (n : Int) + 1 - (i : Int) = ((n + 1 - i : Nat) : Int) := by omega
  obtain ⟨ROW, hROW⟩ : ∃ ROW : Array Value, ROW = (xs.take (i * 5)).toArray ++ Builtin.zeroCells (.agg #[.int .i64 0, .int .i64 0, .string ⟨#[]⟩, .slice none 0 0, .slice none 0 0] : Value).cells (n + 1 - i) ++ Builtin.zeroCells (.agg #[.int .i64 0, .int .i64 0, .string ⟨#[]⟩, .slice none 0 0, .slice none 0 0] : Value).cells (G - (n + 1)) := ⟨_, rfl⟩
  have hRs : ROW.size = G * 5 := by
    rw [hROW]
    simp only [Array.size_append, List.size_toArray, htl]
    simp [Builtin.zeroCells, Value.cells]
    omega
  have hRt : ROW.toList.take (i * 5) = xs.take (i * 5) := by
    rw [hROW]
    simp only [Array.toList_append]
    rw [List.append_assoc, List.take_append_of_le_length (by rw [htl]; exact Nat.le_refl _), List.take_of_length_le (by rw [htl]; exact Nat.le_refl _)]
  have hrz : ∀ ty, (Builtin.append_ #[23, 3] ty #[.slice (some ⟨g, 0, none⟩) i c, .int .i64 ((n : Int) + 1 - (i : Int))]).run Tryz.prog w =
      .ok (.slice (some ⟨w.heap.size, 0, none⟩) (n + 1) G) (w.drew.alloc (.cells ROW 25)) := fun ty => by
    have h := Lib.run_append_grow_zeros (P := Tryz.prog) w 23 3 ty 25 i0 _ .i64 .i64 Tryz.underlying23 Tryz.underlying3 hi0 hz0 (some ⟨g, 0, none⟩) i c (xs.take (i * 5)) hold (n + 1 - i) (by omega) (by omega) (by omega) (by omega) (by rw [hzb]; omega) (by rw [hzb, hik]; exact growslice_fits hroom (by omega))
    rw [hik] at h
    rw [hkk, hROW, hG]
    exact h
  have s1 := fun W => run_from (P := Tryz.prog) W 23 25 i0 Tryz.underlying23 hi0 g 0 n c .i64 (i : Int) i (i * 5) (n - i) (c - i) rfl (by omega) (by omega) (by rw [hzs]; omega) rfl rfl
  have s2 := fun W => run_cut_h (P := Tryz.prog) W 23 25 i0 Tryz.underlying23 hi0 (some ⟨g, 0, none⟩) n c .i64 (i : Int) i rfl (by omega)
  have s3 := fun W => run_from (P := Tryz.prog) W 23 25 i0 Tryz.underlying23 hi0 w.heap.size 0 (n + 1) G .i64 (i : Int) i (i * 5) (n + 1 - i) (G - i) rfl (by omega) (by omega) (by rw [hzs]; omega) rfl rfl
  have s4 := fun W => run_from (P := Tryz.prog) W 23 25 i0 Tryz.underlying23 hi0 w.heap.size 0 (n + 1) G .i64 ((i : Int) + 1) (i + 1) ((i + 1) * 5) (n - i) (G - (i + 1)) (by omega) (by omega) (by omega) (by rw [hzs]; omega) (by omega) rfl
  have hcpA : ∀ (W : World), Blk W w.heap.size 25 ROW → Blk W vb 25 cs.toArray → ∀ ty, (Builtin.copy_ #[23, 23] ty #[.slice (some ⟨w.heap.size, i * 5, none⟩) (n + 1 - i) (G - i), .slice (some ⟨vb, 0, none⟩) 1 1]).run Tryz.prog W = .ok (goInt 1) (W.setCells w.heap.size (i * 5) cs) := fun W hbW hvW ty => by
    have hm : Nat.min 1 (n + 1 - i) = 1 := Nat.min_eq_left (by omega)
    have := run_copy_size (P := Tryz.prog) W 23 23 ty 25 i0 w.heap.size (i * 5) (n + 1 - i) (G - i) ⟨vb, 0, none⟩ 1 1 cs Tryz.underlying23 hi0 (by rw [hm, hzs, hcl])
      (fun j v hj => by rw [plus_addr, Nat.zero_add, hvW.cell j]; simpa using hj)
      (fun j hj => by rw [hbW.cell, Array.getElem?_eq_getElem (by rw [hRs]; omega)]; rfl) (fun j hj => hbW.frozen _) h1v
    rw [hm] at this
    exact this
  have hR2s : (overL ROW.toList (i * 5) cs).toArray.size = G * 5 := by
    rw [List.size_toArray, overL_len (by rw [hcl, Array.length_toList, hRs]; omega), Array.length_toList, hRs]
  have hcpB : ∀ (W : World), Blk W w.heap.size 25 (overL ROW.toList (i * 5) cs).toArray → Blk W g 25 cur → ∀ ty, (Builtin.copy_ #[23, 23] ty #[.slice (some ⟨w.heap.size, (i + 1) * 5, none⟩) (n - i) (G - (i + 1)), .slice (some ⟨g, i * 5, none⟩) (n - i) (c - i)]).run Tryz.prog W = .ok (goInt (n - i : Nat)) (W.setCells w.heap.size ((i + 1) * 5) (xs.drop (i * 5))) := fun W hbW hgW ty => by
    have hm : Nat.min (n - i) (n - i) = n - i := Nat.min_self _
    have := run_copy_size (P := Tryz.prog) W 23 23 ty 25 i0 w.heap.size ((i + 1) * 5) (n - i) (G - (i + 1)) ⟨g, i * 5, none⟩ (n - i) (c - i) (xs.drop (i * 5)) Tryz.underlying23 hi0 (by rw [hm, hdl, hzs] <;> omega)
      (fun j v hj => by
        rw [plus_addr]
        rw [List.getElem?_drop] at hj
        rw [hgW.cell, ← hb.cell]
        exact hcs _ v hj)
      (fun j hj => by rw [hbW.cell, Array.getElem?_eq_getElem (by rw [hR2s]; rw [hdl] at hj; omega)]; rfl) (fun j hj => hbW.frozen _) (fun v hv' => h1c v (List.mem_of_mem_drop hv'))
    rw [hm] at this
    exact this
  have hbA : Blk ((w.alloc (.cells ROW 25)).drew) w.heap.size 25 ROW := Blk.new w 25 ROW
  have hvA : Blk ((w.alloc (.cells ROW 25)).drew) vb 25 cs.toArray := hv.alloc _
  have hgrA : w.grownBy ((w.alloc (.cells ROW 25)).drew.setCells w.heap.size (i * 5) cs) none :=
    new_setCells (Nat.le_refl _) _ _ (only_drew (only_alloc (World.grownBy.refl w none) (.cells ROW 25)))
  have hbB : Blk (((w.alloc (.cells ROW 25)).drew.setCells w.heap.size (i * 5) cs).drew) w.heap.size 25 (overL ROW.toList (i * 5) cs).toArray :=
    Blk.setCells (w := w) cs _ hbA (by rw [hcl, hRs]; omega)
  have hgB : Blk (((w.alloc (.cells ROW 25)).drew.setCells w.heap.size (i * 5) cs).drew) g 25 cur := hb.grown (only_drew hgrA) (by simp)
  have hend : row_end ((((w.alloc (.cells ROW 25)).drew.setCells w.heap.size (i * 5) cs).drew).setCells w.heap.size ((i + 1) * 5) (xs.drop (i * 5))) w.heap.size 25 (G * 5) ((n + 1) * 5) (xs.take (i * 5) ++ cs ++ xs.drop (i * 5)) := by
    refine ⟨_, Blk.setCells (w := w) _ _ hbB (by rw [hdl, hR2s]; omega), ?_, ?_⟩
    · have e : (overL ROW.toList (i * 5) cs).length = G * 5 := by simpa using hR2s
      show (overL (overL ROW.toList (i * 5) cs) ((i + 1) * 5) (xs.drop (i * 5))).toArray.size = G * 5
      rw [List.size_toArray, overL_len (by rw [hdl, e]; omega), e]
    · have hRl : ROW.toList.length = G * 5 := by rw [Array.length_toList, hRs]
      exact overL_two (by rw [hdl, hRl]; omega) (by omega) hRt (by rw [hdl]; omega) (by rw [hdl, hRl]; omega) htl
  have hgr : w.grownBy ((((w.alloc (.cells ROW 25)).drew.setCells w.heap.size (i * 5) cs).drew).setCells w.heap.size ((i + 1) * 5) (xs.drop (i * 5))) none :=
    new_setCells (Nat.le_refl _) _ _ (only_drew hgrA)
  have hwi : IntKind.i64.wrap ((i : Int) + 1) = (i : Int) + 1 := IntWalk.i64_in _ (by omega)
  have HE := Lib.hid hend
  have HG := Lib.hid hgr
  have HGm := Lib.hid hGm
  clear hkk hik hold hROW hG hRs hRt hxl hcs hdl htl hcur hx hend hgr hgrA hR2s hGm
  go_enter Tryz.func32, Tryz.ntmps32
  go_wp2_with (first
    | (at_builtin; refine Lib.wpList_append_run _ rfl _ _ _ _ rfl _ _ rfl rfl _ _ (hrz _) ?_)
    | (at_builtin; refine wpList_copy_runI _ rfl _ _ 23 23 rfl _ _ rfl rfl (hcpA _ hbA hvA _) ?_))
  go_region_law (refine step_copy_runI rfl _ _ 23 23 rfl _ _ (by simp [Act.eval, Act.put]) (by simp [Act.eval, Act.put]) (hcpB _ hbB hgB _) ?_)
  go_wp2
  go_ret
  obtain ⟨row, e1, e2, e3⟩ := HE.out
  exact ⟨G, row, rfl, e1, e2, hGn, HGm.out, e3, HG.out⟩

set_option maxHeartbeats 1000000 in
theorem insV_last (base n vb : Nat) (v : Value) (xs cs : List Value) (w : World) (hown : w.ownsRow base 25 5 v n xs) (hn : n + 1 ≤ 1048576) (hbase : base ≤ w.heap.size)
    (hv : Blk w vb 25 cs.toArray) (hcl : cs.length = 5) (h1v : ∀ v ∈ cs, v.oneCell' = true) :
    Calls Tryz.prog 32 #[v, .int .i64 n, .slice (some ⟨vb, 0, none⟩) 1 1] w fun e w' =>
      ∃ v', e = .returned v' ∧ w'.ownsRow base 25 5 v' (n + 1) (xs ++ cs) ∧ w.grownBy w' v.ownBlock ∧ (v'.ownBlock = v.ownBlock ∨ v'.ownBlock = some w.heap.size) := by
  obtain ⟨i0, hi0, hz0, hzs, hzb⟩ := info_parts insV_info
  obtain ⟨A, c, rfl, hA⟩ := own_form hown
  have s1 := fun W => run_cut_l (P := Tryz.prog) W 23 25 i0 Tryz.underlying23 hi0 A n c .i64 (n : Int) n rfl (Nat.le_refl _)
  have hcs : ∀ j u, cs[j]? = some u → w.cell? ((⟨vb, 0, none⟩ : Addr).add j) = some u := fun j u hj => by
    rw [plus_addr, Nat.zero_add, hv.cell j]; simpa using hj
  go_enter Tryz.func32, Tryz.ntmps32
  go_wp2_with (at_builtin
               refine wpList_append_own_at w rfl _ _ 23 rfl base 25 i0 _ 5 80 Tryz.underlying23 hi0 hz0 hzs hzb rfl (by decide) (.slice A n c) n xs rfl hown ⟨vb, 0, none⟩ 1 1 cs rfl (by omega) hcs h1v (by unfold maxLen; omega) (by omega) hbase ?_
               intro v' w' k1 k2 k3 k4)
  go_ret
  exact ⟨v', rfl, k1, k2, k4⟩

/-- slices.Insert of one element into a row of the call's own. -/
theorem insV_own (base n i vb : Nat) (v : Value) (xs cs : List Value) (w : World) (hown : w.ownsRow base 25 5 v n xs) (hi : i ≤ n) (hn : n + 1 ≤ 1048576) (hbase : base ≤ w.heap.size)
    (hv : Blk w vb 25 cs.toArray) (hvb : some vb ≠ v.ownBlock) (hcl : cs.length = 5) (h1c : ∀ v ∈ xs, v.oneCell' = true) (h1v : ∀ v ∈ cs, v.oneCell' = true) :
    Calls Tryz.prog 32 #[v, .int .i64 i, .slice (some ⟨vb, 0, none⟩) 1 1] w fun e w' =>
      ∃ v', e = .returned v' ∧ w'.ownsRow base 25 5 v' (n + 1) (xs.take (i * 5) ++ cs ++ xs.drop (i * 5)) ∧ w.grownBy w' v.ownBlock ∧ (v'.ownBlock = v.ownBlock ∨ v'.ownBlock = some w.heap.size) := by
  have hxl : xs.length = n * 5 := by have := hown.1; omega
  rcases Nat.lt_or_ge i n with hlt | hge
  · rcases hown.2 with ⟨_, h0⟩ | ⟨g, c, cur, rfl, hbg, hg, hnc, hcm, hcs, htk⟩
    · omega
    · have hgb : Blk w g 25 cur := hg
      have hne : vb ≠ g := fun e => hvb (by rw [e]; rfl)
      rcases Nat.lt_or_ge c (n + 1) with hr | hr
      · refine (insV_grow g n c i vb xs cs cur w hlt hnc hr hn hgb hcs htk hv hcl h1c h1v).mono ?_
        rintro e w' ⟨G, row, rfl, k1, k2, k3, k4, k5, k6⟩
        refine ⟨_, rfl, ⟨?_, .inr ⟨_, G, row, rfl, hbase, k1, k3, k4, k2, k5⟩⟩, ?_, .inr rfl⟩
        · simp only [List.length_append, List.length_take, List.length_drop, hxl, hcl]; omega
        · exact ⟨k6.os, k6.tape, k6.output, k6.size, fun k hk _ => k6.block k hk (by simp)⟩
      · refine (insV_shift g n c i vb xs cs cur w hlt hr hcm hne hgb hcs htk hv hcl h1c h1v).mono ?_
        rintro e w' ⟨rfl, rfl⟩
        have hdl : (xs.drop (i * 5)).length = (n - i) * 5 := by rw [List.length_drop, hxl] <;> omega
        have hb1 := Blk.setCells (w := w) (xs.drop (i * 5)) ((i + 1) * 5) (show Blk w.drew g 25 cur from hgb) (by rw [hdl, hcs]; omega)
        have hl1 : (overL cur.toList ((i + 1) * 5) (xs.drop (i * 5))).length = c * 5 := by rw [overL_len (by rw [hdl, Array.length_toList, hcs]; omega), Array.length_toList, hcs]
        have hb2 := Blk.setCells (w := w) cs (i * 5) hb1 (by rw [List.size_toArray, hl1, hcl]; omega)
        refine ⟨_, rfl, ⟨?_, .inr ⟨g, c, _, rfl, hbg, hb2, hr, hcm, ?_, ?_⟩⟩, ?_, .inl rfl⟩
        · simp only [List.length_append, List.length_take, List.length_drop, hxl, hcl]; omega
        · show (overL (overL cur.toList ((i + 1) * 5) (xs.drop (i * 5))) (i * 5) cs).toArray.size = c * 5
          rw [List.size_toArray, overL_len (by rw [hl1, hcl]; omega), hl1]
        · refine overL_two2 (by rw [hdl, Array.length_toList, hcs]; omega) (by omega) ?_ (by rw [hdl]; omega) (by rw [List.length_take, hxl]; omega)
          rw [← htk, List.take_take, Nat.min_eq_left (by omega)]
        · exact only_setCells _ _ (only_setCells _ _ (only_drew (World.grownBy.refl _ _)))
  · obtain rfl : i = n := by omega
    refine (insV_last base i vb v xs cs w hown hn hbase hv hcl h1v).mono ?_
    rintro e w' ⟨v', rfl, k1, k2, k3⟩
    refine ⟨v', rfl, ?_, k2, k3⟩
    rw [List.take_of_length_le (by omega), List.drop_of_length_le (by omega), List.append_nil]
    exact k1

end Go.Proofs.YtbdbcffnjibjoaaGreatDoor

/- slices.Insert at strings: a row of the call's own, with one element more. -/
namespace Go.Proofs.YtbdbcffnjibjoaaGreatDoor
set_option linter.unusedVariables false
set_option linter.unusedSimpArgs false
open Go.RowKit

/-! ### slices.Insert at elements of string -/
theorem insS_info : (Tryz.prog.info? 9).map (fun i => (i.zero, i.size, i.bytes)) = some (some (.string ⟨#[]⟩), 1, 16) := by kernel_rfl

set_option maxHeartbeats 4000000 in
set_option maxRecDepth 100000 in
theorem insS_shift (g n c i vb : Nat) (xs cs : List Value) (cur : Array Value) (w : World) (hi : i < n) (hroom : n + 1 ≤ c) (hc : c ≤ maxLen) (hvb : vb ≠ g)
    (hb : Blk w g 9 cur) (hcur : cur.size = c) (hx : cur.toList.take (n) = xs) (hv : Blk w vb 9 cs.toArray) (hcl : cs.length = 1)
    (h1c : ∀ v ∈ xs, v.oneCell' = true) (h1v : ∀ v ∈ cs, v.oneCell' = true) :
    Calls Tryz.prog 30 #[.slice (some ⟨g, 0, none⟩) n c, .int .i64 i, .slice (some ⟨vb, 0, none⟩) 1 1] w fun e w' =>
      e = .returned (.slice (some ⟨g, 0, none⟩) (n + 1) c) ∧ w' = (w.drew.setCells g ((i + 1)) (xs.drop (i))).setCells g (i) cs := by
  obtain ⟨i0, hi0, hz0, hzs, hzb⟩ := info_parts insS_info
  unfold maxLen at hc
  have hz2 : ¬ ((i : Int) = (n : Int)) := by omega
  have hz2b : ((i : Int) == (n : Int)) = false := by rw [beq_eq_false_iff_ne]; exact hz2
  have hz3 : ¬ ((c : Int) < (n : Int) + 1) := by omega
  have hxl : xs.length = n := by rw [← hx, List.length_take, Array.length_toList, hcur]; exact Nat.min_eq_left (by omega)
  have hcs : ∀ j v, xs[j]? = some v → w.cell? ⟨g, j, none⟩ = some v := fun j v hj => by
    rw [hb.cell j]
    have hj' : j < n := by rw [← hxl]; exact (List.getElem?_eq_some_iff.1 hj).1
    rw [← hx, List.getElem?_take_of_lt hj'] at hj
    rw [← hj]; simp
  have hsp : ∀ j, j < (n + 1) → (w.cell? ⟨g, j, none⟩).isSome = true := fun j hj => by
    rw [hb.cell j, Array.getElem?_eq_getElem (by omega)]; rfl
  have hvs : ∀ j v, cs[j]? = some v → w.cell? ⟨vb, j, none⟩ = some v := fun j v hj => by rw [hv.cell j]; simpa using hj
  have hdl : (xs.drop (i)).length = (n - i) := by rw [List.length_drop, hxl] <;> omega
  have s1 := fun W => run_from (P := Tryz.prog) W 22 9 i0 Tryz.underlying22 hi0 g 0 n c .i64 (i : Int) i (i) (n - i) (c - i) rfl (by omega) (by omega) (by rw [hzs]; omega) rfl rfl
  have s2 := fun W => run_cut_h (P := Tryz.prog) W 22 9 i0 Tryz.underlying22 hi0 (some ⟨g, 0, none⟩) n c .i64 ((n : Int) + 1) (n + 1) (by omega) hroom
  have s3 := fun W => run_from (P := Tryz.prog) W 22 9 i0 Tryz.underlying22 hi0 g 0 (n + 1) c .i64 ((i : Int) + 1) (i + 1) ((i + 1)) (n - i) (c - (i + 1)) (by omega) (by omega) (by omega) (by rw [hzs]; omega) (by omega) rfl
  have s4 := fun W => run_from (P := Tryz.prog) W 22 9 i0 Tryz.underlying22 hi0 g 0 (n + 1) c .i64 (i : Int) i (i) (n + 1 - i) (c - i) rfl (by omega) (by omega) (by rw [hzs]; omega) rfl rfl
  have hov : ∀ lb cb, (callFunc 54 #[.slice (some ⟨vb, 0, none⟩) 1 1, .slice (some ⟨g, (i + 1), none⟩) lb cb]).run Tryz.prog w = .ok (.value (.bool false)) w := fun lb cb => by
    rw [run_callFunc_extern Tryz.func54 (by kernel_rfl) (by kernel_rfl) (by kernel_rfl) (e := Extern.SlicesOverlaps.overlaps #[22, 22] #[4]) (by kernel_rfl),
      Lib.run_overlaps_apart w 22 4 9 Tryz.underlying22 1 (fun W => by simp [sizeOf, typeInfo, hi0, hzs]) ⟨vb, 0, none⟩ ⟨g, (i + 1), none⟩ 1 1 lb cb hvb 9 9 cs.toArray.size cur.size
        (by unfold World.shape?; rw [hv]) (by unfold World.shape?; rw [hb]) (by omega) (hv.frozen 0) (hv.frozen _)]
    rfl
  have hcp1 : ∀ ty, (Builtin.copy_ #[22, 22] ty #[.slice (some ⟨g, (i + 1), none⟩) (n - i) (c - (i + 1)), .slice (some ⟨g, i, none⟩) (n + 1 - i) (c - i)]).run Tryz.prog w.drew = .ok (goInt (n - i : Nat)) (w.drew.setCells g ((i + 1)) (xs.drop (i))) := fun ty => by
    have hm : Nat.min (n + 1 - i) (n - i) = n - i := Nat.min_eq_right (by omega)
    have := run_copy_size (P := Tryz.prog) w.drew 22 22 ty 9 i0 g ((i + 1)) (n - i) (c - (i + 1)) ⟨g, i, none⟩ (n + 1 - i) (c - i) (xs.drop (i)) Tryz.underlying22 hi0 (by rw [hm, hdl, hzs] <;> omega)
      (fun j v hj => by rw [plus_addr]; exact hcs (i + j) v (by rwa [List.getElem?_drop] at hj))
      (fun j hj => hsp _ (by rw [hdl] at hj; omega)) (fun j hj => hb.frozen _) (fun v hv' => h1c v (List.mem_of_mem_drop hv'))
    rw [hm] at this
    exact this
  obtain ⟨W1, hW1⟩ : ∃ W1, W1 = w.drew.setCells g ((i + 1)) (xs.drop (i)) := ⟨_, rfl⟩
  have hb1 : Blk W1 g 9 (overL cur.toList ((i + 1)) (xs.drop (i))).toArray := by
    rw [hW1]; exact Blk.setCells (w := w) _ _ (show Blk w.drew g 9 cur from hb) (by rw [hdl, hcur]; omega)
  have hb1s : (overL cur.toList ((i + 1)) (xs.drop (i))).toArray.size = c := by
    rw [List.size_toArray, overL_len (by rw [hdl, Array.length_toList, hcur]; omega), Array.length_toList, hcur]
  have hv1 : Blk W1 vb 9 cs.toArray := by
    rw [hW1]
    have hw0 : w.grownBy (w.drew.setCells g ((i + 1)) (xs.drop (i))) (some g) := only_setCells _ _ ⟨rfl, rfl, rfl, Nat.le_refl _, fun _ _ _ => rfl⟩
    exact hv.grown hw0 (fun e => hvb (by injection e))
  have hcp2 : ∀ ty, (Builtin.copy_ #[22, 22] ty #[.slice (some ⟨g, i, none⟩) (n + 1 - i) (c - i), .slice (some ⟨vb, 0, none⟩) 1 1]).run Tryz.prog W1 = .ok (goInt 1) (W1.setCells g (i) cs) := fun ty => by
    have hm : Nat.min 1 (n + 1 - i) = 1 := Nat.min_eq_left (by omega)
    have := run_copy_size (P := Tryz.prog) W1 22 22 ty 9 i0 g (i) (n + 1 - i) (c - i) ⟨vb, 0, none⟩ 1 1 cs Tryz.underlying22 hi0 (by rw [hm, hzs, hcl])
      (fun j v hj => by rw [plus_addr, Nat.zero_add, hv1.cell j]; simpa using hj)
      (fun j hj => by rw [hb1.cell, Array.getElem?_eq_getElem (by omega)]; rfl) (fun j hj => hb1.frozen _) h1v
    rw [hm] at this
    exact this
  rw [← hW1] at hcp1
  have hW1d : ∀ ty, (Builtin.copy_ #[22, 22] ty #[.slice (some ⟨g, i, none⟩) (n + 1 - i) (c - i), .slice (some ⟨vb, 0, none⟩) 1 1]).run Tryz.prog W1 = .ok (goInt 1) (W1.setCells g (i) cs) := hcp2
  have hwn : IntKind.i64.wrap ((n : Int) + 1) = (n : Int) + 1 := IntWalk.i64_in _ (by omega)
  have hwi : IntKind.i64.wrap ((i : Int) + 1) = (i : Int) + 1 := IntWalk.i64_in _ (by omega)
  have HW1 := Lib.hid hW1
  clear hW1 hx hxl hcs hsp hvs hdl hb1 hb1s hv1 hcur
  go_enter Tryz.func30, Tryz.ntmps30
  go_wp2_with (simp only [hov])
  go_region_law (refine step_copy_runI rfl _ _ 22 22 rfl _ _ (by simp [Act.eval, Act.put]) (by simp [Act.eval, Act.put]) (hcp1 _) ?_)
  go_wp2_with (at_builtin; refine wpList_copy_runI _ rfl _ _ 22 22 rfl _ _ rfl rfl (hcp2 _) ?_)
  go_ret
  exact ⟨rfl, by rw [← HW1.out]⟩

set_option maxHeartbeats 4000000 in
set_option maxRecDepth 100000 in
theorem insS_grow (g n c i vb : Nat) (xs cs : List Value) (cur : Array Value) (w : World) (hi : i < n) (hnc : n ≤ c) (hroom : c < n + 1) (hn : n + 1 ≤ 1048576)
    (hb : Blk w g 9 cur) (hcur : cur.size = c) (hx : cur.toList.take (n) = xs) (hv : Blk w vb 9 cs.toArray) (hcl : cs.length = 1)
    (h1c : ∀ v ∈ xs, v.oneCell' = true) (h1v : ∀ v ∈ cs, v.oneCell' = true) :
    Calls Tryz.prog 30 #[.slice (some ⟨g, 0, none⟩) n c, .int .i64 i, .slice (some ⟨vb, 0, none⟩) 1 1] w fun e w' =>
      ∃ G row, e = .returned (.slice (some ⟨w.heap.size, 0, none⟩) (n + 1) G) ∧ Blk w' w.heap.size 9 row ∧ row.size = G ∧ n + 1 ≤ G ∧ G ≤ maxLen ∧
        row.toList.take ((n + 1)) = xs.take (i) ++ cs ++ xs.drop (i) ∧ w.grownBy w' none := by
  obtain ⟨i0, hi0, hz0, hzs, hzb⟩ := info_parts insS_info
  have hz2 : ¬ ((i : Int) = (n : Int)) := by omega
  have hz2b : ((i : Int) == (n : Int)) = false := by rw [beq_eq_false_iff_ne]; exact hz2
  have hz3 : (c : Int) < (n : Int) + 1 := by omega
  have hxl : xs.length = n := by rw [← hx, List.length_take, Array.length_toList, hcur]; exact Nat.min_eq_left (by omega)
  have hcs : ∀ j v, xs[j]? = some v → w.cell? ⟨g, j, none⟩ = some v := fun j v hj => by
    rw [hb.cell j]
    have hj' : j < n := by rw [← hxl]; exact (List.getElem?_eq_some_iff.1 hj).1
    rw [← hx, List.getElem?_take_of_lt hj'] at hj
    rw [← hj]; simp
  have hdl : (xs.drop (i)).length = (n - i) := by rw [List.length_drop, hxl] <;> omega
  have htl : (xs.take (i)).length = i := by rw [List.length_take, hxl]; exact Nat.min_eq_left (by omega)
  have hold : (Builtin.firstCells i0.size i (.slice (some ⟨g, 0, none⟩) i c)).run Tryz.prog w.drew = .ok (xs.take (i)).toArray w.drew := by
    rw [hzs]
    exact run_firstCells_some w.drew 1 i ⟨g, 0, none⟩ i c (xs.take (i)) (by rw [htl] <;> omega) (fun j v hj => by
      rw [plus_addr, Nat.zero_add]
      rw [List.getElem?_take] at hj
      split at hj
      · exact hcs j v hj
      · cases hj)
  obtain ⟨G, hG⟩ : ∃ G, G = grownCap w (n + 1) c 9 := ⟨_, rfl⟩
  have hGn : n + 1 ≤ G := by rw [hG]; exact grownCap_ge w _ _ _
  have hGm : G ≤ maxLen := by rw [hG]; exact grownCap_le_maxLen w (n + 1) c 9 (by unfold maxLen; omega)
  have hik : i + (n + 1 - i) = n + 1 := by omega
  have hkk : (n : Int) + 1 - (i : Int) = ((n + 1 - i : Nat) : Int) := by omega
  obtain ⟨ROW, hROW⟩ : ∃ ROW : Array Value, ROW = (xs.take (i)).toArray ++ Builtin.zeroCells (.string ⟨#[]⟩ : Value).cells (n + 1 - i) ++ Builtin.zeroCells (.string ⟨#[]⟩ : Value).cells (G - (n + 1)) := ⟨_, rfl⟩
  have hRs : ROW.size = G := by
    rw [hROW]
    simp only [Array.size_append, List.size_toArray, htl]
    simp [Builtin.zeroCells, Value.cells]
    omega
  have hRt : ROW.toList.take (i) = xs.take (i) := by
    rw [hROW]
    simp only [Array.toList_append]
    rw [List.append_assoc, List.take_append_of_le_length (by rw [htl]; exact Nat.le_refl _), List.take_of_length_le (by rw [htl]; exact Nat.le_refl _)]
  have hrz : ∀ ty, (Builtin.append_ #[22, 3] ty #[.slice (some ⟨g, 0, none⟩) i c, .int .i64 ((n : Int) + 1 - (i : Int))]).run Tryz.prog w =
      .ok (.slice (some ⟨w.heap.size, 0, none⟩) (n + 1) G) (w.drew.alloc (.cells ROW 9)) := fun ty => by
    have h := Lib.run_append_grow_zeros (P := Tryz.prog) w 22 3 ty 9 i0 _ .i64 .i64 Tryz.underlying22 Tryz.underlying3 hi0 hz0 (some ⟨g, 0, none⟩) i c (xs.take (i)) hold (n + 1 - i) (by omega) (by omega) (by omega) (by omega) (by rw [hzb]; omega) (by rw [hzb, hik]; exact growslice_fits hroom (by omega))
    rw [hik] at h
    rw [hkk, hROW, hG]
    exact h
  have s1 := fun W => run_from (P := Tryz.prog) W 22 9 i0 Tryz.underlying22 hi0 g 0 n c .i64 (i : Int) i (i) (n - i) (c - i) rfl (by omega) (by omega) (by rw [hzs]; omega) rfl rfl
  have s2 := fun W => run_cut_h (P := Tryz.prog) W 22 9 i0 Tryz.underlying22 hi0 (some ⟨g, 0, none⟩) n c .i64 (i : Int) i rfl (by omega)
  have s3 := fun W => run_from (P := Tryz.prog) W 22 9 i0 Tryz.underlying22 hi0 w.heap.size 0 (n + 1) G .i64 (i : Int) i (i) (n + 1 - i) (G - i) rfl (by omega) (by omega) (by rw [hzs]; omega) rfl rfl
  have s4 := fun W => run_from (P := Tryz.prog) W 22 9 i0 Tryz.underlying22 hi0 w.heap.size 0 (n + 1) G .i64 ((i : Int) + 1) (i + 1) ((i + 1)) (n - i) (G - (i + 1)) (by omega) (by omega) (by omega) (by rw [hzs]; omega) (by omega) rfl
  have hcpA : ∀ (W : World), Blk W w.heap.size 9 ROW → Blk W vb 9 cs.toArray → ∀ ty, (Builtin.copy_ #[22, 22] ty #[.slice (some ⟨w.heap.size, i, none⟩) (n + 1 - i) (G - i), .slice (some ⟨vb, 0, none⟩) 1 1]).run Tryz.prog W = .ok (goInt 1) (W.setCells w.heap.size (i) cs) := fun W hbW hvW ty => by
    have hm : Nat.min 1 (n + 1 - i) = 1 := Nat.min_eq_left (by omega)
    have := run_copy_size (P := Tryz.prog) W 22 22 ty 9 i0 w.heap.size (i) (n + 1 - i) (G - i) ⟨vb, 0, none⟩ 1 1 cs Tryz.underlying22 hi0 (by rw [hm, hzs, hcl])
      (fun j v hj => by rw [plus_addr, Nat.zero_add, hvW.cell j]; simpa using hj)
      (fun j hj => by rw [hbW.cell, Array.getElem?_eq_getElem (by rw [hRs]; omega)]; rfl) (fun j hj => hbW.frozen _) h1v
    rw [hm] at this
    exact this
  have hR2s : (overL ROW.toList (i) cs).toArray.size = G := by
    rw [List.size_toArray, overL_len (by rw [hcl, Array.length_toList, hRs]; omega), Array.length_toList, hRs]
  have hcpB : ∀ (W : World), Blk W w.heap.size 9 (overL ROW.toList (i) cs).toArray → Blk W g 9 cur → ∀ ty, (Builtin.copy_ #[22, 22] ty #[.slice (some ⟨w.heap.size, (i + 1), none⟩) (n - i) (G - (i + 1)), .slice (some ⟨g, i, none⟩) (n - i) (c - i)]).run Tryz.prog W = .ok (goInt (n - i : Nat)) (W.setCells w.heap.size ((i + 1)) (xs.drop (i))) := fun W hbW hgW ty => by
    have hm : Nat.min (n - i) (n - i) = n - i := Nat.min_self _
    have := run_copy_size (P := Tryz.prog) W 22 22 ty 9 i0 w.heap.size ((i + 1)) (n - i) (G - (i + 1)) ⟨g, i, none⟩ (n - i) (c - i) (xs.drop (i)) Tryz.underlying22 hi0 (by rw [hm, hdl, hzs] <;> omega)
      (fun j v hj => by
        rw [plus_addr]
        rw [List.getElem?_drop] at hj
        rw [hgW.cell, ← hb.cell]
        exact hcs _ v hj)
      (fun j hj => by rw [hbW.cell, Array.getElem?_eq_getElem (by rw [hR2s]; rw [hdl] at hj; omega)]; rfl) (fun j hj => hbW.frozen _) (fun v hv' => h1c v (List.mem_of_mem_drop hv'))
    rw [hm] at this
    exact this
  have hbA : Blk ((w.alloc (.cells ROW 9)).drew) w.heap.size 9 ROW := Blk.new w 9 ROW
  have hvA : Blk ((w.alloc (.cells ROW 9)).drew) vb 9 cs.toArray := hv.alloc _
  have hgrA : w.grownBy ((w.alloc (.cells ROW 9)).drew.setCells w.heap.size (i) cs) none :=
    new_setCells (Nat.le_refl _) _ _ (only_drew (only_alloc (World.grownBy.refl w none) (.cells ROW 9)))
  have hbB : Blk (((w.alloc (.cells ROW 9)).drew.setCells w.heap.size (i) cs).drew) w.heap.size 9 (overL ROW.toList (i) cs).toArray :=
    Blk.setCells (w := w) cs _ hbA (by rw [hcl, hRs]; omega)
  have hgB : Blk (((w.alloc (.cells ROW 9)).drew.setCells w.heap.size (i) cs).drew) g 9 cur := hb.grown (only_drew hgrA) (by simp)
  have hend : row_end ((((w.alloc (.cells ROW 9)).drew.setCells w.heap.size (i) cs).drew).setCells w.heap.size ((i + 1)) (xs.drop (i))) w.heap.size 9 (G) ((n + 1)) (xs.take (i) ++ cs ++ xs.drop (i)) := by
    refine ⟨_, Blk.setCells (w := w) _ _ hbB (by rw [hdl, hR2s]; omega), ?_, ?_⟩
    · have e : (overL ROW.toList (i) cs).length = G := by simpa using hR2s
      show (overL (overL ROW.toList (i) cs) ((i + 1)) (xs.drop (i))).toArray.size = G
      rw [List.size_toArray, overL_len (by rw [hdl, e]; omega), e]
    · have hRl : ROW.toList.length = G := by rw [Array.length_toList, hRs]
      exact overL_two (by rw [hdl, hRl]; omega) (by omega) hRt (by rw [hdl]; omega) (by rw [hdl, hRl]; omega) htl
  have hgr : w.grownBy ((((w.alloc (.cells ROW 9)).drew.setCells w.heap.size (i) cs).drew).setCells w.heap.size ((i + 1)) (xs.drop (i))) none :=
    new_setCells (Nat.le_refl _) _ _ (only_drew hgrA)
  have hwi : IntKind.i64.wrap ((i : Int) + 1) = (i : Int) + 1 := IntWalk.i64_in _ (by omega)
  have HE := Lib.hid hend
  have HG := Lib.hid hgr
  have HGm := Lib.hid hGm
  clear hkk hik hold hROW hG hRs hRt hxl hcs hdl htl hcur hx hend hgr hgrA hR2s hGm
  go_enter Tryz.func30, Tryz.ntmps30
  go_wp2_with (first
    | (at_builtin; refine Lib.wpList_append_run _ rfl _ _ _ _ rfl _ _ rfl rfl _ _ (hrz _) ?_)
    | (at_builtin; refine wpList_copy_runI _ rfl _ _ 22 22 rfl _ _ rfl rfl (hcpA _ hbA hvA _) ?_))
  go_region_law (refine step_copy_runI rfl _ _ 22 22 rfl _ _ (by simp [Act.eval, Act.put]) (by simp [Act.eval, Act.put]) (hcpB _ hbB hgB _) ?_)
  go_wp2
  go_ret
  obtain ⟨row, e1, e2, e3⟩ := HE.out
  exact ⟨G, row, rfl, e1, e2, hGn, HGm.out, e3, HG.out⟩

set_option maxHeartbeats 1000000 in
theorem insS_last (base n vb : Nat) (v : Value) (xs cs : List Value) (w : World) (hown : w.ownsRow base 9 1 v n xs) (hn : n + 1 ≤ 1048576) (hbase : base ≤ w.heap.size)
    (hv : Blk w vb 9 cs.toArray) (hcl : cs.length = 1) (h1v : ∀ v ∈ cs, v.oneCell' = true) :
    Calls Tryz.prog 30 #[v, .int .i64 n, .slice (some ⟨vb, 0, none⟩) 1 1] w fun e w' =>
      ∃ v', e = .returned v' ∧ w'.ownsRow base 9 1 v' (n + 1) (xs ++ cs) ∧ w.grownBy w' v.ownBlock ∧ (v'.ownBlock = v.ownBlock ∨ v'.ownBlock = some w.heap.size) := by
  obtain ⟨i0, hi0, hz0, hzs, hzb⟩ := info_parts insS_info
  obtain ⟨A, c, rfl, hA⟩ := own_form hown
  have s1 := fun W => run_cut_l (P := Tryz.prog) W 22 9 i0 Tryz.underlying22 hi0 A n c .i64 (n : Int) n rfl (Nat.le_refl _)
  have hcs : ∀ j u, cs[j]? = some u → w.cell? ((⟨vb, 0, none⟩ : Addr).add j) = some u := fun j u hj => by
    rw [plus_addr, Nat.zero_add, hv.cell j]; simpa using hj
  go_enter Tryz.func30, Tryz.ntmps30
  go_wp2_with (at_builtin
               refine wpList_append_own_at w rfl _ _ 22 rfl base 9 i0 _ 1 16 Tryz.underlying22 hi0 hz0 hzs hzb rfl (by decide) (.slice A n c) n xs rfl hown ⟨vb, 0, none⟩ 1 1 cs rfl (by omega) hcs h1v (by unfold maxLen; omega) (by omega) hbase ?_
               intro v' w' k1 k2 k3 k4)
  go_ret
  exact ⟨v', rfl, k1, k2, k4⟩

/-- slices.Insert of one element into a row of the call's own. -/
theorem insS_own (base n i vb : Nat) (v : Value) (xs cs : List Value) (w : World) (hown : w.ownsRow base 9 1 v n xs) (hi : i ≤ n) (hn : n + 1 ≤ 1048576) (hbase : base ≤ w.heap.size)
    (hv : Blk w vb 9 cs.toArray) (hvb : some vb ≠ v.ownBlock) (hcl : cs.length = 1) (h1c : ∀ v ∈ xs, v.oneCell' = true) (h1v : ∀ v ∈ cs, v.oneCell' = true) :
    Calls Tryz.prog 30 #[v, .int .i64 i, .slice (some ⟨vb, 0, none⟩) 1 1] w fun e w' =>
      ∃ v', e = .returned v' ∧ w'.ownsRow base 9 1 v' (n + 1) (xs.take (i) ++ cs ++ xs.drop (i)) ∧ w.grownBy w' v.ownBlock ∧ (v'.ownBlock = v.ownBlock ∨ v'.ownBlock = some w.heap.size) := by
  have hxl : xs.length = n := by have := hown.1; omega
  rcases Nat.lt_or_ge i n with hlt | hge
  · rcases hown.2 with ⟨_, h0⟩ | ⟨g, c, cur, rfl, hbg, hg, hnc, hcm, hcs, htk⟩
    · omega
    · have hgb : Blk w g 9 cur := hg
      rw [Nat.mul_one] at hcs htk
      have hne : vb ≠ g := fun e => hvb (by rw [e]; rfl)
      rcases Nat.lt_or_ge c (n + 1) with hr | hr
      · refine (insS_grow g n c i vb xs cs cur w hlt hnc hr hn hgb hcs htk hv hcl h1c h1v).mono ?_
        rintro e w' ⟨G, row, rfl, k1, k2, k3, k4, k5, k6⟩
        refine ⟨_, rfl, ⟨?_, .inr ⟨_, G, row, rfl, hbase, k1, k3, k4, (by rw [Nat.mul_one]; exact k2), (by rw [Nat.mul_one]; exact k5)⟩⟩, ?_, .inr rfl⟩
        · simp only [List.length_append, List.length_take, List.length_drop, hxl, hcl]; omega
        · exact ⟨k6.os, k6.tape, k6.output, k6.size, fun k hk _ => k6.block k hk (by simp)⟩
      · refine (insS_shift g n c i vb xs cs cur w hlt hr hcm hne hgb hcs htk hv hcl h1c h1v).mono ?_
        rintro e w' ⟨rfl, rfl⟩
        have hdl : (xs.drop (i)).length = (n - i) := by rw [List.length_drop, hxl] <;> omega
        have hb1 := Blk.setCells (w := w) (xs.drop (i)) ((i + 1)) (show Blk w.drew g 9 cur from hgb) (by rw [hdl, hcs]; omega)
        have hl1 : (overL cur.toList ((i + 1)) (xs.drop (i))).length = c := by rw [overL_len (by rw [hdl, Array.length_toList, hcs]; omega), Array.length_toList, hcs]
        have hb2 := Blk.setCells (w := w) cs (i) hb1 (by rw [List.size_toArray, hl1, hcl]; omega)
        refine ⟨_, rfl, ⟨?_, .inr ⟨g, c, _, rfl, hbg, hb2, hr, hcm, ?_, ?_⟩⟩, ?_, .inl rfl⟩
        · simp only [List.length_append, List.length_take, List.length_drop, hxl, hcl]; omega
        · rw [Nat.mul_one]
          show (overL (overL cur.toList ((i + 1)) (xs.drop (i))) (i) cs).toArray.size = c
          rw [List.size_toArray, overL_len (by rw [hl1, hcl]; omega), hl1]
        · rw [Nat.mul_one]
          refine overL_two2 (by rw [hdl, Array.length_toList, hcs]; omega) (by omega) ?_ (by rw [hdl]; omega) (by rw [List.length_take, hxl]; omega)
          rw [← htk, List.take_take, Nat.min_eq_left (by omega)]
        · exact only_setCells _ _ (only_setCells _ _ (only_drew (World.grownBy.refl _ _)))
  · obtain rfl : i = n := by omega
    refine (insS_last base i vb v xs cs w hown hn hbase hv hcl h1v).mono ?_
    rintro e w' ⟨v', rfl, k1, k2, k3⟩
    refine ⟨v', rfl, ?_, k2, k3⟩
    rw [List.take_of_length_le (by omega), List.drop_of_length_le (by omega), List.append_nil]
    exact k1

end Go.Proofs.YtbdbcffnjibjoaaGreatDoor
