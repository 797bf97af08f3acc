/- Device lists: changes, devices and the state, in memory. -/
import Derived.Test.YtmlgaedhfannmaaBunVA
import Derived.Test.YtmlgaedhfannmaaBunRA
import Derived.Test.YtmlgaedhfannmaaBunVB
import Derived.Test.YtmlgaedhfannmaaRows
namespace Go.Proofs.Ytmlgaedhfannmaa
set_option linter.unusedVariables false
set_option linter.unusedSimpArgs false
open Go.RowKit
def ucL (c : Uc) : List Value := [.int .i64 c.st, .int .i64 c.pv, str c.key, str c.val, .bool c.gone]
/-- Its strings are no longer than strings are. -/
def UcOk (c : Uc) : Prop := c.key.length ≤ 9223372036854775807 ∧ c.val.length ≤ 9223372036854775807
theorem ucL_len (c : Uc) : (ucL c).length = 5 := rfl
theorem ucL_one (c : Uc) : ∀ u ∈ ucL c, u.oneCell' = true := by intro u hu; simp [ucL] at hu; rcases hu with rfl | rfl | rfl | rfl | rfl <;> rfl
theorem info_dev : (Try.prog.info? 42).map (fun i => (i.zero, i.size, i.bytes)) = some (some (.agg #[.string ⟨#[]⟩, .string ⟨#[]⟩]), 2, 32) := by kernel_rfl
theorem info_upd : (Try.prog.info? 44).map (fun i => (i.zero, i.size, i.bytes)) = some (some (.agg #[.int .i64 0, .int .i64 0, .string ⟨#[]⟩, .string ⟨#[]⟩, .bool false]), 5, 56) := by kernel_rfl
@[go_sem ↓high] theorem dv_str_cells (l : List UInt8) : (str l).cells = #[str l] := rfl
/-- The append at an operation, by its run. -/
theorem dv_app {W w' : World} {ops : Array Oper} {rest : List Oper} {o : Oper} {a : Act} {Q : Exit → Act → World → Prop} {v' : Value} (hgd : o.guard = none) (s x : Operand) (t : TypeId)
    (ho : o.op = .call { callee := .builtin .append, args := #[s, x], argTypes := #[t, t] }) (vs vx : Value) (hs : a.eval s = vs) (hx : a.eval x = vx)
    (hrun : (Builtin.append_ #[t, t] o.type #[vs, vx]).run Try.prog W = .ok v' w') (h : wpList Try.prog ops Q rest (a.put o.dst v') w') : wpList Try.prog ops Q (o :: rest) a W := by
  refine wpList_plain hgd fun K hK => ?_
  unfold Oper.wp
  simp [execOp, ho, resolve, invoke, builtin, hs, hx, hrun, Result.andThen]
  exact hK _ _ h
section
variable {w w' : World} {B B' n c i : Nat} {A : Option Addr}
theorem uc_at {l : List Uc} (h : LIn ucL 5 w B A n c l) (hi : i < l.length) :
    ∃ b off, A = some ⟨b, off, none⟩ ∧ b < B ∧ w.cell? ⟨b, off + i * 5, none⟩ = some (.int .i64 l[i].st) ∧ w.cell? ⟨b, off + i * 5 + 1, none⟩ = some (.int .i64 l[i].pv) ∧ w.cell? ⟨b, off + i * 5 + 2, none⟩ = some (str l[i].key) ∧ w.cell? ⟨b, off + i * 5 + 3, none⟩ = some (str l[i].val) ∧ w.cell? ⟨b, off + i * 5 + 4, none⟩ = some (.bool l[i].gone) := by
  obtain ⟨b, off, hA, hb, hc⟩ := h.at_ ucL_len hi
  refine ⟨b, off, hA, hb, hc 0 _ (by omega) rfl, ?_, ?_, ?_, ?_⟩
  · have := hc 1 _ (by omega) rfl; rwa [← Nat.add_assoc] at this
  · have := hc 2 _ (by omega) rfl; rwa [← Nat.add_assoc] at this
  · have := hc 3 _ (by omega) rfl; rwa [← Nat.add_assoc] at this
  · have := hc 4 _ (by omega) rfl; rwa [← Nat.add_assoc] at this
theorem dv_at {l : List Rw} (h : LIn rc 2 w B A n c l) (hi : i < l.length) :
    ∃ b off, A = some ⟨b, off, none⟩ ∧ b < B ∧ w.cell? ⟨b, off + i * 2, none⟩ = some (str l[i].key) ∧ w.cell? ⟨b, off + i * 2 + 1, none⟩ = some (str l[i].val) := by
  obtain ⟨b, off, hA, hb, hc⟩ := h.at_ rc_len hi
  refine ⟨b, off, hA, hb, hc 0 _ (by omega) rfl, ?_⟩
  have := hc 1 _ (by omega) rfl; rwa [← Nat.add_assoc] at this
end
theorem pcK_drop {α : Type} {enc : α → List Value} {k : Nat} (hk : ∀ x, (enc x).length = k) : ∀ (l : List α) (i : Nat), (pcK enc l).drop (i * k) = pcK enc (l.drop i)
  | [], i => by simp [pcK]
  | x :: l, 0 => by simp
  | x :: l, i + 1 => by
    rw [pcK_cons, List.drop_succ_cons, ← pcK_drop hk l i, List.drop_append, hk]
    rw [List.drop_of_length_le (by rw [hk, Nat.succ_mul]; omega), List.nil_append]
    congr 1
    rw [Nat.succ_mul]; omega
/-- A part of a list, from place i on. -/
theorem LIn.drop {α : Type} {enc : α → List Value} {k : Nat} (hk : ∀ x, (enc x).length = k) {w : World} {B n c : Nat} {A : Option Addr} {l : List α} (h : LIn enc k w B A n c l) (i : Nat) (hi : i ≤ n) :
    LIn enc k w B (cutAt A c i k) (n - i) (c - i) (l.drop i) := by
  obtain ⟨h1, h2, h3, h4⟩ := h
  refine ⟨by rw [List.length_drop, h1], by omega, ?_, ?_⟩
  · intro e
    unfold cutAt at e
    split at e
    · omega
    · cases A with
      | none => have := h3 rfl; omega
      | some a => simp at e
  · refine ⟨by rw [pcK_len hk, List.length_drop, h1], fun hn => ?_⟩
    obtain ⟨b, off, rfl, hb, hcell⟩ := h4.2 (by omega)
    have : cutAt (some ⟨b, off, none⟩) c i k = some ⟨b, off + i * k, none⟩ := by unfold cutAt; rw [if_neg (by omega)]; simp [plus_addr]
    refine ⟨b, off + i * k, this, hb, fun j u hj => ?_⟩
    rw [Nat.add_assoc]
    refine hcell _ _ ?_
    rw [← pcK_drop hk, List.getElem?_drop] at hj
    exact hj
/-- The state in memory: the updates, and the devices. -/
structure DvS (B : Nat) (w : World) (us : List Uc) (ds : List Rw) (vu vd : Value) : Prop where
  box : Blk w B 85 #[vu, vd]
  ru : w.ownsRow (B + 1) 44 5 vu us.length (pcK ucL us)
  rd : w.ownsRow (B + 1) 42 2 vd ds.length (pcR ds)
  size : B + 1 ≤ w.heap.size
/-- The blocks that the state may turn. -/
def DvN (B : Nat) (vu vd : Value) (k : Nat) : Prop := k = B ∨ vu.ownBlock = some k ∨ vd.ownBlock = some k
def NewD (w : World) (v v' : Value) : Prop := ∀ g, v'.ownBlock = some g → v.ownBlock = some g ∨ w.heap.size ≤ g
theorem NewD.refl (w : World) (v : Value) : NewD w v v := fun _ h => .inl h
theorem NewD.trans {w w' : World} {v v' v'' : Value} (h : NewD w v v') (h' : NewD w' v' v'') (hs : w.heap.size ≤ w'.heap.size) : NewD w v v'' := fun g hg => by
  rcases h' g hg with h1 | h1
  · exact h g h1
  · exact .inr (Nat.le_trans hs h1)
theorem dv_own_box {B e size n j : Nat} {w : World} {v u : Value} {xs : List Value} (h : w.ownsRow (B + 1) e size v n xs) : (w.setCell ⟨B, j, none⟩ u).ownsRow (B + 1) e size v n xs :=
  own_kept h fun g hg => Below.heap_setCell w _ _ g (by show g ≠ B; have := (World.ownsRow.lt h g hg).1; omega)
theorem dv_beside_set {B : Nat} {w w' : World} {N : Nat → Prop} (h : Beside N w w') (hN : N B) (j : Nat) (u : Value) : Beside N w (w'.setCell ⟨B, j, none⟩ u) :=
  ⟨h.os, h.tape, h.output, by simpa [World.setCell] using h.size, fun k hk hn => (Below.heap_setCell w' _ _ k (by rintro rfl; exact hn hN)).trans (h.block k hk hn)⟩
theorem dv_beside_grown {w w' : World} {N : Nat → Prop} {r : Option Nat} (h : w.grownBy w' r) (hr : ∀ k, r = some k → N k) : Beside N w w' :=
  ⟨h.os, h.tape, h.output, h.size, fun k hk hn => h.block k hk fun e => hn (hr k e.symm)⟩
theorem dv_own_cell {w : World} {base e size n c g i : Nat} {xs : List Value} (h : w.ownsRow base e size (.slice (some ⟨g, 0, none⟩) n c) n xs) (u : Value) :
    (w.setCell ⟨g, i, none⟩ u).ownsRow base e size (.slice (some ⟨g, 0, none⟩) n c) n (xs.set i u) := by
  refine ⟨by rw [List.length_set]; exact h.1, ?_⟩
  rcases h.2 with ⟨hv, _⟩ | ⟨g', cap, cur, hv, hb, hh, hnc, hm, hsz, ht⟩
  · injection hv with hv; cases hv
  · injection hv with hv1 _ hv3
    injection hv1 with hv1
    injection hv1 with hv1
    subst hv1 hv3
    refine .inr ⟨g, c, cur.setIfInBounds i u, rfl, hb, (show Blk w g e cur from hh).set_ i u, hnc, hm, by simpa using hsz, ?_⟩
    rw [← ht]
    simp [List.take_set]
theorem pcR_set : ∀ (l : List Rw) (i : Nat) (_ : i < l.length) (x : Rw), ((pcR l).set (i * 2) (str x.key)).set (i * 2 + 1) (str x.val) = pcR (l.set i x)
  | [], i, h, _ => by simp at h
  | y :: l, 0, _, x => by simp [pcR_cons, rc]
  | y :: l, i + 1, h, x => by
    have ih := pcR_set l i (by simpa using h) x
    rw [List.set_cons_succ, pcR_cons, pcR_cons, ← ih, List.set_append_right _ _ (by rw [rc_len]; omega), rc_len, show (i + 1) * 2 - 2 = i * 2 by omega, List.set_append_right _ _ (by rw [rc_len]; omega), rc_len, show (i + 1) * 2 + 1 - 2 = i * 2 + 1 by omega]
/-- A device put in the place of another. -/
theorem dv_own_set {w : World} {base e n c g i : Nat} {l : List Rw} (h : w.ownsRow base e 2 (.slice (some ⟨g, 0, none⟩) n c) n (pcR l)) (hi : i < l.length) (x : Rw) :
    ((w.setCell ⟨g, i * 2, none⟩ (str x.key)).setCell ⟨g, i * 2 + 1, none⟩ (str x.val)).ownsRow base e 2 (.slice (some ⟨g, 0, none⟩) n c) n (pcR (l.set i x)) := by
  rw [← pcR_set l i hi x]
  exact dv_own_cell (dv_own_cell h _) _
section
variable {B : Nat} {w w' : World} {us : List Uc} {ds : List Rw} {vu vd : Value}
theorem DvS.below (h : DvS B w us ds vu vd) (hb : Below w.heap.size w w') : DvS B w' us ds vu vd :=
  ⟨h.box.below hb (by have := h.size; omega), own_below h.ru hb, own_below h.rd hb, Nat.le_trans h.size hb.size⟩
theorem DvS.apart (h : DvS B w us ds vu vd) : Apt vu vd := apt_types h.ru h.rd (by decide)
theorem dvS0 (w : World) : DvS w.heap.size (w.alloc (.cells #[.slice none 0 0, .slice none 0 0] 85)) [] [] (.slice none 0 0) (.slice none 0 0) :=
  ⟨Blk.new _ _ _, World.ownsRow_nil _ _ _ _, World.ownsRow_nil _ _ _ _, by simp⟩
/-- One update more. -/
theorem DvS.push (h : DvS B w us ds vu vd) (x : Uc) (cs : Array Value) (hcs : cs = (ucL x).toArray) (hn : us.length + 1 ≤ 1048576) :
    ∃ v' wf, (Builtin.append_ #[22, 22] 22 #[vu, .slice (some ⟨w.heap.size, 0, none⟩) 1 1]).run Try.prog (w.alloc (.cells cs 44)) = .ok v' wf ∧
      wf.cell? ⟨B, 0, none⟩ = some vu ∧ wf.frozen? ⟨B, 0, none⟩ = false ∧ DvS B (wf.setCell ⟨B, 0, none⟩ v') (us ++ [x]) ds v' vd ∧ Beside (DvN B vu vd) w (wf.setCell ⟨B, 0, none⟩ v') ∧ NewD w vu v' ∧ w.grownBy wf vu.ownBlock := by
  obtain ⟨v', wf, hrun, ho, hg, hor⟩ := run_app_el (P := Try.prog) (enc := ucL) ucL_len ucL_one (by omega) Try.underlying22 info_upd rfl (by omega) w (B + 1) us.length vu us x cs hcs h.ru hn h.size
  have hgw : w.grownBy wf vu.ownBlock := (World.grownBy_alloc w _ _).trans hg
  have hbB : some B ≠ vu.ownBlock := fun e => by have := (World.ownsRow.lt h.ru B e.symm).1; omega
  have hb9 := h.box.grown hgw hbB
  refine ⟨v', wf, hrun, hb9.cell 0, hb9.frozen 0, ⟨by simpa using hb9.set_ 0 v', dv_own_box (by simpa using ho), dv_own_box (own_apart h.rd hgw fun g h1 h2 => h.apart g h2 h1), by have := hgw.size; have := h.size; simp [World.setCell]; omega⟩, ?_, ?_, hgw⟩
  · exact dv_beside_set (dv_beside_grown hgw fun k hk => .inr (.inl hk)) (.inl rfl) 0 v'
  · intro g hg'
    rcases hor with e | e
    · exact .inl (by rw [← e]; exact hg')
    · rw [hg'] at e; injection e with e; exact .inr (by omega)
/-- Another list of devices. -/
theorem DvS.dev (h : DvS B w us ds vu vd) {v' : Value} {wf : World} {ds' : List Rw} (hg : w.grownBy wf vd.ownBlock) (hr : wf.ownsRow (B + 1) 42 2 v' ds'.length (pcR ds')) (hor : NewD w vd v') :
    wf.cell? ⟨B, 1, none⟩ = some vd ∧ wf.frozen? ⟨B, 1, none⟩ = false ∧ DvS B (wf.setCell ⟨B, 1, none⟩ v') us ds' vu v' ∧ Beside (DvN B vu vd) w (wf.setCell ⟨B, 1, none⟩ v') := by
  have hbB : some B ≠ vd.ownBlock := fun e => by have := (World.ownsRow.lt h.rd B e.symm).1; omega
  have hb9 := h.box.grown hg hbB
  refine ⟨hb9.cell 1, hb9.frozen 1, ⟨by simpa using hb9.set_ 1 v', dv_own_box (own_apart h.ru hg fun g h1 h2 => h.apart g h1 h2), dv_own_box hr, by have := hg.size; have := h.size; simp [World.setCell]; omega⟩, ?_⟩
  exact dv_beside_set (dv_beside_grown hg fun k hk => .inr (.inr hk)) (.inl rfl) 1 v'
/-- The same row, turned in its place. -/
theorem DvS.turn (h : DvS B w us ds vu vd) {wf : World} {ds' : List Rw} (hg : w.grownBy wf vd.ownBlock) (hr : wf.ownsRow (B + 1) 42 2 vd ds'.length (pcR ds')) : DvS B wf us ds' vu vd ∧ Beside (DvN B vu vd) w wf := by
  have hbB : some B ≠ vd.ownBlock := fun e => by have := (World.ownsRow.lt h.rd B e.symm).1; omega
  exact ⟨⟨h.box.grown hg hbB, own_apart h.ru hg fun g h1 h2 => h.apart g h1 h2, hr, by have := hg.size; have := h.size; omega⟩, dv_beside_grown hg fun k hk => .inr (.inr hk)⟩
end
end Go.Proofs.Ytmlgaedhfannmaa
