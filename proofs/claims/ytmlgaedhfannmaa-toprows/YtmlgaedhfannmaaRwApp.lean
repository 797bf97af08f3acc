/- Sorted tables: one row more behind a row of the call's own; rows cut out of a list. -/
import Derived.Test.YtmlgaedhfannmaaBunRA
import Derived.Test.YtmlgaedhfannmaaRgA
import Derived.OwnWalk
namespace Go.Proofs.Ytmlgaedhfannmaa
set_option linter.unusedVariables false
set_option linter.unusedSimpArgs false
open Go.RowKit
theorem info_row : (Try.prog.info? 51).map (fun i => (i.zero, i.size, i.bytes)) = some (some (.agg #[.string ⟨#[]⟩, .string ⟨#[]⟩]), 2, 32) := by kernel_rfl
theorem rowR_below {w w' : World} {base n : Nat} {v : Value} {xs : List Value} (h : w.ownsRow base 51 2 v n xs) (hb : Below w.heap.size w w') : w'.ownsRow base 51 2 v n xs :=
  World.ownsRow.kept h (only_below hb none) (by cases v.ownBlock <;> simp)
/-- One row more behind a row of the call's own: its run. -/
theorem run_app_row (W : World) (base n : Nat) (v : Value) (l : List Rw) (r : Rw) (hown : W.ownsRow base 51 2 v n (pcR l)) (hn : n + 1 ≤ 1048576) (hb : base ≤ W.heap.size) :
    ∃ v' wf, (Builtin.append_ #[52, 52] 52 #[v, .slice (some ⟨W.heap.size, 0, none⟩) 1 1]).run Try.prog (W.alloc (.cells #[str r.key, str r.val] 51)) = .ok v' wf ∧
      wf.ownsRow base 51 2 v' (n + 1) (pcR (l ++ [r])) ∧ (W.alloc (.cells #[str r.key, str r.val] 51)).grownBy wf v.ownBlock := by
  obtain ⟨i0, hi0, hz0, hzs, hzb⟩ := info_parts info_row
  have hB := Blk.new W 51 #[str r.key, str r.val]
  have hh : Holds (W.alloc (.cells #[str r.key, str r.val] 51)) (W.heap.size + 1) 2 (some ⟨W.heap.size, 0, none⟩) 1 (rc r) := by
    refine ⟨rfl, fun _ => ⟨W.heap.size, 0, rfl, by omega, fun j u hu => ?_⟩⟩
    rw [Nat.zero_add, hB.cell j]
    simpa [rc] using hu
  obtain ⟨v', wf, h1, h2, h3, _⟩ := run_app_all (P := Try.prog) (W.alloc (.cells #[str r.key, str r.val] 51)) 52 52 base 51 i0 _ 2 32 Try.underlying52 hi0 hz0 hzs hzb rfl (by decide) v n (pcR l) (hown.alloc _) (W.heap.size + 1) (some ⟨W.heap.size, 0, none⟩) 1 1 (rc r) (fun h => by cases h) hh (rc_one r) hn (by decide) (by simp; omega)
  exact ⟨v', wf, h1, by rw [pcR_app]; simpa [pcR] using h2, h3⟩
theorem rw_le {w : World} {base base' e size n : Nat} {v : Value} {xs : List Value} (h : w.ownsRow base e size v n xs) (hb : base' ≤ base) : w.ownsRow base' e size v n xs := by
  refine ⟨h.1, ?_⟩
  rcases h.2 with h0 | ⟨g, c, cur, h1, h2, h3⟩
  · exact .inl h0
  · exact .inr ⟨g, c, cur, h1, Nat.le_trans hb h2, h3⟩
/-- Rows of a list, cut out of it. -/
theorem RIn.cut {w : World} {B n c : Nat} {A : Option Addr} {l : List Rw} (h : RIn w B A n c l) {lo hg : Nat} (h1 : lo ≤ hg) (h2 : hg ≤ n) :
    RIn w B (cutAt A c lo 2) (hg - lo) (c - lo) ((l.take hg).drop lo) := by
  obtain ⟨k1, k2, k3, k4⟩ := h
  refine ⟨by rw [List.length_drop, List.length_take]; omega, by omega, fun hA => ?_, ?_⟩
  · have := k3 (cutAt_none hA); omega
  · have := k4.cut h1 h2 k2
    rw [pcR_drop, pcR_take] at this
    rwa [List.drop_take]
theorem rw_app {W w' : World} {ops : Array Oper} {rest : List Oper} {o : Oper} {a : Act} {Q : Exit → Act → World → Prop} {v' : Value} (hgd : o.guard = none) (s x : Operand) (t : TypeId)
    (ho : o.op = .call { callee := .builtin .append, args := #[s, x], argTypes := #[t, t] }) (vs vx : Value) (hs : a.eval s = vs) (hx : a.eval x = vx)
    (hrun : (Builtin.append_ #[t, t] o.type #[vs, vx]).run Try.prog W = .ok v' w') (h : wpList Try.prog ops Q rest (a.put o.dst v') w') : wpList Try.prog ops Q (o :: rest) a W := by
  refine wpList_plain hgd fun K hK => ?_
  unfold Oper.wp
  simp [execOp, ho, resolve, invoke, builtin, hs, hx, hrun, Result.andThen]
  exact hK _ _ h
/-- The same run, with where the new row lies. -/
theorem run_app_row4 (W : World) (base n : Nat) (v : Value) (l : List Rw) (r : Rw) (hown : W.ownsRow base 51 2 v n (pcR l)) (hn : n + 1 ≤ 1048576) (hb : base ≤ W.heap.size) :
    ∃ v' wf, (Builtin.append_ #[52, 52] 52 #[v, .slice (some ⟨W.heap.size, 0, none⟩) 1 1]).run Try.prog (W.alloc (.cells #[str r.key, str r.val] 51)) = .ok v' wf ∧
      wf.ownsRow base 51 2 v' (n + 1) (pcR (l ++ [r])) ∧ (W.alloc (.cells #[str r.key, str r.val] 51)).grownBy wf v.ownBlock ∧ (v'.ownBlock = v.ownBlock ∨ v'.ownBlock = some (W.heap.size + 1)) := by
  obtain ⟨i0, hi0, hz0, hzs, hzb⟩ := info_parts info_row
  have hB := Blk.new W 51 #[str r.key, str r.val]
  have hh : Holds (W.alloc (.cells #[str r.key, str r.val] 51)) (W.heap.size + 1) 2 (some ⟨W.heap.size, 0, none⟩) 1 (rc r) := by
    refine ⟨rfl, fun _ => ⟨W.heap.size, 0, rfl, by omega, fun j u hu => ?_⟩⟩
    rw [Nat.zero_add, hB.cell j]
    simpa [rc] using hu
  obtain ⟨v', wf, h1, h2, h3, h4⟩ := run_app_all (P := Try.prog) (W.alloc (.cells #[str r.key, str r.val] 51)) 52 52 base 51 i0 _ 2 32 Try.underlying52 hi0 hz0 hzs hzb rfl (by decide) v n (pcR l) (hown.alloc _) (W.heap.size + 1) (some ⟨W.heap.size, 0, none⟩) 1 1 (rc r) (fun h => by cases h) hh (rc_one r) hn (by decide) (by simp; omega)
  exact ⟨v', wf, h1, by rw [pcR_app]; simpa [pcR] using h2, h3, by simpa using h4⟩
end Go.Proofs.Ytmlgaedhfannmaa
