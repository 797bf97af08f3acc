/- Sorted tables: one row more behind a row of the call's own; rows cut out of a list. -/
import Derived.Test.YtgckihglgnbaoaaBunRA
import Derived.Test.YtgckihglgnbaoaaRgA
import Derived.OwnWalk
namespace Go.Proofs.Ytgckihglgnbaoaa
set_option linter.unusedVariables false
set_option linter.unusedSimpArgs false
open Go.RowKit
theorem rw_le {w : World} {base base' e size n : Nat} {v : Value} {xs : List Value} (h : w.ownsRow base e size v n xs) (hb : base' ≤ base) : w.ownsRow base' e size v n xs := by
  refine ⟨h.1, ?_⟩
  rcases h.2 with h0 | ⟨g, c, cur, h1, h2, h3⟩
  · exact .inl h0
  · exact .inr ⟨g, c, cur, h1, Nat.le_trans hb h2, h3⟩
/-- Rows of a list, cut out of it. -/
theorem RIn.cut {w : World} {B n c : Nat} {A : Option Addr} {l : List Rw} (h : RIn w B A n c l) {lo hg : Nat} (h1 : lo ≤ hg) (h2 : hg ≤ n) :
    RIn w B (cutAt A c lo 2) (hg - lo) (c - lo) ((l.take hg).drop lo) := by
  obtain ⟨k1, k2, k3, k4⟩ := h
  refine ⟨by rw [List.length_drop, List.length_take]; omega, by omega, fun hA => ?_, ?_⟩
  · have := k3 (cutAt_none hA); omega
  · have := k4.cut h1 h2 k2
    rw [pcR_drop, pcR_take] at this
    rwa [List.drop_take]
theorem rw_app {W w' : World} {ops : Array Oper} {rest : List Oper} {o : Oper} {a : Act} {Q : Exit → Act → World → Prop} {v' : Value} (hgd : o.guard = none) (s x : Operand) (t : TypeId)
    (ho : o.op = .call { callee := .builtin .append, args := #[s, x], argTypes := #[t, t] }) (vs vx : Value) (hs : a.eval s = vs) (hx : a.eval x = vx)
    (hrun : (Builtin.append_ #[t, t] o.type #[vs, vx]).run Try.prog W = .ok v' w') (h : wpList Try.prog ops Q rest (a.put o.dst v') w') : wpList Try.prog ops Q (o :: rest) a W := by
  refine wpList_plain hgd fun K hK => ?_
  unfold Oper.wp
  simp [execOp, ho, resolve, invoke, builtin, hs, hx, hrun, Result.andThen]
  exact hK _ _ h
end Go.Proofs.Ytgckihglgnbaoaa
