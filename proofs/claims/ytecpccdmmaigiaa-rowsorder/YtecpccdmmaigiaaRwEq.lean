/- Rows compared: two that are the same. -/
import Derived.Test.YtecpccdmmaigiaaRwStr
import Derived.Laws.StructEq
namespace Go.Proofs.Ytecpccdmmaigiaa
set_option linter.unusedVariables false
set_option linter.unusedSimpArgs false
open Go.RowKit
theorem eq_row (a b : List UInt8) (w : World) : (Op.equalIn 10000 40 (.agg #[str a, str b]) (.agg #[str a, str b])).run Try.prog w = .ok true w := by
  have u9 := Try.underlying9
  have e9 : ∀ (l : List UInt8) (d : Nat), (Op.equalIn (d + 1) 9 (str l) (str l)).run Try.prog w = .ok true w := fun l d => by
    unfold str; rw [run_equalIn_string w d 9 _ _ u9]; simp
  rw [show (10000 : Nat) = 9999 + 1 from rfl, run_equalIn_agg w 9999 40 _ _ (by kernel_rfl) (by kernel_rfl)]
  go_simp
  trace_state
theorem gd_row (op : BinOp) (x y : Operand) (a b : List UInt8) (w : World) : (eqGuard op 40 x y (.agg #[str a, str b]) (.agg #[str a, str b])).run Try.prog w = .ok () w := run_eqGuard_agg w op 40 x y _ _ (by kernel_rfl)
end Go.Proofs.Ytecpccdmmaigiaa
