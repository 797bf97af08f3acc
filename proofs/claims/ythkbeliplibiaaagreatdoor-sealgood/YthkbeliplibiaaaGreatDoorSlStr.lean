/- Strings compared with '>' and '>='. -/
import Derived.Test.YthkbeliplibiaaaGreatDoorBunS
import Derived.Test.YthkbeliplibiaaaGreatDoorBunB
namespace Go.Proofs.YthkbeliplibiaaaGreatDoor
set_option linter.unusedVariables false
set_option linter.unusedSimpArgs false
open Go.RowKit
theorem less_turn (a b : List UInt8) : (!Op.bytesLess a b && !a == b) = Op.bytesLess b a := by
  cases h1 : Op.bytesLess a b
  · cases h2 : Op.bytesLess b a
    · have := bytesLess_total a b h1 h2
      subst this
      simp
    · have hne : a ≠ b := fun e => by subst e; rw [h1] at h2; cases h2
      simpa using hne
  · cases h2 : Op.bytesLess b a
    · rfl
    · have := bytesLess_trans _ _ _ h1 h2
      rw [bytesLess_irrefl] at this; cases this
@[go_sem high] theorem run_str_gtr (w : World) (a b : List UInt8) : (binOp BinOp.gtr 9 (str a) (str b)).run Tryz.prog w = .ok (.bool (Op.bytesLess b a)) w := by
  rw [← less_turn a b]
  simp [str, go_sem]
@[go_sem high] theorem run_str_geq (w : World) (a b : List UInt8) : (binOp BinOp.geq 9 (str a) (str b)).run Tryz.prog w = .ok (.bool (!Op.bytesLess a b)) w := by
  simp [str, go_sem]
end Go.Proofs.YthkbeliplibiaaaGreatDoor
