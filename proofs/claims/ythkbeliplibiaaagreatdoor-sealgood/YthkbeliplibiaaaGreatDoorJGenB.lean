/- ValueOf of the statements: words. -/
import Derived.Test.YthkbeliplibiaaaGreatDoorBunB
import Derived.Test.YthkbeliplibiaaaGreatDoorJVal
import Derived.Test.YthkbeliplibiaaaGreatDoorPicked
import Derived.Test.YthkbeliplibiaaaGreatDoorInts
namespace Go.Proofs.YthkbeliplibiaaaGreatDoor
set_option linter.unusedVariables false
set_option linter.unusedSimpArgs false
open Go.RowKit

theorem info_int : (Tryz.prog.info? 3).map (fun i => (i.zero, i.size, i.bytes)) = some (some (.int .i64 0), 1, 8) := by kernel_rfl

def VPost (deep B : Nat) (w : World) (e : Ending) (w' : World) : Prop :=
  ∃ v cs A' n' c', e = .returned (.tuple #[.agg cs.toArray, .slice A' n' c']) ∧ VInS w' (newS w w') v cs ∧ OkAt deep v ∧ count v ≤ cnt3 deep ∧ IntsAt w' B A' n' c' ∧ Below w.heap.size w w'
def GenOk (deep : Nat) : Prop := ∀ (A : Option Addr) (n c : Nat) (B : Nat) (w : World), B ≤ w.heap.size → IntsAt w B A n c →
  Calls Tryz.prog 28 #[.slice A n c, .int .i64 deep] w (VPost deep B w)

end Go.Proofs.YthkbeliplibiaaaGreatDoor
