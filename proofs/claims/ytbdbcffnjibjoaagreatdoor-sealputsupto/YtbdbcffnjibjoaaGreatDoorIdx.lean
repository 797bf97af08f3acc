/- strings.IndexByte: what the call returns. -/
import Derived.Test.YtbdbcffnjibjoaaGreatDoorBunA
import Derived.Test.YtbdbcffnjibjoaaGreatDoorShelfI
namespace Go.Proofs.YtbdbcffnjibjoaaGreatDoor
set_option linter.unusedVariables false
set_option linter.unusedSimpArgs false
open Go.RowKit

theorem idx_any (l : List UInt8) (c : UInt8) (w : World) :
    Calls Tryz.prog 88 #[str l, .int .u8 (c.toNat : Int)] w fun e w' => e = .returned (.int .i64 (Lib.indexByte l c)) ∧ w = w' :=
  (Tryz.strings_IndexByte ⟨l.toArray⟩ (c.toNat : Int) w).mono fun e w' ⟨he, hw⟩ => ⟨by rw [he]; simp, hw.symm⟩

end Go.Proofs.YtbdbcffnjibjoaaGreatDoor
