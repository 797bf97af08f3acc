/- The one cell of a string, for the walk. -/
import Derived.Test.YtecpccdmmaigiaaBunA
namespace Go.Proofs.Ytecpccdmmaigiaa
set_option linter.unusedVariables false
set_option linter.unusedSimpArgs false
@[go_sem ↓ high] theorem str_cells (l : List UInt8) : Value.cells (str l) = #[str l] := rfl
end Go.Proofs.Ytecpccdmmaigiaa
