/- What Check says of values that are right but for their size. -/
import Derived.Test.YtbinoohmblkibaaDoorJGen
import Derived.Test.YtbinoohmblkibaaDoorJText
namespace Go.Proofs.YtbinoohmblkibaaDoor
set_option linter.unusedVariables false
set_option linter.unusedSimpArgs false
open Go.RowKit
theorem okAt_check {deep : Nat} {v : JV} (h : OkAt deep v) (hd : deep ≤ 6) : checkN v = 0 ∨ checkN v = 1 := by
  unfold checkN
  rw [h 0 (by omega), if_neg (by simp)]
  split
  · exact .inr rfl
  · exact .inl rfl
theorem check_len {v : JV} (h : checkN v = 0) : (jtext v).length ≤ 600 := by
  unfold checkN at h
  by_cases h1 : fault 0 v ≠ 0
  · rw [if_pos h1] at h; exact absurd h h1
  · rw [if_neg h1] at h
    by_cases h2 : 100 < count v ∨ 600 < (jtext v).length
    · rw [if_pos h2] at h; cases h
    · omega
end Go.Proofs.YtbinoohmblkibaaDoor
