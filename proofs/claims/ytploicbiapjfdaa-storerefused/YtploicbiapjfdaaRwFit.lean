/- Sorted tables: the tests of keys that firstFit is called with. -/
import Derived.Test.YtploicbiapjfdaaRwSrch
import Derived.Test.YtploicbiapjfdaaBunRA
import Derived.Test.YtploicbiapjfdaaShelfJ
namespace Go.Proofs.Ytploicbiapjfdaa
set_option linter.unusedVariables false
set_option linter.unusedSimpArgs false
open Go.RowKit Go.Lib
section
variable {w : World} {bx : Nat} {key : List UInt8} (hb : bx < w.heap.size) (hc : w.cell? ⟨bx, 0, none⟩ = some (str key))
include hb hc
theorem fits_find : Fits w 98 #[.pointer (some ⟨bx, 0, none⟩)] (fun k => !Op.bytesLess k key) := by
  refine ⟨enters_of Try.func98 (by kernel_rfl) rfl, fun k W hW => ?_⟩
  have hx : W.cell? ⟨bx, 0, none⟩ = some (str key) := (hW.cell hb).trans hc
  clear hc hW
  go_enter Try.func98, Try.ntmps98
  go_wp2
  go_ret
  exact ⟨rfl, rfl⟩
theorem fits_beg1 : Fits w 81 #[.pointer (some ⟨bx, 0, none⟩)] (fun k => !Op.bytesLess k key) := by
  refine ⟨enters_of Try.func81 (by kernel_rfl) rfl, fun k W hW => ?_⟩
  have hx : W.cell? ⟨bx, 0, none⟩ = some (str key) := (hW.cell hb).trans hc
  clear hc hW
  go_enter Try.func81, Try.ntmps81
  go_wp2
  go_ret
  exact ⟨rfl, rfl⟩
theorem fits_ch1 : Fits w 73 #[.pointer (some ⟨bx, 0, none⟩)] (fun k => !Op.bytesLess k key) := by
  refine ⟨enters_of Try.func73 (by kernel_rfl) rfl, fun k W hW => ?_⟩
  have hx : W.cell? ⟨bx, 0, none⟩ = some (str key) := (hW.cell hb).trans hc
  clear hc hW
  go_enter Try.func73, Try.ntmps73
  go_wp2
  go_ret
  exact ⟨rfl, rfl⟩
theorem fits_ch2 : Fits w 74 #[.pointer (some ⟨bx, 0, none⟩)] (fun k => !(Op.bytesLess k key || k == key)) := by
  refine ⟨enters_of Try.func74 (by kernel_rfl) rfl, fun k W hW => ?_⟩
  have hx : W.cell? ⟨bx, 0, none⟩ = some (str key) := (hW.cell hb).trans hc
  have HE := Lib.hid (bl_leq2 k key)
  clear hc hW
  go_enter Try.func74, Try.ntmps74
  go_wp2
  go_ret
  exact ⟨by rw [HE.out, Bool.not_not] <;> rfl, rfl⟩
theorem fits_beg2 : Fits w 82 #[.pointer (some ⟨bx, 0, none⟩)] (fun k => !Op.bytesLess k key && !key.isPrefixOf k) := by
  refine ⟨enters_of Try.func82 (by kernel_rfl) rfl, fun k W hW => ?_⟩
  have hx : W.cell? ⟨bx, 0, none⟩ = some (str key) := (hW.cell hb).trans hc
  have HP := Lib.hid (show Calls Try.prog 83 #[str k, str key] W fun e w' => e = .returned (.bool (key.isPrefixOf k)) ∧ w' = W from Try.strings_HasPrefix ⟨k.toArray⟩ ⟨key.toArray⟩ W)
  clear hc hW
  cases hl : Op.bytesLess k key
  · go_enter Try.func82, Try.ntmps82
    go_wp2_with (first | (go_at_call 83; refine HP.out.mono ?_; rintro e w' ⟨rfl, rfl⟩) | fail)
    go_ret
    exact ⟨by simp [hl], rfl⟩
  · go_enter Try.func82, Try.ntmps82
    go_wp2
    go_ret
    exact ⟨by simp [hl], rfl⟩
end
end Go.Proofs.Ytploicbiapjfdaa
