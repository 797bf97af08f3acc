/- Sorted tables: the tests of keys that firstFit is called with. -/
import Derived.Test.YtecpccdmmaigiaaRwSrch
import Derived.Test.YtecpccdmmaigiaaRwPre
import Derived.Test.YtecpccdmmaigiaaShelfJ
namespace Go.Proofs.Ytecpccdmmaigiaa
set_option linter.unusedVariables false
set_option linter.unusedSimpArgs false
open Go.RowKit Go.Lib
section
variable {w : World} {bx : Nat} {key : List UInt8} (hb : bx < w.heap.size) (hc : w.cell? ⟨bx, 0, none⟩ = some (str key))
include hb hc
theorem fits_find : Fits w 38 #[.pointer (some ⟨bx, 0, none⟩)] (fun k => !Op.bytesLess k key) := by
  refine ⟨enters_of Try.func38 (by kernel_rfl) rfl, fun k W hW => ?_⟩
  have hx : W.cell? ⟨bx, 0, none⟩ = some (str key) := (hW.cell hb).trans hc
  clear hc hW
  go_enter Try.func38, Try.ntmps38
  go_wp2
  go_ret
  exact ⟨rfl, rfl⟩
theorem fits_beg1 : Fits w 40 #[.pointer (some ⟨bx, 0, none⟩)] (fun k => !Op.bytesLess k key) := by
  refine ⟨enters_of Try.func40 (by kernel_rfl) rfl, fun k W hW => ?_⟩
  have hx : W.cell? ⟨bx, 0, none⟩ = some (str key) := (hW.cell hb).trans hc
  clear hc hW
  go_enter Try.func40, Try.ntmps40
  go_wp2
  go_ret
  exact ⟨rfl, rfl⟩
theorem fits_ch1 : Fits w 45 #[.pointer (some ⟨bx, 0, none⟩)] (fun k => !Op.bytesLess k key) := by
  refine ⟨enters_of Try.func45 (by kernel_rfl) rfl, fun k W hW => ?_⟩
  have hx : W.cell? ⟨bx, 0, none⟩ = some (str key) := (hW.cell hb).trans hc
  clear hc hW
  go_enter Try.func45, Try.ntmps45
  go_wp2
  go_ret
  exact ⟨rfl, rfl⟩
theorem fits_ch2 : Fits w 46 #[.pointer (some ⟨bx, 0, none⟩)] (fun k => !(Op.bytesLess k key || k == key)) := by
  refine ⟨enters_of Try.func46 (by kernel_rfl) rfl, fun k W hW => ?_⟩
  have hx : W.cell? ⟨bx, 0, none⟩ = some (str key) := (hW.cell hb).trans hc
  have HE := Lib.hid (bl_leq2 k key)
  clear hc hW
  go_enter Try.func46, Try.ntmps46
  go_wp2
  go_ret
  exact ⟨by rw [HE.out, Bool.not_not] <;> rfl, rfl⟩
theorem fits_beg2 : Fits w 41 #[.pointer (some ⟨bx, 0, none⟩)] (fun k => !Op.bytesLess k key && !key.isPrefixOf k) := by
  refine ⟨enters_of Try.func41 (by kernel_rfl) rfl, fun k W hW => ?_⟩
  have hx : W.cell? ⟨bx, 0, none⟩ = some (str key) := (hW.cell hb).trans hc
  have HP := Lib.hid (show Calls Try.prog 42 #[str k, str key] W fun e w' => e = .returned (.bool (key.isPrefixOf k)) ∧ w' = W from Try.strings_HasPrefix ⟨k.toArray⟩ ⟨key.toArray⟩ W)
  clear hc hW
  cases hl : Op.bytesLess k key
  · go_enter Try.func41, Try.ntmps41
    go_wp2_with (first | (go_at_call 42; refine HP.out.mono ?_; rintro e w' ⟨rfl, rfl⟩) | fail)
    go_ret
    exact ⟨by simp [hl], rfl⟩
  · go_enter Try.func41, Try.ntmps41
    go_wp2
    go_ret
    exact ⟨by simp [hl], rfl⟩
end
end Go.Proofs.Ytecpccdmmaigiaa
