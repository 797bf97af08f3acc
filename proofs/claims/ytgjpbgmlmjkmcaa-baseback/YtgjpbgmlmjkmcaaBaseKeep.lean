/- baseSure and sameBytes of the statements about package base: what each call returns. -/
import Derived.Test.YtgjpbgmlmjkmcaaBaseEnc
import Derived.BigQuiet
import Derived.WalkSmall
namespace Go.Proofs.Ytgjpbgmlmjkmcaa
open Go.RowKit

theorem sure_any (w : World) : Calls Try.prog 14 #[] w fun e w' => e = .returned (.bool true) ∧ Below w.heap.size w w' := by
  have hr : Holds (w.alloc (.cells #[.int .u8 0] 5)) (w.heap.size + 1) 1 (some ⟨w.heap.size, 0, none⟩) 1 ([(0 : UInt8)].map bv) := by
    refine ⟨rfl, fun _ => ⟨w.heap.size, 0, rfl, by omega, fun j u hu => ?_⟩⟩
    match j, hu with
    | 0, hu => simp at hu; subst hu; simp [World.cell?_alloc_new, bv]
  have hz : (w.alloc (.cells #[.int .u8 0] 5)).heap.size = w.heap.size + 1 := by simp
  have Hz := Lib.hid hz
  clear hz
  go_enter Try.func14, Try.ntmps14
  go_wp2_with fail
  refine (text_small _ 1 1 [0] _ (by rw [Hz.out]; exact hr) (by omega)).mono ?_
  rintro e w1 ⟨rfl, hb1⟩
  have henc : str (enc [0]) = .string ⟨#[65, 65]⟩ := by kernel_rfl
  go_wp2_with fail
  go_ret
  exact ⟨rfl, ((Below.refl _ _).alloc (Nat.le_refl _) _).trans (hb1.mono (by simp))⟩

end Go.Proofs.Ytgjpbgmlmjkmcaa
