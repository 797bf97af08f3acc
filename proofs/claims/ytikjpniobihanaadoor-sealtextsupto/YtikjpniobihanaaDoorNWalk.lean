/- Package names: what each call returns. -/
import Derived.Test.YtikjpniobihanaaDoorNSpec
import Derived.Test.YtikjpniobihanaaDoorIdx
import Derived.Test.YtikjpniobihanaaDoorRows
import Derived.Test.YtikjpniobihanaaDoorSmall
import Derived.BigQuiet
import Derived.WalkSmall
import Derived.Outline
namespace Go.Proofs.YtikjpniobihanaaDoor
set_option linter.unusedVariables false
set_option linter.unusedSimpArgs false
open Go.RowKit
theorem all_drop (p : UInt8 → Bool) (s : List UInt8) (k : Nat) (hk : k < s.length) : (s.drop k).all p = (p s[k] && (s.drop (k + 1)).all p) := by
  rw [List.drop_eq_getElem_cons hk, List.all_cons]
def ConsR (p : UInt8 → Bool) (s : List UInt8) (w : World) (gk : Nat) (i : Value) (wr : World) : Prop :=
  ∃ k : Nat, i = .int .i64 k ∧ k ≤ s.length ∧ gk = s.length - k ∧ s.all p = (s.drop k).all p ∧ wr = w
attribute [local go_sem high] str_mk
set_option maxHeartbeats 1000000 in
theorem consists_any (s a : List UInt8) (w : World) :
    Calls Tryd.prog 117 #[str s, str a] w fun e w' => e = .returned (.bool (isNm (among a) s)) ∧ w = w' := by
  by_cases h0 : s = []
  · subst h0
    go_enter Tryd.func117, Tryd.ntmps117
    go_wp2
    go_ret
    exact ⟨rfl, rfl⟩
  · have hb0 : (s == []) = false := by simpa using h0
    have hl0 : 0 < s.length := List.length_pos_iff.2 h0
    clear h0
    by_cases h20 : s.length ≤ 20
    · have Hall := Lib.hid (show isNm (among a) s = s.all (among a) by unfold isNm; rw [decide_eq_true hl0, decide_eq_true h20]; rfl)
      have hd0 : decide (20 < (s.length : Int)) = false := by simp; omega
      go_enter Tryd.func117, Tryd.ntmps117
      go_wp2
      go_loopg [15] s.length (ConsR (among a) s w)
      case atStart => exact ⟨0, rfl, by omega, by omega, rfl, rfl⟩
      case round =>
        obtain ⟨k, rfl, hk, hgk, hal, rfl⟩ := hrel
        have Hgk := Lib.hid hgk
        clear hgk
        by_cases hlt : k < s.length
        · have hd := all_drop (among a) s k hlt
          have hidx := fun W => run_index_str (P := Tryd.prog) W 9 s .i64 k Tryd.underlying9 hlt
          generalize s[k] = c at *
          have Hal := Lib.hid (hal.trans hd)
          clear hd hal
          go_wp2_with fail
          refine (idx_any a c _).mono ?_
          rintro e w1 ⟨rfl, rfl⟩
          by_cases hin : 0 ≤ Lib.indexByte a c
          · have Hin := Lib.hid (show among a c = true by unfold among; exact decide_eq_true hin)
            generalize Lib.indexByte a c = ix at *
            go_wp2
            go_roundg (s.length - (k + 1))
            case measure => have := Hgk.out; omega
            case rel => exact ⟨k + 1, by go_num, by omega, rfl, by rw [Hal.out, Hin.out]; rfl, rfl⟩
          · have Hin := Lib.hid (show among a c = false by unfold among; exact decide_eq_false hin)
            have hin' : Lib.indexByte a c < 0 := by omega
            generalize Lib.indexByte a c = ix at *
            go_wp2
            go_ret
            exact ⟨ret_bool (by rw [Hall.out, Hal.out, Hin.out]; rfl), rfl⟩
        · have Hal := Lib.hid (show s.all (among a) = true by rw [hal, List.drop_eq_nil_of_le (by omega)]; rfl)
          clear hal
          go_wp2
          go_ret
          exact ⟨ret_bool (by rw [Hall.out, Hal.out]), rfl⟩
    · have Hall := Lib.hid (show isNm (among a) s = false by unfold isNm; rw [decide_eq_false h20]; simp)
      have h20' : 20 < s.length := by omega
      go_enter Tryd.func117, Tryd.ntmps117
      go_wp2
      go_ret
      exact ⟨ret_bool Hall.out.symm, rfl⟩

theorem local_any (s : List UInt8) (w : World) :
    Calls Tryd.prog 90 #[str s] w fun e w' => e = .returned (.bool (loc s)) ∧ w = w' := by
  go_enter Tryd.func90, Tryd.ntmps90
  go_wp2_with fail
  refine (consists_any s localL _).mono ?_
  rintro e w1 ⟨rfl, rfl⟩
  go_wp2
  go_ret
  exact ⟨rfl, rfl⟩
end Go.Proofs.YtikjpniobihanaaDoor
