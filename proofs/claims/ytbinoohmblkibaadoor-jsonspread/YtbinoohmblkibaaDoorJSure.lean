/- jsonSure of the statements about package json. -/
import Derived.Test.YtbinoohmblkibaaDoorJText
import Derived.Test.YtbinoohmblkibaaDoorJMemS
import Derived.Test.YtbinoohmblkibaaDoorJVal
namespace Go.Proofs.YtbinoohmblkibaaDoor
set_option linter.unusedVariables false
set_option linter.unusedSimpArgs false
open Go.RowKit

theorem numV_fault (n : Int) (h0 : -9007199254740992 < n) (h1 : n < 9007199254740992) : fault 0 (.mk 4 n [] [] []) = 0 := by
  unfold fault
  have ha : alone (.mk 4 n [] [] []) 0 = 0 := by
    show (if (6 : Nat) ≤ 0 then (5 : Int) else if (4 : Int) < 1 ∨ 7 < (4 : Int) then 3 else if unused (.mk 4 n [] [] []) = true then 4
      else if (4 : Int) = 7 ∧ (([] : List (List UInt8)).length ≠ ([] : List JV).length ∨ incr [] = false) then 4 else if n ≤ -9007199254740992 ∨ 9007199254740992 ≤ n then 2 else 0) = 0
    rw [if_neg (by omega), if_neg (by omega), if_neg (by simp [unused, JV.kind, JV.num, JV.text, JV.keys, JV.parts]), if_neg (by omega), if_neg (by omega)]
  rw [if_neg (by simp [ha])]
  unfold faults; rfl
theorem numV_text (n : Int) : jtext (.mk 4 n [] [] []) = Lib.itoa n := by rw [jtext]; rfl
theorem numV_check (n : Int) (h0 : -9007199254740992 < n) (h1 : n < 9007199254740992) : checkN (.mk 4 n [] [] []) = 0 := by
  unfold checkN
  have h2 : count (.mk 4 n [] [] []) = 1 := by simp [count, counts]
  have h3 := Lib.itoa_length_le n (by omega) (by omega)
  rw [if_neg (by rw [numV_fault n h0 h1]; simp), if_neg (by rw [h2, numV_text]; omega)]
theorem numV_in (n : Int) (w : World) (hn : -9223372036854775808 ≤ n ∧ n ≤ 9223372036854775807) : VIn w 0 (.mk 4 n [] [] []) [.int .i64 4, .int .i64 n, str [], .slice none 0 0, .slice none 0 0] :=
  VInS.toB (S := fun _ => False) (fun b h => h.elim) _ _ (vin_num w _ n hn)
theorem numV_TextR (n : Int) (h0 : -9007199254740992 < n) (h1 : n < 9007199254740992) : textR (.mk 4 n [] [] []) = .tuple #[str (Lib.itoa n), .int .i64 0] := by
  unfold textR; rw [numV_check n h0 h1, if_pos rfl, numV_text]

attribute [local go_sem high] str_mk
set_option maxRecDepth 100000 in
set_option maxHeartbeats 1000000 in
theorem jsure_any (w : World) (htab : Tab w.heap.size w) : Calls Tryd.prog 17 #[] w fun e w' => e = .returned (.bool true) ∧ Below w.heap.size w w' := by
  have HT := Lib.hid (numV_TextR 7 (by omega) (by omega))
  have h7 : Lib.itoa 7 = [55] := by rw [show (7 : Int) = ((7 : Nat) : Int) from rfl, Lib.itoa_nonneg, Lib.decDigits_one (by omega)]; rfl
  rw [h7] at HT
  clear h7
  go_enter Tryd.func17, Tryd.ntmps17
  go_wp2_with fail
  refine (Text_any (.mk 4 7 [] [] []) _ w 0 (Nat.zero_le _) (numV_in 7 w (by omega)) htab (by simp [count, counts])).mono ?_
  rintro e x1 ⟨rfl, hb1⟩
  rw [HT.out]
  go_wp2_with fail
  go_ret
  exact ⟨rfl, hb1⟩
end Go.Proofs.YtbinoohmblkibaaDoor
