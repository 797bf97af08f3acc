/- What ValueOf of the statements makes, as values. Nothing of the program is named here. -/
import Derived.Test.YtbinoohmblkibaaDoorJv
namespace Go.Proofs.YtbinoohmblkibaaDoor
set_option linter.unusedVariables false
set_option linter.unusedSimpArgs false

/-- Right wherever it is laid, with so many levels left. -/
def OkAt (deep : Nat) (v : JV) : Prop := ∀ d, d + deep ≤ 6 → fault d v = 0
theorem okAt_of {k n : Int} {t : List UInt8} {ks : List (List UInt8)} {ps : List JV} {deep : Nat} (h1 : 1 ≤ deep) (ha : alone (.mk k n t ks ps) 0 = 0) (hp : ∀ d, d + deep ≤ 6 → faults (d + 1) ps = 0) : OkAt deep (.mk k n t ks ps) := by
  intro d hd
  have h6 : ¬ 6 ≤ d := by omega
  have hz : alone (.mk k n t ks ps) d = 0 := by
    unfold alone at ha ⊢
    rw [if_neg (by omega)] at ha
    rw [if_neg h6]; exact ha
  unfold fault
  rw [if_neg (by simp [hz])]
  exact hp d hd
theorem faults_of {d : Nat} : ∀ {ps : List JV}, (∀ p ∈ ps, fault d p = 0) → faults d ps = 0
  | [], _ => by unfold faults; rfl
  | p :: r, h => by
    unfold faults
    rw [if_neg (by simp [h p (by simp)])]
    exact faults_of fun x hx => h x (by simp [hx])
theorem alone_word (k : Int) (h : 1 ≤ k ∧ k ≤ 3) : alone (.mk k 0 [] [] []) 0 = 0 := by
  show (if (6 : Nat) ≤ 0 then (5 : Int) else if k < 1 ∨ 7 < k then 3 else if unused (.mk k 0 [] [] []) = true then 4
      else if k = 7 ∧ (([] : List (List UInt8)).length ≠ ([] : List JV).length ∨ incr [] = false) then 4 else if (0 : Int) ≤ -9007199254740992 ∨ 9007199254740992 ≤ (0 : Int) then 2 else 0) = 0
  rw [if_neg (by omega), if_neg (by omega), if_neg (by simp [unused, JV.kind, JV.num, JV.text, JV.keys, JV.parts]), if_neg (by omega), if_neg (by omega)]
theorem alone_num (n : Int) (h0 : -9007199254740992 < n) (h1 : n < 9007199254740992) : alone (.mk 4 n [] [] []) 0 = 0 := by
  show (if (6 : Nat) ≤ 0 then (5 : Int) else if (4 : Int) < 1 ∨ 7 < (4 : Int) then 3 else if unused (.mk 4 n [] [] []) = true then 4
      else if (4 : Int) = 7 ∧ (([] : List (List UInt8)).length ≠ ([] : List JV).length ∨ incr [] = false) then 4 else if n ≤ -9007199254740992 ∨ 9007199254740992 ≤ n then 2 else 0) = 0
  rw [if_neg (by omega), if_neg (by omega), if_neg (by simp [unused, JV.kind, JV.num, JV.text, JV.keys, JV.parts]), if_neg (by omega), if_neg (by omega)]
theorem alone_str (t : List UInt8) : alone (.mk 5 0 t [] []) 0 = 0 := by
  show (if (6 : Nat) ≤ 0 then (5 : Int) else if (5 : Int) < 1 ∨ 7 < (5 : Int) then 3 else if unused (.mk 5 0 t [] []) = true then 4
      else if (5 : Int) = 7 ∧ (([] : List (List UInt8)).length ≠ ([] : List JV).length ∨ incr [] = false) then 4 else if (0 : Int) ≤ -9007199254740992 ∨ 9007199254740992 ≤ (0 : Int) then 2 else 0) = 0
  rw [if_neg (by omega), if_neg (by omega), if_neg (by simp [unused, JV.kind, JV.num, JV.text, JV.keys, JV.parts]), if_neg (by omega), if_neg (by omega)]
theorem alone_arr (ps : List JV) : alone (.mk 6 0 [] [] ps) 0 = 0 := by
  show (if (6 : Nat) ≤ 0 then (5 : Int) else if (6 : Int) < 1 ∨ 7 < (6 : Int) then 3 else if unused (.mk 6 0 [] [] ps) = true then 4
      else if (6 : Int) = 7 ∧ (([] : List (List UInt8)).length ≠ ps.length ∨ incr [] = false) then 4 else if (0 : Int) ≤ -9007199254740992 ∨ 9007199254740992 ≤ (0 : Int) then 2 else 0) = 0
  rw [if_neg (by omega), if_neg (by omega), if_neg (by simp [unused, JV.kind, JV.num, JV.text, JV.keys, JV.parts]), if_neg (by omega), if_neg (by omega)]
theorem alone_obj (ks : List (List UInt8)) (ps : List JV) (hl : ks.length = ps.length) (hi : incr ks = true) : alone (.mk 7 0 [] ks ps) 0 = 0 := by
  show (if (6 : Nat) ≤ 0 then (5 : Int) else if (7 : Int) < 1 ∨ 7 < (7 : Int) then 3 else if unused (.mk 7 0 [] ks ps) = true then 4
      else if (7 : Int) = 7 ∧ (ks.length ≠ ps.length ∨ incr ks = false) then 4 else if (0 : Int) ≤ -9007199254740992 ∨ 9007199254740992 ≤ (0 : Int) then 2 else 0) = 0
  rw [if_neg (by omega), if_neg (by omega), if_neg (by simp [unused, JV.kind, JV.num, JV.text, JV.keys, JV.parts]), if_neg (by simp [hl, hi]), if_neg (by omega)]
def keyL : List (List UInt8) := [[97], [98, 34], [107, 101, 121], [122]]
theorem keyL_incr (m : Nat) : incr (keyL.take m) = true := by
  match m with
  | 0 => rfl
  | 1 => rfl
  | 2 => decide
  | 3 => decide
  | 4 => decide
  | m + 5 => rw [List.take_of_length_le (by simp [keyL])]; decide
theorem counts_snoc : ∀ (ps : List JV) (v : JV), counts (ps ++ [v]) = counts ps + count v
  | [], v => by simp [counts]
  | p :: ps, v => by simp [counts, counts_snoc ps v]; omega
end Go.Proofs.YtbinoohmblkibaaDoor
