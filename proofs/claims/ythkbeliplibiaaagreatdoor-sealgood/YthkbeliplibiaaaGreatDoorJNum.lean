/- json's reader: isDigit, number. -/
import Derived.Test.YthkbeliplibiaaaGreatDoorJStr
import Derived.IntWalk
import Derived.Test.YthkbeliplibiaaaGreatDoorBunB
namespace Go.Proofs.YthkbeliplibiaaaGreatDoor
set_option linter.unusedVariables false
set_option linter.unusedSimpArgs false
open Go.RowKit

def numY (n : Int) : Value := .tuple #[.int .i64 n, .bool true]
def numN : Value := .tuple #[.int .i64 0, .bool false]

theorem digGo_bd : ∀ (ds : List UInt8) (n : Int), 0 ≤ n → n ≤ 9007199254740992 → (∀ c ∈ ds, isDig c = true) → 0 ≤ digGo n ds ∧ digGo n ds ≤ 9007199254740992
  | [], n, h0, h1, _ => by simp [digGo]; omega
  | c :: r, n, h0, h1, h => by
    have hc := h c (by simp)
    simp [isDig] at hc
    unfold digGo
    exact digGo_bd r _ (by omega) (by omega) fun x hx => h x (by simp [hx])

theorem numR_bd (r : List UInt8) (m : Int) (q : List UInt8) (h : numR r = some (m, q)) : -9007199254740992 ≤ m ∧ m ≤ 9007199254740992 := by
  by_cases h0 : r.head? = some 48
  · obtain ⟨r1, rfl⟩ := head_cons h0
    simp [numR] at h; omega
  obtain ⟨neg, hneg⟩ : ∃ neg, neg = decide (r.head? = some 45) := ⟨_, rfl⟩
  obtain ⟨r1, hr1⟩ : ∃ r1, r1 = if neg = true then r.tail else r := ⟨_, rfl⟩
  rw [numR_eq h0 neg hneg r1 hr1] at h
  have hb := digGo_bd (r1.takeWhile isDig) 0 (by omega) (by omega) (fun c hc => List.all_eq_true.1 (List.all_takeWhile (p := isDig) (l := r1)) c hc)
  by_cases hc : r1.takeWhile isDig = [] ∨ (r1.takeWhile isDig).head? = some 48
  · rw [if_pos hc] at h; cases h
  · rw [if_neg hc] at h
    simp only [Option.some.injEq, Prod.mk.injEq] at h
    obtain ⟨h, _⟩ := h
    cases neg <;> simp at h <;> omega

attribute [local go_sem high] str_mk
end Go.Proofs.YthkbeliplibiaaaGreatDoor
