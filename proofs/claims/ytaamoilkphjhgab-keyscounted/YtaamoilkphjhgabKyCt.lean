/- One-time keys: how what is left is counted. Nothing of the program is named here. -/
import Derived.Test.YtaamoilkphjhgabKySt
namespace Go.Proofs.Ytaamoilkphjhgab
set_option linter.unusedVariables false
set_option linter.unusedSimpArgs false
theorem ans_code (s : Ks) (a : Ak) (h : (ansR s a).1.code = 0) : (execR s a).2.1 = 0 ∧ (ansR s a).1 = ⟨0, (execR s a).1.id, (execR s a).1.body, (execR s a).1.spare, ((leftR (execR s a).2.2 a.sort).length : Int)⟩ := by
  have he : (execR s a).2.1 = 0 := by
    cases Decidable.em ((execR s a).2.1 = 0) with
    | inl h => exact h
    | inr h' =>
      unfold ansR at h
      simp only [h', ne_eq, not_false_eq_true, if_true] at h
  refine ⟨he, ?_⟩
  unfold ansR
  simp [he]
theorem ans_bad (s : Ks) (a : Ak) (h : (ansR s a).1.code ≠ 0) : (ansR s a).2 = s := by
  refine exec_bad s a fun he => h ?_
  unfold ansR
  simp [he]
theorem exec_leave (s : Ks) (a : Ak) (h : a.kind = 1) : execR s a = (kv0, leaveR s a.sort a.id a.body) := by unfold execR; simp [h]
theorem exec_spare (s : Ks) (a : Ak) (h : a.kind = 2) : execR s a = (kv0, spareR s a.sort a.id a.body) := by unfold execR; simp [h]
theorem exec_claim (s : Ks) (a : Ak) (h : a.kind = 3) : execR s a = claimR s a.sort a.by_ := by unfold execR; simp [h]
theorem exec_count (s : Ks) (a : Ak) (h : a.kind = 4) : execR s a = (kv0, sortR a.sort, s) := by unfold execR; simp [h]
theorem leave_step {s : Ks} (hi : InvK s) {S I B : List UInt8} (h : (leaveR s S I B).1 = 0) (S' : List UInt8) : (leftR (leaveR s S I B).2 S').length = (leftR s S').length + (if S = S' then 1 else 0) := by
  unfold leaveR at *
  split
  · rename_i e; rw [if_pos e] at h; exact absurd h e
  · rename_i e; rw [if_neg e] at h
    split
    · rename_i e; rw [if_pos e] at h; cases h
    · rename_i hno; rw [if_neg hno] at h
      split
      · rename_i e; rw [if_pos e] at h; cases h
      · have hn : getA s.up (S, I) = none := by cases hh : getA s.up (S, I) with
          | none => rfl
          | some v => rw [hh] at hno; simp at hno
        have hg : isGv s (S, I) = false := by
          cases hh : isGv s (S, I) with
          | false => rfl
          | true => exact absurd (hi.given _ hh) (getA_none.1 hn)
        exact left_add hn hg B S'
/-- What an ask that is answered does to the numbers of keys. -/
theorem count_step {s : Ks} (hi : InvK s) {a : Ak} (h : (ansR s a).1.code = 0) (hk : a.kind = 1 ∨ a.kind = 2 ∨ a.kind = 3 ∨ a.kind = 4) :
    (ansR s a).1.many = ((leftR (ansR s a).2 a.sort).length : Int) ∧
    (a.kind = 1 → (∀ S', (leftR (ansR s a).2 S').length = (leftR s S').length + (if a.sort = S' then 1 else 0)) ∧ (ansR s a).2.cl = s.cl) ∧
    (a.kind = 2 ∨ a.kind = 4 → (∀ S', leftR (ansR s a).2 S' = leftR s S') ∧ (ansR s a).2.cl = s.cl) ∧
    (a.kind = 3 → (getA s.cl (a.sort, a.by_)).isSome = true → (ansR s a).2 = s) ∧
    (a.kind = 3 → getA s.cl (a.sort, a.by_) = none →
      ((ansR s a).1.spare = true ∧ leftR s a.sort = [] ∧ (∀ S', leftR (ansR s a).2 S' = leftR s S') ∨
       (ansR s a).1.spare = false ∧ (leftR s a.sort).length = (leftR (ansR s a).2 a.sort).length + 1 ∧ (∀ S', S' ≠ a.sort → leftR (ansR s a).2 S' = leftR s S')) ∧
      ∃ k, (ansR s a).2.cl = putA s.cl (a.sort, a.by_) k) := by
  obtain ⟨he, hg⟩ := ans_code s a h
  have h2 : (ansR s a).2 = (execR s a).2.2 := rfl
  rw [hg, h2]
  refine ⟨rfl, fun k1 => ?_, fun k2 => ?_, fun k3 hsm => ?_, fun k3 hn => ?_⟩
  · rw [exec_leave s a k1] at he ⊢
    exact ⟨fun S' => leave_step hi he S', leave_cl _ _ _ _⟩
  · rcases k2 with k2 | k2
    · rw [exec_spare s a k2]
      refine ⟨fun S' => ?_, spare_cl _ _ _ _⟩
      show leftR (spareR s a.sort a.id a.body).2 S' = _
      unfold spareR
      split <;> rfl
    · rw [exec_count s a k2]
      exact ⟨fun _ => rfl, rfl⟩
  · rw [exec_claim s a k3] at he ⊢
    by_cases hgd : sortR a.sort = 0 ∧ 1 ≤ a.by_
    · rcases claim_cases s a.sort a.by_ hgd.1 hgd.2 with ⟨k, hk, e⟩ | ⟨hc, n, r, hl, e⟩ | ⟨hc, hl, k, hs, e⟩ | ⟨hc, hl, hs, e⟩
      · rw [e]
      all_goals (rw [hc] at hsm; cases hsm)
    · exact absurd he (claim_bad s a.sort a.by_ hgd).2
  · rw [exec_claim s a k3] at he ⊢
    by_cases hgd : sortR a.sort = 0 ∧ 1 ≤ a.by_
    · rcases claim_cases s a.sort a.by_ hgd.1 hgd.2 with ⟨k, hk, e⟩ | ⟨hc, n, r, hl, e⟩ | ⟨hc, hl, k, hs, e⟩ | ⟨hc, hl, hs, e⟩
      · rw [hk] at hn; cases hn
      · rw [e]
        refine ⟨Or.inr ⟨rfl, ?_, fun S' hS' => ?_⟩, _, rfl⟩
        · show _ = (leftR { s with gv := putA s.gv n true } a.sort).length + 1
          rw [left_give hi.ok hl, hl]
          rfl
        · show leftR { s with gv := putA s.gv n true } S' = _
          exact left_give_other fun e => hS' (by rw [← e, (head_left hl).2.1])
      · rw [e]
        exact ⟨Or.inl ⟨hi.spares _ _ hs, hl, fun _ => rfl⟩, _, rfl⟩
      · rw [e] at he; cases he
    · exact absurd he (claim_bad s a.sort a.by_ hgd).2
end Go.Proofs.Ytaamoilkphjhgab
