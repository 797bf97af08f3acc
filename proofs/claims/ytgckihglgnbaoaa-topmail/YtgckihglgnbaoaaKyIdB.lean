/- One-time keys: no id is longer than 20 bytes. Nothing of the program's memory is named here. -/
import Derived.Test.YtgckihglgnbaoaaBunKC
namespace Go.Proofs.Ytgckihglgnbaoaa
set_option linter.unusedVariables false
set_option linter.unusedSimpArgs false
structure IdB (s : Ks) : Prop where
  up : ∀ p ∈ s.up, p.1.2.length ≤ 20
  sp : ∀ p ∈ s.sp, p.2.id.length ≤ 20
  cl : ∀ p ∈ s.cl, p.2.id.length ≤ 20
theorem idB0 : IdB ks0 := ⟨by simp [ks0], by simp [ks0], by simp [ks0]⟩
theorem IdB.give {s : Ks} (h : IdB s) (S : List UInt8) : (giveR s S).1.id.length ≤ 20 ∧ IdB (giveR s S).2.2 := by
  rcases give_cases s S with ⟨n, r, hl, e⟩ | ⟨hl, k, hs, e⟩ | ⟨hl, hs, e⟩
  · rw [e]
    refine ⟨?_, ⟨h.up, h.sp, h.cl⟩⟩
    obtain ⟨p, hp, e1⟩ := List.mem_map.1 (head_left hl).1
    rw [← e1]; exact h.up p hp
  · rw [e]; exact ⟨h.sp _ (getA_some_mem hs), h⟩
  · rw [e]; exact ⟨by simp [kv0], h⟩
theorem IdB.claim {s : Ks} (h : IdB s) (S : List UInt8) (b : Int) : (claimR s S b).1.id.length ≤ 20 ∧ IdB (claimR s S b).2.2 := by
  have h0 : kv0.id.length ≤ 20 := by simp [kv0]
  unfold claimR
  split
  · exact ⟨h0, h⟩
  · split
    · exact ⟨h0, h⟩
    · split
      · rename_i k hk
        exact ⟨h.cl _ (getA_some_mem hk), h⟩
      · split
        · exact ⟨h0, h⟩
        · obtain ⟨g1, g2⟩ := h.give S
          refine ⟨g1, ⟨g2.up, g2.sp, fun p hp => ?_⟩⟩
          rcases put_mem _ _ _ p hp with hp | hp
          · exact g2.cl p hp
          · rw [hp]; exact g1
theorem name_id {S I : List UInt8} (h : ¬ nameR S I ≠ 0) : I.length ≤ 20 := by
  unfold nameR at h
  split at h
  · rename_i h2; exact (isNm_len h2.2).2.1
  · exact absurd (by omega) h
theorem IdB.exec {s : Ks} (h : IdB s) (a : Ak) : (execR s a).1.id.length ≤ 20 ∧ IdB (execR s a).2.2 := by
  have h0 : kv0.id.length ≤ 20 := by simp [kv0]
  unfold execR
  split
  · refine ⟨h0, ?_⟩
    show IdB (leaveR s a.sort a.id a.body).2
    unfold leaveR
    split
    · exact h
    · rename_i hn
      split
      · exact h
      · split
        · exact h
        · refine ⟨fun p hp => ?_, h.sp, h.cl⟩
          rcases put_mem _ _ _ p hp with hp | hp
          · exact h.up p hp
          · rw [hp]; exact name_id hn
  · split
    · refine ⟨h0, ?_⟩
      show IdB (spareR s a.sort a.id a.body).2
      unfold spareR
      split
      · exact h
      · rename_i hn
        refine ⟨h.up, fun p hp => ?_, h.cl⟩
        rcases put_mem _ _ _ p hp with hp | hp
        · exact h.sp p hp
        · rw [hp]; exact name_id hn
    · split
      · exact h.claim _ _
      · split <;> exact ⟨h0, h⟩
theorem IdB.ans {s : Ks} (h : IdB s) (a : Ak) : (ansR s a).1.id.length ≤ 20 ∧ IdB (ansR s a).2 := by
  obtain ⟨h1, h2⟩ := h.exec a
  unfold ansR
  refine ⟨?_, h2⟩
  split
  · simp
  · exact h1
theorem IdB.asks : ∀ (l : List Ak) {s : Ks}, IdB s → (∀ g ∈ (asksR s l).1, g.id.length ≤ 20) ∧ IdB (asksR s l).2
  | [], _, h => ⟨by intro g hg; simp [asksR] at hg, h⟩
  | a :: l, s, h => by
    obtain ⟨h1, h2⟩ := h.ans a
    obtain ⟨h3, h4⟩ := IdB.asks l h2
    refine ⟨fun g hg => ?_, h4⟩
    simp only [asksR] at hg
    rcases List.mem_cons.1 hg with rfl | hg
    · exact h1
    · exact h3 g hg
end Go.Proofs.Ytgckihglgnbaoaa
