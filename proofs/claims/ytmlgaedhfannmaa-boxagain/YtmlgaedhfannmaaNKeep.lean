/- NameOf of the statements: what the call returns. -/
import Derived.Test.YtmlgaedhfannmaaBunH
import Derived.Test.YtmlgaedhfannmaaPicked
import Derived.Test.YtmlgaedhfannmaaBunO
namespace Go.Proofs.Ytmlgaedhfannmaa
set_option linter.unusedVariables false
set_option linter.unusedSimpArgs false
open Go.RowKit
attribute [local go_sem high] str_mk
def abc : List UInt8 := [97, 98, 99, 48, 49, 57]
def NmR (n : Nat) (m : Nat) (w : World) (gk : Nat) (out i : Value) (wr : World) : Prop :=
  ∃ (k : Nat) (o : List UInt8), out = str o ∧ i = .int .i64 k ∧ k ≤ m ∧ k < n ∧ gk = m - k ∧ o.length = k + 1 ∧ (∀ c ∈ o, c ∈ abc) ∧ ∃ q, wr = w.drewN q
theorem abc_at (d : Nat) (hd : d < 6) : ∃ c, (abc.drop d).take 1 = [c] ∧ c ∈ abc := by
  have hl : d < abc.length := hd
  refine ⟨abc[d], ?_, List.getElem_mem hl⟩
  rw [List.drop_eq_getElem_cons hl]; rfl
/-- A name of 1 to n letters and digits. -/
def Nm (n : Nat) (s : List UInt8) : Prop := 0 < s.length ∧ s.length ≤ n ∧ ∀ c ∈ s, c ∈ abc
/-! ### what such names make -/
theorem abc_loc : ∀ c ∈ abc, among localL c = true := by decide +kernel
theorem abc_srv : ∀ c ∈ abc, among serverL c = true := by decide +kernel
theorem abc_knd : ∀ c ∈ abc, among kindL c = true := by decide +kernel
theorem abc_idn : ∀ c ∈ abc, among idL c = true := by decide +kernel
theorem abc_mark : ∀ c ∈ abc, mark c = false := by decide
theorem abc_col : ∀ c ∈ abc, c ≠ 58 ∧ c ≠ 64 := by decide
theorem Nm.loc {s : List UInt8} (h : Nm 20 s) : loc s = true := isNm_mk h.1 h.2.1 fun c hc => abc_loc c (h.2.2 c hc)
theorem Nm.knd {s : List UInt8} (h : Nm 20 s) : knd s = true := isNm_mk h.1 h.2.1 fun c hc => abc_knd c (h.2.2 c hc)
theorem Nm.idn {s : List UInt8} (h : Nm 20 s) : idn s = true := isNm_mk h.1 h.2.1 fun c hc => abc_idn c (h.2.2 c hc)
theorem fore_mk {a b : List UInt8} (h : ∀ c ∈ a, c ≠ 58) : fore (a ++ 58 :: b) = a ∧ aft (a ++ 58 :: b) = b := by
  induction a with
  | nil => simp [fore, aft]
  | cons c r ih =>
    have hc : (c != 58) = true := by simpa using h c (by simp)
    obtain ⟨h1, h2⟩ := ih fun x hx => h x (by simp [hx])
    unfold fore aft at *
    rw [List.cons_append, List.takeWhile_cons, List.dropWhile_cons, if_pos hc, if_pos hc, h1]
    exact ⟨rfl, h2⟩
theorem Nm.col {n : Nat} {s : List UInt8} (h : Nm n s) : ∀ c ∈ s, c ≠ 58 := fun c hc => (abc_col c (h.2.2 c hc)).1
theorem fore_aft {s : List UInt8} (h : aft s ≠ []) : s = fore s ++ 58 :: aft s := by
  rcases idx_colon s with ⟨_, _, h3, _⟩ | ⟨i, _, hl, h3, h4, h5, _⟩
  · exact absurd h3 h
  · obtain ⟨hi, h6⟩ := List.getElem?_eq_some_iff.1 h5
    rw [h3, h4, ← h6, ← List.drop_eq_getElem_cons hi, List.take_append_drop]
theorem user_some {s u v : List UInt8} (h : user s = some (u, v)) : s = 64 :: (u ++ 58 :: v) ∧ Go.Proofs.Ytmlgaedhfannmaa.loc u = true ∧ srv v = true := by
  unfold user at h
  split at h
  · rename_i r
    unfold two at h
    split at h
    · rename_i hh
      rw [Bool.and_eq_true] at hh
      injection h with h
      injection h with h1 h2
      have : aft r ≠ [] := by intro e; rw [e] at hh; exact absurd hh.2 (by decide)
      refine ⟨?_, by rw [← h1]; exact hh.1, by rw [← h2]; exact hh.2⟩
      rw [← h1, ← h2, ← fore_aft this]
    · cases h
  · cases h

theorem srvAt_of {s : List UInt8} {j : Nat} (h1 : mark (s.getD j 0) = false) : srvAt s j = true := by
  unfold srvAt
  have : (s.getD j 0 == 46) = false := by
    cases h : s.getD j 0 == 46 with
    | false => rfl
    | true => rw [beq_iff_eq] at h; rw [h] at h1; cases h1
  rw [h1, this]; rfl
theorem Nm.srv {s : List UInt8} (h : Nm 20 s) : srv s = true :=
  srv_true (isNm_mk h.1 h.2.1 fun c hc => abc_srv c (h.2.2 c hc)) fun j hj => srvAt_of (abc_mark _ (h.2.2 _ (by
    have := getD_some hj; exact List.mem_of_getElem? this)))
/-- Two names with a mark between them. -/
theorem srv_mid {a b : List UInt8} (ha : Nm 9 a) (hb : Nm 9 b) (x : UInt8) (hx : x = 46 ∨ x = 45) : srv (a ++ x :: b) = true := by
  have hl : (a ++ x :: b).length = a.length + b.length + 1 := by simp; omega
  have := ha.1
  have := ha.2.1
  have := hb.1
  have := hb.2.1
  refine srv_true (isNm_mk (by omega) (by omega) ?_) ?_
  · intro c hc
    rcases List.mem_append.1 hc with h | h
    · exact abc_srv c (ha.2.2 c h)
    · rcases List.mem_cons.1 h with rfl | h
      · rcases hx with rfl | rfl <;> decide +kernel
      · exact abc_srv c (hb.2.2 c h)
  · intro j hj
    have hpre : ∀ i, i < a.length → mark ((a ++ x :: b).getD i 0) = false := by
      intro i hi
      have : (a ++ x :: b).getD i 0 = a[i] := by simp [List.getD, List.getElem?_append_left hi, List.getElem?_eq_getElem hi]
      rw [this]; exact abc_mark _ (ha.2.2 _ (List.getElem_mem hi))
    rcases Nat.lt_trichotomy j a.length with h | h | h
    · exact srvAt_of (hpre j h)
    · have h1 := hpre (j - 1) (by omega)
      unfold srvAt
      rw [h1, decide_eq_false (by omega), decide_eq_false (by omega)]
      simp
    · refine srvAt_of ?_
      obtain ⟨q, hq⟩ : ∃ q, j = a.length + (q + 1) := ⟨j - a.length - 1, by omega⟩
      have hjb : q < b.length := by omega
      have : (a ++ x :: b).getD j 0 = b[q] := by
        rw [hq, List.getD, List.getElem?_append_right (by omega), Nat.add_sub_cancel_left, List.getElem?_cons_succ, List.getElem?_eq_getElem hjb]; rfl
      rw [this]; exact abc_mark _ (hb.2.2 _ (List.getElem_mem hjb))
/-- A dot behind a mark. -/
theorem srv_bad (a b : List UInt8) (x : UInt8) (hx : x = 46 ∨ x = 45) : srv (a ++ x :: 46 :: b) = false := by
  refine srv_false (j := a.length + 1) (by simp) ?_
  have e1 : (a ++ x :: 46 :: b).getD (a.length + 1) 0 = 46 := by rw [List.getD, List.getElem?_append_right (by omega)]; simp
  have e0 : (a ++ x :: 46 :: b).getD (a.length + 1 - 1) 0 = x := by rw [List.getD, List.getElem?_append_right (by omega)]; simp
  unfold srvAt
  rw [e1, e0]
  rcases hx with rfl | rfl <;> simp [mark]
theorem srv_head (a : List UInt8) : srv (46 :: a) = false := srv_false (j := 0) (by simp) (by simp [srvAt, mark])
theorem srv_last (a : List UInt8) : srv (a ++ [45]) = false := by
  refine srv_false (j := a.length) (by simp) ?_
  have e1 : (a ++ [45]).getD a.length 0 = 45 := by rw [List.getD, List.getElem?_append_right (by omega)]; simp
  unfold srvAt
  rw [e1]
  simp [mark]
theorem user_mk {a b : List UInt8} (ha : Nm 20 a) (hb : Nm 20 b) : user (64 :: (a ++ 58 :: b)) = some (a, b) := by
  obtain ⟨h1, h2⟩ := fore_mk (b := b) ha.col
  show two Go.Proofs.Ytmlgaedhfannmaa.loc Go.Proofs.Ytmlgaedhfannmaa.srv (a ++ 58 :: b) = _
  unfold two
  rw [h1, h2, ha.loc, hb.srv]; rfl
theorem user_not {a b : List UInt8} {n : Nat} (ha : Nm n a) : user (a ++ b) = none := by
  cases a with
  | nil => exact absurd ha.1 (by simp)
  | cons c r =>
    have hc := (abc_col c (ha.2.2 c (by simp))).2
    unfold user
    split
    · rename_i h; injection h with h1 _; exact absurd h1 hc
    · rfl
theorem key_mk {a b : List UInt8} (ha : Nm 20 a) (hb : Nm 20 b) : key (a ++ 58 :: b) = some (a, b) := by
  obtain ⟨h1, h2⟩ := fore_mk (b := b) ha.col
  unfold key two
  rw [h1, h2, ha.knd, hb.idn]; rfl
theorem key_not {a b : List UInt8} {n : Nat} (ha : Nm n a) : key (64 :: (a ++ 58 :: b)) = none := by
  have h : ∀ c ∈ 64 :: a, c ≠ 58 := by
    intro c hc
    rcases List.mem_cons.1 hc with rfl | hc
    · decide
    · exact ha.col c hc
  obtain ⟨h1, h2⟩ := fore_mk (b := b) h
  have hk : Go.Proofs.Ytmlgaedhfannmaa.knd (64 :: a) = false := by
    cases hk : Go.Proofs.Ytmlgaedhfannmaa.knd (64 :: a) with
    | false => rfl
    | true => exact absurd ((isNm_len hk).2.2 64 (by simp)) (by decide +kernel)
  unfold key two
  rw [← List.cons_append, h1, h2, hk]; rfl
theorem rep_nm (k : Nat) (h1 : 1 ≤ k) (h2 : k ≤ 20) : Nm 20 (List.replicate k 97) := by
  refine ⟨by simp; omega, by simp; omega, fun c hc => ?_⟩
  rw [(List.mem_replicate.1 hc).2]; decide
theorem isNm_out {p : UInt8 → Bool} {s : List UInt8} (h : ¬ (1 ≤ s.length ∧ s.length ≤ 20)) : isNm p s = false := by
  cases hn : isNm p s with
  | false => rfl
  | true => exact absurd ⟨(isNm_len hn).1, (isNm_len hn).2.1⟩ h
theorem rep_loc (k : Nat) : loc (List.replicate k 97) = decide (1 ≤ k ∧ k ≤ 20) := by
  by_cases h : 1 ≤ k ∧ k ≤ 20
  · rw [(rep_nm k h.1 h.2).loc, decide_eq_true h]
  · rw [decide_eq_false h]; exact isNm_out (by simpa using h)
theorem rep_srv (k : Nat) : srv (List.replicate k 97) = decide (1 ≤ k ∧ k ≤ 20) := by
  by_cases h : 1 ≤ k ∧ k ≤ 20
  · rw [(rep_nm k h.1 h.2).srv, decide_eq_true h]
  · rw [decide_eq_false h]; exact srv_nm (isNm_out (by simpa using h))
theorem rep_user (k : Nat) : user (64 :: (List.replicate k 97 ++ 58 :: List.replicate k 97)) = if 1 ≤ k ∧ k ≤ 20 then some (List.replicate k 97, List.replicate k 97) else none := by
  by_cases h : 1 ≤ k ∧ k ≤ 20
  · rw [if_pos h, user_mk (rep_nm k h.1 h.2) (rep_nm k h.1 h.2)]
  · rw [if_neg h]
    have hc : ∀ c ∈ List.replicate k (97 : UInt8), c ≠ 58 := fun c hc => by rw [(List.mem_replicate.1 hc).2]; decide
    obtain ⟨h1, h2⟩ := fore_mk (b := List.replicate k 97) hc
    show two Go.Proofs.Ytmlgaedhfannmaa.loc Go.Proofs.Ytmlgaedhfannmaa.srv _ = _
    unfold two
    rw [h1, rep_loc, decide_eq_false h]; rfl
end Go.Proofs.Ytmlgaedhfannmaa
