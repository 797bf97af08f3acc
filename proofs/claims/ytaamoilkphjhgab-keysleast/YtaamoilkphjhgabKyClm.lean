/- One-time keys: claims by new ones, many of them. Nothing of the program is named here. -/
import Derived.Test.YtaamoilkphjhgabKyCt
namespace Go.Proofs.Ytaamoilkphjhgab
set_option linter.unusedVariables false
set_option linter.unusedSimpArgs false
def clms (S : List UInt8) : Int → Nat → List Ak
  | _, 0 => []
  | st, cnt + 1 => clm S st :: clms S (st + 1) cnt
theorem clms_len (S : List UInt8) : ∀ (cnt : Nat) (st : Int), (clms S st cnt).length = cnt
  | 0, _ => rfl
  | cnt + 1, st => by simp [clms, clms_len S cnt]
theorem clms_snoc (S : List UInt8) : ∀ (cnt : Nat) (st : Int), clms S st (cnt + 1) = clms S st cnt ++ [clm S (st + cnt)]
  | 0, st => by simp [clms]
  | cnt + 1, st => by
    rw [clms, clms_snoc S cnt, clms, List.cons_append, show st + 1 + (cnt : Int) = st + ((cnt + 1 : Nat) : Int) by push_cast; omega]
def ClmG (s : Ks) (S : List UInt8) (j : Nat) (g : Gv) : Prop :=
  (∃ h : j < (leftR s S).length, g.code = 0 ∧ g.spare = false ∧ g.id = ((leftR s S)[j]).2) ∨
  ((leftR s S).length ≤ j ∧ g.many = 0 ∧ ((∃ k, getA s.sp S = some k ∧ g.code = 0 ∧ g.id = k.id ∧ g.body = k.body ∧ g.spare = true) ∨ (getA s.sp S = none ∧ g.code = 8)))
theorem clms_R {S : List UInt8} (hS : sortR S = 0) : ∀ (cnt : Nat) (st : Int) (s : Ks), InvK s → 1 ≤ st → (∀ b, st ≤ b → getA s.cl (S, b) = none) →
    (∀ j, j < cnt → ∃ g, (asksR s (clms S st cnt)).1[j]? = some g ∧ ClmG s S j g) ∧ leftR (asksR s (clms S st cnt)).2 S = (leftR s S).drop cnt ∧ (asksR s (clms S st cnt)).2.sp = s.sp ∧
    (∀ b, st + cnt ≤ b → getA (asksR s (clms S st cnt)).2.cl (S, b) = none) ∧ InvK (asksR s (clms S st cnt)).2
  | 0, st, s, hi, h1, hc => ⟨fun j hj => absurd hj (by omega), rfl, rfl, fun b hb => hc b (by omega), hi⟩
  | cnt + 1, st, s, hi, h1, hc => by
    obtain ⟨hcase, hsp, hcl⟩ := new_claim hi hS h1 (hc st (Int.le_refl _))
    obtain ⟨r1, r2, r3, r4, r5⟩ := clms_R hS cnt (st + 1) (ansR s (clm S st)).2 (hi.ans _) (by omega) (fun b hb => by rw [hcl b (by omega)]; exact hc b (by omega))
    have e : asksR s (clms S st (cnt + 1)) = ((ansR s (clm S st)).1 :: (asksR (ansR s (clm S st)).2 (clms S (st + 1) cnt)).1, (asksR (ansR s (clm S st)).2 (clms S (st + 1) cnt)).2) := rfl
    rw [e]
    refine ⟨fun j hj => ?_, ?_, r3.trans hsp, fun b hb => r4 b (by push_cast at hb; omega), r5⟩
    · cases j with
      | zero =>
        refine ⟨_, rfl, ?_⟩
        rcases hcase with ⟨n, r, hl, hl2, B, hg⟩ | ⟨hl, hl2, ⟨k, hk, hg⟩ | ⟨hk, hg⟩⟩
        · rw [hg]
          refine .inl ⟨by rw [hl]; simp, rfl, rfl, ?_⟩
          simp [hl]
        · rw [hg]
          exact .inr ⟨by rw [hl]; simp, rfl, .inl ⟨k, hk, rfl, rfl, rfl, rfl⟩⟩
        · rw [hg]
          exact .inr ⟨by rw [hl]; simp, rfl, .inr ⟨hk, rfl⟩⟩
      | succ j =>
        obtain ⟨g, hg, hG⟩ := r1 j (by omega)
        refine ⟨g, hg, ?_⟩
        unfold ClmG at hG ⊢
        rw [hsp] at hG
        rcases hcase with ⟨n, r, hl, hl2, _, _⟩ | ⟨hl, hl2, _⟩
        · rcases hG with ⟨h, g1, g2, g3⟩ | ⟨h, g1⟩
          · refine .inl ⟨by rw [hl]; rw [hl2] at h; simpa using h, g1, g2, ?_⟩
            simp only [hl2] at g3
            simp only [hl, List.getElem_cons_succ]
            exact g3
          · exact .inr ⟨by rw [hl]; rw [hl2] at h; simpa using h, g1⟩
        · rcases hG with ⟨h, _⟩ | ⟨h, g1⟩
          · rw [hl2] at h; simp at h
          · exact .inr ⟨by rw [hl]; simp, g1⟩
    · rw [r2]
      rcases hcase with ⟨n, r, hl, hl2, _, _⟩ | ⟨hl, hl2, _⟩
      · rw [hl, hl2]; rfl
      · rw [hl, hl2]; simp
/-- Who never claimed. -/
theorem ans_cl_new {s : Ks} {a : Ak} {x : List UInt8 × Int} (h : getA s.cl x = none) (ha : a.kind = 3 → a.by_ ≠ x.2) : getA (ansR s a).2.cl x = none := by
  show getA (execR s a).2.2.cl x = none
  by_cases k1 : a.kind = 1
  · rw [exec_leave s a k1]
    show getA (leaveR s a.sort a.id a.body).2.cl x = none
    rw [leave_cl]; exact h
  · by_cases k2 : a.kind = 2
    · rw [exec_spare s a k2]
      show getA (spareR s a.sort a.id a.body).2.cl x = none
      rw [spare_cl]; exact h
    · by_cases k3 : a.kind = 3
      · rw [exec_claim s a k3]
        have hne : ¬ ((a.sort, a.by_) = x) := fun e => ha k3 (by rw [← e])
        by_cases hg : sortR a.sort = 0 ∧ 1 ≤ a.by_
        · rcases claim_cases s a.sort a.by_ hg.1 hg.2 with ⟨k, _, e⟩ | ⟨hc, n, r, hl, e⟩ | ⟨hc, hl, k, hs, e⟩ | ⟨_, _, _, e⟩
          · rw [e]; exact h
          · rw [e]
            show getA (putA s.cl (a.sort, a.by_) _) x = none
            rw [getA_put, if_neg hne]; exact h
          · rw [e]
            show getA (putA s.cl (a.sort, a.by_) _) x = none
            rw [getA_put, if_neg hne]; exact h
          · rw [e]; exact h
        · rw [(claim_bad s a.sort a.by_ hg).1]; exact h
      · by_cases k4 : a.kind = 4
        · rw [exec_count s a k4]; exact h
        · have : execR s a = (kv0, 3, s) := by unfold execR; simp [k1, k2, k3, k4]
          rw [this]; exact h
theorem asks_cl_new : ∀ (l : List Ak) {s : Ks} {x : List UInt8 × Int}, getA s.cl x = none → (∀ a ∈ l, a.kind = 3 → a.by_ ≠ x.2) → getA (asksR s l).2.cl x = none
  | [], _, _, h, _ => h
  | a :: l, _, _, h, ha => asks_cl_new l (s := (ansR _ a).2) (ans_cl_new h (ha a List.mem_cons_self)) (fun b hb => ha b (List.mem_cons_of_mem _ hb))
/-- The last id of the first j. -/
def lastI (L : List Nm) (j : Nat) : List UInt8 := ((L.take j).getLast?.map (·.2)).getD []
theorem lastI_zero (L : List Nm) : lastI L 0 = [] := rfl
theorem lastI_succ {L : List Nm} {j : Nat} (h : j < L.length) : lastI L (j + 1) = L[j].2 := by
  unfold lastI
  rw [List.take_succ_eq_append_getElem h, List.getLast?_concat]
  rfl
theorem lastI_end {L : List Nm} {j : Nat} (h : L.length ≤ j) : lastI L (j + 1) = lastI L j := by
  unfold lastI
  rw [List.take_of_length_le h, List.take_of_length_le (by omega)]
theorem lastI_less {L : List Nm} (hu : UpN L) (hn : ∀ n ∈ L, n.2 ≠ []) {j : Nat} (h : j < L.length) : Op.bytesLess (lastI L j) L[j].2 = true := by
  cases j with
  | zero =>
    rw [lastI_zero]
    have := hn L[0] (List.getElem_mem h)
    cases hh : (L[0]).2 with
    | nil => exact absurd hh this
    | cons c r => rfl
  | succ j =>
    rw [lastI_succ (by omega)]
    unfold UpN at hu
    rw [List.pairwise_iff_getElem] at hu
    exact hu j (j + 1) (by omega) h (by omega)
theorem left_up {s : Ks} (h : InvK s) (S : List UInt8) : UpN (leftR s S) ∧ ∀ n ∈ leftR s S, n.2 ≠ [] :=
  ⟨srtN_up (left_ids h.ok S), fun n hn => h.long n (mem_left.1 hn).1⟩
end Go.Proofs.Ytaamoilkphjhgab
