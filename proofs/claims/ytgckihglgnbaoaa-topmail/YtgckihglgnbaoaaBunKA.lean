/- Joined texts: KyInv, KySt, KyCt. -/
import Derived.Test.YtgckihglgnbaoaaKyM
/- One-time keys: what is always so, and what an ask does to what is left. Nothing of the program is named here. -/
namespace Go.Proofs.Ytgckihglgnbaoaa
set_option linter.unusedVariables false
set_option linter.unusedSimpArgs false

theorem getD_put (L : List (KNm × Bool)) (n m : KNm) : (getA (putA L n true) m).getD false = (decide (n = m) || (getA L m).getD false) := by
  rw [getA_put]
  by_cases h : n = m <;> simp [h]
theorem isGv_put (s : Ks) (n m : KNm) : isGv { s with gv := putA s.gv n true } m = (decide (n = m) || isGv s m) := getD_put _ _ _
theorem left_len (s : Ks) (S : List UInt8) : (leftR s S).length = ((s.up.map (·.1)).filter (wantN s S)).length := (srtN_perm _).length_eq
/-- A key more. -/
theorem left_add {s : Ks} {n : KNm} (hn : getA s.up n = none) (hg : isGv s n = false) (B S : List UInt8) :
    (leftR { s with up := putA s.up n B } S).length = (leftR s S).length + (if n.1 = S then 1 else 0) := by
  rw [left_len, left_len]
  simp only [put_keys, hn, if_true, List.filter_append, List.length_append]
  have e1 : wantN { s with up := putA s.up n B } S = wantN s S := rfl
  rw [e1]
  by_cases h : n.1 = S
  · have : wantN s S n = true := by simp [wantN, h, hg]
    simp [this, h]
  · have : wantN s S n = false := by simp [wantN, h]
    simp [this, h]
theorem left_add_other {s : Ks} {n : KNm} {S : List UInt8} (B : List UInt8) (h : n.1 ≠ S) : leftR { s with up := putA s.up n B } S = leftR s S := by
  unfold leftR
  simp only [put_keys]
  have e1 : wantN { s with up := putA s.up n B } S = wantN s S := rfl
  rw [e1]
  split
  · rw [List.filter_append]
    have : wantN s S n = false := by simp [wantN, h]
    simp [this]
  · rfl
/-- The first one is given away. -/
theorem left_give {s : Ks} (ho : OkK s) {S : List UInt8} {n : KNm} {r : List KNm} (h : leftR s S = n :: r) : leftR { s with gv := putA s.gv n true } S = r := by
  have ho' : OkK { s with gv := putA s.gv n true } := ⟨ho.up, ho.gv.put _ _, ho.sp, ho.cl⟩
  have hu := srtN_up (left_ids ho S)
  have hp : (n :: r).Perm ((s.up.map (·.1)).filter (wantN s S)) := by rw [← h]; exact srtN_perm _
  unfold leftR at h
  rw [h] at hu
  obtain ⟨h1, h2⟩ := List.pairwise_cons.1 hu
  refine (left_any ho' S ?_ (h2.imp fun {a b} hab => bl_asym hab)).symm
  have e1 : (s.up.map (·.1)).filter (wantN { s with gv := putA s.gv n true } S) = ((s.up.map (·.1)).filter (wantN s S)).filter (fun m => !decide (n = m)) := by
    rw [List.filter_filter]
    refine List.filter_congr fun m _ => ?_
    unfold wantN
    rw [isGv_put]
    by_cases e : n = m <;> simp [e]
  have e2 : (n :: r).filter (fun m => !decide (n = m)) = r := by
    rw [List.filter_cons_of_neg (by simp), List.filter_eq_self]
    intro m hm
    have := bl_ne (h1 m hm)
    simp
    rintro rfl
    exact this rfl
  show r.Perm ((s.up.map (·.1)).filter (wantN { s with gv := putA s.gv n true } S))
  rw [e1]
  have := hp.filter (fun m => !decide (n = m))
  rwa [e2] at this
theorem left_give_other {s : Ks} {S : List UInt8} {n : KNm} (h : n.1 ≠ S) : leftR { s with gv := putA s.gv n true } S = leftR s S := by
  unfold leftR
  have : (s.up.map (·.1)).filter (wantN { s with gv := putA s.gv n true } S) = (s.up.map (·.1)).filter (wantN s S) := by
    refine List.filter_congr fun m _ => ?_
    unfold wantN
    rw [isGv_put]
    by_cases e : n = m
    · subst e; simp [h]
    · simp [e]
  show srtN ((s.up.map (·.1)).filter (wantN { s with gv := putA s.gv n true } S)) = _
  rw [this]
theorem head_left {s : Ks} {S : List UInt8} {n : KNm} {r : List KNm} (h : leftR s S = n :: r) : n ∈ s.up.map (·.1) ∧ n.1 = S ∧ isGv s n = false :=
  mem_left.1 (by rw [h]; exact List.mem_cons_self)

structure InvK (s : Ks) : Prop where
  ok : OkK s
  given : ∀ n, isGv s n = true → n ∈ s.up.map (·.1)
  spares : ∀ S k, getA s.sp S = some k → k.spare = true
  mine : ∀ S b k, getA s.cl (S, b) = some k → k.spare = false → isGv s (S, k.id) = true
  apart : ∀ S b b' k k', getA s.cl (S, b) = some k → getA s.cl (S, b') = some k' → b ≠ b' → k.spare = false → k'.spare = false → k.id ≠ k'.id
  few : ∀ S, (leftR s S).length ≤ 12
  long : ∀ n ∈ s.up.map (·.1), n.2 ≠ []
theorem invK0 : InvK ks0 := ⟨okK0, by simp [isGv, ks0, getA_nil], by simp [ks0, getA_nil], by simp [ks0, getA_nil], by simp [ks0, getA_nil], by intro S; simp [left_len, ks0], by simp [ks0]⟩
/-- What is given, in one word. -/
theorem give_cases (s : Ks) (S : List UInt8) :
    (∃ n r, leftR s S = n :: r ∧ giveR s S = (⟨n.2, (getA s.up n).getD [], false⟩, 0, { s with gv := putA s.gv n true })) ∨
    (leftR s S = [] ∧ ∃ k, getA s.sp S = some k ∧ giveR s S = (k, 0, s)) ∨
    (leftR s S = [] ∧ getA s.sp S = none ∧ giveR s S = (kv0, 8, s)) := by
  unfold giveR
  cases h : leftR s S with
  | cons n r => exact Or.inl ⟨n, r, rfl, rfl⟩
  | nil =>
    cases h2 : getA s.sp S with
    | some k => exact Or.inr (Or.inl ⟨rfl, k, rfl, rfl⟩)
    | none => exact Or.inr (Or.inr ⟨rfl, rfl, rfl⟩)
/-- What a claim that is asked rightly comes to. -/
theorem claim_cases (s : Ks) (S : List UInt8) (b : Int) (hS : sortR S = 0) (hb : 1 ≤ b) :
    (∃ k, getA s.cl (S, b) = some k ∧ claimR s S b = (k, 0, s)) ∨
    (getA s.cl (S, b) = none ∧ ∃ n r, leftR s S = n :: r ∧ claimR s S b = (⟨n.2, (getA s.up n).getD [], false⟩, 0, { s with gv := putA s.gv n true, cl := putA s.cl (S, b) ⟨n.2, (getA s.up n).getD [], false⟩ })) ∨
    (getA s.cl (S, b) = none ∧ leftR s S = [] ∧ ∃ k, getA s.sp S = some k ∧ claimR s S b = (k, 0, { s with cl := putA s.cl (S, b) k })) ∨
    (getA s.cl (S, b) = none ∧ leftR s S = [] ∧ getA s.sp S = none ∧ claimR s S b = (kv0, 8, s)) := by
  have e : claimR s S b = (match getA s.cl (S, b) with
    | some k => (k, 0, s)
    | none => if (giveR s S).2.1 ≠ 0 then (kv0, (giveR s S).2.1, s) else ((giveR s S).1, 0, { (giveR s S).2.2 with cl := putA (giveR s S).2.2.cl (S, b) (giveR s S).1 })) := by
    unfold claimR
    rw [if_neg (by simp [hS]), if_neg (by omega)]
    rfl
  rw [e]
  cases hc : getA s.cl (S, b) with
  | some k => exact Or.inl ⟨k, rfl, rfl⟩
  | none =>
    rcases give_cases s S with ⟨n, r, h1, h2⟩ | ⟨h1, k, h2, h3⟩ | ⟨h1, h2, h3⟩
    · exact Or.inr (Or.inl ⟨rfl, n, r, h1, by simp [h2]⟩)
    · exact Or.inr (Or.inr (Or.inl ⟨rfl, h1, k, h2, by simp [h3]⟩))
    · exact Or.inr (Or.inr (Or.inr ⟨rfl, h1, h2, by simp [h3]⟩))
theorem claim_bad (s : Ks) (S : List UInt8) (b : Int) (h : ¬ (sortR S = 0 ∧ 1 ≤ b)) : claimR s S b = (kv0, (if sortR S ≠ 0 then sortR S else 2), s) ∧ (claimR s S b).2.1 ≠ 0 := by
  unfold claimR
  by_cases h1 : sortR S ≠ 0
  · simp [h1]
  · rw [if_neg h1, if_neg h1, if_pos (by omega)]; simp
theorem isGv_cl (s : Ks) (c : List ((List UInt8 × Int) × Kv)) (m : KNm) : isGv { s with cl := c } m = isGv s m := rfl
theorem left_cl (s : Ks) (c : List ((List UInt8 × Int) × Kv)) (S : List UInt8) : leftR { s with cl := c } S = leftR s S := rfl
theorem left_sp (s : Ks) (c : List (List UInt8 × Kv)) (S : List UInt8) : leftR { s with sp := c } S = leftR s S := rfl
theorem InvK.claim {s : Ks} (h : InvK s) (S : List UInt8) (b : Int) : InvK (claimR s S b).2.2 := by
  by_cases hg : sortR S = 0 ∧ 1 ≤ b
  · rcases claim_cases s S b hg.1 hg.2 with ⟨k, _, e⟩ | ⟨hc, n, r, hl, e⟩ | ⟨hc, hl, k, hs, e⟩ | ⟨_, _, _, e⟩
    · rw [e]; exact h
    · rw [e]
      obtain ⟨n1, n2, n3⟩ := head_left hl
      refine ⟨⟨h.ok.up, h.ok.gv.put _ _, h.ok.sp, h.ok.cl.put _ _⟩, fun m hm => ?_, h.spares, fun S' b' k hk hsp => ?_, fun S' b1 b2 k1 k2 hk1 hk2 hne s1 s2 => ?_, fun S' => ?_, h.long⟩
      · have hm' : (decide (n = m) || isGv s m) = true := by rw [← isGv_put]; exact hm
        by_cases e1 : n = m
        · subst e1; exact n1
        · simp [e1] at hm'; exact h.given m hm'
      · show isGv { s with gv := putA s.gv n true } (S', k.id) = true
        rw [isGv_put]
        rw [getA_put] at hk
        split at hk
        · rename_i he
          injection hk with hk
          subst hk
          simp at he
          have : n = (S', n.2) := Prod.ext (by rw [n2, he.1]) rfl
          simp [← this]
        · have := h.mine S' b' k hk hsp
          simp [this]
      · rw [getA_put] at hk1 hk2
        have key : ∀ bb kk, getA s.cl (S, bb) = some kk → kk.spare = false → kk.id ≠ n.2 := fun bb kk hkk hss e1 => by
          have := h.mine S bb kk hkk hss
          rw [e1, show ((S, n.2) : KNm) = n from Prod.ext n2.symm rfl, n3] at this
          cases this
        split at hk1
        · rename_i e1
          simp at e1
          injection hk1 with hk1
          split at hk2
          · rename_i e2
            simp at e2
            exact absurd (e1.2.symm.trans e2.2) hne
          · subst hk1
            obtain ⟨rfl, rfl⟩ := e1
            exact fun e3 => key b2 k2 hk2 s2 e3.symm
        · split at hk2
          · rename_i e2
            simp at e2
            injection hk2 with hk2
            subst hk2
            obtain ⟨rfl, rfl⟩ := e2
            exact key b1 k1 hk1 s1
          · exact h.apart S' b1 b2 k1 k2 hk1 hk2 hne s1 s2
      · show (leftR { s with gv := putA s.gv n true } S').length ≤ 12
        by_cases e1 : n.1 = S'
        · have : leftR s S' = n :: r := by rw [← e1, n2]; exact hl
          rw [left_give h.ok this]
          have := h.few S'
          rw [‹leftR s S' = n :: r›] at this
          simp at this; omega
        · rw [left_give_other e1]; exact h.few S'
    · rw [e]
      refine ⟨⟨h.ok.up, h.ok.gv, h.ok.sp, h.ok.cl.put _ _⟩, h.given, h.spares, fun S' b' k' hk hsp => ?_, fun S' b1 b2 k1 k2 hk1 hk2 hne s1 s2 => ?_, h.few, h.long⟩
      · rw [getA_put] at hk
        split at hk
        · injection hk with hk
          subst hk
          rw [h.spares S k hs] at hsp; cases hsp
        · exact h.mine S' b' k' hk hsp
      · rw [getA_put] at hk1 hk2
        split at hk1
        · injection hk1 with hk1
          subst hk1
          rw [h.spares S k hs] at s1; cases s1
        · split at hk2
          · injection hk2 with hk2
            subst hk2
            rw [h.spares S k hs] at s2; cases s2
          · exact h.apart S' b1 b2 k1 k2 hk1 hk2 hne s1 s2
    · rw [e]; exact h
  · rw [(claim_bad s S b hg).1]; exact h
theorem InvK.leave {s : Ks} (h : InvK s) (S I B : List UInt8) : InvK (leaveR s S I B).2 := by
  unfold leaveR
  split
  · exact h
  · rename_i hnm
    split
    · exact h
    · rename_i hno
      split
      · exact h
      · rename_i hfew
        have hn : getA s.up (S, I) = none := by cases hh : getA s.up (S, I) with
          | none => rfl
          | some v => rw [hh] at hno; simp at hno
        have hg : isGv s (S, I) = false := by
          cases hh : isGv s (S, I) with
          | false => rfl
          | true => exact absurd (h.given _ hh) (getA_none.1 hn)
        refine ⟨⟨h.ok.up.put _ _, h.ok.gv, h.ok.sp, h.ok.cl⟩, fun m hm => ?_, h.spares, h.mine, h.apart, fun S' => ?_, fun m hm => ?_⟩
        · show m ∈ (putA s.up (S, I) B).map (·.1)
          rw [put_keys, if_pos hn]
          exact List.mem_append_left _ (h.given m hm)
        · rw [left_add hn hg]
          by_cases e : S = S'
          · subst e; simp; omega
          · simp [e]; exact h.few S'
        · have hm' : m ∈ (putA s.up (S, I) B).map (·.1) := hm
          rw [put_keys, if_pos hn] at hm'
          rcases List.mem_append.1 hm' with hm' | hm'
          · exact h.long m hm'
          · simp at hm'
            subst hm'
            intro e
            have : nameR S I = 0 := by
              cases Decidable.em (nameR S I = 0) with
              | inl h => exact h
              | inr h => exact absurd h hnm
            unfold nameR at this
            split at this
            · rename_i h2
              have := (isNm_len h2.2).1
              simp at e
              simp [e] at this
            · cases this
theorem InvK.spare {s : Ks} (h : InvK s) (S I B : List UInt8) : InvK (spareR s S I B).2 := by
  unfold spareR
  split
  · exact h
  · refine ⟨⟨h.ok.up, h.ok.gv, h.ok.sp.put _ _, h.ok.cl⟩, h.given, fun S' k hk => ?_, h.mine, h.apart, h.few, h.long⟩
    rw [getA_put] at hk
    split at hk
    · injection hk with hk; subst hk; rfl
    · exact h.spares S' k hk
theorem InvK.exec {s : Ks} (h : InvK s) (a : Ak) : InvK (execR s a).2.2 := by
  unfold execR
  split
  · exact h.leave _ _ _
  · split
    · exact h.spare _ _ _
    · split
      · exact h.claim _ _
      · split <;> exact h
theorem InvK.ans {s : Ks} (h : InvK s) (a : Ak) : InvK (ansR s a).2 := h.exec a
theorem InvK.asks : ∀ (l : List Ak) {s : Ks}, InvK s → InvK (asksR s l).2
  | [], _, h => h
  | a :: l, _, h => InvK.asks l (s := (ansR _ a).2) (h.ans a)
/-- An error leaves the state. -/
theorem kexec_bad (s : Ks) (a : Ak) (h : (execR s a).2.1 ≠ 0) : (execR s a).2.2 = s := by
  unfold execR at *
  split
  · rename_i e; rw [if_pos e] at h
    unfold leaveR at *
    split
    · rfl
    · rename_i h1; rw [if_neg h1] at h
      split
      · rfl
      · rename_i h2; rw [if_neg h2] at h
        split
        · rfl
        · rename_i h3; rw [if_neg h3] at h; exact absurd rfl h
  · rename_i e; rw [if_neg e] at h
    split
    · rename_i e; rw [if_pos e] at h
      unfold spareR at *
      split
      · rfl
      · rename_i h1; rw [if_neg h1] at h; exact absurd rfl h
    · rename_i e; rw [if_neg e] at h
      split
      · rename_i e; rw [if_pos e] at h
        by_cases hg : sortR a.sort = 0 ∧ 1 ≤ a.by_
        · rcases claim_cases s a.sort a.by_ hg.1 hg.2 with ⟨k, _, e⟩ | ⟨hc, n, r, hl, e⟩ | ⟨hc, hl, k, hs, e⟩ | ⟨_, _, _, e⟩
          · rw [e]
          · rw [e] at h; exact absurd rfl h
          · rw [e] at h; exact absurd rfl h
          · rw [e]
        · rw [(claim_bad s a.sort a.by_ hg).1]
      · split <;> rfl
end Go.Proofs.Ytgckihglgnbaoaa

/- One-time keys: what the statements ask of the answers. Nothing of the program is named here. -/
namespace Go.Proofs.Ytgckihglgnbaoaa
set_option linter.unusedVariables false
set_option linter.unusedSimpArgs false

theorem asks_at : ∀ (l : List Ak) (s : Ks) (i : Nat) (hi : i < l.length), (asksR s l).1[i]? = some (ansR (asksR s (l.take i)).2 l[i]).1
  | a :: l, s, 0, _ => rfl
  | a :: l, s, i + 1, hi => by
    have := asks_at l (ansR s a).2 i (by simpa using hi)
    simpa [asksR] using this
theorem asks_after (l : List Ak) (s : Ks) (i : Nat) (hi : i < l.length) : (asksR s (l.take (i + 1))).2 = (ansR (asksR s (l.take i)).2 l[i]).2 := by
  rw [List.take_succ_eq_append_getElem hi, asksR_snoc]

/-! ### what stays -/
theorem claim_cl (s : Ks) (S : List UInt8) (b : Int) {x : List UInt8 × Int} {k : Kv} (h : getA s.cl x = some k) : getA (claimR s S b).2.2.cl x = some k := by
  by_cases hg : sortR S = 0 ∧ 1 ≤ b
  · have hne : getA s.cl (S, b) = none → ¬ (S, b) = x := fun e e1 => by rw [e1, h] at e; cases e
    rcases claim_cases s S b hg.1 hg.2 with ⟨k, _, e⟩ | ⟨hc, n, r, hl, e⟩ | ⟨hc, hl, k, hs, e⟩ | ⟨_, _, _, e⟩
    · rw [e]; exact h
    · rw [e]
      show getA (putA s.cl (S, b) _) x = _
      rw [getA_put, if_neg (hne hc)]; exact h
    · rw [e]
      show getA (putA s.cl (S, b) _) x = _
      rw [getA_put, if_neg (hne hc)]; exact h
    · rw [e]; exact h
  · rw [(claim_bad s S b hg).1]; exact h
theorem claim_up (s : Ks) (S : List UInt8) (b : Int) : (claimR s S b).2.2.up = s.up := by
  by_cases hg : sortR S = 0 ∧ 1 ≤ b
  · rcases claim_cases s S b hg.1 hg.2 with ⟨k, _, e⟩ | ⟨hc, n, r, hl, e⟩ | ⟨hc, hl, k, hs, e⟩ | ⟨_, _, _, e⟩ <;> rw [e]
  · rw [(claim_bad s S b hg).1]
theorem claim_ok (s : Ks) (S : List UInt8) (b : Int) (h : (claimR s S b).2.1 = 0) : getA (claimR s S b).2.2.cl (S, b) = some (claimR s S b).1 := by
  by_cases hg : sortR S = 0 ∧ 1 ≤ b
  · rcases claim_cases s S b hg.1 hg.2 with ⟨k, hk, e⟩ | ⟨hc, n, r, hl, e⟩ | ⟨hc, hl, k, hs, e⟩ | ⟨_, _, _, e⟩
    · rw [e]; exact hk
    · rw [e]
      show getA (putA s.cl (S, b) _) (S, b) = _
      rw [getA_put, if_pos rfl]
    · rw [e]
      show getA (putA s.cl (S, b) _) (S, b) = _
      rw [getA_put, if_pos rfl]
    · rw [e] at h; cases h
  · exact absurd h (claim_bad s S b hg).2
theorem leave_cl (s : Ks) (S I B : List UInt8) : (leaveR s S I B).2.cl = s.cl := by
  unfold leaveR; split; rfl; split; rfl; split <;> rfl
theorem spare_cl (s : Ks) (S I B : List UInt8) : (spareR s S I B).2.cl = s.cl := by
  unfold spareR; split <;> rfl
theorem spare_up (s : Ks) (S I B : List UInt8) : (spareR s S I B).2.up = s.up := by
  unfold spareR; split <;> rfl
theorem ans_cl (s : Ks) (a : Ak) {x : List UInt8 × Int} {k : Kv} (h : getA s.cl x = some k) : getA (ansR s a).2.cl x = some k := by
  show getA (execR s a).2.2.cl x = some k
  unfold execR
  split
  · rw [show (kv0, leaveR s a.sort a.id a.body).2.2.cl = s.cl from leave_cl ..]; exact h
  · split
    · rw [show (kv0, spareR s a.sort a.id a.body).2.2.cl = s.cl from spare_cl ..]; exact h
    · split
      · exact claim_cl _ _ _ h
      · split <;> exact h
theorem asks_cl : ∀ (l : List Ak) (s : Ks) {x : List UInt8 × Int} {k : Kv}, getA s.cl x = some k → getA (asksR s l).2.cl x = some k
  | [], _, _, _, h => h
  | a :: l, s, _, _, h => asks_cl l (ansR s a).2 (ans_cl s a h)
theorem ans_up (s : Ks) (a : Ak) {n : KNm} (h : n ∈ s.up.map (·.1)) : n ∈ (ansR s a).2.up.map (·.1) := by
  show n ∈ (execR s a).2.2.up.map (·.1)
  unfold execR
  split
  · show n ∈ (leaveR s a.sort a.id a.body).2.up.map (·.1)
    unfold leaveR
    split
    · exact h
    · split
      · exact h
      · split
        · exact h
        · show n ∈ (putA s.up _ _).map (·.1)
          rw [put_keys]
          split
          · exact List.mem_append_left _ h
          · exact h
  · split
    · rw [show (kv0, spareR s a.sort a.id a.body).2.2.up = s.up from spare_up ..]; exact h
    · split
      · rw [claim_up]; exact h
      · split <;> exact h
theorem asks_up : ∀ (l : List Ak) (s : Ks) {n : KNm}, n ∈ s.up.map (·.1) → n ∈ (asksR s l).2.up.map (·.1)
  | [], _, _, h => h
  | a :: l, s, _, h => asks_up l (ansR s a).2 (ans_up s a h)
/-- What a good claim said is in the state from then on. -/
theorem claim_end {l : List Ak} {s : Ks} {i : Nat} (hi : i < l.length) (hk : l[i].kind = 3) {g : Gv} (hg : (asksR s l).1[i]? = some g) (hc : g.code = 0) : getA (asksR s l).2.cl (l[i].sort, l[i].by_) = some ⟨g.id, g.body, g.spare⟩ := by
  have h1 := asks_at l s i hi
  rw [hg] at h1
  injection h1 with h1
  have he : (execR (asksR s (l.take i)).2 l[i]).2.1 = 0 := by
    cases Decidable.em ((execR (asksR s (l.take i)).2 l[i]).2.1 = 0) with
    | inl h => exact h
    | inr h =>
      rw [h1] at hc
      unfold ansR at hc
      simp only [h, ne_eq, not_false_eq_true, if_true] at hc
  have hg2 : (⟨g.id, g.body, g.spare⟩ : Kv) = (execR (asksR s (l.take i)).2 l[i]).1 := by
    rw [h1]
    unfold ansR
    simp [he]
  have e3 : execR (asksR s (l.take i)).2 l[i] = claimR (asksR s (l.take i)).2 l[i].sort l[i].by_ := by
    unfold execR
    simp [hk]
  have h2 := claim_ok (asksR s (l.take i)).2 l[i].sort l[i].by_ (by rw [← e3]; exact he)
  rw [← e3, ← hg2] at h2
  have h3 : getA (asksR s (l.take (i + 1))).2.cl (l[i].sort, l[i].by_) = some ⟨g.id, g.body, g.spare⟩ := by
    rw [asks_after l s i hi]; exact h2
  have h4 := asks_cl (l.drop (i + 1)) _ h3
  rwa [show (asksR (asksR s (l.take (i + 1))).2 (l.drop (i + 1))).2 = (asksR s l).2 by
    conv => rhs; rw [← List.take_append_drop (i + 1) l, asksR_app]] at h4
/-- A key that was left and is left again. -/
theorem gone_end {l : List Ak} {s : Ks} {i k : Nat} (hik : i < k) (hk : k < l.length) (h1 : l[i].kind = 1) (h2 : l[k].kind = 1) (hS : l[k].sort = l[i].sort) (hI : l[k].id = l[i].id) {g g' : Gv} (hg : (asksR s l).1[i]? = some g) (hg' : (asksR s l).1[k]? = some g') (hc : g.code = 0) : g'.code = 7 := by
  have hi : i < l.length := by omega
  have e1 := asks_at l s i hi
  rw [hg] at e1
  injection e1 with e1
  have e2 := asks_at l s k hk
  rw [hg'] at e2
  injection e2 with e2
  have x1 : execR (asksR s (l.take i)).2 l[i] = (kv0, leaveR (asksR s (l.take i)).2 l[i].sort l[i].id l[i].body) := by unfold execR; simp [h1]
  have x2 : execR (asksR s (l.take k)).2 l[k] = (kv0, leaveR (asksR s (l.take k)).2 l[k].sort l[k].id l[k].body) := by unfold execR; simp [h2]
  have hc0 : (leaveR (asksR s (l.take i)).2 l[i].sort l[i].id l[i].body).1 = 0 := by
    cases Decidable.em ((leaveR (asksR s (l.take i)).2 l[i].sort l[i].id l[i].body).1 = 0) with
    | inl h => exact h
    | inr h =>
      rw [e1] at hc
      unfold ansR at hc
      simp only [x1, h, ne_eq, not_false_eq_true, if_true] at hc
  have hup : (l[i].sort, l[i].id) ∈ (asksR s (l.take (i + 1))).2.up.map (·.1) := by
    rw [asks_after l s i hi]
    show _ ∈ (execR (asksR s (l.take i)).2 l[i]).2.2.up.map (·.1)
    rw [x1]
    show _ ∈ (leaveR (asksR s (l.take i)).2 l[i].sort l[i].id l[i].body).2.up.map (·.1)
    unfold leaveR at hc0 ⊢
    split
    · rename_i h; rw [if_pos h] at hc0; exact absurd hc0 h
    · rename_i h; rw [if_neg h] at hc0
      split
      · rename_i h; rw [if_pos h] at hc0; cases hc0
      · rename_i h; rw [if_neg h] at hc0
        split
        · rename_i h; rw [if_pos h] at hc0; cases hc0
        · show _ ∈ (putA _ _ _).map (·.1)
          rw [put_keys]
          split
          · simp
          · rename_i h4
            cases Decidable.em ((l[i].sort, l[i].id) ∈ ((asksR s (l.take i)).2.up).map (·.1)) with
            | inl h => exact h
            | inr h => exact absurd (getA_none.2 h) h4
  have hnm : nameR l[i].sort l[i].id = 0 := by
    unfold leaveR at hc0
    split at hc0
    · rename_i h; exact absurd hc0 h
    · rename_i h
      cases Decidable.em (nameR l[i].sort l[i].id = 0) with
      | inl h' => exact h'
      | inr h' => exact absurd h' h
  have hup2 : (l[i].sort, l[i].id) ∈ (asksR s (l.take k)).2.up.map (·.1) := by
    have e3 : l.take k = l.take (i + 1) ++ (l.drop (i + 1)).take (k - (i + 1)) := by
      rw [← List.take_add]
      congr 1
      omega
    rw [e3, asksR_app]
    exact asks_up _ _ hup
  rw [e2]
  unfold ansR
  have hl : leaveR (asksR s (l.take k)).2 l[k].sort l[k].id l[k].body = (7, (asksR s (l.take k)).2) := by
    rw [hS, hI]
    unfold leaveR
    rw [if_neg (by simp [hnm]), if_pos]
    cases hh : getA (asksR s (l.take k)).2.up (l[i].sort, l[i].id) with
    | some v => rfl
    | none => exact absurd hup2 (getA_none.1 hh)
  simp only [x2, hl]
  rfl

/-! ### claims by new ones -/
def clm (S : List UInt8) (b : Int) : Ak := ⟨3, S, [], [], b⟩
theorem ans_clm (s : Ks) (S : List UInt8) (b : Int) : ansR s (clm S b) = (if (claimR s S b).2.1 ≠ 0 then ⟨(claimR s S b).2.1, [], [], false, 0⟩ else ⟨0, (claimR s S b).1.id, (claimR s S b).1.body, (claimR s S b).1.spare, ((leftR (claimR s S b).2.2 S).length : Int)⟩, (claimR s S b).2.2) := rfl
/-- What a claim by a new one comes to. -/
theorem new_claim {s : Ks} (h : InvK s) {S : List UInt8} {b : Int} (hS : sortR S = 0) (hb : 1 ≤ b) (hc : getA s.cl (S, b) = none) :
    ((∃ n r, leftR s S = n :: r ∧ leftR (ansR s (clm S b)).2 S = r ∧ ∃ B, (ansR s (clm S b)).1 = ⟨0, n.2, B, false, (r.length : Int)⟩) ∨
     (leftR s S = [] ∧ leftR (ansR s (clm S b)).2 S = [] ∧ ((∃ k, getA s.sp S = some k ∧ (ansR s (clm S b)).1 = ⟨0, k.id, k.body, true, 0⟩) ∨ (getA s.sp S = none ∧ (ansR s (clm S b)).1 = ⟨8, [], [], false, 0⟩)))) ∧
    (ansR s (clm S b)).2.sp = s.sp ∧ ∀ b', b' ≠ b → getA (ansR s (clm S b)).2.cl (S, b') = getA s.cl (S, b') := by
  rw [ans_clm]
  have hput : ∀ (k : Kv) (b' : Int), b' ≠ b → getA (putA s.cl (S, b) k) (S, b') = getA s.cl (S, b') := fun k b' hb' => by
    rw [getA_put, if_neg (by simp; exact fun e => hb' e.symm)]
  rcases claim_cases s S b hS hb with ⟨k, hk, e⟩ | ⟨_, n, r, hl, e⟩ | ⟨_, hl, k, hs, e⟩ | ⟨_, hl, hs, e⟩
  · rw [hk] at hc; cases hc
  · rw [e]
    have hlr : leftR { s with gv := putA s.gv n true, cl := putA s.cl (S, b) ⟨n.2, (getA s.up n).getD [], false⟩ } S = r := left_give h.ok hl
    refine ⟨Or.inl ⟨n, r, hl, hlr, (getA s.up n).getD [], ?_⟩, rfl, fun b' hb' => hput _ _ hb'⟩
    simp [hlr]
  · rw [e]
    refine ⟨Or.inr ⟨hl, hl, Or.inl ⟨k, hs, ?_⟩⟩, rfl, fun b' hb' => hput _ _ hb'⟩
    have hl' : leftR { s with cl := putA s.cl (S, b) k } S = [] := hl
    simp [hl', h.spares S k hs]
  · rw [e]
    exact ⟨Or.inr ⟨hl, hl, Or.inr ⟨hs, by simp⟩⟩, rfl, fun _ _ => rfl⟩

/-! ### two states that are one at a Sort -/
structure Alike (S : List UInt8) (s t : Ks) : Prop where
  up : s.up.filter (fun p => p.1.1 == S) = t.up.filter (fun p => p.1.1 == S)
  gv : ∀ I, isGv s (S, I) = isGv t (S, I)
  sp : getA s.sp S = getA t.sp S
  cl : ∀ b, getA s.cl (S, b) = getA t.cl (S, b)
theorem Alike.refl (S : List UInt8) (s : Ks) : Alike S s s := ⟨rfl, fun _ => rfl, rfl, fun _ => rfl⟩
theorem getA_filter {V : Type} (L : List (KNm × V)) (S I : List UInt8) : getA (L.filter (fun p => p.1.1 == S)) (S, I) = getA L (S, I) := by
  induction L with
  | nil => rfl
  | cons p L ih =>
    rw [List.filter_cons, getA_cons]
    by_cases h : p.1.1 = S
    · simp only [h, beq_self_eq_true, if_true]
      rw [getA_cons, ih]
    · have : (p.1.1 == S) = false := by simpa using h
      simp only [this, Bool.false_eq_true, if_false]
      rw [ih, if_neg (fun e => h (by rw [e]))]
theorem Alike.at_ {S : List UInt8} {s t : Ks} (h : Alike S s t) (I : List UInt8) : getA s.up (S, I) = getA t.up (S, I) := by
  rw [← getA_filter s.up, ← getA_filter t.up, h.up]
theorem left_filter (s : Ks) (S : List UInt8) : (s.up.map (·.1)).filter (wantN s S) = ((s.up.filter (fun p => p.1.1 == S)).map (·.1)).filter (fun n => !isGv s (S, n.2)) := by
  induction s.up with
  | nil => rfl
  | cons p L ih =>
    rw [List.map_cons, List.filter_cons, List.filter_cons]
    by_cases h : p.1.1 = S
    · have e1 : wantN s S p.1 = !isGv s (S, p.1.2) := by
        unfold wantN
        rw [show p.1 = (S, p.1.2) from Prod.ext h rfl]
        simp
      simp only [h, beq_self_eq_true, if_true, e1]
      rw [List.map_cons, List.filter_cons, ih]
    · have e2 : (p.1.1 == S) = false := by simpa using h
      have e1 : wantN s S p.1 = false := by unfold wantN; rw [e2]; rfl
      simp only [e1, e2, Bool.false_eq_true, if_false]
      exact ih
theorem Alike.left {S : List UInt8} {s t : Ks} (h : Alike S s t) : leftR s S = leftR t S := by
  unfold leftR
  rw [left_filter, left_filter, h.up]
  congr 2
  funext n
  rw [h.gv]
theorem filter_put (L : List (KNm × List UInt8)) (n : KNm) (B S : List UInt8) (h : getA L n = none) : (putA L n B).filter (fun p => p.1.1 == S) = L.filter (fun p => p.1.1 == S) ++ (if n.1 = S then [(n, B)] else []) := by
  rw [putA_new h, List.filter_append]
  congr 1
  by_cases e : n.1 = S <;> simp [e]
theorem filter_put' (L : List (KNm × List UInt8)) (n : KNm) (B S : List UInt8) (h : n.1 ≠ S) : (putA L n B).filter (fun p => p.1.1 == S) = L.filter (fun p => p.1.1 == S) := by
  induction L with
  | nil => simp [putA, h]
  | cons p L ih =>
    unfold putA
    by_cases e : p.1 = n
    · rw [if_pos e]
      simp [List.filter_cons, e, h]
    · rw [if_neg e]
      simp only [List.filter_cons, ih]
/-- An ask of another Sort. -/
theorem Alike.other {S : List UInt8} {s t : Ks} (h : Alike S s t) (a : Ak) (ha : a.sort ≠ S) : Alike S (ansR s a).2 t := by
  show Alike S (execR s a).2.2 t
  unfold execR
  split
  · show Alike S (leaveR s a.sort a.id a.body).2 t
    unfold leaveR
    split
    · exact h
    · split
      · exact h
      · split
        · exact h
        · exact ⟨(filter_put' _ _ _ _ ha).trans h.up, h.gv, h.sp, h.cl⟩
  · split
    · show Alike S (spareR s a.sort a.id a.body).2 t
      unfold spareR
      split
      · exact h
      · exact ⟨h.up, h.gv, by show getA (putA s.sp a.sort _) S = _; rw [getA_put, if_neg ha]; exact h.sp, h.cl⟩
    · split
      · have hput : ∀ (c : List ((List UInt8 × Int) × Kv)) (k : Kv) (b' : Int), getA (putA c (a.sort, a.by_) k) (S, b') = getA c (S, b') := fun c k b' => by
          rw [getA_put, if_neg (fun e => ha (congrArg Prod.fst e))]
        by_cases hg : sortR a.sort = 0 ∧ 1 ≤ a.by_
        · rcases claim_cases s a.sort a.by_ hg.1 hg.2 with ⟨k, hk, e⟩ | ⟨_, n, r, hl, e⟩ | ⟨_, hl, k, hs, e⟩ | ⟨_, hl, hs, e⟩
          · rw [e]; exact h
          · rw [e]
            refine ⟨h.up, fun I => ?_, h.sp, fun b => (hput _ _ b).trans (h.cl b)⟩
            rw [← h.gv]
            show isGv { s with gv := putA s.gv n true } (S, I) = _
            rw [isGv_put]
            have : n ≠ (S, I) := fun e => ha (by rw [← (head_left hl).2.1, e])
            simp [this]
          · rw [e]
            exact ⟨h.up, h.gv, h.sp, fun b => (hput _ _ b).trans (h.cl b)⟩
          · rw [e]; exact h
        · rw [(claim_bad s a.sort a.by_ hg).1]; exact h
      · split <;> exact h
theorem Alike.symm {S : List UInt8} {s t : Ks} (h : Alike S s t) : Alike S t s := ⟨h.up.symm, fun I => (h.gv I).symm, h.sp.symm, fun b => (h.cl b).symm⟩
/-- An ask of the Sort itself: it comes to the same. -/
theorem Alike.exec {S : List UInt8} {s t : Ks} (h : Alike S s t) (a : Ak) (ha : a.sort = S) : (execR s a).1 = (execR t a).1 ∧ (execR s a).2.1 = (execR t a).2.1 ∧ Alike S (execR s a).2.2 (execR t a).2.2 := by
  subst ha
  unfold execR
  split
  · show kv0 = kv0 ∧ (leaveR s a.sort a.id a.body).1 = (leaveR t a.sort a.id a.body).1 ∧ Alike a.sort (leaveR s a.sort a.id a.body).2 (leaveR t a.sort a.id a.body).2
    unfold leaveR
    rw [h.at_, h.left]
    split
    · exact ⟨rfl, rfl, h⟩
    · split
      · exact ⟨rfl, rfl, h⟩
      · rename_i hno
        split
        · exact ⟨rfl, rfl, h⟩
        · have hn : getA t.up (a.sort, a.id) = none := by cases hh : getA t.up (a.sort, a.id) with
            | none => rfl
            | some v => rw [hh] at hno; simp at hno
          exact ⟨rfl, rfl, ⟨by rw [filter_put _ _ _ _ ((h.at_ _).trans hn), filter_put _ _ _ _ hn, h.up], h.gv, h.sp, h.cl⟩⟩
  · split
    · show kv0 = kv0 ∧ (spareR s a.sort a.id a.body).1 = (spareR t a.sort a.id a.body).1 ∧ Alike a.sort (spareR s a.sort a.id a.body).2 (spareR t a.sort a.id a.body).2
      unfold spareR
      split
      · exact ⟨rfl, rfl, h⟩
      · exact ⟨rfl, rfl, ⟨h.up, h.gv, by show getA (putA s.sp _ _) _ = getA (putA t.sp _ _) _; rw [getA_put, getA_put, if_pos rfl, if_pos rfl], h.cl⟩⟩
    · split
      · have hput : ∀ (k : Kv) (b' : Int), getA (putA s.cl (a.sort, a.by_) k) (a.sort, b') = getA (putA t.cl (a.sort, a.by_) k) (a.sort, b') := fun k b' => by
          rw [getA_put, getA_put, h.cl]
        by_cases hg : sortR a.sort = 0 ∧ 1 ≤ a.by_
        · rcases claim_cases s a.sort a.by_ hg.1 hg.2 with ⟨k, hk, e⟩ | ⟨hc, n, r, hl, e⟩ | ⟨hc, hl, k, hs, e⟩ | ⟨hc, hl, hs, e⟩ <;> rcases claim_cases t a.sort a.by_ hg.1 hg.2 with ⟨k', hk', e'⟩ | ⟨hc', n', r', hl', e'⟩ | ⟨hc', hl', k', hs', e'⟩ | ⟨hc', hl', hs', e'⟩ <;> rw [e, e']
          · rw [h.cl, hk'] at hk; injection hk with hk; subst hk; exact ⟨rfl, rfl, h⟩
          · rw [h.cl, hc'] at hk; cases hk
          · rw [h.cl, hc'] at hk; cases hk
          · rw [h.cl, hc'] at hk; cases hk
          · rw [h.cl, hk'] at hc; cases hc
          · rw [h.left, hl'] at hl
            injection hl with h1 h2
            subst h1 h2
            have hn := (head_left hl').2.1
            have hu : getA s.up n' = getA t.up n' := by
              have := h.at_ n'.2
              rwa [show ((a.sort, n'.2) : KNm) = n' from Prod.ext hn.symm rfl] at this
            rw [hu]
            refine ⟨rfl, rfl, ⟨h.up, fun I => ?_, h.sp, hput _⟩⟩
            show isGv { s with gv := putA s.gv n' true } (a.sort, I) = isGv { t with gv := putA t.gv n' true } (a.sort, I)
            rw [isGv_put, isGv_put, h.gv]
          · rw [h.left, hl'] at hl; cases hl
          · rw [h.left, hl'] at hl; cases hl
          · rw [h.cl, hk'] at hc; cases hc
          · rw [h.left, hl'] at hl; cases hl
          · rw [h.sp, hs'] at hs; injection hs with hs; subst hs; exact ⟨rfl, rfl, ⟨h.up, h.gv, h.sp, hput _⟩⟩
          · rw [h.sp, hs'] at hs; cases hs
          · rw [h.cl, hk'] at hc; cases hc
          · rw [h.left, hl'] at hl; cases hl
          · rw [h.sp, hs'] at hs; cases hs
          · exact ⟨rfl, rfl, h⟩
        · rw [(claim_bad s a.sort a.by_ hg).1, (claim_bad t a.sort a.by_ hg).1]; exact ⟨rfl, rfl, h⟩
      · split <;> exact ⟨rfl, rfl, h⟩
theorem Alike.ans {S : List UInt8} {s t : Ks} (h : Alike S s t) (a : Ak) (ha : a.sort = S) : (ansR s a).1 = (ansR t a).1 ∧ Alike S (ansR s a).2 (ansR t a).2 := by
  obtain ⟨h1, h2, h3⟩ := h.exec a ha
  refine ⟨?_, h3⟩
  subst ha
  unfold ansR
  rw [h1, h2, h3.left]
end Go.Proofs.Ytgckihglgnbaoaa

/- One-time keys: how what is left is counted. Nothing of the program is named here. -/
namespace Go.Proofs.Ytgckihglgnbaoaa
set_option linter.unusedVariables false
set_option linter.unusedSimpArgs false
theorem ans_code (s : Ks) (a : Ak) (h : (ansR s a).1.code = 0) : (execR s a).2.1 = 0 ∧ (ansR s a).1 = ⟨0, (execR s a).1.id, (execR s a).1.body, (execR s a).1.spare, ((leftR (execR s a).2.2 a.sort).length : Int)⟩ := by
  have he : (execR s a).2.1 = 0 := by
    cases Decidable.em ((execR s a).2.1 = 0) with
    | inl h => exact h
    | inr h' =>
      unfold ansR at h
      simp only [h', ne_eq, not_false_eq_true, if_true] at h
  refine ⟨he, ?_⟩
  unfold ansR
  simp [he]
theorem ans_bad (s : Ks) (a : Ak) (h : (ansR s a).1.code ≠ 0) : (ansR s a).2 = s := by
  refine kexec_bad s a fun he => h ?_
  unfold ansR
  simp [he]
theorem exec_leave (s : Ks) (a : Ak) (h : a.kind = 1) : execR s a = (kv0, leaveR s a.sort a.id a.body) := by unfold execR; simp [h]
theorem exec_spare (s : Ks) (a : Ak) (h : a.kind = 2) : execR s a = (kv0, spareR s a.sort a.id a.body) := by unfold execR; simp [h]
theorem exec_claim (s : Ks) (a : Ak) (h : a.kind = 3) : execR s a = claimR s a.sort a.by_ := by unfold execR; simp [h]
theorem exec_count (s : Ks) (a : Ak) (h : a.kind = 4) : execR s a = (kv0, sortR a.sort, s) := by unfold execR; simp [h]
theorem leave_step {s : Ks} (hi : InvK s) {S I B : List UInt8} (h : (leaveR s S I B).1 = 0) (S' : List UInt8) : (leftR (leaveR s S I B).2 S').length = (leftR s S').length + (if S = S' then 1 else 0) := by
  unfold leaveR at *
  split
  · rename_i e; rw [if_pos e] at h; exact absurd h e
  · rename_i e; rw [if_neg e] at h
    split
    · rename_i e; rw [if_pos e] at h; cases h
    · rename_i hno; rw [if_neg hno] at h
      split
      · rename_i e; rw [if_pos e] at h; cases h
      · have hn : getA s.up (S, I) = none := by cases hh : getA s.up (S, I) with
          | none => rfl
          | some v => rw [hh] at hno; simp at hno
        have hg : isGv s (S, I) = false := by
          cases hh : isGv s (S, I) with
          | false => rfl
          | true => exact absurd (hi.given _ hh) (getA_none.1 hn)
        exact left_add hn hg B S'
/-- What an ask that is answered does to the numbers of keys. -/
theorem count_step {s : Ks} (hi : InvK s) {a : Ak} (h : (ansR s a).1.code = 0) (hk : a.kind = 1 ∨ a.kind = 2 ∨ a.kind = 3 ∨ a.kind = 4) :
    (ansR s a).1.many = ((leftR (ansR s a).2 a.sort).length : Int) ∧
    (a.kind = 1 → (∀ S', (leftR (ansR s a).2 S').length = (leftR s S').length + (if a.sort = S' then 1 else 0)) ∧ (ansR s a).2.cl = s.cl) ∧
    (a.kind = 2 ∨ a.kind = 4 → (∀ S', leftR (ansR s a).2 S' = leftR s S') ∧ (ansR s a).2.cl = s.cl) ∧
    (a.kind = 3 → (getA s.cl (a.sort, a.by_)).isSome = true → (ansR s a).2 = s) ∧
    (a.kind = 3 → getA s.cl (a.sort, a.by_) = none →
      ((ansR s a).1.spare = true ∧ leftR s a.sort = [] ∧ (∀ S', leftR (ansR s a).2 S' = leftR s S') ∨
       (ansR s a).1.spare = false ∧ (leftR s a.sort).length = (leftR (ansR s a).2 a.sort).length + 1 ∧ (∀ S', S' ≠ a.sort → leftR (ansR s a).2 S' = leftR s S')) ∧
      ∃ k, (ansR s a).2.cl = putA s.cl (a.sort, a.by_) k) := by
  obtain ⟨he, hg⟩ := ans_code s a h
  have h2 : (ansR s a).2 = (execR s a).2.2 := rfl
  rw [hg, h2]
  refine ⟨rfl, fun k1 => ?_, fun k2 => ?_, fun k3 hsm => ?_, fun k3 hn => ?_⟩
  · rw [exec_leave s a k1] at he ⊢
    exact ⟨fun S' => leave_step hi he S', leave_cl _ _ _ _⟩
  · rcases k2 with k2 | k2
    · rw [exec_spare s a k2]
      refine ⟨fun S' => ?_, spare_cl _ _ _ _⟩
      show leftR (spareR s a.sort a.id a.body).2 S' = _
      unfold spareR
      split <;> rfl
    · rw [exec_count s a k2]
      exact ⟨fun _ => rfl, rfl⟩
  · rw [exec_claim s a k3] at he ⊢
    by_cases hgd : sortR a.sort = 0 ∧ 1 ≤ a.by_
    · rcases claim_cases s a.sort a.by_ hgd.1 hgd.2 with ⟨k, hk, e⟩ | ⟨hc, n, r, hl, e⟩ | ⟨hc, hl, k, hs, e⟩ | ⟨hc, hl, hs, e⟩
      · rw [e]
      all_goals (rw [hc] at hsm; cases hsm)
    · exact absurd he (claim_bad s a.sort a.by_ hgd).2
  · rw [exec_claim s a k3] at he ⊢
    by_cases hgd : sortR a.sort = 0 ∧ 1 ≤ a.by_
    · rcases claim_cases s a.sort a.by_ hgd.1 hgd.2 with ⟨k, hk, e⟩ | ⟨hc, n, r, hl, e⟩ | ⟨hc, hl, k, hs, e⟩ | ⟨hc, hl, hs, e⟩
      · rw [hk] at hn; cases hn
      · rw [e]
        refine ⟨Or.inr ⟨rfl, ?_, fun S' hS' => ?_⟩, _, rfl⟩
        · show _ = (leftR { s with gv := putA s.gv n true } a.sort).length + 1
          rw [left_give hi.ok hl, hl]
          rfl
        · show leftR { s with gv := putA s.gv n true } S' = _
          exact left_give_other fun e => hS' (by rw [← e, (head_left hl).2.1])
      · rw [e]
        exact ⟨Or.inl ⟨hi.spares _ _ hs, hl, fun _ => rfl⟩, _, rfl⟩
      · rw [e] at he; cases he
    · exact absurd he (claim_bad s a.sort a.by_ hgd).2
end Go.Proofs.Ytgckihglgnbaoaa
