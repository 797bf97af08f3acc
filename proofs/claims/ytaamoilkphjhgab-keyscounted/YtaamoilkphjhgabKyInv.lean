/- One-time keys: what is always so, and what an ask does to what is left. Nothing of the program is named here. -/
import Derived.Test.YtaamoilkphjhgabKyM
namespace Go.Proofs.Ytaamoilkphjhgab
set_option linter.unusedVariables false
set_option linter.unusedSimpArgs false

theorem getD_put (L : List (Nm × Bool)) (n m : Nm) : (getA (putA L n true) m).getD false = (decide (n = m) || (getA L m).getD false) := by
  rw [getA_put]
  by_cases h : n = m <;> simp [h]
theorem isGv_put (s : Ks) (n m : Nm) : isGv { s with gv := putA s.gv n true } m = (decide (n = m) || isGv s m) := getD_put _ _ _
theorem left_len (s : Ks) (S : List UInt8) : (leftR s S).length = ((s.up.map (·.1)).filter (wantN s S)).length := (srtN_perm _).length_eq
/-- A key more. -/
theorem left_add {s : Ks} {n : Nm} (hn : getA s.up n = none) (hg : isGv s n = false) (B S : List UInt8) :
    (leftR { s with up := putA s.up n B } S).length = (leftR s S).length + (if n.1 = S then 1 else 0) := by
  rw [left_len, left_len]
  simp only [put_keys, hn, if_true, List.filter_append, List.length_append]
  have e1 : wantN { s with up := putA s.up n B } S = wantN s S := rfl
  rw [e1]
  by_cases h : n.1 = S
  · have : wantN s S n = true := by simp [wantN, h, hg]
    simp [this, h]
  · have : wantN s S n = false := by simp [wantN, h]
    simp [this, h]
theorem left_add_other {s : Ks} {n : Nm} {S : List UInt8} (B : List UInt8) (h : n.1 ≠ S) : leftR { s with up := putA s.up n B } S = leftR s S := by
  unfold leftR
  simp only [put_keys]
  have e1 : wantN { s with up := putA s.up n B } S = wantN s S := rfl
  rw [e1]
  split
  · rw [List.filter_append]
    have : wantN s S n = false := by simp [wantN, h]
    simp [this]
  · rfl
/-- The first one is given away. -/
theorem left_give {s : Ks} (ho : OkK s) {S : List UInt8} {n : Nm} {r : List Nm} (h : leftR s S = n :: r) : leftR { s with gv := putA s.gv n true } S = r := by
  have ho' : OkK { s with gv := putA s.gv n true } := ⟨ho.up, ho.gv.put _ _, ho.sp, ho.cl⟩
  have hu := srtN_up (left_ids ho S)
  have hp : (n :: r).Perm ((s.up.map (·.1)).filter (wantN s S)) := by rw [← h]; exact srtN_perm _
  unfold leftR at h
  rw [h] at hu
  obtain ⟨h1, h2⟩ := List.pairwise_cons.1 hu
  refine (left_any ho' S ?_ (h2.imp fun {a b} hab => bl_asym hab)).symm
  have e1 : (s.up.map (·.1)).filter (wantN { s with gv := putA s.gv n true } S) = ((s.up.map (·.1)).filter (wantN s S)).filter (fun m => !decide (n = m)) := by
    rw [List.filter_filter]
    refine List.filter_congr fun m _ => ?_
    unfold wantN
    rw [isGv_put]
    by_cases e : n = m <;> simp [e]
  have e2 : (n :: r).filter (fun m => !decide (n = m)) = r := by
    rw [List.filter_cons_of_neg (by simp), List.filter_eq_self]
    intro m hm
    have := bl_ne (h1 m hm)
    simp
    rintro rfl
    exact this rfl
  show r.Perm ((s.up.map (·.1)).filter (wantN { s with gv := putA s.gv n true } S))
  rw [e1]
  have := hp.filter (fun m => !decide (n = m))
  rwa [e2] at this
theorem left_give_other {s : Ks} {S : List UInt8} {n : Nm} (h : n.1 ≠ S) : leftR { s with gv := putA s.gv n true } S = leftR s S := by
  unfold leftR
  have : (s.up.map (·.1)).filter (wantN { s with gv := putA s.gv n true } S) = (s.up.map (·.1)).filter (wantN s S) := by
    refine List.filter_congr fun m _ => ?_
    unfold wantN
    rw [isGv_put]
    by_cases e : n = m
    · subst e; simp [h]
    · simp [e]
  show srtN ((s.up.map (·.1)).filter (wantN { s with gv := putA s.gv n true } S)) = _
  rw [this]
theorem head_left {s : Ks} {S : List UInt8} {n : Nm} {r : List Nm} (h : leftR s S = n :: r) : n ∈ s.up.map (·.1) ∧ n.1 = S ∧ isGv s n = false :=
  mem_left.1 (by rw [h]; exact List.mem_cons_self)

structure InvK (s : Ks) : Prop where
  ok : OkK s
  given : ∀ n, isGv s n = true → n ∈ s.up.map (·.1)
  spares : ∀ S k, getA s.sp S = some k → k.spare = true
  mine : ∀ S b k, getA s.cl (S, b) = some k → k.spare = false → isGv s (S, k.id) = true
  apart : ∀ S b b' k k', getA s.cl (S, b) = some k → getA s.cl (S, b') = some k' → b ≠ b' → k.spare = false → k'.spare = false → k.id ≠ k'.id
  few : ∀ S, (leftR s S).length ≤ 12
  long : ∀ n ∈ s.up.map (·.1), n.2 ≠ []
theorem invK0 : InvK ks0 := ⟨okK0, by simp [isGv, ks0, getA_nil], by simp [ks0, getA_nil], by simp [ks0, getA_nil], by simp [ks0, getA_nil], by intro S; simp [left_len, ks0], by simp [ks0]⟩
/-- What is given, in one word. -/
theorem give_cases (s : Ks) (S : List UInt8) :
    (∃ n r, leftR s S = n :: r ∧ giveR s S = (⟨n.2, (getA s.up n).getD [], false⟩, 0, { s with gv := putA s.gv n true })) ∨
    (leftR s S = [] ∧ ∃ k, getA s.sp S = some k ∧ giveR s S = (k, 0, s)) ∨
    (leftR s S = [] ∧ getA s.sp S = none ∧ giveR s S = (kv0, 8, s)) := by
  unfold giveR
  cases h : leftR s S with
  | cons n r => exact Or.inl ⟨n, r, rfl, rfl⟩
  | nil =>
    cases h2 : getA s.sp S with
    | some k => exact Or.inr (Or.inl ⟨rfl, k, rfl, rfl⟩)
    | none => exact Or.inr (Or.inr ⟨rfl, rfl, rfl⟩)
/-- What a claim that is asked rightly comes to. -/
theorem claim_cases (s : Ks) (S : List UInt8) (b : Int) (hS : sortR S = 0) (hb : 1 ≤ b) :
    (∃ k, getA s.cl (S, b) = some k ∧ claimR s S b = (k, 0, s)) ∨
    (getA s.cl (S, b) = none ∧ ∃ n r, leftR s S = n :: r ∧ claimR s S b = (⟨n.2, (getA s.up n).getD [], false⟩, 0, { s with gv := putA s.gv n true, cl := putA s.cl (S, b) ⟨n.2, (getA s.up n).getD [], false⟩ })) ∨
    (getA s.cl (S, b) = none ∧ leftR s S = [] ∧ ∃ k, getA s.sp S = some k ∧ claimR s S b = (k, 0, { s with cl := putA s.cl (S, b) k })) ∨
    (getA s.cl (S, b) = none ∧ leftR s S = [] ∧ getA s.sp S = none ∧ claimR s S b = (kv0, 8, s)) := by
  have e : claimR s S b = (match getA s.cl (S, b) with
    | some k => (k, 0, s)
    | none => if (giveR s S).2.1 ≠ 0 then (kv0, (giveR s S).2.1, s) else ((giveR s S).1, 0, { (giveR s S).2.2 with cl := putA (giveR s S).2.2.cl (S, b) (giveR s S).1 })) := by
    unfold claimR
    rw [if_neg (by simp [hS]), if_neg (by omega)]
    rfl
  rw [e]
  cases hc : getA s.cl (S, b) with
  | some k => exact Or.inl ⟨k, rfl, rfl⟩
  | none =>
    rcases give_cases s S with ⟨n, r, h1, h2⟩ | ⟨h1, k, h2, h3⟩ | ⟨h1, h2, h3⟩
    · exact Or.inr (Or.inl ⟨rfl, n, r, h1, by simp [h2]⟩)
    · exact Or.inr (Or.inr (Or.inl ⟨rfl, h1, k, h2, by simp [h3]⟩))
    · exact Or.inr (Or.inr (Or.inr ⟨rfl, h1, h2, by simp [h3]⟩))
theorem claim_bad (s : Ks) (S : List UInt8) (b : Int) (h : ¬ (sortR S = 0 ∧ 1 ≤ b)) : claimR s S b = (kv0, (if sortR S ≠ 0 then sortR S else 2), s) ∧ (claimR s S b).2.1 ≠ 0 := by
  unfold claimR
  by_cases h1 : sortR S ≠ 0
  · simp [h1]
  · rw [if_neg h1, if_neg h1, if_pos (by omega)]; simp
theorem isGv_cl (s : Ks) (c : List ((List UInt8 × Int) × Kv)) (m : Nm) : isGv { s with cl := c } m = isGv s m := rfl
theorem left_cl (s : Ks) (c : List ((List UInt8 × Int) × Kv)) (S : List UInt8) : leftR { s with cl := c } S = leftR s S := rfl
theorem left_sp (s : Ks) (c : List (List UInt8 × Kv)) (S : List UInt8) : leftR { s with sp := c } S = leftR s S := rfl
theorem InvK.claim {s : Ks} (h : InvK s) (S : List UInt8) (b : Int) : InvK (claimR s S b).2.2 := by
  by_cases hg : sortR S = 0 ∧ 1 ≤ b
  · rcases claim_cases s S b hg.1 hg.2 with ⟨k, _, e⟩ | ⟨hc, n, r, hl, e⟩ | ⟨hc, hl, k, hs, e⟩ | ⟨_, _, _, e⟩
    · rw [e]; exact h
    · rw [e]
      obtain ⟨n1, n2, n3⟩ := head_left hl
      refine ⟨⟨h.ok.up, h.ok.gv.put _ _, h.ok.sp, h.ok.cl.put _ _⟩, fun m hm => ?_, h.spares, fun S' b' k hk hsp => ?_, fun S' b1 b2 k1 k2 hk1 hk2 hne s1 s2 => ?_, fun S' => ?_, h.long⟩
      · have hm' : (decide (n = m) || isGv s m) = true := by rw [← isGv_put]; exact hm
        by_cases e1 : n = m
        · subst e1; exact n1
        · simp [e1] at hm'; exact h.given m hm'
      · show isGv { s with gv := putA s.gv n true } (S', k.id) = true
        rw [isGv_put]
        rw [getA_put] at hk
        split at hk
        · rename_i he
          injection hk with hk
          subst hk
          simp at he
          have : n = (S', n.2) := Prod.ext (by rw [n2, he.1]) rfl
          simp [← this]
        · have := h.mine S' b' k hk hsp
          simp [this]
      · rw [getA_put] at hk1 hk2
        have key : ∀ bb kk, getA s.cl (S, bb) = some kk → kk.spare = false → kk.id ≠ n.2 := fun bb kk hkk hss e1 => by
          have := h.mine S bb kk hkk hss
          rw [e1, show ((S, n.2) : Nm) = n from Prod.ext n2.symm rfl, n3] at this
          cases this
        split at hk1
        · rename_i e1
          simp at e1
          injection hk1 with hk1
          split at hk2
          · rename_i e2
            simp at e2
            exact absurd (e1.2.symm.trans e2.2) hne
          · subst hk1
            obtain ⟨rfl, rfl⟩ := e1
            exact fun e3 => key b2 k2 hk2 s2 e3.symm
        · split at hk2
          · rename_i e2
            simp at e2
            injection hk2 with hk2
            subst hk2
            obtain ⟨rfl, rfl⟩ := e2
            exact key b1 k1 hk1 s1
          · exact h.apart S' b1 b2 k1 k2 hk1 hk2 hne s1 s2
      · show (leftR { s with gv := putA s.gv n true } S').length ≤ 12
        by_cases e1 : n.1 = S'
        · have : leftR s S' = n :: r := by rw [← e1, n2]; exact hl
          rw [left_give h.ok this]
          have := h.few S'
          rw [‹leftR s S' = n :: r›] at this
          simp at this; omega
        · rw [left_give_other e1]; exact h.few S'
    · rw [e]
      refine ⟨⟨h.ok.up, h.ok.gv, h.ok.sp, h.ok.cl.put _ _⟩, h.given, h.spares, fun S' b' k' hk hsp => ?_, fun S' b1 b2 k1 k2 hk1 hk2 hne s1 s2 => ?_, h.few, h.long⟩
      · rw [getA_put] at hk
        split at hk
        · injection hk with hk
          subst hk
          rw [h.spares S k hs] at hsp; cases hsp
        · exact h.mine S' b' k' hk hsp
      · rw [getA_put] at hk1 hk2
        split at hk1
        · injection hk1 with hk1
          subst hk1
          rw [h.spares S k hs] at s1; cases s1
        · split at hk2
          · injection hk2 with hk2
            subst hk2
            rw [h.spares S k hs] at s2; cases s2
          · exact h.apart S' b1 b2 k1 k2 hk1 hk2 hne s1 s2
    · rw [e]; exact h
  · rw [(claim_bad s S b hg).1]; exact h
theorem InvK.leave {s : Ks} (h : InvK s) (S I B : List UInt8) : InvK (leaveR s S I B).2 := by
  unfold leaveR
  split
  · exact h
  · rename_i hnm
    split
    · exact h
    · rename_i hno
      split
      · exact h
      · rename_i hfew
        have hn : getA s.up (S, I) = none := by cases hh : getA s.up (S, I) with
          | none => rfl
          | some v => rw [hh] at hno; simp at hno
        have hg : isGv s (S, I) = false := by
          cases hh : isGv s (S, I) with
          | false => rfl
          | true => exact absurd (h.given _ hh) (getA_none.1 hn)
        refine ⟨⟨h.ok.up.put _ _, h.ok.gv, h.ok.sp, h.ok.cl⟩, fun m hm => ?_, h.spares, h.mine, h.apart, fun S' => ?_, fun m hm => ?_⟩
        · show m ∈ (putA s.up (S, I) B).map (·.1)
          rw [put_keys, if_pos hn]
          exact List.mem_append_left _ (h.given m hm)
        · rw [left_add hn hg]
          by_cases e : S = S'
          · subst e; simp; omega
          · simp [e]; exact h.few S'
        · have hm' : m ∈ (putA s.up (S, I) B).map (·.1) := hm
          rw [put_keys, if_pos hn] at hm'
          rcases List.mem_append.1 hm' with hm' | hm'
          · exact h.long m hm'
          · simp at hm'
            subst hm'
            intro e
            have : nameR S I = 0 := by
              cases Decidable.em (nameR S I = 0) with
              | inl h => exact h
              | inr h => exact absurd h hnm
            unfold nameR at this
            split at this
            · rename_i h2
              have := (isNm_len h2.2).1
              simp at e
              simp [e] at this
            · cases this
theorem InvK.spare {s : Ks} (h : InvK s) (S I B : List UInt8) : InvK (spareR s S I B).2 := by
  unfold spareR
  split
  · exact h
  · refine ⟨⟨h.ok.up, h.ok.gv, h.ok.sp.put _ _, h.ok.cl⟩, h.given, fun S' k hk => ?_, h.mine, h.apart, h.few, h.long⟩
    rw [getA_put] at hk
    split at hk
    · injection hk with hk; subst hk; rfl
    · exact h.spares S' k hk
theorem InvK.exec {s : Ks} (h : InvK s) (a : Ak) : InvK (execR s a).2.2 := by
  unfold execR
  split
  · exact h.leave _ _ _
  · split
    · exact h.spare _ _ _
    · split
      · exact h.claim _ _
      · split <;> exact h
theorem InvK.ans {s : Ks} (h : InvK s) (a : Ak) : InvK (ansR s a).2 := h.exec a
theorem InvK.asks : ∀ (l : List Ak) {s : Ks}, InvK s → InvK (asksR s l).2
  | [], _, h => h
  | a :: l, _, h => InvK.asks l (s := (ansR _ a).2) (h.ans a)
/-- An error leaves the state. -/
theorem exec_bad (s : Ks) (a : Ak) (h : (execR s a).2.1 ≠ 0) : (execR s a).2.2 = s := by
  unfold execR at *
  split
  · rename_i e; rw [if_pos e] at h
    unfold leaveR at *
    split
    · rfl
    · rename_i h1; rw [if_neg h1] at h
      split
      · rfl
      · rename_i h2; rw [if_neg h2] at h
        split
        · rfl
        · rename_i h3; rw [if_neg h3] at h; exact absurd rfl h
  · rename_i e; rw [if_neg e] at h
    split
    · rename_i e; rw [if_pos e] at h
      unfold spareR at *
      split
      · rfl
      · rename_i h1; rw [if_neg h1] at h; exact absurd rfl h
    · rename_i e; rw [if_neg e] at h
      split
      · rename_i e; rw [if_pos e] at h
        by_cases hg : sortR a.sort = 0 ∧ 1 ≤ a.by_
        · rcases claim_cases s a.sort a.by_ hg.1 hg.2 with ⟨k, _, e⟩ | ⟨hc, n, r, hl, e⟩ | ⟨hc, hl, k, hs, e⟩ | ⟨_, _, _, e⟩
          · rw [e]
          · rw [e] at h; exact absurd rfl h
          · rw [e] at h; exact absurd rfl h
          · rw [e]
        · rw [(claim_bad s a.sort a.by_ hg).1]
      · split <;> rfl
end Go.Proofs.Ytaamoilkphjhgab
