/- One-time keys: how a client counts what is left. Nothing of the program is named here. -/
import Derived.Test.YtaamoilkphjhgabKyCt
namespace Go.Proofs.Ytaamoilkphjhgab
set_option linter.unusedVariables false
set_option linter.unusedSimpArgs false
def srtT : Bool → List UInt8
  | false => [101, 100]
  | true => [99, 117]
theorem srtT_inj {S T : Bool} (h : srtT S = srtT T) : S = T := by cases S <;> cases T <;> first | rfl | (simp [srtT] at h)
/-- What is known ahead of ask i: how many are left of either sort, and who has had one. -/
def CtP (l : List Ak) (i : Nat) (K : Bool → Int) (Hd : Bool → List Int) : Prop :=
  ∀ S, K S = ((leftR (asksR ks0 (l.take i)).2 (srtT S)).length : Int) ∧ ∀ b, b ∈ Hd S ↔ (getA (asksR ks0 (l.take i)).2.cl (srtT S, b)).isSome = true
theorem ctP0 (l : List Ak) : CtP l 0 (fun _ => 0) (fun _ => []) := by
  intro S
  refine ⟨?_, fun b => ?_⟩
  · rw [List.take_zero]; show (0 : Int) = ((leftR ks0 (srtT S)).length : Int); rw [left_len]; simp [ks0]
  · rw [List.take_zero]; show b ∈ [] ↔ (getA ks0.cl (srtT S, b)).isSome = true; simp [ks0, getA_nil]
/-- What one ask does. -/
structure CtStep (l : List Ak) (i : Nat) (K : Bool → Int) (Hd : Bool → List Int) (S : Bool) (a : Ak) (g : Gv) : Prop where
  bad : g.code ≠ 0 → CtP l (i + 1) K Hd
  leave : g.code = 0 → a.kind = 1 → ∀ K', (∀ T, T ≠ S → K' T = K T) → K' S = K S + 1 → CtP l (i + 1) K' Hd ∧ g.many = K' S ∧ 0 ≤ K' S ∧ K' S ≤ 12
  other : g.code = 0 → (a.kind = 2 ∨ a.kind = 4) → CtP l (i + 1) K Hd ∧ g.many = K S ∧ 0 ≤ K S ∧ K S ≤ 12
  again : g.code = 0 → a.kind = 3 → a.by_ ∈ Hd S → CtP l (i + 1) K Hd ∧ g.many = K S ∧ 0 ≤ K S ∧ K S ≤ 12
  spare : g.code = 0 → a.kind = 3 → a.by_ ∉ Hd S → g.spare = true → ∀ Hd', (∀ T, T ≠ S → Hd' T = Hd T) → Hd' S = Hd S ++ [a.by_] → CtP l (i + 1) K Hd' ∧ g.many = K S ∧ K S = 0
  fresh : g.code = 0 → a.kind = 3 → a.by_ ∉ Hd S → g.spare = false → ∀ Hd', (∀ T, T ≠ S → Hd' T = Hd T) → Hd' S = Hd S ++ [a.by_] → ∀ K', (∀ T, T ≠ S → K' T = K T) → K' S = K S - 1 → CtP l (i + 1) K' Hd' ∧ g.many = K' S ∧ 0 ≤ K' S ∧ K' S ≤ 12
theorem mem_claim {L : List ((List UInt8 × Int) × Kv)} {S T : Bool} {b b' : Int} {k : Kv} {hd hd' : List Int} (h : ∀ c, c ∈ hd ↔ (getA L (srtT T, c)).isSome = true) (h1 : T ≠ S → hd' = hd) (h2 : T = S → hd' = hd ++ [b]) :
    b' ∈ hd' ↔ (getA (putA L (srtT S, b) k) (srtT T, b')).isSome = true := by
  rw [getA_put]
  by_cases e : T = S
  · rw [h2 e]
    subst e
    by_cases eb : b = b'
    · subst eb; simp
    · have : ¬ ((srtT T, b) = (srtT T, b')) := fun e => eb (by injection e)
      rw [if_neg this, List.mem_append, h b']
      simp
      intro e; exact absurd e.symm eb
  · rw [h1 e]
    have : ¬ ((srtT S, b) = (srtT T, b')) := fun e' => e (by injection e' with e1 _; exact (srtT_inj e1).symm)
    rw [if_neg this]
    exact h b'
theorem ct_step {l : List Ak} {i : Nat} {K : Bool → Int} {Hd : Bool → List Int} (h : CtP l i K Hd) (hi : i < l.length) {S : Bool} (hS : l[i].sort = srtT S) (hk : l[i].kind = 1 ∨ l[i].kind = 2 ∨ l[i].kind = 3 ∨ l[i].kind = 4)
    {g : Gv} (hg : (asksR ks0 l).1[i]? = some g) : CtStep l i K Hd S l[i] g := by
  rw [asks_at l ks0 i hi] at hg
  injection hg with hg
  have hinv : InvK (asksR ks0 (l.take i)).2 := InvK.asks _ invK0
  have haf := asks_after l ks0 i hi
  have hinv' : InvK (asksR ks0 (l.take (i + 1))).2 := InvK.asks _ invK0
  have hfew := hinv.few
  have hfew' := hinv'.few
  unfold CtP at h
  have hst : g.code = 0 → _ := fun hc => count_step hinv (a := l[i]) (by rw [hg]; exact hc) hk
  rw [hg, ← haf, hS] at hst
  have hbad : g.code ≠ 0 → (asksR ks0 (l.take (i + 1))).2 = (asksR ks0 (l.take i)).2 := fun hc => by rw [haf]; exact ans_bad _ _ (by rw [hg]; exact hc)
  generalize l[i] = a at *
  refine ⟨fun hc S' => ?_, fun hc k1 K' hK hKS => ?_, fun hc k2 => ?_, fun hc k3 hm => ?_, fun hc k3 hm hsp Hd' hH hHS => ?_, fun hc k3 hm hsp Hd' hH hHS K' hK hKS => ?_⟩
  · rw [hbad hc]; exact h S'
  · obtain ⟨e1, e2, -⟩ := hst hc
    obtain ⟨e3, e4⟩ := e2 k1
    have hKl : ∀ S', K' S' = ((leftR (asksR ks0 (l.take (i + 1))).2 (srtT S')).length : Int) := fun S' => by
      rw [e3 (srtT S')]
      by_cases e : S' = S
      · subst e; rw [hKS, (h S').1]; simp
      · rw [hK S' e, (h S').1, if_neg (fun e' => e (srtT_inj e').symm)]; simp
    refine ⟨fun S' => ⟨hKl S', fun b => by rw [e4]; exact (h S').2 b⟩, by rw [hKl S]; exact e1, by rw [hKl S]; omega, by rw [hKl S]; have := hfew' (srtT S); omega⟩
  · obtain ⟨e1, -, e2, -⟩ := hst hc
    obtain ⟨e3, e4⟩ := e2 k2
    refine ⟨fun S' => ⟨by rw [e3]; exact (h S').1, fun b => by rw [e4]; exact (h S').2 b⟩, by rw [(h S).1, ← e3]; exact e1, by rw [(h S).1]; omega, by rw [(h S).1]; have := hfew (srtT S); omega⟩
  · obtain ⟨e1, -, -, e2, -⟩ := hst hc
    have e3 := e2 k3 (((h S).2 _).1 hm)
    refine ⟨fun S' => by rw [e3]; exact h S', by rw [(h S).1, ← e3]; exact e1, by rw [(h S).1]; omega, by rw [(h S).1]; have := hfew (srtT S); omega⟩
  · obtain ⟨e1, -, -, -, e2⟩ := hst hc
    have hnone : getA (asksR ks0 (l.take i)).2.cl (srtT S, a.by_) = none := by
      cases hh : getA (asksR ks0 (l.take i)).2.cl (srtT S, a.by_) with
      | none => rfl
      | some v => exact absurd (((h S).2 _).2 (by rw [hh]; rfl)) hm
    obtain ⟨e3, k, e4⟩ := e2 k3 hnone
    rcases e3 with ⟨-, e5, e6⟩ | ⟨e5, -⟩
    · have h0 : K S = 0 := by rw [(h S).1, e5]; rfl
      refine ⟨fun S' => ⟨by rw [e6]; exact (h S').1, fun b => by rw [e4]; exact mem_claim (h S').2 (hH S') (fun e => by rw [e]; exact hHS)⟩, ?_, h0⟩
      rw [h0, e1, e6, e5]; rfl
    · rw [hsp] at e5; cases e5
  · obtain ⟨e1, -, -, -, e2⟩ := hst hc
    have hnone : getA (asksR ks0 (l.take i)).2.cl (srtT S, a.by_) = none := by
      cases hh : getA (asksR ks0 (l.take i)).2.cl (srtT S, a.by_) with
      | none => rfl
      | some v => exact absurd (((h S).2 _).2 (by rw [hh]; rfl)) hm
    obtain ⟨e3, k, e4⟩ := e2 k3 hnone
    rcases e3 with ⟨e5, -⟩ | ⟨-, e5, e6⟩
    · rw [hsp] at e5; cases e5
    · have hKl : ∀ S', K' S' = ((leftR (asksR ks0 (l.take (i + 1))).2 (srtT S')).length : Int) := fun S' => by
        by_cases e : S' = S
        · subst e; rw [hKS, (h S').1, e5]; omega
        · rw [hK S' e, (h S').1, e6 _ (fun e' => e (srtT_inj e'))]
      refine ⟨fun S' => ⟨hKl S', fun b => by rw [e4]; exact mem_claim (h S').2 (hH S') (fun e => by rw [e]; exact hHS)⟩, by rw [hKl S]; exact e1, by rw [hKl S]; omega, by rw [hKl S]; have := hfew' (srtT S); omega⟩
end Go.Proofs.Ytaamoilkphjhgab
