/- Device lists: the mathematics of the reference. Nothing of the program is named here. -/
import Derived.Test.YtmlgaedhfannmaaDvM
namespace Go.Proofs.Ytmlgaedhfannmaa
set_option linter.unusedVariables false
set_option linter.unusedSimpArgs false
def smG : Bool → Uc → List Rw → Bool
  | s, _, [] => s
  | s, c, r :: l => smG (if r.key = c.key then r.val == vl c else s) c l
theorem smG_eq {c : Uc} : ∀ {l : List Rw} {s : Bool}, srt l → smG s c l = if l.any (fun r => r.key == c.key) then look l c.key == vl c else s
  | [], s, _ => rfl
  | r :: l, s, h => by
    unfold smG
    rw [smG_eq h.2, List.any_cons]
    by_cases hk : r.key = c.key
    · have hno : l.any (fun r => r.key == c.key) = false := by
        rw [List.any_eq_false]
        intro q hq e
        have := h.1 q hq
        rw [hk, ← show q.key = c.key by simpa using e, bl_irrefl] at this
        cases this
      rw [hno, if_neg (by simp), if_pos hk, show (r.key == c.key) = true by simpa using hk, Bool.true_or, if_pos rfl, look, if_pos hk]
    · rw [if_neg hk, show (r.key == c.key) = false by simpa using hk, Bool.false_or, look, if_neg hk]
def hadD (l : List Rw) (k : List UInt8) : Bool := l.any (fun r => r.key == k)
theorem hadD_look {l : List Rw} {k : List UInt8} (hs : srt l) (hg : ∀ r ∈ l, r.val ≠ []) : hadD l k = !(look l k == []) := by
  unfold hadD
  cases h : l.any (fun r => r.key == k) with
  | true =>
    obtain ⟨r, hr, e⟩ := List.any_eq_true.1 h
    have := look_has hs hr (by simpa using e)
    rw [this]
    have := hg r hr
    simp [this]
  | false =>
    have : look l k = [] := look_none fun q hq e => by
      rw [List.any_eq_false] at h
      exact h q hq (by simp [e])
    rw [this]; rfl
/-- The reference's test of a change without an effect. -/
theorem eff_ref {ds : List Rw} {c : Uc} (hs : srt ds) (hg : ∀ r ∈ ds, r.val ≠ []) (hc : okU c = true) : eff ds c = !((c.gone && !hadD ds c.key) || (!c.gone && smG false c ds)) := by
  rw [smG_eq hs, hadD_look hs hg]
  have hany := hadD_look (k := c.key) hs hg
  unfold hadD at hany
  rw [hany]
  have hv := vl_gone hc
  unfold eff
  cases hgn : c.gone with
  | true =>
    rw [hgn] at hv
    have : vl c = [] := by simpa using hv
    rw [this]
    simp
  | false =>
    rw [hgn] at hv
    have hne : vl c ≠ [] := by intro e; rw [e] at hv; cases hv
    by_cases he : look ds c.key = []
    · rw [he]
      have : ([] == vl c) = false := by simpa using hne.symm
      simp [this]
    · simp [he]
theorem ins_ref {ds : List Rw} {c : Uc} (hs : srt ds) (hc : okU c = true) : insG c.gone (rwU c) ds = setR (rwU c) ds := by
  have := insG_eq (rwU c) hs
  rw [show (rwU c).val.isEmpty = c.gone from vl_gone hc] at this
  exact this
theorem ins_len (b : Bool) (c : Rw) : ∀ (l : List Rw), (insG b c l).length ≤ l.length + 1
  | [] => by unfold insG; split <;> simp
  | r :: l => by
    unfold insG
    have h1 := ins_len (b || Op.bytesLess c.key r.key) c l
    have h2 : ∀ (l : List Rw), (insG true c l).length ≤ l.length := by
      intro l
      induction l with
      | nil => simp [insG]
      | cons q l ih =>
        unfold insG
        rw [if_neg (by simp), Bool.true_or]
        split <;> simp <;> omega
    have h3 := h2 l
    cases b with
    | true =>
      rw [if_neg (by simp), Bool.true_or]
      split <;> simp <;> omega
    | false =>
      rw [Bool.false_or]
      cases hb : Op.bytesLess c.key r.key with
      | true =>
        rw [if_pos ⟨rfl, rfl⟩]
        split <;> simp <;> omega
      | false =>
        rw [hb, Bool.false_or] at h1
        rw [if_neg (by simp)]
        split <;> simp <;> omega
/-- Backward. -/
theorem ones_step {l : List Uc} {i : Nat} (hi : i < l.length) : lastOnes (l.drop i) = if (lastOnes (l.drop (i + 1))).any (fun v => v.key == l[i].key) then lastOnes (l.drop (i + 1)) else l[i] :: lastOnes (l.drop (i + 1)) := by
  rw [List.drop_eq_getElem_cons hi, lastOnes, lastOnes_has]
end Go.Proofs.Ytmlgaedhfannmaa
