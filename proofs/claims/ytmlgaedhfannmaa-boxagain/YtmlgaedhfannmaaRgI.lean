/- Regions that draw their order: a condition that every operation keeps, whatever comes first. -/
import Derived.Test.YtmlgaedhfannmaaBunQ
namespace Go.Proofs.Ytmlgaedhfannmaa
set_option linter.unusedVariables false
set_option linter.unusedSimpArgs false
open Go.RowKit
/-- How many are not listed yet. -/
def unl (listed : Array Bool) : Nat := listed.toList.countP (fun b => !b)
theorem countP_set_true : ∀ {l : List Bool} {i : Nat}, l[i]? = some false → (l.set i true).countP (fun b => !b) + 1 = l.countP (fun b => !b)
  | [], i, h => by simp at h
  | b :: l, 0, h => by
    simp at h; subst h
    simp
  | b :: l, i + 1, h => by
    have := countP_set_true (l := l) (i := i) (by simpa using h)
    rw [List.set_cons_succ, List.countP_cons, List.countP_cons]
    omega
theorem listed_false {listed : Array Bool} {i : Nat} (h : listed.getD i true = false) : listed.toList[i]? = some false := by
  rw [Array.getElem?_toList]
  rw [Array.getD_eq_getD_getElem?] at h
  cases hg : listed[i]? with
  | none => rw [hg] at h; cases h
  | some b => rw [hg] at h; simp at h; rw [h]
theorem unl_set {listed : Array Bool} {i : Nat} (h : listed.getD i true = false) : unl (listed.setIfInBounds i true) + 1 = unl listed := by
  unfold unl
  rw [Array.toList_setIfInBounds]
  exact countP_set_true (listed_false h)
section
variable {P : Program} {ops : Array Oper} {Q : Exit → Act → World → Prop} {md : Region.Mode} {S : World → Prop} {st : List Nat}
theorem wpOp_of {i : Nat} {oi : Oper} {X : Act → World → Prop} {a : Act} {w : World} (hi : ops[i]? = some oi) (hg : oi.guard = none) (h : ∀ K' : Act → World → Prop, (∀ a' w', X a' w' → K' a' w') → Oper.wp P oi a w K' Q) : wpOp P ops Q i X a w := by
  unfold wpOp
  simp only [hi]
  rw [if_pos (by simp [Region.wanted, hg])]
  exact .inl (h _ fun a' w' h' => h')
theorem anyS_inv {I : Array Bool → Act → World → Prop} (hS : ∀ l a w, I l a w → S w) (hend : ∀ l a w, I l a w → Region.ready md ops l = [] → Q .normal a w)
    (hstep : ∀ l a w i, I l a w → i ∈ Region.ready md ops l → wpOp P ops Q i (fun a' w' => I (l.setIfInBounds i true) a' w') a w) :
    ∀ (fuel : Nat) (l : Array Bool) (a : Act) (w : World), I l a w → unl l ≤ fuel → anyS P md ops Q S st fuel l a w
  | 0, l, a, w, h, hu => by
    have hr : Region.ready md ops l = [] := by
      rw [List.eq_nil_iff_forall_not_mem]
      intro i hi
      have := unl_set (mem_ready.1 hi).1
      omega
    exact ⟨hr, hend l a w h hr⟩
  | fuel + 1, l, a, w, h, hu => by
    refine ⟨fun hr => hend l a w h hr, fun i hi => ?_⟩
    have hun := unl_set (mem_ready.1 hi).1
    refine wpOp_mono (fun a' w' h' => ⟨fun _ => hS _ _ _ h', anyS_inv hS hend hstep fuel _ a' w' h' (by omega)⟩) (hstep l a w i h hi)
end
end Go.Proofs.Ytmlgaedhfannmaa
