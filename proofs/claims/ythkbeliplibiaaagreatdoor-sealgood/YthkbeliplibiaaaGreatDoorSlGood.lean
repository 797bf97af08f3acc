/- A sealed object with something unsigned put in (statement SealGood). -/
import Derived.Test.YthkbeliplibiaaaGreatDoorSlTurn
namespace Go.Proofs.YthkbeliplibiaaaGreatDoor
set_option linter.unusedVariables false
set_option linter.unusedSimpArgs false
open Go.RowKit
/-- What the object with the unsigned number says. -/
theorem uns_says {v S : JV} (h : Obj0 v) (hS : SOk S) :
    sTextN (insO unsK (insO sigK v S) (nuJ 5)) = 0 ∧ sTextL (insO unsK (insO sigK v S) (nuJ 5)) = jtext v ∧ (∀ r, getAt (sigK :: r) (insO unsK (insO sigK v S) (nuJ 5)) = getAt r S) ∧ count (insO unsK (insO sigK v S) (nuJ 5)) ≤ 1073741824 := by
  have hp := h.sealed hS
  have hn : unsK ∉ (insO sigK v S).keys := fun hm => by
    rcases mem_ins _ _ hm with e | e
    · exact absurd e (by decide)
    · exact h.uns e
  have hq := hp.insO (S := nuJ 5) hn (nuJ_fault (by omega) (by omega) (by omega))
  have ht := insO_text (k := unsK) (S := nuJ 5) hp
  have hnt := nuJ_text (m := 5) (by omega) (by omega)
  have hst := h.sealed_text hS
  have hsm := h.sealed_many hS
  have hct := insO_counts unsK (insO sigK v S) (nuJ 5)
  have hone : Go.Proofs.YthkbeliplibiaaaGreatDoor.count (nuJ 5) = 1 := rfl
  rw [quo_uns] at ht
  have hc := hq.check (by omega) (by omega)
  have hs := sText_of hc hq.kind
  refine ⟨hs.1, by rw [hs.2, insO_strip hp omit_uns, h.sealed_strip], fun r => ?_, ?_⟩
  · rw [insO_back r hp (ins_mem _ _ _ (place_le _ _)) (by decide), insO_get sigK r h.plain]
  · rw [hq.form]; simp only [count]; omega
/-- Where the object's keys lead to: the last key is smaller than the unsigned one, or it is the fifth and greater. -/
theorem good_keys {v S : JV} (h : ObjM v) : (∃ q : Nat, q ≤ 4 ∧ (insO sigK v S).keys.length = q + 1 ∧ (∃ kl, (insO sigK v S).keys[q]? = some kl ∧ Op.bytesLess unsK kl = false) ∧ place (insO sigK v S).keys unsK = q + 1) ∨
    ((insO sigK v S).keys.length = 5 ∧ (∃ k3, (insO sigK v S).keys[3]? = some k3 ∧ Op.bytesLess unsK k3 = false) ∧ (∃ k4, (insO sigK v S).keys[4]? = some k4 ∧ Op.bytesLess unsK k4 = true) ∧ place (insO sigK v S).keys unsK = 4) := by
  obtain ⟨m, hm⟩ := h.keys
  have e : (insO sigK v S).keys = (okL.take m).insertIdx (place (okL.take m) sigK) sigK := by show v.keys.insertIdx (place v.keys sigK) sigK = _; rw [hm]
  rw [e]
  match m with
  | 0 => exact .inl ⟨0, by decide, by decide, ⟨sigK, by decide, by decide⟩, by decide⟩
  | 1 => exact .inl ⟨1, by decide, by decide, ⟨sigK, by decide, by decide⟩, by decide⟩
  | 2 => exact .inl ⟨2, by decide, by decide, ⟨sigK, by decide, by decide⟩, by decide⟩
  | 3 => exact .inl ⟨3, by decide, by decide, ⟨sigK, by decide, by decide⟩, by decide⟩
  | m + 4 =>
    rw [List.take_of_length_le (by simp [okL])]
    exact .inr ⟨by decide, ⟨sigK, by decide, by decide⟩, ⟨[117, 115, 101, 114, 95, 105, 100], by decide, by decide⟩, by decide⟩
end Go.Proofs.YthkbeliplibiaaaGreatDoor
