/- Device lists: what the statements on drawn changes share. -/
import Derived.Test.YtmlgaedhfannmaaDvLs
import Derived.Test.YtmlgaedhfannmaaDvSm
namespace Go.Proofs.Ytmlgaedhfannmaa
set_option linter.unusedVariables false
set_option linter.unusedSimpArgs false
open Go.RowKit
theorem uc_ok {u : Uc} (h : okU u = true) (hg : u.gone = true → u.val = []) : UcOk u := by
  have h1 := okU_len h
  have h2 := vl_len h
  unfold vl at h2
  by_cases hb : u.gone = true
  · refine ⟨by omega, ?_⟩
    rw [hg hb]; simp
  · rw [if_neg hb] at h2
    exact ⟨by omega, by omega⟩
theorem dru_ok {u : Uc} (h : Dru u) : UcOk u := uc_ok h.1.1 h.2.2.2
theorem ups_ok {us : List Uc} (h : UsOk us) : ∀ u ∈ us, UcOk u := fun u hu => uc_ok (h.good u hu).1 (h.good u hu).2
theorem tabD_len {l : List Uc} (h : ∀ c ∈ l, Six c) (hn : l.length ≤ 100) : (tabD l).length ≤ 6 := by
  have h1 := (playL_ok l).2.few
  rw [playL_six h hn] at h1
  exact h1
/-- Since at a list of six devices. -/
theorem sinceL_six {l : List Uc} (h : ∀ c ∈ l, Six c) (hn : l.length ≤ 100) (k : Nat) (hk : k ≤ (upsD l).length) : sinceL l (k : Int) = (0, lastOnes ((upsD l).drop k)) := by
  unfold sinceL
  rw [playL_six h hn]
  have h1 : ¬ ((k : Int) < 0) := by omega
  have h2 : ¬ (((upsD l).length : Int) < (k : Int)) := by omega
  simp [h1, h2]
end Go.Proofs.Ytmlgaedhfannmaa
