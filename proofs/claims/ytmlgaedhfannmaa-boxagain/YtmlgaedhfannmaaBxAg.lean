/- The message box: fetching again (what BoxAgain rests on). Nothing of the program's memory is named here. -/
import Derived.Test.YtmlgaedhfannmaaBxOn
import Derived.Test.YtmlgaedhfannmaaBunQ
import Derived.Test.YtmlgaedhfannmaaRgG
namespace Go.Proofs.Ytmlgaedhfannmaa
set_option linter.unusedVariables false
set_option linter.unusedSimpArgs false
theorem gots_last (s : Bs) (l : List Pt) (p : Pt) : (gotsB s (l ++ [p])).1[l.length]? = some (gotB (gotsB s l).2 p).1 := by
  rw [gotsB_snoc]
  simp only
  rw [List.getElem?_append_right (by rw [gotsB_len]; exact Nat.le_refl _), gotsB_len, Nat.sub_self]
  rfl
/-- A fetch from 0 tells how many messages were accepted. -/
theorem next_zero (s : Bs) : (gotB s ptF).1.code = 0 ∧ (gotB s ptF).1.next = (s.acc.length : Int) := by
  obtain ⟨acc, gone, sh⟩ := s
  have hx : execB ⟨acc, gone, sh⟩ ptF = (({ acc := acc, gone := max gone 0, shut := sh } : Bs).wait, 0, ⟨acc, max gone 0, sh⟩) := by
    unfold execB fetchR
    simp [ptF]
  unfold gotB
  rw [hx, if_pos rfl]
  exact ⟨rfl, rfl⟩
/-- Two fetches from the same position behind any posts. -/
theorem again_R (l : List Pt) (c : Nat) (hc : c ≤ (gotsB bs0 l).2.acc.length) : (gotB (gotsB bs0 l).2 ⟨2, [], 0, [], (c : Int)⟩).1.code = 0 ∧ (gotsB bs0 (l ++ [⟨2, [], 0, [], (c : Int)⟩])).1[l.length]? = some (gotB (gotsB bs0 l).2 ⟨2, [], 0, [], (c : Int)⟩).1 ∧
    (gotsB bs0 (l ++ [⟨2, [], 0, [], (c : Int)⟩, ⟨2, [], 0, [], (c : Int)⟩])).1[l.length]? = some (gotB (gotsB bs0 l).2 ⟨2, [], 0, [], (c : Int)⟩).1 ∧ (gotsB bs0 (l ++ [⟨2, [], 0, [], (c : Int)⟩, ⟨2, [], 0, [], (c : Int)⟩])).1[l.length + 1]? = some (gotB (gotsB bs0 l).2 ⟨2, [], 0, [], (c : Int)⟩).1 := by
  obtain ⟨g, s', h1, h2, h3⟩ := fetch_two c hc
  rw [h1]
  refine ⟨h3, ?_, ?_, ?_⟩
  · rw [gots_last, h1]
  · rw [gotsB_app]
    simp only
    rw [List.getElem?_append_right (by rw [gotsB_len]; exact Nat.le_refl _), gotsB_len, Nat.sub_self]
    simp only [gotsB, h1, h2]
    rfl
  · rw [gotsB_app]
    simp only
    rw [List.getElem?_append_right (by rw [gotsB_len]; omega), gotsB_len, show l.length + 1 - l.length = 1 by omega]
    simp only [gotsB, h1, h2]
    rfl
/-- The last post sent again, where it was a send without an error, leaves the box. -/
theorem again_S (l : List Pt) (p : Pt) (hk : p.kind = 1) (h : (gotB (gotsB bs0 l).2 p).1.code = 0) : (gotsB bs0 (l ++ [p] ++ [p])).2 = (gotsB bs0 (l ++ [p])).2 := by
  rw [gotsB_snoc (l ++ [p]), gotsB_snoc l]
  simp only
  rw [send_twice hk h]
section
variable {P : Program} {ops : Array Oper} {Q : Exit → Act → World → Prop} {md : Region.Mode} {S : World → Prop} {st : List Nat}
/-- Three may come up. -/
theorem anyS_three {fuel : Nat} {listed : Array Bool} {a : Act} {w : World} (i j k : Nat) {oi oj ok : Oper} (hi : ops[i]? = some oi) (hj : ops[j]? = some oj) (hk0 : ops[k]? = some ok) (hr : Region.ready md ops listed = [i, j, k]) (hg : oi.guard = none) (hgj : oj.guard = none) (hgk : ok.guard = none)
    (h : ∀ K' : Act → World → Prop, (∀ a' w', (i ∉ st → S w') ∧ anyS P md ops Q S st fuel (listed.setIfInBounds i true) a' w' → K' a' w') → Oper.wp P oi a w K' Q)
    (h2 : ∀ K' : Act → World → Prop, (∀ a' w', (j ∉ st → S w') ∧ anyS P md ops Q S st fuel (listed.setIfInBounds j true) a' w' → K' a' w') → Oper.wp P oj a w K' Q)
    (h3 : ∀ K' : Act → World → Prop, (∀ a' w', (k ∉ st → S w') ∧ anyS P md ops Q S st fuel (listed.setIfInBounds k true) a' w' → K' a' w') → Oper.wp P ok a w K' Q) : anyS P md ops Q S st (fuel + 1) listed a w := by
  refine ⟨fun h0 => (by rw [hr] at h0; cases h0), fun x hx => ?_⟩
  rw [hr] at hx
  rcases (by simpa using hx : x = i ∨ x = j ∨ x = k) with rfl | rfl | rfl
  · unfold wpOp
    simp only [hi]
    rw [if_pos (by simp [Region.wanted, hg])]
    exact .inl (h _ fun a' w' h' => h')
  · unfold wpOp
    simp only [hj]
    rw [if_pos (by simp [Region.wanted, hgj])]
    exact .inl (h2 _ fun a' w' h' => h')
  · unfold wpOp
    simp only [hk0]
    rw [if_pos (by simp [Region.wanted, hgk])]
    exact .inl (h3 _ fun a' w' h' => h')
end
end Go.Proofs.Ytmlgaedhfannmaa
