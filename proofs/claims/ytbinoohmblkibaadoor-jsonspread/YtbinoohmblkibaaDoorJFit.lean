/- A value whose text is short enough has a text in all its parts. Nothing of the program is named here. -/
import Derived.Test.YtbinoohmblkibaaDoorJSpread
namespace Go.Proofs.YtbinoohmblkibaaDoor
set_option linter.unusedVariables false
set_option linter.unusedSimpArgs false
theorem strK_fault (t : List UInt8) : fault 0 (.mk 5 0 t [] []) = 0 := by
  unfold fault
  rw [if_neg]
  · unfold faults; rfl
  · simp [alone, JV.kind, JV.num, JV.text, JV.keys, JV.parts, unused]
theorem strK_check (t : List UInt8) (h : (quo t).length ≤ 600) : checkN (.mk 5 0 t [] []) = 0 := by
  unfold checkN
  have h1 : count (.mk 5 0 t [] []) = 1 := by simp [count, counts]
  rw [if_neg (by rw [strK_fault]; simp), if_neg (by rw [h1, strK_text]; omega)]
theorem jobj_key : ∀ (f : Bool) (ks : List (List UInt8)) (ps : List JV) (x : List UInt8), ks.length = ps.length → x ∈ ks → (quo x).length ≤ (jobj f ks ps).length
  | f, [], ps, x, _, h => by cases h
  | f, k :: ks, [], x, hl, h => by simp at hl
  | f, k :: ks, p :: ps, x, hl, h => by
    rw [jobj]
    rcases List.mem_cons.1 h with rfl | h
    · simp; omega
    · have := jobj_key false ks ps x (by simpa using hl) h; simp; omega
mutual
theorem fit_of : ∀ v : JV, Fine v → (jtext v).length ≤ 600 → Fit v
  | .mk k n t ks ps, hf, hl => by
    unfold Fine at hf
    obtain ⟨ha, hfs⟩ := hf
    obtain ⟨_, hk1, hk7, hobj, hn1, hn2, hu⟩ := alone_facts ha
    obtain ⟨u1, u2, u3, u4⟩ := unused_facts hu
    unfold Fit
    refine ⟨fun h6 h7 => ?_, fun x hx => ?_, fits_len ps hfs fun p hp => ?_⟩
    · obtain rfl := u4 h6 h7
      unfold checkN
      have h1 : count (.mk k n t ks []) = 1 := by simp [count, counts]
      have h2 : fault 0 (.mk k n t ks []) = 0 := by
        unfold fault
        rw [if_neg (by simp [ha])]
        unfold faults; rfl
      rw [if_neg (by rw [h2]; simp), if_neg (by rw [h1]; omega)]
    · by_cases h7 : k = 7
      · subst h7
        obtain ⟨hlen, _⟩ := hobj rfl
        refine strK_check x ?_
        have h1 := jobj_key true ks ps x hlen hx
        rw [jtext] at hl
        simp at hl
        omega
      · rw [u3 h7] at hx; cases hx
    · by_cases h6 : k = 6
      · subst h6
        have h1 := jarr_le true ps p hp
        rw [jtext] at hl
        simp at hl
        omega
      by_cases h7 : k = 7
      · subst h7
        obtain ⟨hlen, _⟩ := hobj rfl
        have h1 := jobj_le true ks ps p hlen hp
        rw [jtext] at hl
        simp at hl
        omega
      · rw [u4 h6 h7] at hp; cases hp
theorem fits_len : ∀ ps : List JV, Fines ps → (∀ p ∈ ps, (jtext p).length ≤ 600) → Fits ps
  | [], _, _ => by unfold Fits; trivial
  | p :: r, hf, hl => by
    unfold Fines at hf
    unfold Fits
    exact ⟨fit_of p hf.1 (hl p (by simp)), fits_len r hf.2 fun x hx => hl x (by simp [hx])⟩
end
end Go.Proofs.YtbinoohmblkibaaDoor
