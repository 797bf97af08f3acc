/- Package wal: how many batches and records a scan can return. -/
import Derived.Test.YtploicbiapjfdaaWlSt
import Derived.Test.YtploicbiapjfdaaWlScan
namespace Go.Proofs.Ytploicbiapjfdaa
set_option linter.unusedVariables false
set_option linter.unusedSimpArgs false
theorem pkT_ge (n i : Nat) (l : List (List UInt8)) : l.length ≤ (pkT n i l).length ∧ ∀ r ∈ l, r.length ≤ (pkT n i l).length := by
  induction l generalizing i with
  | nil => simp [pkT]
  | cons r t ih =>
    obtain ⟨h1, h2⟩ := ih (i + 1)
    simp only [pkT, List.length_append, frm_len, List.length_cons]
    refine ⟨by omega, fun x hx => ?_⟩
    rcases List.mem_cons.1 hx with rfl | hx
    · omega
    · have := h2 x hx; omega
theorem packs_ge (x : List (List (List UInt8))) (h : ∀ b ∈ x, okBatch b) : x.length ≤ (packs x).length ∧ ∀ b ∈ x, (pack b).length ≤ (packs x).length := by
  induction x with
  | nil => simp [packs]
  | cons b t ih =>
    obtain ⟨h1, h2⟩ := ih fun y hy => h y (by simp [hy])
    have e : packs (b :: t) = pack b ++ packs t := by simp [packs]
    have hb := (h b (by simp)).1
    have h0 : 1 ≤ (pack b).length := by
      have h3 : b.length ≤ (pack b).length := (pkT_ge b.length 0 b).1
      have h4 : 0 < b.length := List.length_pos_iff.2 hb
      omega
    rw [e, List.length_append, List.length_cons]
    refine ⟨by omega, fun y hy => ?_⟩
    rcases List.mem_cons.1 hy with rfl | hy
    · omega
    · have := h2 y hy; omega
theorem bdl_of (x : List (List (List UInt8))) (h : ∀ b ∈ x, okBatch b) (hl : (packs x).length ≤ 1048576) : BdL x := by
  obtain ⟨h1, h2⟩ := packs_ge x h
  refine ⟨by omega, fun b hb => ?_⟩
  have h3 := h2 b hb
  obtain ⟨h4, h5⟩ := pkT_ge b.length 0 b
  have h6 : (pkT b.length 0 b).length = (pack b).length := rfl
  exact ⟨by omega, fun r hr => by have := h5 r hr; omega⟩
theorem scan_bd (l : List UInt8) (h : l.length ≤ 1200) : BdL (scan l).1 := by
  obtain ⟨h1, ⟨d, h2⟩, h3⟩ := scan_reads l
  have h4 : l.length = (packs (scan l).1).length + d.length := by
    have := congrArg List.length h2
    rwa [List.length_append] at this
  exact bdl_of _ h1 (by omega)
theorem scanR_bd (l : List UInt8) : BdL (scanR l).1 := by
  unfold scanR
  split
  · exact ⟨by simp, by simp⟩
  · exact scan_bd l (by omega)
end Go.Proofs.Ytploicbiapjfdaa
