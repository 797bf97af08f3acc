/- A value comes back from its text. Nothing of the program is named here. -/
import Derived.Test.YtikjpniobihanaaDoorJCount
namespace Go.Proofs.YtikjpniobihanaaDoor
set_option linter.unusedVariables false
set_option linter.unusedSimpArgs false

mutual
/-- Right in form, however deep. -/
def Fine : JV → Prop
  | .mk k n t ks ps => alone (.mk k n t ks ps) 0 = 0 ∧ Fines ps
def Fines : List JV → Prop
  | [] => True
  | p :: r => Fine p ∧ Fines r
end
theorem alone_zero {v : JV} {d : Nat} (h : alone v d = 0) : alone v 0 = 0 := by
  unfold alone at h ⊢
  by_cases h6 : 6 ≤ d
  · rw [if_pos h6] at h; cases h
  · rw [if_neg h6] at h; rw [if_neg (by omega)]; exact h
mutual
theorem fine_of : ∀ (d : Nat) (v : JV), fault d v = 0 → Fine v
  | d, .mk k n t ks ps, h => by
    obtain ⟨h1, h2⟩ := fault_parts h
    unfold Fine
    exact ⟨alone_zero h1, fines_of (d + 1) ps h2⟩
theorem fines_of : ∀ (d : Nat) (ps : List JV), faults d ps = 0 → Fines ps
  | d, [], _ => by unfold Fines; trivial
  | d, p :: r, h => by
    obtain ⟨h1, h2⟩ := faults_cons h
    unfold Fines
    exact ⟨fine_of d p h1, fines_of d r h2⟩
end
/-- What may stand behind a value: no digit, no blank. -/
def Ends (r : List UInt8) : Prop := skip r = r ∧ ∀ c q, r = c :: q → isDig c = false
theorem Ends.nil : Ends [] := ⟨rfl, fun c q h => by cases h⟩
theorem Ends.cons {c : UInt8} {q : List UInt8} (h1 : isWs c = false) (h2 : isDig c = false) : Ends (c :: q) :=
  ⟨by simp [skip, List.dropWhile_cons, h1], fun c' q' h => by injection h with h _; rw [← h]; exact h2⟩
theorem skip_non {c : UInt8} {q : List UInt8} (h1 : isWs c = false) : skip (c :: q) = c :: q := by simp [skip, List.dropWhile_cons, h1]

/-! ### strings -/
theorem hexV_hexD (n : Nat) (h : n < 16) : hexV (hexD n) = n := by
  have : ∀ j : Fin 16, hexV (hexD j.val) = (j.val : Int) := by decide +kernel
  exact this ⟨n, h⟩
theorem code_back (c : UInt8) (h : c.toNat < 32) (r : List UInt8) : codeR (48 :: 48 :: hexD (c.toNat / 16) :: hexD (c.toNat % 16) :: r) = some (c, r) := by
  have h0 : hexV 48 = 0 := by decide +kernel
  have h1 := hexV_hexD (c.toNat / 16) (by omega)
  have h2 := hexV_hexD (c.toNat % 16) (by omega)
  have hg : codeGo 4 0 (48 :: 48 :: hexD (c.toNat / 16) :: hexD (c.toNat % 16) :: r) = some ((c.toNat : Int), r) := by
    simp only [codeGo, h0, h1, h2]
    rw [if_neg (by omega), if_neg (by omega), if_neg (by omega), if_neg (by omega)]
    congr 2
    omega
  unfold codeR
  rw [hg]
  simp only
  rw [if_pos (by omega)]
  simp
theorem strR_byte (c : UInt8) (r : List UInt8) : strR (esc c ++ r) = (strR r).map fun z => (c :: z.1, z.2) := by
  unfold esc
  by_cases h1 : c = 34
  · subst h1; rw [if_pos rfl]; show strR (92 :: 34 :: r) = _; rw [strR_esc]; rfl
  rw [if_neg h1]
  by_cases h2 : c = 92
  · subst h2; rw [if_pos rfl]; show strR (92 :: 92 :: r) = _; rw [strR_esc]; rfl
  rw [if_neg h2]
  by_cases h3 : c = 8
  · subst h3; rw [if_pos rfl]; show strR (92 :: 98 :: r) = _; rw [strR_esc]; rfl
  rw [if_neg h3]
  by_cases h4 : c = 9
  · subst h4; rw [if_pos rfl]; show strR (92 :: 116 :: r) = _; rw [strR_esc]; rfl
  rw [if_neg h4]
  by_cases h5 : c = 10
  · subst h5; rw [if_pos rfl]; show strR (92 :: 110 :: r) = _; rw [strR_esc]; rfl
  rw [if_neg h5]
  by_cases h6 : c = 12
  · subst h6; rw [if_pos rfl]; show strR (92 :: 102 :: r) = _; rw [strR_esc]; rfl
  rw [if_neg h6]
  by_cases h7 : c = 13
  · subst h7; rw [if_pos rfl]; show strR (92 :: 114 :: r) = _; rw [strR_esc]; rfl
  rw [if_neg h7]
  by_cases h8 : c.toNat < 32
  · rw [if_pos h8]
    show strR (92 :: 117 :: 48 :: 48 :: hexD (c.toNat / 16) :: hexD (c.toNat % 16) :: r) = _
    rw [strR_esc, escR_cons, if_neg (by decide), if_pos rfl, code_back c h8]
  · rw [if_neg h8]
    exact strR_cons h8 h1 h2
theorem strR_quo : ∀ (t r : List UInt8), strR (t.flatMap esc ++ 34 :: r) = some (t, r)
  | [], r => strR_end r
  | c :: t, r => by
    rw [List.flatMap_cons, List.append_assoc, strR_byte, strR_quo t r]
    rfl
theorem esc_ge (c : UInt8) : ∀ x ∈ esc c, 32 ≤ x.toNat := by
  have : ∀ n : Fin 256, (esc (UInt8.ofNat n.val)).all (fun x => decide (32 ≤ x.toNat)) = true := by decide +kernel
  have h := this ⟨c.toNat, c.toNat_lt⟩
  simp only [UInt8.ofNat_toNat] at h
  intro x hx
  simpa using List.all_eq_true.1 h x hx
theorem quo_ge (t : List UInt8) : ∀ x ∈ quo t, 32 ≤ x.toNat := by
  intro x hx
  simp only [quo, List.mem_cons, List.mem_append, List.mem_flatMap, List.not_mem_nil, or_false] at hx
  rcases hx with rfl | ⟨c, _, hc⟩ | rfl
  · decide
  · exact esc_ge c x hc
  · decide
theorem esc_pos (c : UInt8) : 1 ≤ (esc c).length := by
  unfold esc; repeat' split
  all_goals simp
theorem esc_sum : ∀ (t : List UInt8), t.length ≤ (t.flatMap esc).length ∧ (t.flatMap esc).length ≤ 6 * t.length
  | [] => by simp
  | c :: t => by
    have h1 := esc_sum t
    have h2 := esc_pos c
    have h3 := esc_le c
    simp only [List.flatMap_cons, List.length_append, List.length_cons]
    omega
theorem quo_len (t : List UInt8) : t.length + 2 ≤ (quo t).length ∧ (quo t).length ≤ 6 * t.length + 2 := by
  have := esc_sum t
  simp only [quo, List.length_cons, List.length_append, List.length_nil]
  omega
end Go.Proofs.YtikjpniobihanaaDoor
