/- Plain mathematics of package seal: an object without the keys that are not signed, the value at the end of keys, a value put there. Nothing of the program is named here but what json.Check answers. -/
import Derived.Test.YtikjpniobihanaaDoorJText
import Derived.Test.YtikjpniobihanaaDoorJBack
import Derived.Test.YtikjpniobihanaaDoorJSort
import Derived.Test.YtikjpniobihanaaDoorJCount
namespace Go.Proofs.YtikjpniobihanaaDoor
set_option linter.unusedVariables false
set_option linter.unusedSimpArgs false

def sigK : List UInt8 := [115, 105, 103, 110, 97, 116, 117, 114, 101, 115]
def unsK : List UInt8 := [117, 110, 115, 105, 103, 110, 101, 100]
def omitK (k : List UInt8) : Bool := k == sigK || k == unsK
/-- The members that are signed. -/
def wo : List (List UInt8) → List JV → List (List UInt8) × List JV
  | k :: ks, p :: ps => if omitK k = true then wo ks ps else (k :: (wo ks ps).1, p :: (wo ks ps).2)
  | _, _ => ([], [])
def strip (v : JV) : JV := .mk 7 0 [] (wo v.keys v.parts).1 (wo v.keys v.parts).2
theorem wo_cons_yes {k : List UInt8} {p : JV} {ks : List (List UInt8)} {ps : List JV} (h : omitK k = true) : wo (k :: ks) (p :: ps) = wo ks ps := by rw [wo, if_pos h]
theorem wo_cons_no {k : List UInt8} {p : JV} {ks : List (List UInt8)} {ps : List JV} (h : omitK k = false) : wo (k :: ks) (p :: ps) = (k :: (wo ks ps).1, p :: (wo ks ps).2) := by rw [wo, if_neg (by simp [h])]
theorem wo_drop_yes {ks : List (List UInt8)} {ps : List JV} {j : Nat} (hk : j < ks.length) (hp : j < ps.length) (h : omitK ks[j] = true) : wo (ks.drop j) (ps.drop j) = wo (ks.drop (j + 1)) (ps.drop (j + 1)) := by
  rw [List.drop_eq_getElem_cons hk, List.drop_eq_getElem_cons hp, wo_cons_yes h]
theorem wo_drop_no {ks : List (List UInt8)} {ps : List JV} {j : Nat} (hk : j < ks.length) (hp : j < ps.length) (h : omitK ks[j] = false) :
    wo (ks.drop j) (ps.drop j) = (ks[j] :: (wo (ks.drop (j + 1)) (ps.drop (j + 1))).1, ps[j] :: (wo (ks.drop (j + 1)) (ps.drop (j + 1))).2) := by
  rw [List.drop_eq_getElem_cons hk, List.drop_eq_getElem_cons hp, wo_cons_no h]
theorem wo_nil (ks : List (List UInt8)) : wo ks [] = ([], []) := by cases ks <;> rfl
theorem wo_len : ∀ (ks : List (List UInt8)) (ps : List JV), (wo ks ps).1.length = (wo ks ps).2.length ∧ (wo ks ps).1.length ≤ ks.length
  | [], ps => by simp [wo]
  | k :: ks, [] => by simp [wo]
  | k :: ks, p :: ps => by
    have h := wo_len ks ps
    cases hk : omitK k
    · rw [wo_cons_no hk]; simp; omega
    · rw [wo_cons_yes hk]; simp; omega
theorem wo_mem : ∀ (ks : List (List UInt8)) (ps : List JV), (∀ x ∈ (wo ks ps).1, x ∈ ks) ∧ (∀ p ∈ (wo ks ps).2, p ∈ ps)
  | [], ps => by simp [wo]
  | k :: ks, [] => by simp [wo]
  | k :: ks, p :: ps => by
    have h := wo_mem ks ps
    cases hk : omitK k
    · rw [wo_cons_no hk]
      refine ⟨fun x hx => ?_, fun q hq => ?_⟩
      · rcases List.mem_cons.1 hx with rfl | hx
        · simp
        · exact List.mem_cons_of_mem _ (h.1 x hx)
      · rcases List.mem_cons.1 hq with rfl | hq
        · simp
        · exact List.mem_cons_of_mem _ (h.2 q hq)
    · rw [wo_cons_yes hk]
      exact ⟨fun x hx => List.mem_cons_of_mem _ (h.1 x hx), fun q hq => List.mem_cons_of_mem _ (h.2 q hq)⟩
theorem wo_incr : ∀ (ks : List (List UInt8)) (ps : List JV), incr ks = true → incr (wo ks ps).1 = true
  | [], ps, _ => by simp [wo, incr]
  | k :: ks, [], _ => by simp [wo, incr]
  | k :: ks, p :: ps, h => by
    obtain ⟨h1, h2⟩ := incr_cons.1 h
    cases hk : omitK k
    · rw [wo_cons_no hk]
      exact incr_cons.2 ⟨fun x hx => h1 x ((wo_mem ks ps).1 x hx), wo_incr ks ps h2⟩
    · rw [wo_cons_yes hk]; exact wo_incr ks ps h2
theorem wo_counts : ∀ (ks : List (List UInt8)) (ps : List JV), counts (wo ks ps).2 ≤ counts ps
  | [], ps => by simp [wo, counts]
  | k :: ks, [] => by simp [wo, counts]
  | k :: ks, p :: ps => by
    have h := wo_counts ks ps
    cases hk : omitK k
    · rw [wo_cons_no hk]; simp [counts]; omega
    · rw [wo_cons_yes hk]; simp [counts]; omega
theorem wo_faults : ∀ (d : Nat) (ks : List (List UInt8)) (ps : List JV), faults d ps = 0 → faults d (wo ks ps).2 = 0
  | d, [], ps, _ => by simp [wo, faults]
  | d, k :: ks, [], _ => by simp [wo, faults]
  | d, k :: ks, p :: ps, h => by
    obtain ⟨h1, h2⟩ := faults_cons h
    have ih := wo_faults d ks ps h2
    cases hk : omitK k
    · rw [wo_cons_no hk]; simp [faults, h1, ih]
    · rw [wo_cons_yes hk]; exact ih
theorem jobj_first : ∀ (ks : List (List UInt8)) (ps : List JV), (jobj true ks ps).length ≤ (jobj false ks ps).length ∧ (jobj false ks ps).length ≤ (jobj true ks ps).length + 1
  | ks, [] => by simp [jobj]
  | [], p :: ps => by simp [jobj]
  | k :: ks, p :: ps => by simp [jobj, sep]
theorem wo_text : ∀ (f : Bool) (ks : List (List UInt8)) (ps : List JV), (jobj f (wo ks ps).1 (wo ks ps).2).length ≤ (jobj f ks ps).length
  | f, [], ps => by cases ps <;> simp [wo, jobj]
  | f, k :: ks, [] => by simp [wo, jobj]
  | f, k :: ks, p :: ps => by
    cases hk : omitK k
    · have ih := wo_text false ks ps
      rw [wo_cons_no hk]; simp [jobj]; omega
    · have ih := wo_text f ks ps
      have h2 := jobj_first ks ps
      rw [wo_cons_yes hk]
      have h3 : (jobj f ks ps).length ≤ (jobj false ks ps).length := by cases f <;> omega
      simp [jobj]; omega
theorem fine_obj {k n : Int} {t : List UInt8} {ks : List (List UInt8)} {ps : List JV} (h : Fine (.mk k n t ks ps)) : ks.length ≤ ps.length ∧ incr ks = true ∧ Fines ps ∧ (k = 7 → ks.length = ps.length ∧ n = 0 ∧ t = []) ∧ (k ≠ 7 → ks = []) := by
  unfold Fine at h
  obtain ⟨ha, hf⟩ := h
  obtain ⟨_, _, _, hobj, _, _, hu⟩ := alone_facts ha
  have hnot : k ≠ 7 → ks = [] := by
    intro h7
    cases ks with
    | nil => rfl
    | cons a l => simp [unused, JV.kind, JV.num, JV.text, JV.keys, JV.parts, h7] at hu
  by_cases h7 : k = 7
  · obtain ⟨h1, h2⟩ := hobj h7
    subst h7
    refine ⟨by omega, h2, hf, fun _ => ⟨h1, ?_, ?_⟩, fun h => absurd rfl h⟩
    · simp [unused, JV.kind, JV.num, JV.text, JV.keys, JV.parts] at hu; exact hu.1
    · simp [unused, JV.kind, JV.num, JV.text, JV.keys, JV.parts] at hu; exact hu.2
  · have := hnot h7
    subst this
    exact ⟨by simp, by simp [incr], hf, fun h => absurd h h7, fun _ => rfl⟩
theorem check_facts {v : JV} (h : checkN v = 0) : fault 0 v = 0 ∧ count v ≤ 100 ∧ (jtext v).length ≤ 600 := by
  unfold checkN at h
  by_cases h1 : fault 0 v = 0
  · rw [if_neg (by simpa using h1)] at h
    by_cases h2 : 100 < count v ∨ 600 < (jtext v).length
    · rw [if_pos h2] at h; cases h
    · exact ⟨h1, by omega, by omega⟩
  · rw [if_pos h1] at h; exact absurd h h1
theorem check_of {v : JV} (h1 : fault 0 v = 0) (h2 : count v ≤ 100) (h3 : (jtext v).length ≤ 600) : checkN v = 0 := by
  unfold checkN
  rw [if_neg (by simpa using h1), if_neg (by omega)]
theorem alone_seven (ks : List (List UInt8)) (ps : List JV) (d : Nat) (hd : d < 6) (h1 : ks.length = ps.length) (h2 : incr ks = true) : alone (.mk 7 0 [] ks ps) d = 0 := by
  show (if 6 ≤ d then (5 : Int) else if (7 : Int) < 1 ∨ 7 < (7 : Int) then 3 else if unused (.mk 7 0 [] ks ps) = true then 4
    else if (7 : Int) = 7 ∧ (ks.length ≠ ps.length ∨ incr ks = false) then 4
    else if (0 : Int) ≤ -9007199254740992 ∨ 9007199254740992 ≤ (0 : Int) then 2 else 0) = 0
  rw [if_neg (by omega), if_neg (by omega), if_neg (by simp [unused, JV.kind, JV.num, JV.text, JV.keys, JV.parts]), if_neg (by simp [h1, h2]), if_neg (by omega)]
theorem fault_seven {ks : List (List UInt8)} {ps : List JV} {d : Nat} (hd : d < 6) (h1 : ks.length = ps.length) (h2 : incr ks = true) (h3 : faults (d + 1) ps = 0) : fault d (.mk 7 0 [] ks ps) = 0 := by
  unfold fault
  rw [if_neg (by simp [alone_seven ks ps d hd h1 h2]), h3]
theorem jtext_seven (ks : List (List UInt8)) (ps : List JV) (n : Int) (t : List UInt8) : jtext (.mk 7 n t ks ps) = 123 :: (jobj true ks ps ++ [125]) := by
  rw [jtext]; simp
/-- An object that is right is right without some of its members. -/
theorem strip_check {v : JV} (h : checkN v = 0) (h7 : v.kind = 7) : checkN (strip v) = 0 := by
  obtain ⟨h1, h2, h3⟩ := check_facts h
  cases v with
  | mk k n t ks ps =>
  have h7' : k = 7 := h7
  subst h7'
  obtain ⟨ha, hfs⟩ := fault_parts h1
  obtain ⟨_, _, _, hobj, _, _, _⟩ := alone_facts ha
  obtain ⟨hl, hi⟩ := hobj rfl
  refine check_of ?_ ?_ ?_
  · exact fault_seven (by omega) (wo_len ks ps).1 (wo_incr ks ps hi) (wo_faults 1 ks ps hfs)
  · have := wo_counts ks ps
    simp only [count, strip, JV.keys, JV.parts] at *; omega
  · have := wo_text true ks ps
    simp only [strip, JV.keys, JV.parts]
    rw [jtext_seven] at h3 ⊢
    simp at *; omega

/-- The error of Text. -/
def sTextN (v : JV) : Int := if checkN v ≠ 0 then checkN v else if v.kind ≠ 7 then 4 else 0
def sTextL (v : JV) : List UInt8 := if sTextN v = 0 then jtext (strip v) else []
def sTextR (v : JV) : Value := .tuple #[str (sTextL v), .int .i64 (sTextN v)]
theorem sText_facts {v : JV} (h : sTextN v = 0) : checkN v = 0 ∧ v.kind = 7 ∧ sTextL v = jtext (strip v) ∧ (sTextL v).length ≤ 600 := by
  have h0 := h
  unfold sTextN at h
  by_cases h1 : checkN v = 0
  · rw [if_neg (by simpa using h1)] at h
    by_cases h2 : v.kind = 7
    · have h3 : sTextL v = jtext (strip v) := by unfold sTextL; rw [if_pos h0]
      exact ⟨h1, h2, h3, by rw [h3]; exact (check_facts (strip_check h1 h2)).2.2⟩
    · rw [if_pos h2] at h; cases h
  · rw [if_pos h1] at h; exact absurd h h1

/-! ### the value at the end of keys -/
def getAt : List (List UInt8) → JV → Option JV
  | [], v => some v
  | k :: r, .mk _ _ _ ks ps => if k ∈ ks then (match ps[place ks k]? with | some p => getAt r p | none => none) else none
/-- The value with another one put at the end of keys; missing objects are made. -/
def putAt : List (List UInt8) → JV → JV → JV
  | [], _, e => e
  | k :: r, .mk kd n t ks ps, e =>
    if k ∈ ks then .mk kd n t ks (ps.set (place ks k) (putAt r (ps.getD (place ks k) (.mk 7 0 [] [] [])) e))
    else .mk kd n t (ks.insertIdx (place ks k) k) (ps.insertIdx (place ks k) (putAt r (.mk 7 0 [] [] []) e))
def isObj (v : JV) : Bool := v.kind == 7
/-- A value on the way is no object. -/
def badAt (ks : List (List UInt8)) (v : JV) : Bool := match getAt ks v with | some p => p.kind != 7 | none => false
def zeroJ : JV := .mk 0 0 [] [] []
theorem fines_at : ∀ {ps : List JV} {i : Nat} {p : JV}, Fines ps → ps[i]? = some p → Fine p
  | [], i, p, _, h => by simp at h
  | q :: r, 0, p, hf, h => by unfold Fines at hf; simp at h; subst h; exact hf.1
  | q :: r, i + 1, p, hf, h => by unfold Fines at hf; exact fines_at hf.2 (by simpa using h)
theorem getAt_fine : ∀ {ks : List (List UInt8)} {v p : JV}, Fine v → getAt ks v = some p → Fine p
  | [], v, p, hf, h => by simp [getAt] at h; subst h; exact hf
  | k :: r, .mk kd n t ks ps, p, hf, h => by
    rw [getAt] at h
    by_cases hm : k ∈ ks
    · rw [if_pos hm] at h
      cases hp : ps[place ks k]? with
      | none => rw [hp] at h; cases h
      | some q => rw [hp] at h; exact getAt_fine (fines_at (fine_obj hf).2.2.1 hp) h
    · rw [if_neg hm] at h; cases h
theorem part_text : ∀ (f : Bool) (ks : List (List UInt8)) (ps : List JV) (i : Nat) (p : JV), ks.length = ps.length → ps[i]? = some p → (jtext p).length ≤ (jobj f ks ps).length
  | f, ks, [], i, p, _, h => by simp at h
  | f, [], q :: ps, i, p, hl, h => by simp at hl
  | f, k :: ks, q :: ps, 0, p, hl, h => by simp at h; subst h; simp [jobj]; omega
  | f, k :: ks, q :: ps, i + 1, p, hl, h => by
    have := part_text false ks ps i p (by simpa using hl) (by simpa using h)
    simp [jobj]; omega
theorem getAt_text : ∀ {ks : List (List UInt8)} {v p : JV}, Fine v → getAt ks v = some p → (jtext p).length ≤ (jtext v).length
  | [], v, p, hf, h => by simp [getAt] at h; subst h; omega
  | k :: r, .mk kd n t ks ps, p, hf, h => by
    rw [getAt] at h
    by_cases hm : k ∈ ks
    · rw [if_pos hm] at h
      obtain ⟨_, _, hfs, h7, hn7⟩ := fine_obj hf
      have hk7 : kd = 7 := Classical.byContradiction fun hc => by rw [hn7 hc] at hm; cases hm
      subst hk7
      cases hp : ps[place ks k]? with
      | none => rw [hp] at h; cases h
      | some q =>
        rw [hp] at h
        have h1 := getAt_text (fines_at hfs hp) h
        have h2 := part_text true ks ps _ _ (h7 rfl).1 hp
        rw [jtext_seven]
        simp; omega
    · rw [if_neg hm] at h; cases h
theorem str_text {n : Int} {t : List UInt8} {ks : List (List UInt8)} {ps : List JV} : t.length ≤ (jtext (.mk 5 n t ks ps)).length := by
  rw [jtext]
  have := (quo_len t).1
  simp; omega
theorem place_in {ks : List (List UInt8)} {k : List UInt8} (hi : incr ks = true) (hm : k ∈ ks) : place ks k < ks.length := by
  have := (place_mem hi).1 hm
  exact (List.getElem?_eq_some_iff.1 this).1
end Go.Proofs.YtikjpniobihanaaDoor
