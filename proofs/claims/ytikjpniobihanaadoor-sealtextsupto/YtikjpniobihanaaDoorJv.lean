/- Plain mathematics of package json: values, what is wrong with one, its text, and the text as the program writes it. Nothing of the program is named here. -/
import Derived.Test.YtikjpniobihanaaDoorMem
import Derived.Lib.ItoaNum
import Derived.Lib.ItoaLen
namespace Go.Proofs.YtikjpniobihanaaDoor
set_option linter.unusedVariables false
set_option linter.unusedSimpArgs false

/-- A value of package api. -/
inductive JV where
  | mk (kind num : Int) (text : List UInt8) (keys : List (List UInt8)) (parts : List JV) : JV
namespace JV
def kind : JV → Int | mk k _ _ _ _ => k
def num : JV → Int | mk _ n _ _ _ => n
def text : JV → List UInt8 | mk _ _ t _ _ => t
def keys : JV → List (List UInt8) | mk _ _ _ ks _ => ks
def parts : JV → List JV | mk _ _ _ _ ps => ps
end JV

/-- Each is less than the next. -/
def incr : List (List UInt8) → Bool
  | a :: b :: r => Op.bytesLess a b && incr (b :: r)
  | _ => true
def unused (v : JV) : Bool :=
  (v.num != 0 && v.kind != 4) || (!v.text.isEmpty && v.kind != 5) || (decide (0 < v.keys.length) && v.kind != 7) || (decide (0 < v.parts.length) && (v.kind != 6 && v.kind != 7))
def alone (v : JV) (d : Nat) : Int :=
  if 6 ≤ d then 5 else if v.kind < 1 ∨ 7 < v.kind then 3 else if unused v = true then 4
  else if v.kind = 7 ∧ (v.keys.length ≠ v.parts.length ∨ incr v.keys = false) then 4
  else if v.num ≤ -9007199254740992 ∨ 9007199254740992 ≤ v.num then 2 else 0
mutual
def fault : Nat → JV → Int
  | d, .mk k n t ks ps => if alone (.mk k n t ks ps) d ≠ 0 then alone (.mk k n t ks ps) d else faults (d + 1) ps
def faults : Nat → List JV → Int
  | _, [] => 0
  | d, p :: r => if fault d p ≠ 0 then fault d p else faults d r
end
mutual
def count : JV → Nat
  | .mk _ _ _ _ ps => 1 + counts ps
def counts : List JV → Nat
  | [] => 0
  | p :: r => count p + counts r
end

def hexD (n : Nat) : UInt8 := if n < 10 then UInt8.ofNat (48 + n) else UInt8.ofNat (87 + n)
def esc (c : UInt8) : List UInt8 :=
  if c = 34 then [92, 34] else if c = 92 then [92, 92] else if c = 8 then [92, 98] else if c = 9 then [92, 116] else if c = 10 then [92, 110]
  else if c = 12 then [92, 102] else if c = 13 then [92, 114] else if c.toNat < 32 then [92, 117, 48, 48, hexD (c.toNat / 16), hexD (c.toNat % 16)] else [c]
def quo (s : List UInt8) : List UInt8 := 34 :: (s.flatMap esc ++ [34])
def tNull : List UInt8 := [110, 117, 108, 108]
def tFalse : List UInt8 := [102, 97, 108, 115, 101]
def tTrue : List UInt8 := [116, 114, 117, 101]
/-- What stands ahead of a part that is not the first. -/
def sep (f : Bool) : List UInt8 := if f then [] else [44]
mutual
def jtext : JV → List UInt8
  | .mk k n t ks ps => if k = 1 then tNull else if k = 2 then tFalse else if k = 3 then tTrue else if k = 4 then Lib.itoa n else if k = 5 then quo t
    else if k = 6 then 91 :: (jarr true ps ++ [93]) else 123 :: (jobj true ks ps ++ [125])
def jarr : Bool → List JV → List UInt8
  | _, [] => []
  | f, p :: r => sep f ++ (jtext p ++ jarr false r)
def jobj : Bool → List (List UInt8) → List JV → List UInt8
  | _, _, [] => []
  | _, [], _ => []
  | f, k :: ks, p :: ps => sep f ++ (quo k ++ (58 :: (jtext p ++ jobj false ks ps)))
end

/-! ### the text as the program writes it -/
def wrChars : List UInt8 → List UInt8 → List UInt8
  | b, [] => b
  | b, c :: s => if b.length ≤ 600 then wrChars (b ++ esc c) s else b
def wrStr (b s : List UInt8) : List UInt8 := wrChars (b ++ [34]) s ++ [34]
mutual
def wr : List UInt8 → JV → List UInt8
  | b, .mk k n t ks ps => if k = 1 then b ++ tNull else if k = 2 then b ++ tFalse else if k = 3 then b ++ tTrue else if k = 4 then b ++ Lib.itoa n else if k = 5 then wrStr b t
    else if k = 6 then wrArr true (b ++ [91]) ps ++ [93] else wrObj true (b ++ [123]) ks ps ++ [125]
def wrArr : Bool → List UInt8 → List JV → List UInt8
  | _, b, [] => b
  | f, b, p :: r => wrArr false (wr (b ++ sep f) p) r
def wrObj : Bool → List UInt8 → List (List UInt8) → List JV → List UInt8
  | _, b, _, [] => b
  | _, b, [], _ => b
  | f, b, k :: ks, p :: ps => wrObj false (wr (wrStr (b ++ sep f) k ++ [58]) p) ks ps
end

/-- The same, or both too long. -/
def Sim (b T : List UInt8) : Prop := b = T ∨ (600 < b.length ∧ 600 < T.length)
theorem Sim.app {b T : List UInt8} (h : Sim b T) (x : List UInt8) : Sim (b ++ x) (T ++ x) := by
  rcases h with rfl | ⟨h1, h2⟩
  · exact .inl rfl
  · exact .inr ⟨by simp; omega, by simp; omega⟩
theorem Sim.chars : ∀ (s : List UInt8) {b T : List UInt8}, Sim b T → Sim (wrChars b s) (T ++ s.flatMap esc)
  | [], b, T, h => by simpa [wrChars] using h
  | c :: s, b, T, h => by
    unfold wrChars
    by_cases hb : b.length ≤ 600
    · rw [if_pos hb]
      have := Sim.chars s (h.app (esc c))
      simpa [List.append_assoc] using this
    · rw [if_neg hb]
      refine .inr ⟨by omega, ?_⟩
      rcases h with rfl | ⟨_, h2⟩
      · simp; omega
      · simp; omega
theorem Sim.str {b T : List UInt8} (h : Sim b T) (s : List UInt8) : Sim (wrStr b s) (T ++ quo s) := by
  have := (Sim.chars s (h.app [34])).app [34]
  simpa [wrStr, quo] using this
mutual
theorem wr_sim : ∀ (v : JV) {b T : List UInt8}, Sim b T → Sim (wr b v) (T ++ jtext v)
  | .mk k n t ks ps, b, T, h => by
    unfold wr jtext
    by_cases h1 : k = 1
    · simp only [if_pos h1]; exact h.app _
    by_cases h2 : k = 2
    · simp only [if_neg h1, if_pos h2]; exact h.app _
    by_cases h3 : k = 3
    · simp only [if_neg h1, if_neg h2, if_pos h3]; exact h.app _
    by_cases h4 : k = 4
    · simp only [if_neg h1, if_neg h2, if_neg h3, if_pos h4]; exact h.app _
    by_cases h5 : k = 5
    · simp only [if_neg h1, if_neg h2, if_neg h3, if_neg h4, if_pos h5]; exact h.str _
    by_cases h6 : k = 6
    · simp only [if_neg h1, if_neg h2, if_neg h3, if_neg h4, if_neg h5, if_pos h6]
      have := (wrArr_sim true ps (h.app [91])).app [93]
      simpa using this
    · simp only [if_neg h1, if_neg h2, if_neg h3, if_neg h4, if_neg h5, if_neg h6]
      have := (wrObj_sim true ks ps (h.app [123])).app [125]
      simpa using this
theorem wrArr_sim : ∀ (f : Bool) (ps : List JV) {b T : List UInt8}, Sim b T → Sim (wrArr f b ps) (T ++ jarr f ps)
  | f, [], b, T, h => by simpa [wrArr, jarr] using h
  | f, p :: r, b, T, h => by
    unfold wrArr jarr
    have := wrArr_sim false r (wr_sim p (h.app (sep f)))
    simpa [List.append_assoc] using this
theorem wrObj_sim : ∀ (f : Bool) (ks : List (List UInt8)) (ps : List JV) {b T : List UInt8}, Sim b T → Sim (wrObj f b ks ps) (T ++ jobj f ks ps)
  | f, ks, [], b, T, h => by simpa [wrObj, jobj] using h
  | f, [], p :: ps, b, T, h => by simpa [wrObj, jobj] using h
  | f, k :: ks, p :: ps, b, T, h => by
    unfold wrObj jobj
    have := wrObj_sim false ks ps (wr_sim p (((h.app (sep f)).str k).app [58]))
    simpa [List.append_assoc] using this
end
theorem wr_nil (v : JV) : wr [] v = jtext v ∨ (600 < (wr [] v).length ∧ 600 < (jtext v).length) := by
  have := wr_sim v (b := []) (T := []) (.inl rfl)
  simpa [Sim] using this

/-! ### how long it may be -/
theorem esc_le (c : UInt8) : (esc c).length ≤ 6 := by
  unfold esc; repeat' split
  all_goals simp
theorem sep_le (f : Bool) : (sep f).length ≤ 1 := by cases f <;> simp [sep]
theorem wrChars_le : ∀ (s b : List UInt8), (wrChars b s).length ≤ max b.length 606
  | [], b => by simp [wrChars]; omega
  | c :: s, b => by
    unfold wrChars
    by_cases hb : b.length ≤ 600
    · rw [if_pos hb]
      have h1 := wrChars_le s (b ++ esc c)
      have h2 := esc_le c
      simp at h1; omega
    · rw [if_neg hb]; omega
theorem wrStr_le (s b : List UInt8) : (wrStr b s).length ≤ b.length + 608 := by
  have := wrChars_le s (b ++ [34])
  simp [wrStr] at *; omega
theorem wrChars_ge : ∀ (s b : List UInt8), b.length ≤ (wrChars b s).length
  | [], b => by simp [wrChars]
  | c :: s, b => by
    unfold wrChars
    by_cases hb : b.length ≤ 600
    · rw [if_pos hb]
      have h1 := wrChars_ge s (b ++ esc c)
      simp at h1; omega
    · rw [if_neg hb]; omega
theorem count_pos (v : JV) : 0 < count v := by cases v; simp [count]; omega
theorem fault_parts {d : Nat} {k n : Int} {t : List UInt8} {ks : List (List UInt8)} {ps : List JV} (h : fault d (.mk k n t ks ps) = 0) : alone (.mk k n t ks ps) d = 0 ∧ faults (d + 1) ps = 0 := by
  unfold fault at h
  by_cases h1 : alone (.mk k n t ks ps) d = 0
  · rw [if_neg (by simpa using h1)] at h; exact ⟨h1, h⟩
  · rw [if_pos h1] at h; exact absurd h h1
theorem faults_cons {d : Nat} {p : JV} {r : List JV} (h : faults d (p :: r) = 0) : fault d p = 0 ∧ faults d r = 0 := by
  unfold faults at h
  by_cases h1 : fault d p = 0
  · rw [if_neg (by simpa using h1)] at h; exact ⟨h1, h⟩
  · rw [if_pos h1] at h; exact absurd h h1
theorem alone_facts {d : Nat} {k n : Int} {t : List UInt8} {ks : List (List UInt8)} {ps : List JV} (h : alone (.mk k n t ks ps) d = 0) :
    d < 6 ∧ 1 ≤ k ∧ k ≤ 7 ∧ (k = 7 → ks.length = ps.length ∧ incr ks = true) ∧ -9007199254740992 < n ∧ n < 9007199254740992 ∧ unused (.mk k n t ks ps) = false := by
  replace h : (if 6 ≤ d then (5 : Int) else if k < 1 ∨ 7 < k then 3 else if unused (.mk k n t ks ps) = true then 4
    else if k = 7 ∧ (ks.length ≠ ps.length ∨ incr ks = false) then 4
    else if n ≤ -9007199254740992 ∨ 9007199254740992 ≤ n then 2 else 0) = 0 := h
  by_cases h1 : 6 ≤ d
  · rw [if_pos h1] at h; cases h
  rw [if_neg h1] at h
  by_cases h2 : k < 1 ∨ 7 < k
  · rw [if_pos h2] at h; cases h
  rw [if_neg h2] at h
  by_cases h3 : unused (.mk k n t ks ps) = true
  · rw [if_pos h3] at h; cases h
  rw [if_neg h3] at h
  by_cases h4 : k = 7 ∧ (ks.length ≠ ps.length ∨ incr ks = false)
  · rw [if_pos h4] at h; cases h
  rw [if_neg h4] at h
  by_cases h5 : n ≤ -9007199254740992 ∨ 9007199254740992 ≤ n
  · rw [if_pos h5] at h; cases h
  refine ⟨by omega, by omega, by omega, fun h7 => ⟨?_, ?_⟩, by omega, by omega, by simpa using h3⟩
  · exact Classical.byContradiction fun hc => h4 ⟨h7, .inl hc⟩
  · cases hi : incr ks
    · exact absurd ⟨h7, .inr hi⟩ h4
    · rfl
mutual
theorem wr_le : ∀ (d : Nat) (v : JV) (b : List UInt8), fault d v = 0 → (wr b v).length + 640 ≤ b.length + 1300 * count v
  | d, .mk k n t ks ps, b, h => by
    obtain ⟨h1, h2⟩ := fault_parts h
    obtain ⟨_, _, _, _, hn1, hn2, _⟩ := alone_facts h1
    unfold wr count
    have hi := Lib.itoa_length_le n (by omega) (by omega)
    have hs := wrStr_le t b
    have ha := wrArr_le (d + 1) true ps (b ++ [91]) h2
    have ho := wrObj_le (d + 1) true ks ps (b ++ [123]) h2
    repeat' split
    all_goals simp [tNull, tFalse, tTrue] at *; omega
theorem wrArr_le : ∀ (d : Nat) (f : Bool) (ps : List JV) (b : List UInt8), faults d ps = 0 → (wrArr f b ps).length ≤ b.length + 1300 * counts ps
  | d, f, [], b, _ => by simp [wrArr]
  | d, f, p :: r, b, h => by
    obtain ⟨h5, h6⟩ := faults_cons h
    unfold wrArr counts
    have h1 := wr_le d p (b ++ sep f) h5
    have h2 := wrArr_le d false r (wr (b ++ sep f) p) h6
    have h3 := sep_le f
    simp at h1; omega
theorem wrObj_le : ∀ (d : Nat) (f : Bool) (ks : List (List UInt8)) (ps : List JV) (b : List UInt8), faults d ps = 0 → (wrObj f b ks ps).length ≤ b.length + 1300 * counts ps
  | d, f, ks, [], b, _ => by simp [wrObj]
  | d, f, [], p :: ps, b, _ => by simp [wrObj]
  | d, f, k :: ks, p :: ps, b, h => by
    obtain ⟨h5, h6⟩ := faults_cons h
    unfold wrObj counts
    have h1 := wr_le d p (wrStr (b ++ sep f) k ++ [58]) h5
    have h2 := wrObj_le d false ks ps (wr (wrStr (b ++ sep f) k ++ [58]) p) h6
    have h3 := sep_le f
    have h4 := wrStr_le k (b ++ sep f)
    simp at h1 h4; omega
end
end Go.Proofs.YtikjpniobihanaaDoor
