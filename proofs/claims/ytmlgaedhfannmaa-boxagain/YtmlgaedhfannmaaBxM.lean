/- The message box: its mathematics. Nothing of the program is named here. -/
import Derived.Test.YtmlgaedhfannmaaBunD
namespace Go.Proofs.Ytmlgaedhfannmaa
set_option linter.unusedVariables false
set_option linter.unusedSimpArgs false
/-- A post. -/
structure Pt where
  kind : Int
  frm : List UInt8
  txn : Int
  body : List UInt8
  since : Int
/-- A message that is returned. -/
structure Ml where
  at_ : Int
  frm : List UInt8
  body : List UInt8
/-- What a post comes to. -/
structure Gt where
  code : Int
  next : Int
  mail : List Ml
/-- The box: all messages that were accepted, how many are gone, whether it is shut. -/
structure Bs where
  acc : List Pt
  gone : Nat
  shut : Bool
def bs0 : Bs := ⟨[], 0, false⟩
/-- Messages behind the first n. -/
def mlF : Nat → List Pt → List Ml
  | _, [] => []
  | n, p :: l => ⟨(n : Int) + 1, p.frm, p.body⟩ :: mlF (n + 1) l
theorem mlF_len : ∀ (n : Nat) (l : List Pt), (mlF n l).length = l.length
  | _, [] => rfl
  | n, p :: l => by simp [mlF, mlF_len (n + 1) l]
theorem mlF_app : ∀ (n : Nat) (l m : List Pt), mlF n (l ++ m) = mlF n l ++ mlF (n + l.length) m
  | _, [], _ => rfl
  | n, p :: l, m => by
    simp only [List.cons_append, mlF, mlF_app (n + 1) l m, List.length_cons]
    rw [show n + 1 + l.length = n + (l.length + 1) by omega]
theorem mlF_get : ∀ (n : Nat) (l : List Pt) (i : Nat) (h : i < l.length), (mlF n l)[i]? = some ⟨((n + i : Nat) : Int) + 1, l[i].frm, l[i].body⟩
  | _, [], i, h => by simp at h
  | n, p :: l, 0, _ => by simp [mlF]
  | n, p :: l, i + 1, h => by
    simp only [mlF, List.getElem?_cons_succ, List.getElem_cons_succ]
    rw [mlF_get (n + 1) l i (by simpa using h), show n + 1 + i = n + (i + 1) by omega]
/-- The waiting messages. -/
def Bs.wait (s : Bs) : List Ml := mlF s.gone (s.acc.drop s.gone)
def Bs.ok (s : Bs) : Prop := s.gone ≤ s.acc.length
theorem Bs.wait_len {s : Bs} : s.wait.length = s.acc.length - s.gone := by unfold Bs.wait; rw [mlF_len, List.length_drop]
/-- Has a message of this sender with this number been accepted? -/
def hadR (l : List Pt) (p : Pt) : Bool := l.any fun q => q.frm == p.frm && decide (q.txn = p.txn)
def sendR (s : Bs) (p : Pt) : Int × Bs :=
  if p.txn < 0 then (2, s) else if user p.frm = none then (6, s) else if 20 < p.body.length then (1, s)
  else if hadR s.acc p = true then (0, s) else if s.shut = true then (8, s) else if 10 ≤ s.acc.length - s.gone then (10, s)
  else (0, { s with acc := s.acc ++ [p] })
def fetchR (s : Bs) (b : Int) : List Ml × Int × Bs :=
  if b < 0 then ([], 2, s) else if (s.acc.length : Int) < b then ([], 12, s)
  else ({ s with gone := max s.gone b.toNat }.wait, 0, { s with gone := max s.gone b.toNat })
def shutR (s : Bs) : Int × Bs := if s.shut = true then (8, s) else (0, ⟨s.acc, s.acc.length, true⟩)
def execB (s : Bs) (p : Pt) : List Ml × Int × Bs :=
  if p.kind = 1 then ([], sendR s p) else if p.kind = 2 then fetchR s p.since else if p.kind = 3 then ([], shutR s) else ([], 3, s)
def gotB (s : Bs) (p : Pt) : Gt × Bs :=
  if (execB s p).2.1 = 0 then (⟨0, ((execB s p).2.2.acc.length : Int), (execB s p).1⟩, (execB s p).2.2) else (⟨(execB s p).2.1, 0, []⟩, (execB s p).2.2)
def gotsB (s : Bs) : List Pt → List Gt × Bs
  | [] => ([], s)
  | p :: l => ((gotB s p).1 :: (gotsB (gotB s p).2 l).1, (gotsB (gotB s p).2 l).2)
theorem gotsB_len : ∀ (l : List Pt) (s : Bs), (gotsB s l).1.length = l.length
  | [], _ => rfl
  | p :: l, s => by simp [gotsB, gotsB_len l]
theorem gotsB_app : ∀ (l m : List Pt) (s : Bs), gotsB s (l ++ m) = ((gotsB s l).1 ++ (gotsB (gotsB s l).2 m).1, (gotsB (gotsB s l).2 m).2)
  | [], _, _ => rfl
  | p :: l, m, s => by simp [gotsB, gotsB_app l m]
theorem gotsB_snoc (l : List Pt) (p : Pt) (s : Bs) : gotsB s (l ++ [p]) = ((gotsB s l).1 ++ [(gotB (gotsB s l).2 p).1], (gotB (gotsB s l).2 p).2) := by rw [gotsB_app]; rfl
theorem gots_at {l : List Pt} {i : Nat} (s : Bs) (hi : i < l.length) : (gotsB s l).1[i]? = some (gotB (gotsB s (l.take i)).2 l[i]).1 := by
  have e : l = l.take i ++ (l[i] :: l.drop (i + 1)) := by rw [List.getElem_cons_drop, List.take_append_drop]
  conv => lhs; rw [e, gotsB_app]
  rw [List.getElem?_append_right (by rw [gotsB_len, List.length_take]; omega), gotsB_len, List.length_take, show i - min i l.length = 0 by omega]
  rfl
theorem ok0 : bs0.ok := Nat.le_refl _
theorem Bs.ok.send {s : Bs} (h : s.ok) (p : Pt) : (sendR s p).2.ok := by
  unfold sendR; unfold Bs.ok at *
  split; · exact h
  split; · exact h
  split; · exact h
  split; · exact h
  split; · exact h
  split; · exact h
  simp; omega
theorem Bs.ok.fetch {s : Bs} (h : s.ok) (b : Int) : (fetchR s b).2.2.ok := by
  unfold fetchR; unfold Bs.ok at *
  split; · exact h
  split; · exact h
  simp only; omega
theorem Bs.ok.shut_ {s : Bs} (h : s.ok) : (shutR s).2.ok := by
  unfold shutR; unfold Bs.ok at *
  split; · exact h
  simp only; omega
theorem Bs.ok.exec {s : Bs} (h : s.ok) (p : Pt) : (execB s p).2.2.ok := by
  unfold execB
  split; · exact h.send p
  split; · exact h.fetch _
  split; · exact h.shut_
  exact h
theorem Bs.ok.got {s : Bs} (h : s.ok) (p : Pt) : (gotB s p).2.ok := by unfold gotB; split <;> exact h.exec p
theorem Bs.ok.gots : ∀ (l : List Pt) {s : Bs}, s.ok → (gotsB s l).2.ok
  | [], _, h => h
  | p :: l, _, h => Bs.ok.gots l (h.got p)
/-- How long the strings of accepted messages are. -/
def Bs.few (s : Bs) : Prop := ∀ q ∈ s.acc, (user q.frm ≠ none) ∧ q.body.length ≤ 20
theorem few0 : bs0.few := by intro q hq; cases hq
theorem Bs.few.exec {s : Bs} (h : s.few) (p : Pt) : (execB s p).2.2.few := by
  unfold execB
  split
  · unfold sendR
    split; · exact h
    split; · exact h
    split; · exact h
    split; · exact h
    split; · exact h
    split; · exact h
    rename_i h2 h3 _ _ _
    intro q hq
    rcases List.mem_append.1 hq with hq | hq
    · exact h q hq
    · have e : q = p := by simpa using hq
      subst e
      exact ⟨h2, by omega⟩
  split
  · unfold fetchR
    split; · exact h
    split; · exact h
    exact h
  split
  · unfold shutR
    split; · exact h
    exact h
  exact h
theorem Bs.few.got {s : Bs} (h : s.few) (p : Pt) : (gotB s p).2.few := by unfold gotB; split <;> exact h.exec p
theorem Bs.few.gots : ∀ (l : List Pt) {s : Bs}, s.few → (gotsB s l).2.few
  | [], _, h => h
  | p :: l, _, h => Bs.few.gots l (h.got p)
theorem exec_grow (s : Bs) (p : Pt) : (execB s p).2.2.acc.length ≤ s.acc.length + 1 := by
  unfold execB
  split
  · unfold sendR
    repeat' (first | (split; · simp))
    simp
  split
  · unfold fetchR
    split; · simp
    split; · simp
    simp
  split
  · unfold shutR
    split
    · simp
    simp
  simp
theorem got_grow (s : Bs) (p : Pt) : (gotB s p).2.acc.length ≤ s.acc.length + 1 := by unfold gotB; split <;> exact exec_grow s p
theorem gots_grow : ∀ (l : List Pt) (s : Bs), (gotsB s l).2.acc.length ≤ s.acc.length + l.length
  | [], s => Nat.le_refl _
  | p :: l, s => by
    have h1 := gots_grow l (gotB s p).2
    have h2 := got_grow s p
    simp only [gotsB, List.length_cons]
    omega
/-- A post with an error has no effect. -/
theorem exec_bad {s : Bs} {p : Pt} (h : (execB s p).2.1 ≠ 0) : (execB s p).2.2 = s := by
  unfold execB at h ⊢
  split
  · rename_i h1
    rw [if_pos h1] at h
    unfold sendR at h ⊢
    split; · rfl
    rename_i a1; rw [if_neg a1] at h
    split; · rfl
    rename_i a2; rw [if_neg a2] at h
    split; · rfl
    rename_i a3; rw [if_neg a3] at h
    split; · rfl
    rename_i a4; rw [if_neg a4] at h
    split; · rfl
    rename_i a5; rw [if_neg a5] at h
    split; · rfl
    rename_i a6; rw [if_neg a6] at h
    exact absurd rfl h
  rename_i h1; rw [if_neg h1] at h
  split
  · rename_i h2; rw [if_pos h2] at h
    unfold fetchR at h ⊢
    split; · rfl
    rename_i a1; rw [if_neg a1] at h
    split; · rfl
    rename_i a2; rw [if_neg a2] at h
    exact absurd rfl h
  rename_i h2; rw [if_neg h2] at h
  split
  · rename_i h3; rw [if_pos h3] at h
    unfold shutR at h ⊢
    split; · rfl
    rename_i a1; rw [if_neg a1] at h
    exact absurd rfl h
  · rfl
theorem got_code (s : Bs) (p : Pt) : (gotB s p).1.code = (execB s p).2.1 := by
  unfold gotB
  split
  · rename_i h; exact h.symm
  · rfl
theorem got_state (s : Bs) (p : Pt) : (gotB s p).2 = (execB s p).2.2 := by unfold gotB; split <;> rfl
theorem got_bad {s : Bs} {p : Pt} (h : (gotB s p).1.code ≠ 0) : (gotB s p).2 = s := by
  rw [got_state]; rw [got_code] at h; exact exec_bad h
/-- At most ten messages wait. -/
def Bs.ten (s : Bs) : Prop := s.acc.length - s.gone ≤ 10
theorem Bs.ten.exec {s : Bs} (h : s.ten) (p : Pt) : (execB s p).2.2.ten := by
  unfold execB
  unfold Bs.ten at *
  split
  · unfold sendR
    split; · exact h
    split; · exact h
    split; · exact h
    split; · exact h
    split; · exact h
    split; · exact h
    simp; omega
  split
  · unfold fetchR
    split; · exact h
    split; · exact h
    simp only; omega
  split
  · unfold shutR
    split; · exact h
    simp
  exact h
theorem Bs.ten.got {s : Bs} (h : s.ten) (p : Pt) : (gotB s p).2.ten := by rw [got_state]; exact h.exec p
theorem Bs.ten.gots : ∀ (l : List Pt) {s : Bs}, s.ten → (gotsB s l).2.ten
  | [], _, h => h
  | p :: l, _, h => Bs.ten.gots l (h.got p)
theorem ten0 : bs0.ten := by unfold Bs.ten bs0; simp
theorem exec_mail {s : Bs} (h : s.ten) (p : Pt) : (execB s p).1.length ≤ 10 := by
  have h1 := h.exec p
  unfold execB at h1 ⊢
  split; · simp
  rename_i a; rw [if_neg a] at h1
  split
  · rename_i b; rw [if_pos b] at h1
    unfold fetchR at h1 ⊢
    split; · simp
    rename_i c; rw [if_neg c] at h1
    split; · simp
    rename_i d; rw [if_neg d] at h1
    simp only [Bs.wait_len]
    exact h1
  split <;> simp
theorem got_mail {s : Bs} (h : s.ten) (p : Pt) : (gotB s p).1.mail.length ≤ 10 := by
  have := exec_mail h p
  unfold gotB
  split
  · exact this
  · simp
end Go.Proofs.Ytmlgaedhfannmaa
