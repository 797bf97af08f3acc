/- The disk: its mathematics (what a move does to a disk, what a list of moves does, and what the statements about the disk come to). -/
import Derived.Test.YthkbeliplibiaaaBunA
namespace Go.Proofs.Ythkbeliplibiaaa
set_option linter.unusedVariables false
set_option linter.unusedSimpArgs false
open Go.RowKit

/-- A move. -/
structure Mv where
  kind : Int
  data : List UInt8
  n : Int

/-- The first k bytes are left, all synced. -/
def keepN (s : List UInt8 × Nat) (n : Int) : Int × (List UInt8 × Nat) := if n < 0 ∨ (s.1.length : Int) < n then (2, s) else (0, (s.1.take n.toNat, n.toNat))
/-- A move's error code, and the disk behind it. -/
def mvR (s : List UInt8 × Nat) (m : Mv) : Int × (List UInt8 × Nat) :=
  if m.kind = 1 then (if 1200 < s.1.length + m.data.length then (10, s) else (0, (s.1 ++ m.data, s.2)))
  else if m.kind = 2 then keepN s s.1.length
  else if m.kind = 3 then keepN s m.n
  else if m.kind = 4 then (if m.n < 0 then (2, s) else keepN s ((s.2 + min m.n.toNat (s.1.length - s.2) : Nat) : Int))
  else (3, s)
def plays (s : List UInt8 × Nat) : List Mv → List Int × (List UInt8 × Nat)
  | [] => ([], s)
  | m :: r => ((mvR s m).1 :: (plays (mvR s m).2 r).1, (plays (mvR s m).2 r).2)
/-- A disk as it can be. -/
def DsOk (s : List UInt8 × Nat) : Prop := s.2 ≤ s.1.length ∧ s.1.length ≤ 1200

section
variable {s : List UInt8 × Nat} {m : Mv}
theorem keepN_yes {k : Nat} (h : k ≤ s.1.length) : keepN s (k : Int) = (0, (s.1.take k, k)) := by
  unfold keepN
  rw [if_neg (by omega)]
  simp
theorem keepN_no {n : Int} (h : n < 0 ∨ (s.1.length : Int) < n) : keepN s n = (2, s) := by
  unfold keepN
  rw [if_pos h]
theorem mv_write_full (hk : m.kind = 1) (h : 1200 < s.1.length + m.data.length) : mvR s m = (10, s) := by
  unfold mvR; rw [if_pos hk, if_pos h]
theorem mv_write (hk : m.kind = 1) (h : ¬ 1200 < s.1.length + m.data.length) : mvR s m = (0, (s.1 ++ m.data, s.2)) := by
  unfold mvR; rw [if_pos hk, if_neg h]
theorem mv_sync (hk : m.kind = 2) : mvR s m = (0, (s.1, s.1.length)) := by
  unfold mvR; rw [if_neg (by omega), if_pos hk, keepN_yes (Nat.le_refl _), List.take_of_length_le (Nat.le_refl _)]
theorem mv_trim_bad (hk : m.kind = 3) (h : m.n < 0 ∨ (s.1.length : Int) < m.n) : mvR s m = (2, s) := by
  unfold mvR; rw [if_neg (by omega), if_neg (by omega), if_pos hk, keepN_no h]
theorem mv_trim {k : Nat} (hk : m.kind = 3) (hn : m.n = (k : Int)) (h : k ≤ s.1.length) : mvR s m = (0, (s.1.take k, k)) := by
  unfold mvR; rw [if_neg (by omega), if_neg (by omega), if_pos hk, hn, keepN_yes h]
theorem mv_fall_bad (hk : m.kind = 4) (h : m.n < 0) : mvR s m = (2, s) := by
  unfold mvR; rw [if_neg (by omega), if_neg (by omega), if_neg (by omega), if_pos hk, if_pos h]
theorem mv_fall {k : Nat} (hk : m.kind = 4) (hn : 0 ≤ m.n) (hs : s.2 ≤ s.1.length) (h : k = s.2 + min m.n.toNat (s.1.length - s.2)) : mvR s m = (0, (s.1.take k, k)) := by
  unfold mvR; rw [if_neg (by omega), if_neg (by omega), if_neg (by omega), if_pos hk, if_neg (by omega), ← h, keepN_yes (by omega)]
theorem mv_other (h1 : m.kind ≠ 1) (h2 : m.kind ≠ 2) (h3 : m.kind ≠ 3) (h4 : m.kind ≠ 4) : mvR s m = (3, s) := by
  unfold mvR; rw [if_neg h1, if_neg h2, if_neg h3, if_neg h4]
theorem keepN_ok {n : Int} (h : DsOk s) : DsOk (keepN s n).2 := by
  unfold keepN
  split
  · exact h
  · refine ⟨?_, ?_⟩
    · show n.toNat ≤ (s.1.take n.toNat).length
      rw [List.length_take]; omega
    · show (s.1.take n.toNat).length ≤ 1200
      rw [List.length_take]; have := h.2; omega
theorem mvR_ok (h : DsOk s) : DsOk (mvR s m).2 := by
  unfold mvR
  split
  · split
    · exact h
    · refine ⟨?_, ?_⟩
      · show s.2 ≤ (s.1 ++ m.data).length
        rw [List.length_append]; have := h.1; omega
      · show (s.1 ++ m.data).length ≤ 1200
        rw [List.length_append]; omega
  · split
    · exact keepN_ok h
    · split
      · exact keepN_ok h
      · split
        · split
          · exact h
          · exact keepN_ok h
        · exact h
end
theorem plays_ok : ∀ (l : List Mv) {s : List UInt8 × Nat}, DsOk s → DsOk (plays s l).2
  | [], _, h => h
  | m :: r, _, h => plays_ok r (mvR_ok (m := m) h)
theorem plays_len : ∀ (l : List Mv) (s : List UInt8 × Nat), (plays s l).1.length = l.length
  | [], _ => rfl
  | m :: r, s => by simp only [plays, List.length_cons, plays_len r]
theorem plays_snoc : ∀ (l : List Mv) (s : List UInt8 × Nat) (m : Mv), plays s (l ++ [m]) = ((plays s l).1 ++ [(mvR (plays s l).2 m).1], (mvR (plays s l).2 m).2)
  | [], s, m => rfl
  | x :: r, s, m => by
    show plays s (x :: (r ++ [m])) = _
    simp only [plays, plays_snoc r, List.cons_append]
theorem take_snoc {α : Type} {l : List α} {k : Nat} (h : k < l.length) : l.take (k + 1) = l.take k ++ [l[k]] := by
  rw [List.take_add_one, List.getElem?_eq_getElem h]; rfl
/-- From an empty disk. -/
def disk0 : List UInt8 × Nat := ([], 0)
theorem disk0_ok : DsOk disk0 := ⟨Nat.le_refl _, by show 0 ≤ 1200; omega⟩
def plays0 (l : List Mv) : List Int × (List UInt8 × Nat) := plays disk0 l
theorem plays0_ok (l : List Mv) : DsOk (plays0 l).2 := plays_ok l disk0_ok
theorem plays0_snoc (l : List Mv) (m : Mv) : plays0 (l ++ [m]) = ((plays0 l).1 ++ [(mvR (plays0 l).2 m).1], (mvR (plays0 l).2 m).2) := plays_snoc l _ m
theorem plays0_len (l : List Mv) : (plays0 l).1.length = l.length := plays_len l _
theorem plays0_take {l : List Mv} {k : Nat} (h : k < l.length) : plays0 (l.take (k + 1)) = ((plays0 (l.take k)).1 ++ [(mvR (plays0 (l.take k)).2 l[k]).1], (mvR (plays0 (l.take k)).2 l[k]).2) := by
  rw [take_snoc h, plays0_snoc]
/-- What a disk's two parts are: what is synced, what is not. -/
def safeOf (s : List UInt8 × Nat) : List UInt8 := s.1.take s.2
def openOf (s : List UInt8 × Nat) : List UInt8 := s.1.drop s.2
theorem safe_open (s : List UInt8 × Nat) : safeOf s ++ openOf s = s.1 := List.take_append_drop _ _
theorem safe_len {s : List UInt8 × Nat} (h : DsOk s) : (safeOf s).length = s.2 := by
  unfold safeOf; rw [List.length_take]; have := h.1; omega
theorem open_len (s : List UInt8 × Nat) : (openOf s).length = s.1.length - s.2 := by unfold openOf; rw [List.length_drop]
theorem safe_all (l : List UInt8) : safeOf (l, l.length) = l ∧ openOf (l, l.length) = [] := by simp [safeOf, openOf]
theorem safe_cut {l : List UInt8} {k : Nat} (h : k ≤ l.length) : safeOf (l.take k, k) = l.take k ∧ openOf (l.take k, k) = [] := by
  have := safe_all (l.take k)
  rwa [show (l.take k).length = k by rw [List.length_take]; omega] at this
theorem safe_more {s : List UInt8 × Nat} (h : DsOk s) (d : List UInt8) : safeOf (s.1 ++ d, s.2) = safeOf s ∧ openOf (s.1 ++ d, s.2) = openOf s ++ d := by
  unfold safeOf openOf
  refine ⟨List.take_append_of_le_length h.1, List.drop_append_of_le_length h.1⟩
theorem safe_fall {s : List UInt8 × Nat} (h : DsOk s) {j k : Nat} (hj : j ≤ (openOf s).length) (hk : k = s.2 + j) : safeOf s ++ (openOf s).take j = s.1.take k := by
  subst hk
  unfold safeOf openOf
  rw [List.take_add]
/-- Behind one move more. -/
theorem plays0_content_len (l : List Mv) (D : Nat) (h : ∀ m ∈ l, m.data.length ≤ D) : (plays0 l).2.1.length ≤ l.length * D := by
  have H : ∀ (l : List Mv) (s : List UInt8 × Nat), (∀ m ∈ l, m.data.length ≤ D) → (plays s l).2.1.length ≤ s.1.length + l.length * D := by
    intro l
    induction l with
    | nil => intro s _; simp [plays]
    | cons m r ih =>
      intro s h
      have h1 := ih (mvR s m).2 (fun x hx => h x (by simp [hx]))
      have h2 : (mvR s m).2.1.length ≤ s.1.length + D := by
        have hd := h m (by simp)
        have hkeep : ∀ n, (keepN s n).2.1.length ≤ s.1.length := by
          intro n; unfold keepN; split
          · exact Nat.le_refl _
          · show (s.1.take n.toNat).length ≤ _
            rw [List.length_take]; omega
        unfold mvR
        split
        · split
          · simp
          · simp; omega
        · split
          · have := hkeep s.1.length; omega
          · split
            · have := hkeep m.n; omega
            · split
              · split
                · simp
                · have := hkeep ((s.2 + min m.n.toNat (s.1.length - s.2) : Nat) : Int); omega
              · simp
      simp only [plays, List.length_cons, Nat.add_mul] at *
      omega
  have := H l disk0 h
  simpa [disk0, plays0] using this
end Go.Proofs.Ythkbeliplibiaaa
