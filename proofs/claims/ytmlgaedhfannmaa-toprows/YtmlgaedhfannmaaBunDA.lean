/- Joined texts: DkM, DkMem. -/
import Derived.Test.YtmlgaedhfannmaaBunA
/- The disk: its mathematics (what a move does to a disk, what a list of moves does, and what the statements about the disk come to). -/
namespace Go.Proofs.Ytmlgaedhfannmaa
set_option linter.unusedVariables false
set_option linter.unusedSimpArgs false
open Go.RowKit

/-- A move. -/
structure Mv where
  kind : Int
  data : List UInt8
  n : Int

/-- The first k bytes are left, all synced. -/
def keepN (s : List UInt8 × Nat) (n : Int) : Int × (List UInt8 × Nat) := if n < 0 ∨ (s.1.length : Int) < n then (2, s) else (0, (s.1.take n.toNat, n.toNat))
/-- A move's error code, and the disk behind it. -/
def mvR (s : List UInt8 × Nat) (m : Mv) : Int × (List UInt8 × Nat) :=
  if m.kind = 1 then (if 1200 < s.1.length + m.data.length then (10, s) else (0, (s.1 ++ m.data, s.2)))
  else if m.kind = 2 then keepN s s.1.length
  else if m.kind = 3 then keepN s m.n
  else if m.kind = 4 then (if m.n < 0 then (2, s) else keepN s ((s.2 + min m.n.toNat (s.1.length - s.2) : Nat) : Int))
  else (3, s)
def plays (s : List UInt8 × Nat) : List Mv → List Int × (List UInt8 × Nat)
  | [] => ([], s)
  | m :: r => ((mvR s m).1 :: (plays (mvR s m).2 r).1, (plays (mvR s m).2 r).2)
/-- A disk as it can be. -/
def DsOk (s : List UInt8 × Nat) : Prop := s.2 ≤ s.1.length ∧ s.1.length ≤ 1200

section
variable {s : List UInt8 × Nat} {m : Mv}
theorem keepN_yes {k : Nat} (h : k ≤ s.1.length) : keepN s (k : Int) = (0, (s.1.take k, k)) := by
  unfold keepN
  rw [if_neg (by omega)]
  simp
theorem keepN_no {n : Int} (h : n < 0 ∨ (s.1.length : Int) < n) : keepN s n = (2, s) := by
  unfold keepN
  rw [if_pos h]
theorem mv_write_full (hk : m.kind = 1) (h : 1200 < s.1.length + m.data.length) : mvR s m = (10, s) := by
  unfold mvR; rw [if_pos hk, if_pos h]
theorem mv_write (hk : m.kind = 1) (h : ¬ 1200 < s.1.length + m.data.length) : mvR s m = (0, (s.1 ++ m.data, s.2)) := by
  unfold mvR; rw [if_pos hk, if_neg h]
theorem mv_sync (hk : m.kind = 2) : mvR s m = (0, (s.1, s.1.length)) := by
  unfold mvR; rw [if_neg (by omega), if_pos hk, keepN_yes (Nat.le_refl _), List.take_of_length_le (Nat.le_refl _)]
theorem mv_trim_bad (hk : m.kind = 3) (h : m.n < 0 ∨ (s.1.length : Int) < m.n) : mvR s m = (2, s) := by
  unfold mvR; rw [if_neg (by omega), if_neg (by omega), if_pos hk, keepN_no h]
theorem mv_trim {k : Nat} (hk : m.kind = 3) (hn : m.n = (k : Int)) (h : k ≤ s.1.length) : mvR s m = (0, (s.1.take k, k)) := by
  unfold mvR; rw [if_neg (by omega), if_neg (by omega), if_pos hk, hn, keepN_yes h]
theorem mv_fall_bad (hk : m.kind = 4) (h : m.n < 0) : mvR s m = (2, s) := by
  unfold mvR; rw [if_neg (by omega), if_neg (by omega), if_neg (by omega), if_pos hk, if_pos h]
theorem mv_fall {k : Nat} (hk : m.kind = 4) (hn : 0 ≤ m.n) (hs : s.2 ≤ s.1.length) (h : k = s.2 + min m.n.toNat (s.1.length - s.2)) : mvR s m = (0, (s.1.take k, k)) := by
  unfold mvR; rw [if_neg (by omega), if_neg (by omega), if_neg (by omega), if_pos hk, if_neg (by omega), ← h, keepN_yes (by omega)]
theorem mv_other (h1 : m.kind ≠ 1) (h2 : m.kind ≠ 2) (h3 : m.kind ≠ 3) (h4 : m.kind ≠ 4) : mvR s m = (3, s) := by
  unfold mvR; rw [if_neg h1, if_neg h2, if_neg h3, if_neg h4]
theorem keepN_ok {n : Int} (h : DsOk s) : DsOk (keepN s n).2 := by
  unfold keepN
  split
  · exact h
  · refine ⟨?_, ?_⟩
    · show n.toNat ≤ (s.1.take n.toNat).length
      rw [List.length_take]; omega
    · show (s.1.take n.toNat).length ≤ 1200
      rw [List.length_take]; have := h.2; omega
theorem mvR_ok (h : DsOk s) : DsOk (mvR s m).2 := by
  unfold mvR
  split
  · split
    · exact h
    · refine ⟨?_, ?_⟩
      · show s.2 ≤ (s.1 ++ m.data).length
        rw [List.length_append]; have := h.1; omega
      · show (s.1 ++ m.data).length ≤ 1200
        rw [List.length_append]; omega
  · split
    · exact keepN_ok h
    · split
      · exact keepN_ok h
      · split
        · split
          · exact h
          · exact keepN_ok h
        · exact h
end
theorem plays_ok : ∀ (l : List Mv) {s : List UInt8 × Nat}, DsOk s → DsOk (plays s l).2
  | [], _, h => h
  | m :: r, _, h => plays_ok r (mvR_ok (m := m) h)
theorem plays_len : ∀ (l : List Mv) (s : List UInt8 × Nat), (plays s l).1.length = l.length
  | [], _ => rfl
  | m :: r, s => by simp only [plays, List.length_cons, plays_len r]
theorem plays_snoc : ∀ (l : List Mv) (s : List UInt8 × Nat) (m : Mv), plays s (l ++ [m]) = ((plays s l).1 ++ [(mvR (plays s l).2 m).1], (mvR (plays s l).2 m).2)
  | [], s, m => rfl
  | x :: r, s, m => by
    show plays s (x :: (r ++ [m])) = _
    simp only [plays, plays_snoc r, List.cons_append]
theorem take_snoc {α : Type} {l : List α} {k : Nat} (h : k < l.length) : l.take (k + 1) = l.take k ++ [l[k]] := by
  rw [List.take_add_one, List.getElem?_eq_getElem h]; rfl
/-- From an empty disk. -/
def disk0 : List UInt8 × Nat := ([], 0)
theorem disk0_ok : DsOk disk0 := ⟨Nat.le_refl _, by show 0 ≤ 1200; omega⟩
def plays0 (l : List Mv) : List Int × (List UInt8 × Nat) := plays disk0 l
theorem plays0_ok (l : List Mv) : DsOk (plays0 l).2 := plays_ok l disk0_ok
theorem plays0_snoc (l : List Mv) (m : Mv) : plays0 (l ++ [m]) = ((plays0 l).1 ++ [(mvR (plays0 l).2 m).1], (mvR (plays0 l).2 m).2) := plays_snoc l _ m
theorem plays0_len (l : List Mv) : (plays0 l).1.length = l.length := plays_len l _
theorem plays0_take {l : List Mv} {k : Nat} (h : k < l.length) : plays0 (l.take (k + 1)) = ((plays0 (l.take k)).1 ++ [(mvR (plays0 (l.take k)).2 l[k]).1], (mvR (plays0 (l.take k)).2 l[k]).2) := by
  rw [take_snoc h, plays0_snoc]
/-- What a disk's two parts are: what is synced, what is not. -/
def safeOf (s : List UInt8 × Nat) : List UInt8 := s.1.take s.2
def openOf (s : List UInt8 × Nat) : List UInt8 := s.1.drop s.2
theorem safe_open (s : List UInt8 × Nat) : safeOf s ++ openOf s = s.1 := List.take_append_drop _ _
theorem safe_len {s : List UInt8 × Nat} (h : DsOk s) : (safeOf s).length = s.2 := by
  unfold safeOf; rw [List.length_take]; have := h.1; omega
theorem open_len (s : List UInt8 × Nat) : (openOf s).length = s.1.length - s.2 := by unfold openOf; rw [List.length_drop]
theorem safe_all (l : List UInt8) : safeOf (l, l.length) = l ∧ openOf (l, l.length) = [] := by simp [safeOf, openOf]
theorem safe_cut {l : List UInt8} {k : Nat} (h : k ≤ l.length) : safeOf (l.take k, k) = l.take k ∧ openOf (l.take k, k) = [] := by
  have := safe_all (l.take k)
  rwa [show (l.take k).length = k by rw [List.length_take]; omega] at this
theorem safe_more {s : List UInt8 × Nat} (h : DsOk s) (d : List UInt8) : safeOf (s.1 ++ d, s.2) = safeOf s ∧ openOf (s.1 ++ d, s.2) = openOf s ++ d := by
  unfold safeOf openOf
  refine ⟨List.take_append_of_le_length h.1, List.drop_append_of_le_length h.1⟩
theorem safe_fall {s : List UInt8 × Nat} (h : DsOk s) {j k : Nat} (hj : j ≤ (openOf s).length) (hk : k = s.2 + j) : safeOf s ++ (openOf s).take j = s.1.take k := by
  subst hk
  unfold safeOf openOf
  rw [List.take_add]
/-- Behind one move more. -/
theorem plays0_content_len (l : List Mv) (D : Nat) (h : ∀ m ∈ l, m.data.length ≤ D) : (plays0 l).2.1.length ≤ l.length * D := by
  have H : ∀ (l : List Mv) (s : List UInt8 × Nat), (∀ m ∈ l, m.data.length ≤ D) → (plays s l).2.1.length ≤ s.1.length + l.length * D := by
    intro l
    induction l with
    | nil => intro s _; simp [plays]
    | cons m r ih =>
      intro s h
      have h1 := ih (mvR s m).2 (fun x hx => h x (by simp [hx]))
      have h2 : (mvR s m).2.1.length ≤ s.1.length + D := by
        have hd := h m (by simp)
        have hkeep : ∀ n, (keepN s n).2.1.length ≤ s.1.length := by
          intro n; unfold keepN; split
          · exact Nat.le_refl _
          · show (s.1.take n.toNat).length ≤ _
            rw [List.length_take]; omega
        unfold mvR
        split
        · split
          · simp
          · simp; omega
        · split
          · have := hkeep s.1.length; omega
          · split
            · have := hkeep m.n; omega
            · split
              · split
                · simp
                · have := hkeep ((s.2 + min m.n.toNat (s.1.length - s.2) : Nat) : Int); omega
              · simp
      simp only [plays, List.length_cons, Nat.add_mul] at *
      omega
  have := H l disk0 h
  simpa [disk0, plays0] using this
end Go.Proofs.Ytmlgaedhfannmaa

/- The disk: how moves and a disk lie in memory; what a call that changes a disk leaves. -/
namespace Go.Proofs.Ytmlgaedhfannmaa
set_option linter.unusedVariables false
set_option linter.unusedSimpArgs false
open Go.RowKit

/-- The three cells of a move; its data lies in blocks of S. -/
def MIn (w : World) (S : Nat → Prop) (m : Mv) (cs : List Value) : Prop :=
  ∃ A c, cs = [.int .i64 m.kind, .slice A m.data.length c, .int .i64 m.n] ∧ m.data.length ≤ 1048576 ∧ m.data.length ≤ c ∧ (A = none → c = 0) ∧
    (-9223372036854775808 ≤ m.kind ∧ m.kind ≤ 9223372036854775807) ∧ (-9223372036854775808 ≤ m.n ∧ m.n ≤ 9223372036854775807) ∧ HoldsS w S 1 A m.data.length (m.data.map bv)
def MsIn (w : World) (S : Nat → Prop) : List Mv → List Value → Prop
  | [], pc => pc = []
  | m :: r, pc => ∃ c rest, pc = c ++ rest ∧ MIn w S m c ∧ MsIn w S r rest
section
variable {w w' : World} {S S' : Nat → Prop}
theorem MIn.len {m : Mv} {cs : List Value} (h : MIn w S m cs) : cs.length = 3 := by obtain ⟨A, c, rfl, _⟩ := h; rfl
theorem MIn.kept {m : Mv} {cs : List Value} (h : MIn w S m cs) (hk : ∀ p : Addr, S p.block → w'.cell? p = w.cell? p) : MIn w' S m cs := by
  obtain ⟨A, c, h1, h2, h3, h4, h5, h6, h7⟩ := h
  exact ⟨A, c, h1, h2, h3, h4, h5, h6, h7.kept hk⟩
theorem MIn.mono {m : Mv} {cs : List Value} (h : MIn w S m cs) (hs : ∀ b, S b → S' b) : MIn w S' m cs := by
  obtain ⟨A, c, h1, h2, h3, h4, h5, h6, h7⟩ := h
  exact ⟨A, c, h1, h2, h3, h4, h5, h6, h7.mono hs⟩
theorem MIn.one {m : Mv} {cs : List Value} (h : MIn w S m cs) : ∀ u ∈ cs, u.oneCell' = true := by
  obtain ⟨A, c, rfl, _⟩ := h
  intro u hu
  simp at hu
  rcases hu with rfl | rfl | rfl <;> rfl
theorem MsIn.len : ∀ {ms : List Mv} {pc : List Value}, MsIn w S ms pc → pc.length = ms.length * 3
  | [], pc, h => by unfold MsIn at h; subst h; rfl
  | m :: r, pc, h => by
    unfold MsIn at h
    obtain ⟨c, rest, rfl, h2, h3⟩ := h
    rw [List.length_append, h2.len, MsIn.len h3]; simp; omega
theorem MsIn.kept (hk : ∀ p : Addr, S p.block → w'.cell? p = w.cell? p) : ∀ {ms : List Mv} {pc : List Value}, MsIn w S ms pc → MsIn w' S ms pc
  | [], pc, h => by unfold MsIn at h ⊢; exact h
  | m :: r, pc, h => by
    unfold MsIn at h ⊢
    obtain ⟨c, rest, h1, h2, h3⟩ := h
    exact ⟨c, rest, h1, h2.kept hk, MsIn.kept hk h3⟩
theorem MsIn.mono (hs : ∀ b, S b → S' b) : ∀ {ms : List Mv} {pc : List Value}, MsIn w S ms pc → MsIn w S' ms pc
  | [], pc, h => by unfold MsIn at h ⊢; exact h
  | m :: r, pc, h => by
    unfold MsIn at h ⊢
    obtain ⟨c, rest, h1, h2, h3⟩ := h
    exact ⟨c, rest, h1, h2.mono hs, MsIn.mono hs h3⟩
theorem MsIn.one : ∀ {ms : List Mv} {pc : List Value}, MsIn w S ms pc → ∀ u ∈ pc, u.oneCell' = true
  | [], pc, h, u, hu => by unfold MsIn at h; subst h; simp at hu
  | m :: r, pc, h, u, hu => by
    unfold MsIn at h
    obtain ⟨c', rest, rfl, h2, h3⟩ := h
    rcases List.mem_append.1 hu with h | h
    · exact h2.one u h
    · exact h3.one u h
theorem MsIn.snoc : ∀ {ms : List Mv} {pc : List Value} {m : Mv} {c : List Value}, MsIn w S ms pc → MIn w S m c → MsIn w S (ms ++ [m]) (pc ++ c)
  | [], pc, m, c, h, hv => by
    unfold MsIn at h; subst h
    show MsIn w S [m] c
    unfold MsIn
    exact ⟨c, [], by simp, hv, by unfold MsIn; rfl⟩
  | p :: r, pc, m, c, h, hv => by
    unfold MsIn at h
    obtain ⟨c', rest, rfl, h2, h3⟩ := h
    show MsIn w S (p :: (r ++ [m])) (c' ++ rest ++ c)
    unfold MsIn
    exact ⟨c', rest ++ c, by simp, h2, h3.snoc hv⟩
theorem MsIn.at_ : ∀ {ms : List Mv} {pc : List Value} (i : Nat) (hi : i < ms.length), MsIn w S ms pc → ∃ c, MIn w S ms[i] c ∧ ∀ j u, c[j]? = some u → pc[i * 3 + j]? = some u
  | [], pc, i, hi, h => by simp at hi
  | p :: r, pc, 0, hi, h => by
    unfold MsIn at h
    obtain ⟨c, rest, rfl, h2, h3⟩ := h
    refine ⟨c, h2, fun j u hu => ?_⟩
    have hj : j < c.length := (List.getElem?_eq_some_iff.1 hu).1
    rw [Nat.zero_mul, Nat.zero_add, List.getElem?_append_left hj]; exact hu
  | p :: r, pc, i + 1, hi, h => by
    unfold MsIn at h
    obtain ⟨c, rest, rfl, h2, h3⟩ := h
    obtain ⟨c', h4, h5⟩ := MsIn.at_ i (by simpa using hi) h3
    refine ⟨c', by simpa using h4, fun j u hu => ?_⟩
    have hl := h2.len
    rw [List.getElem?_append_right (by omega), hl, show (i + 1) * 3 + j - 3 = i * 3 + j by omega]
    exact h5 j u hu
end

/-- A slice of moves; all of it lies below block B. -/
def MvsIn (w : World) (B : Nat) (A : Option Addr) (n c : Nat) (ms : List Mv) : Prop :=
  ms.length = n ∧ n ≤ c ∧ (A = none → c = 0) ∧ ∃ pc, Holds w B 3 A n pc ∧ MsIn w (fun b => b < B) ms pc
section
variable {w w' : World} {B B' n c : Nat} {A : Option Addr} {ms : List Mv}
theorem MvsIn.below (h : MvsIn w B A n c ms) (hb : Below B w w') : MvsIn w' B A n c ms := by
  obtain ⟨h1, h2, h3, pc, h4, h5⟩ := h
  exact ⟨h1, h2, h3, pc, h4.below hb, h5.kept fun p hp => hb.cell hp⟩
theorem MvsIn.wider (h : MvsIn w B A n c ms) (hB : B ≤ B') : MvsIn w B' A n c ms := by
  obtain ⟨h1, h2, h3, pc, h4, h5⟩ := h
  exact ⟨h1, h2, h3, pc, h4.wider hB, h5.mono fun b hb => Nat.lt_of_lt_of_le hb hB⟩
/-- At place i. -/
theorem MvsIn.at_ (h : MvsIn w B A n c ms) {i : Nat} (hi : i < ms.length) :
    ∃ b off Ad cd, A = some ⟨b, off, none⟩ ∧ b < B ∧ MIn w (fun b => b < B) ms[i] [.int .i64 ms[i].kind, .slice Ad ms[i].data.length cd, .int .i64 ms[i].n] ∧
      w.cell? ⟨b, off + i * 3, none⟩ = some (.int .i64 ms[i].kind) ∧ w.cell? ⟨b, off + i * 3 + 1, none⟩ = some (.slice Ad ms[i].data.length cd) ∧ w.cell? ⟨b, off + i * 3 + 2, none⟩ = some (.int .i64 ms[i].n) := by
  obtain ⟨h1, h2, h3, pc, h4, h5⟩ := h
  obtain ⟨c, hc, hat⟩ := h5.at_ i hi
  obtain ⟨b, off, rfl, hb, hcell⟩ := h4.2 (by omega)
  have hc' := hc
  obtain ⟨Ad, cd, rfl, _⟩ := hc'
  refine ⟨b, off, Ad, cd, rfl, hb, hc, ?_, ?_, ?_⟩
  · exact hcell _ _ (hat 0 _ rfl)
  · rw [Nat.add_assoc]; exact hcell _ _ (hat 1 _ rfl)
  · rw [Nat.add_assoc]; exact hcell _ _ (hat 2 _ rfl)
end

/-- Only block g, block r and what is new has turned. -/
structure On2 (w w' : World) (g : Nat) (r : Option Nat) : Prop where
  os : w'.os = w.os
  tape : w'.tape = w.tape
  output : w'.output = w.output
  size : w.heap.size ≤ w'.heap.size
  block : ∀ k, k < w.heap.size → k ≠ g → some k ≠ r → w'.heap[k]? = w.heap[k]?
section
variable {a w w' : World} {g : Nat} {r r' : Option Nat}
theorem On2.refl (w : World) (g : Nat) (r : Option Nat) : On2 w w g r := ⟨rfl, rfl, rfl, Nat.le_refl _, fun _ _ _ _ => rfl⟩
theorem On2.grown (h : On2 a w g r) (hg : w.grownBy w' r') (hr : r' = r ∨ ∀ k, r' = some k → a.heap.size ≤ k) : On2 a w' g r := by
  refine ⟨hg.os.trans h.os, hg.tape.trans h.tape, hg.output.trans h.output, Nat.le_trans h.size hg.size, fun k hk h1 h2 => ?_⟩
  refine (hg.block k (Nat.lt_of_lt_of_le hk h.size) ?_).trans (h.block k hk h1 h2)
  intro e
  rcases hr with hr | hr
  · exact h2 (e.trans hr)
  · have := hr k e.symm; omega
theorem On2.alloc (h : On2 a w g r) (o : Obj) : On2 a (w.alloc o) g r := h.grown (World.grownBy_alloc w o none) (.inr (by simp))
theorem On2.below (h : On2 a w g r) (hb : Below w.heap.size w w') : On2 a w' g r := h.grown (only_below hb none) (.inr (by simp))
theorem On2.set_ (h : On2 a w g r) {p : Addr} (hp : p.block = g ∨ a.heap.size ≤ p.block) (u : Value) : On2 a (w.setCell p u) g r := by
  refine ⟨h.os, h.tape, h.output, by simpa [World.setCell] using h.size, fun k hk h1 h2 => ?_⟩
  refine (Below.heap_setCell w p u k ?_).trans (h.block k hk h1 h2)
  rintro rfl
  rcases hp with hp | hp
  · exact h1 hp
  · omega
theorem On2.trans (h : On2 a w g r) (k : On2 w w' g r') (hr : r' = r ∨ ∀ k, r' = some k → a.heap.size ≤ k) : On2 a w' g r := by
  refine ⟨k.os.trans h.os, k.tape.trans h.tape, k.output.trans h.output, Nat.le_trans h.size k.size, fun i hi h1 h2 => ?_⟩
  refine (k.block i (Nat.lt_of_lt_of_le hi h.size) h1 ?_).trans (h.block i hi h1 h2)
  intro e
  rcases hr with hr | hr
  · exact h2 (e.trans hr)
  · have := hr i e.symm; omega
theorem On2.toBelow {B : Nat} (h : On2 a w g r) (hB : B ≤ a.heap.size) (hg : B ≤ g) (hr : ∀ k, r = some k → B ≤ k) : Below B a w := by
  refine ⟨h.os, h.tape, h.output, h.size, fun k hk => h.block k (by omega) (by omega) fun e => ?_⟩
  have := hr k e.symm; omega
theorem On2.row {base e size n : Nat} {v : Value} {xs : List Value} (h : On2 a w g r) (ho : a.ownsRow base e size v n xs) (h1 : v.ownBlock ≠ some g) (h2 : v.ownBlock = none ∨ v.ownBlock ≠ r) : w.ownsRow base e size v n xs := by
  refine ⟨ho.1, ?_⟩
  rcases ho.2 with hn | ⟨k, cap, cur, rfl, hb, hh, hrest⟩
  · exact .inl hn
  · have hlt : k < a.heap.size := (World.ownsRow.lt ho k rfl).2
    refine .inr ⟨k, cap, cur, rfl, hb, ?_, hrest⟩
    rw [h.block k hlt (fun e => h1 (by simp [Value.ownBlock, e])) ?_]
    · exact hh
    · rcases h2 with h2 | h2
      · simp [Value.ownBlock] at h2
      · simpa [Value.ownBlock] using h2
end
/-- Rows of different types are different; a row is no box of another type. -/
theorem row_row {w : World} {b1 b2 e1 e2 s1 s2 n1 n2 : Nat} {v1 v2 : Value} {x1 x2 : List Value} (h1 : w.ownsRow b1 e1 s1 v1 n1 x1) (h2 : w.ownsRow b2 e2 s2 v2 n2 x2) (he : e1 ≠ e2) : v1.ownBlock = none ∨ v1.ownBlock ≠ v2.ownBlock := by
  rcases h1.2 with ⟨rfl, _⟩ | ⟨g1, c1, u1, rfl, _, hh1, _⟩
  · exact .inl rfl
  · right
    rcases h2.2 with ⟨rfl, _⟩ | ⟨g2, c2, u2, rfl, _, hh2, _⟩
    · simp [Value.ownBlock]
    · intro e
      simp only [Value.ownBlock, Option.some.injEq] at e
      subst e
      rw [hh1] at hh2
      injection hh2 with hh2
      injection hh2 with _ hh2 _
      exact he hh2
theorem row_box {w : World} {b1 e1 s1 n1 g : Nat} {t : TypeId} {v1 : Value} {x1 : List Value} {cs : Array Value} (h1 : w.ownsRow b1 e1 s1 v1 n1 x1) (h2 : Blk w g t cs) (he : e1 ≠ t) : v1.ownBlock ≠ some g := by
  rcases h1.2 with ⟨rfl, _⟩ | ⟨g1, c1, u1, rfl, _, hh1, _⟩
  · simp [Value.ownBlock]
  · intro e
    simp only [Value.ownBlock, Option.some.injEq] at e
    subst e
    unfold Blk at h2
    rw [hh1] at h2
    injection h2 with h2
    injection h2 with _ h2 _
    exact he h2
/-- The first part of a row of the call's own. -/
theorem own_first {w : World} {base e n c k : Nat} {A : Option Addr} {l : List UInt8} (h : w.ownsRow base e 1 (.slice A n c) n (l.map bv)) (hk : k ≤ n) : w.ownsRow base e 1 (.slice A k c) k ((l.take k).map bv) := by
  have hl : l.length = n := by have := h.1; simpa using this
  refine ⟨by simp; omega, ?_⟩
  rcases h.2 with ⟨hv, hn⟩ | ⟨g, cap, cur, hv, hb, hh, h1, h2, h3, h4⟩
  · injection hv with hA _ hc
    subst hA hc
    left
    exact ⟨by rw [show k = 0 by omega], by omega⟩
  · injection hv with hA _ hc
    subst hA hc
    refine .inr ⟨g, c, cur, rfl, hb, hh, by omega, h2, h3, ?_⟩
    rw [List.map_take, ← h4, List.take_take]
    congr 1
    omega
end Go.Proofs.Ytmlgaedhfannmaa
