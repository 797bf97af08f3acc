/- How a value of package api lies in memory; a block that is known whole. Nothing of the program is named here. -/
import Derived.Test.YtikjpniobihanaaDoorJv
namespace Go.Proofs.YtikjpniobihanaaDoor
set_option linter.unusedVariables false
set_option linter.unusedSimpArgs false
open Go.RowKit

mutual
/-- The five cells cs are those of the value; what it points to lies below block B. -/
def VIn (w : World) (B : Nat) : JV → List Value → Prop
  | .mk k n t ks ps, cs => ∃ (Ak : Option Addr) (ck : Nat) (Ap : Option Addr) (cp : Nat) (pc : List Value),
      cs = [.int .i64 k, .int .i64 n, str t, .slice Ak ks.length ck, .slice Ap ps.length cp] ∧
      (-9223372036854775808 ≤ k ∧ k ≤ 9223372036854775807) ∧ (-9223372036854775808 ≤ n ∧ n ≤ 9223372036854775807) ∧
      t.length ≤ 1048576 ∧ ks.length ≤ 1048576 ∧ ps.length ≤ 1048576 ∧ (∀ s ∈ ks, s.length ≤ 1048576) ∧ ks.length ≤ ck ∧ ps.length ≤ cp ∧
      Holds w B 1 Ak ks.length (ks.map str) ∧ Holds w B 5 Ap ps.length pc ∧ PIn w B ps pc
def PIn (w : World) (B : Nat) : List JV → List Value → Prop
  | [], pc => pc = []
  | p :: r, pc => ∃ c rest, pc = c ++ rest ∧ VIn w B p c ∧ PIn w B r rest
end

theorem VIn.len {w : World} {B : Nat} {v : JV} {cs : List Value} (h : VIn w B v cs) : cs.length = 5 := by
  cases v; unfold VIn at h; obtain ⟨_, _, _, _, _, rfl, _⟩ := h; rfl
mutual
theorem VIn.kept {w w' : World} {B : Nat} (hk : ∀ p : Addr, p.block < B → w'.cell? p = w.cell? p) : ∀ (v : JV) (cs : List Value), VIn w B v cs → VIn w' B v cs
  | .mk k n t ks ps, cs, h => by
    unfold VIn at h ⊢
    obtain ⟨Ak, ck, Ap, cp, pc, h1, h2, h3, h4, h5, h6, h7, h8, h9, h10, h11, h12⟩ := h
    exact ⟨Ak, ck, Ap, cp, pc, h1, h2, h3, h4, h5, h6, h7, h8, h9, h10.kept hk, h11.kept hk, PIn.kept hk ps pc h12⟩
theorem PIn.kept {w w' : World} {B : Nat} (hk : ∀ p : Addr, p.block < B → w'.cell? p = w.cell? p) : ∀ (ps : List JV) (pc : List Value), PIn w B ps pc → PIn w' B ps pc
  | [], pc, h => by unfold PIn at h ⊢; exact h
  | p :: r, pc, h => by
    unfold PIn at h ⊢
    obtain ⟨c, rest, h1, h2, h3⟩ := h
    exact ⟨c, rest, h1, VIn.kept hk p c h2, PIn.kept hk r rest h3⟩
end
mutual
theorem VIn.wider {w : World} {B B' : Nat} (hB : B ≤ B') : ∀ (v : JV) (cs : List Value), VIn w B v cs → VIn w B' v cs
  | .mk k n t ks ps, cs, h => by
    unfold VIn at h ⊢
    obtain ⟨Ak, ck, Ap, cp, pc, h1, h2, h3, h4, h5, h6, h7, h8, h9, h10, h11, h12⟩ := h
    exact ⟨Ak, ck, Ap, cp, pc, h1, h2, h3, h4, h5, h6, h7, h8, h9, h10.wider hB, h11.wider hB, PIn.wider hB ps pc h12⟩
theorem PIn.wider {w : World} {B B' : Nat} (hB : B ≤ B') : ∀ (ps : List JV) (pc : List Value), PIn w B ps pc → PIn w B' ps pc
  | [], pc, h => by unfold PIn at h ⊢; exact h
  | p :: r, pc, h => by
    unfold PIn at h ⊢
    obtain ⟨c, rest, h1, h2, h3⟩ := h
    exact ⟨c, rest, h1, VIn.wider hB p c h2, PIn.wider hB r rest h3⟩
end
theorem VIn.below {w w' : World} {B : Nat} {v : JV} {cs : List Value} (h : VIn w B v cs) (hb : Below B w w') : VIn w' B v cs := VIn.kept (fun _ hp => hb.cell hp) v cs h
theorem PIn.below {w w' : World} {B : Nat} {v : List JV} {cs : List Value} (h : PIn w B v cs) (hb : Below B w w') : PIn w' B v cs := PIn.kept (fun _ hp => hb.cell hp) v cs h

/-- A part, by its place: its five cells stand in the row from 5 * i on. -/
theorem PIn.at_ {w : World} {B : Nat} : ∀ {ps : List JV} {pc : List Value} (i : Nat) (hi : i < ps.length), PIn w B ps pc → ∃ c, VIn w B ps[i] c ∧ ∀ j u, c[j]? = some u → pc[i * 5 + j]? = some u
  | [], pc, i, hi, h => by simp at hi
  | p :: r, pc, 0, hi, h => by
    unfold PIn at h
    obtain ⟨c, rest, rfl, h2, h3⟩ := h
    refine ⟨c, h2, fun j u hu => ?_⟩
    have hj : j < c.length := (List.getElem?_eq_some_iff.1 hu).1
    rw [Nat.zero_mul, Nat.zero_add, List.getElem?_append_left hj]; exact hu
  | p :: r, pc, i + 1, hi, h => by
    unfold PIn at h
    obtain ⟨c, rest, rfl, h2, h3⟩ := h
    obtain ⟨c', h4, h5⟩ := PIn.at_ i (by simpa using hi) h3
    refine ⟨c', by simpa using h4, fun j u hu => ?_⟩
    have hl := h2.len
    rw [List.getElem?_append_right (by omega), hl, show (i + 1) * 5 + j - 5 = i * 5 + j by omega]
    exact h5 j u hu

/-- The five cells, behind the slice's own address. -/
theorem part_cells {w : World} {B : Nat} {Ap : Option Addr} {ps : List JV} {pc : List Value} (hh : Holds w B 5 Ap ps.length pc) (hp : PIn w B ps pc) (i : Nat) (hi : i < ps.length) :
    ∃ b off k n t Ak nk ck Ap' np cp, Ap = some ⟨b, off, none⟩ ∧ b < B ∧ VIn w B ps[i] [.int .i64 k, .int .i64 n, str t, .slice Ak nk ck, .slice Ap' np cp] ∧
      w.cell? ⟨b, off + i * 5, none⟩ = some (.int .i64 k) ∧ w.cell? ⟨b, off + i * 5 + 1, none⟩ = some (.int .i64 n) ∧ w.cell? ⟨b, off + i * 5 + 2, none⟩ = some (str t) ∧
      w.cell? ⟨b, off + i * 5 + 3, none⟩ = some (.slice Ak nk ck) ∧ w.cell? ⟨b, off + i * 5 + 4, none⟩ = some (.slice Ap' np cp) := by
  obtain ⟨c, hc, hat⟩ := PIn.at_ i hi hp
  obtain ⟨b, off, rfl, hb, hcell⟩ := hh.2 (by omega)
  generalize hq : ps[i] = q at hc
  cases q with
  | mk k n t ks qs =>
    have hc' := hc
    unfold VIn at hc'
    obtain ⟨Ak, ck, Ap', cp, pc', rfl, _⟩ := hc'
    refine ⟨b, off, k, n, t, Ak, ks.length, ck, Ap', qs.length, cp, rfl, hb, hc, ?_, ?_, ?_, ?_, ?_⟩
    · exact hcell _ _ (hat 0 _ rfl)
    · rw [Nat.add_assoc]; exact hcell _ _ (hat 1 _ rfl)
    · rw [Nat.add_assoc]; exact hcell _ _ (hat 2 _ rfl)
    · rw [Nat.add_assoc]; exact hcell _ _ (hat 3 _ rfl)
    · rw [Nat.add_assoc]; exact hcell _ _ (hat 4 _ rfl)

/-! ### a block that is known whole -/
def Blk (w : World) (g : Nat) (t : TypeId) (cs : Array Value) : Prop := w.heap[g]? = some (.cells cs t (0, 0))
section
variable {w w' : World} {g : Nat} {t : TypeId} {cs : Array Value}
theorem Blk.lt (h : Blk w g t cs) : g < w.heap.size := by
  rcases Nat.lt_or_ge g w.heap.size with hlt | hge
  · exact hlt
  · unfold Blk at h; rw [Array.getElem?_eq_none hge] at h; cases h
theorem Blk.cell (h : Blk w g t cs) (i : Nat) : w.cell? ⟨g, i, none⟩ = cs[i]? := by
  unfold Blk at h
  simp [World.cell?, h]
theorem Blk.frozen (h : Blk w g t cs) (i : Nat) : w.frozen? ⟨g, i, none⟩ = false := by
  unfold Blk at h
  simp [World.frozen?, h]
theorem Blk.new (w : World) (t : TypeId) (cs : Array Value) : Blk (w.alloc (.cells cs t)) w.heap.size t cs := by
  unfold Blk
  show (w.heap.push _)[w.heap.size]? = _
  simp
theorem Blk.alloc (h : Blk w g t cs) (o : Obj) : Blk (w.alloc o) g t cs := (Below.heap_alloc w o g h.lt).trans h
theorem Blk.set_ (h : Blk w g t cs) (i : Nat) (u : Value) : Blk (w.setCell ⟨g, i, none⟩ u) g t (cs.setIfInBounds i u) := by
  unfold Blk at h ⊢
  simp [World.setCell, Array.getElem?_modify, h]
theorem Blk.far (h : Blk w g t cs) {p : Addr} (hp : g ≠ p.block) (u : Value) : Blk (w.setCell p u) g t cs := (Below.heap_setCell w p u g hp).trans h
theorem Blk.below {B : Nat} (h : Blk w g t cs) (hb : Below B w w') (hg : g < B) : Blk w' g t cs := (hb.block g hg).trans h
theorem Blk.grown {row : Option Nat} (h : Blk w g t cs) (hb : w.grownBy w' row) (hg : some g ≠ row) : Blk w' g t cs := (hb.block g h.lt hg).trans h
end
/-! ### only block g, and what is new, has turned -/
theorem only_trans {a b c : World} {g : Option Nat} (h : a.grownBy b g) (k : b.grownBy c g) : a.grownBy c g :=
  ⟨k.os.trans h.os, k.tape.trans h.tape, k.output.trans h.output, Nat.le_trans h.size k.size, fun i hi hne => (k.block i (Nat.lt_of_lt_of_le hi h.size) hne).trans (h.block i hi hne)⟩
theorem only_alloc {a w : World} {row : Option Nat} (h : a.grownBy w row) (o : Obj) : a.grownBy (w.alloc o) row :=
  ⟨h.os, h.tape, h.output, Nat.le_trans h.size (by simp), fun i hi hne => (Below.heap_alloc w o i (Nat.lt_of_lt_of_le hi h.size)).trans (h.block i hi hne)⟩
theorem only_setCell {a w : World} {g : Nat} (h : a.grownBy w (some g)) {p : Addr} (hp : p.block = g ∨ a.heap.size ≤ p.block) (u : Value) : a.grownBy (w.setCell p u) (some g) :=
  ⟨h.os, h.tape, h.output, by simpa [World.setCell] using h.size, fun i hi hne => (Below.heap_setCell w p u i (by
    rintro rfl
    rcases hp with hp | hp
    · exact hne (by rw [hp])
    · omega)).trans (h.block i hi hne)⟩
theorem only_below {a w : World} (h : Below a.heap.size a w) (row : Option Nat) : a.grownBy w row := ⟨h.os, h.tape, h.output, h.size, fun i hi _ => h.block i hi⟩
theorem below_only {a w : World} {g : Nat} (h : a.grownBy w (some g)) {B : Nat} (hB : B ≤ g) (hw : B ≤ a.heap.size) : Below B a w :=
  ⟨h.os, h.tape, h.output, h.size, fun k hk => h.block k (by omega) (fun e => by injection e; omega)⟩
end Go.Proofs.YtikjpniobihanaaDoor
