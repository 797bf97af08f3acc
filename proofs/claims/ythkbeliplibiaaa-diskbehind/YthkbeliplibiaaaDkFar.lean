/- The disk: a list of moves copied, and one move put behind it. -/
import Derived.Test.YthkbeliplibiaaaDkGen
import Derived.Test.YthkbeliplibiaaaSameKeep
namespace Go.Proofs.Ythkbeliplibiaaa
set_option linter.unusedVariables false
set_option linter.unusedSimpArgs false
open Go.RowKit

/-- A row of the call's own (from block base on) of moves whose data lies elsewhere. -/
def MvsFar (w : World) (base : Nat) (v : Value) (ms : List Mv) : Prop :=
  ∃ xs, w.ownsRow base 40 3 v ms.length xs ∧ MsIn w (fun b => b < w.heap.size ∧ some b ≠ v.ownBlock) ms xs
theorem MvsOwn.far {w0 w : World} {v : Value} {ms : List Mv} (h : MvsOwn w0 w v ms) : MvsFar w w0.heap.size v ms := by
  obtain ⟨xs, h1, h2⟩ := h
  exact ⟨xs, h1, h2.mono fun b hb => ⟨hb.1.2, hb.2⟩⟩
theorem MvsFar.belowS {w w' : World} {base : Nat} {v : Value} {ms : List Mv} (h : MvsFar w base v ms) (hb : Below w.heap.size w w') : MvsFar w' base v ms := by
  obtain ⟨xs, h1, h2⟩ := h
  exact ⟨xs, own_belowS h1 hb, (h2.kept fun p hp => hb.cell hp.1).mono fun b hb' => ⟨Nat.lt_of_lt_of_le hb'.1 hb.size, hb'.2⟩⟩
theorem MvsFar.form {w : World} {base : Nat} {v : Value} {ms : List Mv} (h : MvsFar w base v ms) : ∃ A c, v = .slice A ms.length c := by
  obtain ⟨xs, h1, _⟩ := h
  obtain ⟨A, c, h3, _⟩ := own_form h1
  exact ⟨A, c, h3⟩
theorem MvsFar.inn {w : World} {base : Nat} {A : Option Addr} {c n : Nat} {ms : List Mv} (h : MvsFar w base (.slice A n c) ms) : MvsIn w w.heap.size A n c ms ∧ ms.length = n := by
  obtain ⟨xs, h1, h2⟩ := h
  obtain ⟨A', c', he, hA⟩ := own_form h1
  injection he with e1 e2 e3
  subst e1 e3
  refine ⟨⟨e2.symm, ?_, fun h => (hA h).2, xs, by rw [e2]; rw [e2] at h1; exact Holds.own h1, h2.mono fun b hb => hb.1⟩, e2.symm⟩
  rcases h1.2 with ⟨hv, hn⟩ | ⟨g, cap, cur, hv, _, _, hnc, _⟩
  · injection hv with _ hv _; omega
  · injection hv with _ hv hc; omega
/-- 'append([]api.Move(nil), ms...)'. -/
theorem wpList_farCopy {w : World} {ops : Array Oper} {rest : List Oper} {o : Oper} {a : Act} {Q : Exit → Act → World → Prop} (hgd : o.guard = none) (x : Operand)
    (ho : o.op = .call { callee := .builtin .append, args := #[.const (.slice none 0 0), x], argTypes := #[22, 22] })
    (B : Nat) (A : Option Addr) (n c : Nat) (ms : List Mv) (h0 : MvsIn w B A n c ms) (hx : a.eval x = .slice A n c) (hB : B ≤ w.heap.size) (hn : n ≤ 1048576)
    (h : ∀ A' c' w', MvsFar w' w.heap.size (.slice A' n c') ms → Below w.heap.size w w' → wpList Try.prog ops Q rest (a.put o.dst (.slice A' n c')) w') :
    wpList Try.prog ops Q (o :: rest) a w := by
  obtain ⟨i0, hi0, hz0, hz1, hz2⟩ := info_parts info_move
  obtain ⟨k1, k2, k3, pc, k4, k5⟩ := h0
  refine wpList_append_nil w hgd x 22 ho 40 i0 _ 3 40 Try.underlying22 hi0 hz0 hz1 hz2 rfl (by decide) B A n c pc k4 hx k3 k5.one hn (by decide) ?_
  intro A' c' w' h1 h2 h3 h4
  refine h A' c' w' ⟨pc, by rw [k1]; exact h1, (k5.kept fun p hp => h4.cell (Nat.lt_of_lt_of_le hp hB)).mono fun b hb => ⟨?_, fun e => ?_⟩⟩ h4
  · have := h4.size; have : b < B := hb; omega
  · have := (World.ownsRow.lt h1 b e.symm).1; have : b < B := hb; omega
/-- One move, just laid, put behind such a row. -/
theorem wpList_farPut {w : World} {ops : Array Oper} {rest : List Oper} {o : Oper} {a : Act} {Q : Exit → Act → World → Prop} (hgd : o.guard = none) (s x : Operand)
    (ho : o.op = .call { callee := .builtin .append, args := #[s, x], argTypes := #[22, 22] })
    (base : Nat) (v : Value) (ms : List Mv) (m : Mv) (cs : List Value) (hs : a.eval s = v) (hown : MvsFar w base v ms) (hv : MIn w (fun b => b < w.heap.size ∧ some b ≠ v.ownBlock) m cs)
    (ca : Array Value) (hca : ca = cs.toArray) (g : Nat) (hx : a.eval x = .slice (some ⟨g, 0, none⟩) 1 1) (hg : g = w.heap.size)
    (hn : ms.length + 1 ≤ 1048576) (hB : base ≤ w.heap.size)
    (h : ∀ v' w', MvsFar w' base v' (ms ++ [m]) → Below base w w' → (∀ k, k < w.heap.size → some k ≠ v.ownBlock → w'.heap[k]? = w.heap[k]?) → wpList Try.prog ops Q rest (a.put o.dst v') w') :
    wpList Try.prog ops Q (o :: rest) a (w.alloc (.cells ca 40)) := by
  subst hca hg
  obtain ⟨i0, hi0, hz0, hz1, hz2⟩ := info_parts info_move
  obtain ⟨xs, h1, h2⟩ := hown
  have hcl := hv.len
  refine wpList_append_own_at (w.alloc (.cells cs.toArray 40)) hgd s x 22 ho base 40 i0 _ 3 40 Try.underlying22 hi0 hz0 hz1 hz2 rfl (by decide) v ms.length xs hs (h1.alloc _) ⟨w.heap.size, 0, none⟩ 1 1 cs hx (by omega) ?_ hv.one ?_ ?_ ?_ ?_
  · intro j u hu
    rw [plus_addr, Nat.zero_add, (Blk.new w 40 _).cell j]
    simpa using hu
  · unfold maxLen; omega
  · omega
  · simp; omega
  · intro v' w' k1 k2 _ k4
    have hsz : w.heap.size + 1 ≤ w'.heap.size := by have := k2.size; simpa using this
    have hblk : ∀ k, k < w.heap.size → some k ≠ v.ownBlock → w'.heap[k]? = w.heap[k]? := fun k hk hne => (k2.block k (by simp; omega) hne).trans (Below.heap_alloc w _ k hk)
    have hkeep : ∀ p : Addr, (p.block < w.heap.size ∧ some p.block ≠ v.ownBlock) → w'.cell? p = w.cell? p := fun p hp => World.cell?_of_block (hblk p.block hp.1 hp.2)
    have hmono : ∀ b, (b < w.heap.size ∧ some b ≠ v.ownBlock) → (b < w'.heap.size ∧ some b ≠ v'.ownBlock) := by
      intro b hb
      refine ⟨by have := hb.1; omega, fun e => ?_⟩
      rcases k4 with k4 | k4
      · exact hb.2 (e.trans k4)
      · rw [k4] at e; injection e with e; have := hb.1; simp at e; omega
    refine h v' w' ⟨xs ++ cs, by simpa using k1, ?_⟩ ?_ hblk
    · exact ((h2.kept hkeep).mono hmono).snoc ((hv.kept hkeep).mono hmono)
    · exact ((Below.refl base w).alloc hB _).grown k2 (by simp; omega) fun k hk => (World.ownsRow.lt h1 k hk).1
theorem dk_fall (ms : List Mv) (k : Nat) : ∃ K, K = min (plays0 ms).2.1.length ((plays0 ms).2.2 + k) ∧ (plays0 (ms ++ [⟨4, [], (k : Int)⟩])).2 = ((plays0 ms).2.1.take K, K) := by
  refine ⟨_, rfl, ?_⟩
  rw [plays0_snoc]
  have hok := (plays0_ok ms).1
  rw [mv_fall (k := min (plays0 ms).2.1.length ((plays0 ms).2.2 + k)) rfl (by show (0 : Int) ≤ k; omega) hok (by show _ = _ + min (k : Int).toNat _; omega)]
end Go.Proofs.Ythkbeliplibiaaa
