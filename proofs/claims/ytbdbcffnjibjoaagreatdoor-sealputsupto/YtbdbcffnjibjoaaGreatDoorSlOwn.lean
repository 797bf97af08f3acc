/- A value that is the call's own as a whole: each row of keys or parts lies in a block of its own. -/
import Derived.Test.YtbdbcffnjibjoaaGreatDoorBunS
namespace Go.Proofs.YtbdbcffnjibjoaaGreatDoor
set_option linter.unusedVariables false
set_option linter.unusedSimpArgs false
open Go.RowKit

mutual
/-- The five cells cs are those of the value; its rows lie in blocks of F, no two in one. -/
def VOw (w : World) (F : Nat → Prop) : JV → List Value → Prop
  | .mk k n t ks ps, cs => ∃ (kv pv : Value) (pc : List Value) (G : Nat → Prop),
      cs = [.int .i64 k, .int .i64 n, str t, kv, pv] ∧
      (-9223372036854775808 ≤ k ∧ k ≤ 9223372036854775807) ∧ (-9223372036854775808 ≤ n ∧ n ≤ 9223372036854775807) ∧
      t.length ≤ 1048576 ∧ ks.length ≤ 1048576 ∧ ps.length ≤ 1048576 ∧ (∀ s ∈ ks, s.length ≤ 1048576) ∧
      w.ownsRow 0 9 1 kv ks.length (ks.map str) ∧ w.ownsRow 0 25 5 pv ps.length pc ∧
      (∀ b, kv.ownBlock = some b → F b) ∧ (∀ b, pv.ownBlock = some b → F b) ∧
      (∀ b, G b → F b ∧ kv.ownBlock ≠ some b ∧ pv.ownBlock ≠ some b) ∧ POw w G ps pc
def POw (w : World) (G : Nat → Prop) : List JV → List Value → Prop
  | [], pc => pc = []
  | p :: r, pc => ∃ (c rest : List Value) (G1 G2 : Nat → Prop), pc = c ++ rest ∧ VOw w G1 p c ∧ POw w G2 r rest ∧ (∀ b, G1 b → G b ∧ ¬ G2 b) ∧ (∀ b, G2 b → G b)
end
mutual
theorem VOw.kept {w w' : World} : ∀ (v : JV) (F : Nat → Prop) (cs : List Value), (∀ b, F b → w'.heap[b]? = w.heap[b]?) → VOw w F v cs → VOw w' F v cs
  | .mk k n t ks ps, F, cs, hk, h => by
    unfold VOw at h ⊢
    obtain ⟨kv, pv, pc, G, h1, h2, h3, h4, h5, h6, h7, h8, h9, h10, h11, h12, h13⟩ := h
    exact ⟨kv, pv, pc, G, h1, h2, h3, h4, h5, h6, h7, sl_own_kept h8 fun g hg => hk g (h10 g hg), sl_own_kept h9 fun g hg => hk g (h11 g hg), h10, h11, h12, POw.kept ps G pc (fun b hb => hk b (h12 b hb).1) h13⟩
theorem POw.kept {w w' : World} : ∀ (ps : List JV) (G : Nat → Prop) (pc : List Value), (∀ b, G b → w'.heap[b]? = w.heap[b]?) → POw w G ps pc → POw w' G ps pc
  | [], G, pc, _, h => by unfold POw at h ⊢; exact h
  | p :: r, G, pc, hk, h => by
    unfold POw at h ⊢
    obtain ⟨c, rest, G1, G2, h1, h2, h3, h4, h5⟩ := h
    exact ⟨c, rest, G1, G2, h1, VOw.kept p G1 c (fun b hb => hk b (h4 b hb).1) h2, POw.kept r G2 rest (fun b hb => hk b (h5 b hb)) h3, h4, h5⟩
end
theorem VOw.mono {w : World} {F F' : Nat → Prop} {v : JV} {cs : List Value} (hF : ∀ b, F b → F' b) (h : VOw w F v cs) : VOw w F' v cs := by
  cases v
  unfold VOw at h ⊢
  obtain ⟨kv, pv, pc, G, h1, h2, h3, h4, h5, h6, h7, h8, h9, h10, h11, h12, h13⟩ := h
  exact ⟨kv, pv, pc, G, h1, h2, h3, h4, h5, h6, h7, h8, h9, fun b hb => hF b (h10 b hb), fun b hb => hF b (h11 b hb), fun b hb => ⟨hF b (h12 b hb).1, (h12 b hb).2⟩, h13⟩
theorem POw.mono {w : World} {G G' : Nat → Prop} {ps : List JV} {pc : List Value} (hG : ∀ b, G b → G' b) (h : POw w G ps pc) : POw w G' ps pc := by
  cases ps with
  | nil => unfold POw at h ⊢; exact h
  | cons p r =>
    unfold POw at h ⊢
    obtain ⟨c, rest, G1, G2, h1, h2, h3, h4, h5⟩ := h
    exact ⟨c, rest, G1, G2, h1, h2, h3, fun b hb => ⟨hG b (h4 b hb).1, (h4 b hb).2⟩, fun b hb => hG b (h5 b hb)⟩
mutual
theorem VOw.toV {w : World} : ∀ (v : JV) (F : Nat → Prop) (cs : List Value), VOw w F v cs → VIn w w.heap.size v cs
  | .mk k n t ks ps, F, cs, h => by
    unfold VOw at h
    obtain ⟨kv, pv, pc, G, h1, h2, h3, h4, h5, h6, h7, h8, h9, h10, h11, h12, h13⟩ := h
    obtain ⟨Ak, ck, rfl, _⟩ := own_form h8
    obtain ⟨Ap, cp, rfl, _⟩ := own_form h9
    unfold VIn
    exact ⟨Ak, ck, Ap, cp, pc, h1, h2, h3, h4, h5, h6, h7, sl_own_cap h8, sl_own_cap h9, Holds.own h8, Holds.own h9, POw.toP ps G pc h13⟩
theorem POw.toP {w : World} : ∀ (ps : List JV) (G : Nat → Prop) (pc : List Value), POw w G ps pc → PIn w w.heap.size ps pc
  | [], G, pc, h => by unfold POw at h; unfold PIn; exact h
  | p :: r, G, pc, h => by
    unfold POw at h
    obtain ⟨c, rest, G1, G2, h1, h2, h3, h4, h5⟩ := h
    unfold PIn
    exact ⟨c, rest, h1, VOw.toV p G1 c h2, POw.toP r G2 rest h3⟩
end
theorem VOw.form {w : World} {F : Nat → Prop} {v : JV} {cs : List Value} (h : VOw w F v cs) : ∃ k n t Ak nk ck Ap np cp, cs = [.int .i64 k, .int .i64 n, str t, .slice Ak nk ck, .slice Ap np cp] := (VOw.toV _ _ _ h).form
theorem VOw.len {w : World} {F : Nat → Prop} {v : JV} {cs : List Value} (h : VOw w F v cs) : cs.length = 5 := (VOw.toV _ _ _ h).len
theorem VOw.one {w : World} {F : Nat → Prop} {v : JV} {cs : List Value} (h : VOw w F v cs) : ∀ u ∈ cs, u.oneCell' = true := (VOw.toV _ _ _ h).one
theorem POw.len {w : World} : ∀ {ps : List JV} {G : Nat → Prop} {pc : List Value}, POw w G ps pc → pc.length = ps.length * 5
  | [], G, pc, h => by unfold POw at h; subst h; rfl
  | p :: r, G, pc, h => by
    unfold POw at h
    obtain ⟨c, rest, G1, G2, rfl, h2, h3, _, _⟩ := h
    have := h2.len
    have := POw.len h3
    simp; omega
theorem POw.one {w : World} : ∀ {ps : List JV} {G : Nat → Prop} {pc : List Value}, POw w G ps pc → ∀ u ∈ pc, u.oneCell' = true
  | [], G, pc, h => by unfold POw at h; subst h; simp
  | p :: r, G, pc, h => by
    unfold POw at h
    obtain ⟨c, rest, G1, G2, rfl, h2, h3, _, _⟩ := h
    intro u hu
    rcases List.mem_append.1 hu with hu | hu
    · exact h2.one u hu
    · exact POw.one h3 u hu
/-- One more value, put in at a place. -/
theorem POw.insert {w : World} {v : JV} {c : List Value} {F : Nat → Prop} (hv : VOw w F v c) : ∀ {ps : List JV} {pc : List Value} {G : Nat → Prop} (i : Nat), i ≤ ps.length → POw w G ps pc → (∀ b, F b → ¬ G b) →
    POw w (fun b => G b ∨ F b) (ps.insertIdx i v) (pc.take (i * 5) ++ c ++ pc.drop (i * 5))
  | ps, pc, G, 0, _, h, hd => by
    rw [List.insertIdx_zero]
    unfold POw
    exact ⟨c, pc, F, G, by simp, hv, h, fun b hb => ⟨.inr hb, hd b hb⟩, fun b hb => .inl hb⟩
  | [], pc, G, i + 1, hi, h, hd => by simp at hi
  | p :: r, pc, G, i + 1, hi, h, hd => by
    rw [List.insertIdx_succ_cons]
    unfold POw at h ⊢
    obtain ⟨c', rest, G1, G2, rfl, h2, h3, h4, h5⟩ := h
    have hl := h2.len
    refine ⟨c', rest.take (i * 5) ++ c ++ rest.drop (i * 5), G1, fun b => G2 b ∨ F b, ?_, h2, POw.insert hv i (by simpa using hi) h3 (fun b hb hg => hd b hb (h5 b hg)), fun b hb => ⟨.inl (h4 b hb).1, fun h => ?_⟩, fun b hb => ?_⟩
    · rw [show (i + 1) * 5 = c'.length + i * 5 by omega, List.take_length_add_append, List.drop_length_add_append]
      simp
    · rcases h with h | h
      · exact (h4 b hb).2 h
      · exact hd b h (h4 b hb).1
    · rcases hb with hb | hb
      · exact .inl (h5 b hb)
      · exact .inr hb
theorem POw.snoc {w : World} {v : JV} {c : List Value} {F G : Nat → Prop} {ps : List JV} {pc : List Value} (h : POw w G ps pc) (hv : VOw w F v c) (hd : ∀ b, F b → ¬ G b) : POw w (fun b => G b ∨ F b) (ps ++ [v]) (pc ++ c) := by
  have h1 := POw.insert hv ps.length (Nat.le_refl _) h hd
  have hl := h.len
  rw [insertIdx_parts v ps ps.length (Nat.le_refl _)] at h1
  rw [← hl] at h1
  simpa using h1
/-- A part: its cells, its own blocks, and what the row is once it has been turned. -/
theorem POw.at_ {w : World} : ∀ {ps : List JV} {pc : List Value} {G : Nat → Prop} (i : Nat) (hi : i < ps.length), POw w G ps pc →
    ∃ (c : List Value) (G1 : Nat → Prop), VOw w G1 ps[i] c ∧ (∀ b, G1 b → G b) ∧ (∀ j u, c[j]? = some u → pc[i * 5 + j]? = some u) ∧
      ∀ (w' : World) (v' : JV) (c' : List Value) (F' : Nat → Prop), (∀ b, G b → ¬ G1 b → w'.heap[b]? = w.heap[b]?) → VOw w' F' v' c' → (∀ b, F' b → G1 b ∨ ¬ G b) →
        POw w' (fun b => G b ∨ F' b) (ps.set i v') (pc.take (i * 5) ++ c' ++ pc.drop (i * 5 + 5))
  | [], pc, G, i, hi, h => by simp at hi
  | p :: r, pc, G, 0, hi, h => by
    unfold POw at h
    obtain ⟨c, rest, G1, G2, rfl, h2, h3, h4, h5⟩ := h
    have hl := h2.len
    refine ⟨c, G1, h2, fun b hb => (h4 b hb).1, fun j u hu => ?_, fun w' v' c' F' hk hv' hF => ?_⟩
    · have hj : j < c.length := (List.getElem?_eq_some_iff.1 hu).1
      rw [Nat.zero_mul, Nat.zero_add, List.getElem?_append_left hj]; exact hu
    · rw [List.set_cons_zero]
      unfold POw
      refine ⟨c', rest, F', G2, ?_, hv', POw.kept r G2 rest (fun b hb => hk b (h5 b hb) (fun h1 => (h4 b h1).2 hb)) h3, fun b hb => ⟨.inr hb, fun hg => ?_⟩, fun b hb => .inl (h5 b hb)⟩
      · simp only [Nat.zero_mul, Nat.zero_add, List.take_zero, List.nil_append]
        rw [show (5 : Nat) = c.length from hl.symm, List.drop_left]
      · rcases hF b hb with h1 | h1
        · exact (h4 b h1).2 hg
        · exact h1 (h5 b hg)
  | p :: r, pc, G, i + 1, hi, h => by
    unfold POw at h
    obtain ⟨c, rest, Ga, Gb, rfl, h2, h3, h4, h5⟩ := h
    have hl := h2.len
    obtain ⟨c1, G1, k1, k2, k3, k4⟩ := POw.at_ i (by simpa using hi) h3
    refine ⟨c1, G1, by simpa using k1, fun b hb => h5 b (k2 b hb), fun j u hu => ?_, fun w' v' c' F' hk hv' hF => ?_⟩
    · rw [List.getElem?_append_right (by omega), hl, show (i + 1) * 5 + j - 5 = i * 5 + j by omega]
      exact k3 j u hu
    · rw [List.set_cons_succ]
      unfold POw
      refine ⟨c, rest.take (i * 5) ++ c' ++ rest.drop (i * 5 + 5), Ga, fun b => Gb b ∨ F' b, ?_, VOw.kept p Ga c (fun b hb => hk b (h4 b hb).1 (fun h1 => (h4 b hb).2 (k2 b h1))) h2,
        k4 w' v' c' F' (fun b hb hn => hk b (h5 b hb) hn) hv' (fun b hb => ?_), fun b hb => ⟨.inl (h4 b hb).1, fun h => ?_⟩, fun b hb => ?_⟩
      · rw [show (i + 1) * 5 + 5 = c.length + (i * 5 + 5) by omega, show (i + 1) * 5 = c.length + i * 5 by omega, List.take_length_add_append, List.drop_length_add_append]
        simp
      · rcases hF b hb with h1 | h1
        · exact .inl h1
        · exact .inr (fun hg => h1 (h5 b hg))
      · rcases h with h | h
        · exact (h4 b hb).2 h
        · rcases hF b h with h1 | h1
          · exact (h4 b hb).2 (k2 b h1)
          · exact h1 (h4 b hb).1
      · rcases hb with hb | hb
        · exact .inl (h5 b hb)
        · exact .inr hb
/-- Only blocks of F, and new ones, have turned. -/
structure Onl (F : Nat → Prop) (w w' : World) : Prop where
  os : w'.os = w.os
  tape : w'.tape = w.tape
  output : w'.output = w.output
  size : w.heap.size ≤ w'.heap.size
  block : ∀ b, b < w.heap.size → ¬ F b → w'.heap[b]? = w.heap[b]?
theorem Onl.below {F : Nat → Prop} {w w' : World} {B : Nat} (h : Onl F w w') (hB : B ≤ w.heap.size) (hF : ∀ b, F b → B ≤ b) : Below B w w' :=
  ⟨h.os, h.tape, h.output, h.size, fun k hk => h.block k (by omega) (fun hf => by have := hF k hf; omega)⟩
theorem Onl.trans {F F' : Nat → Prop} {a b c : World} (h : Onl F a b) (k : Onl F' b c) (hF : ∀ x, F' x → F x ∨ a.heap.size ≤ x) : Onl F a c :=
  ⟨k.os.trans h.os, k.tape.trans h.tape, k.output.trans h.output, Nat.le_trans h.size k.size, fun x hx hn => (k.block x (Nat.lt_of_lt_of_le hx h.size) (fun hf => by
    rcases hF x hf with h1 | h1
    · exact hn h1
    · omega)).trans (h.block x hx hn)⟩
theorem Below.onl {F : Nat → Prop} {w w' : World} (h : Below w.heap.size w w') : Onl F w w' := ⟨h.os, h.tape, h.output, h.size, fun b hb _ => h.block b hb⟩
end Go.Proofs.YtbdbcffnjibjoaaGreatDoor
