/- Keys and parts of the call's own, side by side. -/
import Derived.Test.YthkbeliplibiaaaGreatDoorJArr
namespace Go.Proofs.YthkbeliplibiaaaGreatDoor
set_option linter.unusedVariables false
set_option linter.unusedSimpArgs false
open Go.RowKit

theorem info_strg : (Tryz.prog.info? 9).map (fun i => (i.zero, i.size, i.bytes)) = some (some (.string ⟨#[]⟩), 1, 16) := by kernel_rfl
theorem str_one (l : List (List UInt8)) : ∀ u ∈ l.map str, u.oneCell' = true := by
  intro u hu
  obtain ⟨b, _, rfl⟩ := List.mem_map.1 hu
  rfl

def besides (w0 w : World) (kv pv : Value) (b : Nat) : Prop := newS w0 w b ∧ some b ≠ pv.ownBlock ∧ some b ≠ kv.ownBlock
/-- The keys ks at kv and the parts ps at pv, both of the call's own since w0; no part lies in either row. -/
def ObjOwn (w0 w : World) (kv pv : Value) (ks : List (List UInt8)) (ps : List JV) : Prop :=
  w.ownsRow w0.heap.size 9 1 kv ks.length (ks.map str) ∧ ∃ xs, w.ownsRow w0.heap.size 25 5 pv ps.length xs ∧ PInS w (besides w0 w kv pv) ps xs
theorem ObjOwn.nil (w0 w : World) : ObjOwn w0 w (.slice none 0 0) (.slice none 0 0) [] [] := ⟨World.ownsRow_nil _ _ _ _, [], World.ownsRow_nil _ _ _ _, by unfold PInS; rfl⟩
theorem own_apart {w : World} {B B' e e' size size' n n' : Nat} {v v' : Value} {xs xs' : List Value} (h : w.ownsRow B e size v n xs) (h' : w.ownsRow B' e' size' v' n' xs') (hne : e ≠ e') : v.ownBlock = none ∨ v.ownBlock ≠ v'.ownBlock := by
  cases hv : v.ownBlock with
  | none => exact .inl rfl
  | some g =>
    right
    intro e1
    obtain ⟨c, fz, h1⟩ := row_of h g hv
    obtain ⟨c', fz', h2⟩ := row_of h' g e1.symm
    rw [h1] at h2
    injection h2 with h2
    injection h2 with _ h3
    exact hne h3
theorem own_below {w w' : World} {B e size n : Nat} {v : Value} {xs : List Value} (h : w.ownsRow B e size v n xs) (hb : Below w.heap.size w w') : w'.ownsRow B e size v n xs := by
  refine World.ownsRow.kept h (only_below hb none) ?_
  cases hv : v.ownBlock with
  | none => exact .inl rfl
  | some g => exact .inr (by simp)
theorem own_only {w w' : World} {B e size n g : Nat} {v : Value} {xs : List Value} (h : w.ownsRow B e size v n xs) (hg : w.grownBy w' (some g)) (hgB : g < B) : w'.ownsRow B e size v n xs := by
  refine World.ownsRow.kept h hg ?_
  cases hv : v.ownBlock with
  | none => exact .inl rfl
  | some k => exact .inr (fun e => by injection e with e; have := (World.ownsRow.lt h k hv).1; omega)
theorem ObjOwn.below {w0 w w' : World} {kv pv : Value} {ks : List (List UInt8)} {ps : List JV} (h : ObjOwn w0 w kv pv ks ps) (hb : Below w.heap.size w w') : ObjOwn w0 w' kv pv ks ps := by
  obtain ⟨h1, xs, h2, h3⟩ := h
  refine ⟨own_below h1 hb, xs, own_below h2 hb, PInS.mono (fun b hs => ⟨⟨hs.1.1, Nat.lt_of_lt_of_le hs.1.2 hb.size⟩, hs.2⟩) _ _ (PInS.kept (fun p hp => hb.cell hp.1.2) _ _ h3)⟩
theorem ObjOwn.only {w0 w w' : World} {kv pv : Value} {ks : List (List UInt8)} {ps : List JV} {g : Nat} (h : ObjOwn w0 w kv pv ks ps) (hg : w.grownBy w' (some g)) (hgB : g < w0.heap.size) : ObjOwn w0 w' kv pv ks ps := by
  obtain ⟨h1, xs, h2, h3⟩ := h
  refine ⟨own_only h1 hg hgB, xs, own_only h2 hg hgB, PInS.mono (fun b hs => ⟨⟨hs.1.1, Nat.lt_of_lt_of_le hs.1.2 hg.size⟩, hs.2⟩) _ _ (PInS.kept (fun p hp => ?_) _ _ h3)⟩
  exact World.cell?_of_block (hg.block p.block hp.1.2 (fun e => by injection e with e; have := hp.1.1; omega))
/-- What is new since a world in which both lie is beside both. -/
theorem ObjOwn.beside {w0 w1 w2 : World} {kv pv : Value} {ks : List (List UInt8)} {ps : List JV} (h : ObjOwn w0 w1 kv pv ks ps) (hsz : w0.heap.size ≤ w1.heap.size) : ∀ b, newS w1 w2 b → besides w0 w2 kv pv b := by
  intro b hb
  obtain ⟨h1, xs, h2, _⟩ := h
  refine ⟨⟨Nat.le_trans hsz hb.1, hb.2⟩, fun e => ?_, fun e => ?_⟩
  · have := (World.ownsRow.lt h2 b e.symm).2; have := hb.1; omega
  · have := (World.ownsRow.lt h1 b e.symm).2; have := hb.1; omega
theorem ObjOwn.forms {w0 w : World} {kv pv : Value} {ks : List (List UInt8)} {ps : List JV} (h : ObjOwn w0 w kv pv ks ps) : (∃ A c, kv = .slice A ks.length c) ∧ ∃ A c, pv = .slice A ps.length c := by
  obtain ⟨h1, xs, h2, _⟩ := h
  obtain ⟨A, c, e, _⟩ := own_form h1
  obtain ⟨A', c', e', _⟩ := own_form h2
  exact ⟨⟨A, c, e⟩, A', c', e'⟩
/-- The object that has been built. -/
theorem ObjOwn.value {w0 w : World} {A A' : Option Addr} {c c' : Nat} {ks : List (List UInt8)} {ps : List JV} (k : Int) (hk : k = 6 ∨ k = 7) (h : ObjOwn w0 w (.slice A ks.length c) (.slice A' ps.length c') ks ps) (hk1 : ks.length ≤ 1048576) (hp1 : ps.length ≤ 1048576) (hs : ∀ s ∈ ks, s.length ≤ 1048576) :
    VInS w (newS w0 w) (.mk k 0 [] ks ps) [.int .i64 k, .int .i64 0, str [], .slice A ks.length c, .slice A' ps.length c'] := by
  obtain ⟨h1, xs, h2, h3⟩ := h
  unfold VInS
  exact ⟨A, c, A', c', xs, rfl, by omega, by omega, by simp, hk1, hp1, hs, own_cap h1, own_cap h2, HoldsS.own h1, HoldsS.own h2, PInS.mono (fun b hb => hb.1) _ _ h3⟩

/-- An append of one part. -/
theorem wpList_putO {w : World} {ops : Array Oper} {rest : List Oper} {o : Oper} {a : Act} {Q : Exit → Act → World → Prop} (hgd : o.guard = none) (s x : Operand)
    (ho : o.op = .call { callee := .builtin .append, args := #[s, x], argTypes := #[23, 23] })
    (w0 : World) (kv pv : Value) (ks : List (List UInt8)) (ps : List JV) (jv : JV) (cs : List Value) (hs : a.eval s = pv) (hown : ObjOwn w0 w kv pv ks ps) (hv : VInS w (besides w0 w kv pv) jv cs)
    (ca : Array Value) (hca : ca = cs.toArray) (g : Nat) (hx : a.eval x = .slice (some ⟨g, 0, none⟩) 1 1) (hg : g = w.heap.size)
    (hn : ps.length + 1 ≤ 1048576) (hB : w0.heap.size ≤ w.heap.size)
    (h : ∀ v' w', ObjOwn w0 w' kv v' ks (ps ++ [jv]) → Below w0.heap.size w w' → wpList Tryz.prog ops Q rest (a.put o.dst v') w') :
    wpList Tryz.prog ops Q (o :: rest) a (w.alloc (.cells ca 25)) := by
  subst hca hg
  obtain ⟨i0, hi0, hz0, hz1, hz2⟩ := info_parts info_val
  obtain ⟨hk1, xs, h1, h2⟩ := hown
  have hcl := hv.len
  have hap := own_apart hk1 h1 (by decide)
  refine wpList_append_own_at (w.alloc (.cells cs.toArray 25)) hgd s x 23 ho w0.heap.size 25 i0 _ 5 80 Tryz.underlying23 hi0 hz0 hz1 hz2 rfl (by decide) pv ps.length xs hs (h1.alloc _) ⟨w.heap.size, 0, none⟩ 1 1 cs hx (by omega) ?_ ?_ ?_ ?_ ?_ ?_
  · intro j u hu
    rw [plus_addr, Nat.zero_add, (Blk.new w 25 _).cell j]
    simpa using hu
  · intro u hu
    obtain ⟨k, n, t, Ak, nk, ck, Ap, np, cp, rfl⟩ := hv.form
    simp at hu
    rcases hu with rfl | rfl | rfl | rfl | rfl <;> rfl
  · unfold maxLen; omega
  · omega
  · simp; omega
  · intro v' w' k1 k2 _ k4
    have hsz : w.heap.size + 1 ≤ w'.heap.size := by have := k2.size; simpa using this
    have hkeep : ∀ p : Addr, besides w0 w kv pv p.block → w'.cell? p = w.cell? p := by
      intro p hp
      have e1 : w'.cell? p = (w.alloc (.cells cs.toArray 25)).cell? p := World.cell?_of_block (k2.block p.block (by simp; have := hp.1.2; omega) hp.2.1)
      rw [e1, World.cell?_alloc_lt _ _ p hp.1.2]
    have hmono : ∀ b, besides w0 w kv pv b → besides w0 w' kv v' b := by
      intro b hb
      refine ⟨⟨hb.1.1, by have := hb.1.2; omega⟩, fun e => ?_, hb.2.2⟩
      rcases k4 with k4 | k4
      · exact hb.2.1 (e.trans k4)
      · rw [k4] at e; injection e with e; have := hb.1.2; simp at e; omega
    refine h v' w' ⟨World.ownsRow.kept (hk1.alloc _) k2 hap, xs ++ cs, by simpa using k1, ?_⟩ ?_
    · exact (PInS.mono hmono _ _ (PInS.kept hkeep _ _ h2)).snoc (VInS.mono hmono _ _ (VInS.kept hkeep _ _ hv))
    · exact ((Below.refl w0.heap.size w).alloc hB _).grown k2 (by simp; omega) fun k hk => (World.ownsRow.lt h1 k hk).1

/-- An append of one key, as a step of a region that draws. -/
theorem step_putK {W : World} {ops : Array Oper} {o : Oper} {a : Act} {K : Act → World → Prop} {Q : Exit → Act → World → Prop} {E : Prop} (hgd : o.guard = none) (s x : Operand)
    (ho : o.op = .call { callee := .builtin .append, args := #[s, x], argTypes := #[22, 22] })
    (w0 : World) (kv pv : Value) (ks : List (List UInt8)) (ps : List JV) (key : List UInt8) (hs : a.eval s = kv) (hown : ObjOwn w0 W kv pv ks ps) (ad : Addr) (c : Nat) (hx : a.eval x = .slice (some ad) 1 c)
    (hc : W.cell? (ad.add 0) = some (str key))
    (hn : ks.length + 1 ≤ 1048576) (hB : w0.heap.size ≤ W.heap.size)
    (h : ∀ v' w', ObjOwn w0 w' v' pv (ks ++ [key]) ps → Below w0.heap.size W w' → K (a.put o.dst v') w') :
    if Region.wanted o (yielded ops a.tmps) = true then Oper.wp Tryz.prog o a W K Q else E := by
  have hw : Region.wanted o (yielded ops a.tmps) = true := by simp [Region.wanted, hgd]
  rw [if_pos hw]
  obtain ⟨i0, hi0, hz0, hz1, hz2⟩ := info_parts info_strg
  obtain ⟨hk1, xs, h1, h2⟩ := hown
  have hap := own_apart h1 hk1 (by decide)
  obtain ⟨v', w', hrun, k1, k2, _, k4⟩ := run_append_own_at (P := Tryz.prog) W w0.heap.size 22 o.type 9 i0 _ 1 16 Tryz.underlying22 hi0 hz0 hz1 hz2 rfl (by decide) kv ks.length _ hk1 ad 1 c [str key] rfl
    (fun j u hu => by
      match j, hu with
      | 0, hu => simp at hu; subst hu; exact hc
      | j + 1, hu => simp at hu) (by simp; rfl) (by unfold maxLen; omega) (by omega) hB
  unfold Oper.wp execOp
  simp only [ho, resolve, invoke, builtin, Sem.run_bind, Sem.run_pure, Result.andThen_ok, List.map_toArray, List.map_cons, List.map_nil, hs, hx, hrun]
  have hkeep : ∀ p : Addr, besides w0 W kv pv p.block → w'.cell? p = W.cell? p := fun p hp => World.cell?_of_block (k2.block p.block hp.1.2 hp.2.2)
  have hmono : ∀ b, besides w0 W kv pv b → besides w0 w' v' pv b := by
    intro b hb
    refine ⟨⟨hb.1.1, Nat.lt_of_lt_of_le hb.1.2 k2.size⟩, hb.2.1, fun e => ?_⟩
    rcases k4 with k4 | k4
    · exact hb.2.2 (e.trans k4)
    · rw [k4] at e; injection e with e; have := hb.1.2; omega
  refine h v' w' ⟨by simpa using k1, xs, World.ownsRow.kept h1 k2 hap, PInS.mono hmono _ _ (PInS.kept hkeep _ _ h2)⟩ ?_
  exact (Below.refl w0.heap.size W).grown k2 hB fun k hk => (World.ownsRow.lt hk1 k hk).1
end Go.Proofs.YthkbeliplibiaaaGreatDoor
