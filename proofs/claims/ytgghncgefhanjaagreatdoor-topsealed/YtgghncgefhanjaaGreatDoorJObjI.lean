/- Keys and parts of the call's own, one more put in at a place. -/
import Derived.Test.YtgghncgefhanjaaGreatDoorJObjM
import Derived.Test.YtgghncgefhanjaaGreatDoorBunK
import Derived.Test.YtgghncgefhanjaaGreatDoorJBin
namespace Go.Proofs.YtgghncgefhanjaaGreatDoor
set_option linter.unusedVariables false
set_option linter.unusedSimpArgs false
open Go.RowKit

theorem PInS.insert {w : World} {S : Nat → Prop} {v : JV} {c : List Value} (hv : VInS w S v c) : ∀ {ps : List JV} {pc : List Value} (i : Nat), i ≤ ps.length → PInS w S ps pc → PInS w S (ps.insertIdx i v) (pc.take (i * 5) ++ c ++ pc.drop (i * 5))
  | ps, pc, 0, _, h => by
    rw [List.insertIdx_zero]
    unfold PInS
    exact ⟨c, pc, by simp, hv, h⟩
  | [], pc, i + 1, hi, h => by simp at hi
  | p :: r, pc, i + 1, hi, h => by
    rw [List.insertIdx_succ_cons]
    unfold PInS at h ⊢
    obtain ⟨c', rest, rfl, h2, h3⟩ := h
    have hl := h2.len
    refine ⟨c', rest.take (i * 5) ++ c ++ rest.drop (i * 5), ?_, h2, PInS.insert hv i (by simpa using hi) h3⟩
    rw [show (i + 1) * 5 = c'.length + i * 5 by omega, List.take_length_add_append, List.drop_length_add_append]
    simp

/-- The rows, and a value beside them that is to be put in. -/
def ObjAnd (w0 w : World) (kv pv : Value) (ks : List (List UInt8)) (ps : List JV) (v : JV) (cs : List Value) : Prop :=
  ObjOwn w0 w kv pv ks ps ∧ VInS w (besides w0 w kv pv) v cs
section
variable {w0 w w' : World} {kv pv : Value} {ks : List (List UInt8)} {ps : List JV} {v : JV} {cs : List Value}
theorem ObjAnd.below (h : ObjAnd w0 w kv pv ks ps v cs) (hb : Below w.heap.size w w') : ObjAnd w0 w' kv pv ks ps v cs :=
  ⟨h.1.below hb, VInS.mono (fun b hs => ⟨⟨hs.1.1, Nat.lt_of_lt_of_le hs.1.2 hb.size⟩, hs.2⟩) _ _ (VInS.kept (fun p hp => hb.cell hp.1.2) _ _ h.2)⟩
theorem ObjAnd.alloc (h : ObjAnd w0 w kv pv ks ps v cs) (o : Obj) : ObjAnd w0 (w.alloc o) kv pv ks ps v cs :=
  h.below ((Below.refl _ _).alloc (Nat.le_refl _) o)
theorem ObjAnd.drewN (h : ObjAnd w0 w kv pv ks ps v cs) (n : Nat) : ObjAnd w0 (w.drewN n) kv pv ks ps v cs := h.below (below_drewN (Below.refl _ _) n)
theorem ObjOwn.drewN (h : ObjOwn w0 w kv pv ks ps) (n : Nat) : ObjOwn w0 (w.drewN n) kv pv ks ps := h.below (below_drewN (Below.refl _ _) n)
end
theorem below_grown {w0 w w' : World} {e size n : Nat} {v : Value} {xs : List Value} (h : w.ownsRow w0.heap.size e size v n xs) (hg : w.grownBy w' v.ownBlock) (hB : w0.heap.size ≤ w.heap.size) : Below w0.heap.size w w' :=
  (Below.refl w0.heap.size w).grown hg hB fun k hk => (World.ownsRow.lt h k hk).1

/-- slices.Insert of a key. -/
theorem insKey (w0 w : World) (kv pv : Value) (ks : List (List UInt8)) (ps : List JV) (v : JV) (cs : List Value) (key : List UInt8) (i vb : Nat) (h : ObjAnd w0 w kv pv ks ps v cs) (hi : i ≤ ks.length) (hn : ks.length + 1 ≤ 1048576)
    (hB : w0.heap.size ≤ w.heap.size) (hv : Blk w vb 9 #[str key]) (hvb : some vb ≠ kv.ownBlock) :
    Calls Tryz.prog 56 #[kv, .int .i64 i, .slice (some ⟨vb, 0, none⟩) 1 1] w fun e w' =>
      ∃ kv', e = .returned kv' ∧ ObjAnd w0 w' kv' pv (ks.insertIdx i key) ps v cs ∧ Below w0.heap.size w w' ∧ w.grownBy w' kv.ownBlock := by
  obtain ⟨⟨hk1, xs, h1, h2⟩, h3⟩ := h
  have hap := own_apart h1 hk1 (by decide)
  refine (insS_own w0.heap.size ks.length i vb kv (ks.map str) [str key] w hk1 hi hn hB hv hvb rfl (str_one ks) (by simp; rfl)).mono ?_
  rintro e w' ⟨kv', rfl, k1, k2, k4⟩
  have hkeep : ∀ p : Addr, besides w0 w kv pv p.block → w'.cell? p = w.cell? p := fun p hp => World.cell?_of_block (k2.block p.block hp.1.2 hp.2.2)
  have hmono : ∀ b, besides w0 w kv pv b → besides w0 w' kv' pv b := by
    intro b hb
    refine ⟨⟨hb.1.1, Nat.lt_of_lt_of_le hb.1.2 k2.size⟩, hb.2.1, fun e => ?_⟩
    rcases k4 with k4 | k4
    · exact hb.2.2 (e.trans k4)
    · rw [k4] at e; injection e with e; have := hb.1.2; omega
  have e1 : (ks.insertIdx i key).map str = (ks.map str).take i ++ [str key] ++ (ks.map str).drop i := by
    rw [insertIdx_parts key ks i hi]; simp [List.map_take, List.map_drop]
  have e2 : (ks.insertIdx i key).length = ks.length + 1 := List.length_insertIdx_of_le_length hi _
  refine ⟨kv', rfl, ⟨⟨by rw [e1, e2]; exact k1, xs, World.ownsRow.kept h1 k2 hap, PInS.mono hmono _ _ (PInS.kept hkeep _ _ h2)⟩, VInS.mono hmono _ _ (VInS.kept hkeep _ _ h3)⟩, below_grown hk1 k2 hB, k2⟩
/-- slices.Insert of a part. -/
theorem insPart (w0 w : World) (kv pv : Value) (ks : List (List UInt8)) (ps : List JV) (v : JV) (cs : List Value) (i vb : Nat) (h : ObjAnd w0 w kv pv ks ps v cs) (hi : i ≤ ps.length) (hn : ps.length + 1 ≤ 1048576)
    (hB : w0.heap.size ≤ w.heap.size) (hv : Blk w vb 25 cs.toArray) (hvb : some vb ≠ pv.ownBlock) :
    Calls Tryz.prog 58 #[pv, .int .i64 i, .slice (some ⟨vb, 0, none⟩) 1 1] w fun e w' =>
      ∃ pv', e = .returned pv' ∧ ObjOwn w0 w' kv pv' ks (ps.insertIdx i v) ∧ Below w0.heap.size w w' := by
  obtain ⟨⟨hk1, xs, h1, h2⟩, h3⟩ := h
  have hap := own_apart hk1 h1 (by decide)
  have h1v : ∀ u ∈ cs, u.oneCell' = true := by
    intro u hu
    obtain ⟨k, n, t, Ak, nk, ck, Ap, np, cp, rfl⟩ := h3.form
    simp at hu
    rcases hu with rfl | rfl | rfl | rfl | rfl <;> rfl
  refine (insV_own w0.heap.size ps.length i vb pv xs cs w h1 hi hn hB hv hvb h3.len h2.one h1v).mono ?_
  rintro e w' ⟨pv', rfl, k1, k2, k4⟩
  have hkeep : ∀ p : Addr, besides w0 w kv pv p.block → w'.cell? p = w.cell? p := fun p hp => World.cell?_of_block (k2.block p.block hp.1.2 hp.2.1)
  have hmono : ∀ b, besides w0 w kv pv b → besides w0 w' kv pv' b := by
    intro b hb
    refine ⟨⟨hb.1.1, Nat.lt_of_lt_of_le hb.1.2 k2.size⟩, fun e => ?_, hb.2.2⟩
    rcases k4 with k4 | k4
    · exact hb.2.1 (e.trans k4)
    · rw [k4] at e; injection e with e; have := hb.1.2; omega
  have e2 : (ps.insertIdx i v).length = ps.length + 1 := List.length_insertIdx_of_le_length hi _
  refine ⟨pv', rfl, ⟨World.ownsRow.kept hk1 k2 hap, _, by rw [e2]; exact k1, ?_⟩, below_grown h1 k2 hB⟩
  exact PInS.insert (VInS.mono hmono _ _ (VInS.kept hkeep _ _ h3)) i hi (PInS.mono hmono _ _ (PInS.kept hkeep _ _ h2))
end Go.Proofs.YtgghncgefhanjaaGreatDoor
