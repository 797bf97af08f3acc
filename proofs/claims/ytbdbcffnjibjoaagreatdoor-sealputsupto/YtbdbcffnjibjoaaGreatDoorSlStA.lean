/- Words for seal.store: a value taken apart, one of its rows turned. -/
import Derived.Test.YtbdbcffnjibjoaaGreatDoorSlClone
import Derived.Test.YtbdbcffnjibjoaaGreatDoorBunK
import Derived.Test.YtbdbcffnjibjoaaGreatDoorJBin
namespace Go.Proofs.YtbdbcffnjibjoaaGreatDoor
set_option linter.unusedVariables false
set_option linter.unusedSimpArgs false
open Go.RowKit
attribute [local go_sem high] str_mk
def StorePost (v' : JV) (F : Nat → Prop) (w : World) (e : Ending) (w' : World) : Prop :=
  ∃ cs' F', e = .returned (.agg cs'.toArray) ∧ VOw w' F' v' cs' ∧ (∀ b, F' b → (F b ∨ w.heap.size ≤ b) ∧ b < w'.heap.size) ∧ Onl F w w'
/-- The value in the box bv, taken apart: its keys and parts, where one part is to be turned. -/
structure StM (k n : Int) (t : List UInt8) (ks' : List (List UInt8)) (ps' : List JV) (bv : Nat) (F : Nat → Prop) (W0 wx : World) (kv pv : Value) (xs : List Value) (G : Nat → Prop) : Prop where
  box : Blk wx bv 25 #[.int .i64 k, .int .i64 n, str t, kv, pv]
  keys : wx.ownsRow 0 9 1 kv ks'.length (ks'.map str)
  parts : wx.ownsRow 0 25 5 pv ps'.length xs
  all : POw wx G ps' xs
  fk : ∀ b, kv.ownBlock = some b → F b ∨ W0.heap.size ≤ b
  fp : ∀ b, pv.ownBlock = some b → F b ∨ W0.heap.size ≤ b
  fg : ∀ b, G b → (F b ∨ W0.heap.size ≤ b) ∧ b < wx.heap.size ∧ kv.ownBlock ≠ some b ∧ pv.ownBlock ≠ some b
  onl : Onl (fun b => F b ∨ b = bv) W0 wx
theorem StM.same {k n : Int} {t : List UInt8} {ks : List (List UInt8)} {ps : List JV} {bv : Nat} {F : Nat → Prop} {W0 w w' : World} {kv pv : Value} {xs : List Value} {G : Nat → Prop} (h : StM k n t ks ps bv F W0 w kv pv xs G) (hb : Below w.heap.size w w') : StM k n t ks ps bv F W0 w' kv pv xs G :=
  ⟨h.box.below hb h.box.lt, sl_own_below h.keys hb, sl_own_below h.parts hb, POw.kept _ _ _ (fun b hG => hb.block b (h.fg b hG).2.1) h.all, h.fk, h.fp, fun b hG => ⟨(h.fg b hG).1, Nat.lt_of_lt_of_le (h.fg b hG).2.1 hb.size, (h.fg b hG).2.2⟩,
   h.onl.trans (Below.onl (F := fun _ => False) hb) (fun x hx => hx.elim)⟩
/-- The keys' row has been turned, and laid into the box. -/
theorem StM.insK {k n : Int} {t : List UInt8} {ks ks' : List (List UInt8)} {ps : List JV} {bv : Nat} {F : Nat → Prop} {W0 w w' : World} {kv pv kv' : Value} {xs : List Value} {G : Nat → Prop} (h : StM k n t ks ps bv F W0 w kv pv xs G) (hbF : ¬ F bv) (hbW : bv < W0.heap.size)
    (hg : w.grownBy w' kv.ownBlock) (hown : w'.ownsRow 0 9 1 kv' ks'.length (ks'.map str)) (hat : kv'.ownBlock = kv.ownBlock ∨ kv'.ownBlock = some w.heap.size) : StM k n t ks' ps bv F W0 (w'.setCell ⟨bv, 3, none⟩ kv') kv' pv xs G := by
  have hkb : ∀ b, kv.ownBlock = some b → b ≠ bv := fun b hb e => by
    subst e
    rcases h.fk b hb with h1 | h1
    · exact hbF h1
    · omega
  have hpb : ∀ b, pv.ownBlock = some b → b ≠ bv := fun b hb e => by
    subst e
    rcases h.fp b hb with h1 | h1
    · exact hbF h1
    · omega
  have hW : W0.heap.size ≤ w.heap.size := h.onl.size
  have hkeep : ∀ b, b < w.heap.size → b ≠ bv → kv.ownBlock ≠ some b → (w'.setCell ⟨bv, 3, none⟩ kv').heap[b]? = w.heap[b]? := fun b hb hne hk => by
    rw [Below.heap_setCell _ _ _ _ hne, hg.block b hb (fun e => hk e.symm)]
  have hat' : ∀ b, kv'.ownBlock = some b → kv.ownBlock = some b ∨ b = w.heap.size := fun b hb => by
    rcases hat with e | e
    · exact .inl (e ▸ hb)
    · rw [e] at hb; injection hb with hb; exact .inr hb.symm
  have hszs : (w'.setCell ⟨bv, 3, none⟩ kv').heap.size = w'.heap.size := by simp [World.setCell]
  refine ⟨?_, ?_, ?_, ?_, ?_, h.fp, ?_, ?_⟩
  · exact (h.box.grown hg (fun e => hkb bv e.symm rfl)).set_ 3 kv'
  · exact sl_own_kept hown fun b hb => Below.heap_setCell _ _ _ _ (by
      show b ≠ bv
      rcases hat' b hb with h1 | h1
      · exact hkb b h1
      · omega)
  · refine sl_own_kept h.parts fun b hb => hkeep b (World.ownsRow.lt h.parts b hb).2 (hpb b hb) (fun e => ?_)
    rcases sl_apart h.keys h.parts (by decide) with h1 | h1
    · rw [h1] at e; cases e
    · exact h1 (e.trans hb.symm)
  · exact POw.kept _ _ _ (fun b hG => hkeep b (h.fg b hG).2.1 (fun e => by
      subst e
      rcases (h.fg b hG).1 with h1 | h1
      · exact hbF h1
      · omega) (h.fg b hG).2.2.1) h.all
  · intro b hb
    rcases hat' b hb with h1 | h1
    · exact h.fk b h1
    · exact .inr (by omega)
  · intro b hG
    have h0 := h.fg b hG
    refine ⟨h0.1, by have := hg.size; omega, fun e => ?_, h0.2.2.2⟩
    rcases hat' b e with h1 | h1
    · exact h0.2.2.1 h1
    · omega
  · refine ⟨hg.os.trans h.onl.os, hg.tape.trans h.onl.tape, hg.output.trans h.onl.output, by have := hg.size; omega, fun b hb hn => ?_⟩
    rw [hkeep b (by omega) (fun e => hn (.inr e)) (fun e => by
      rcases h.fk b e with h1 | h1
      · exact hn (.inl h1)
      · omega)]
    exact h.onl.block b hb hn
/-- The parts' row has been turned, and laid into the box. -/
theorem StM.insP {k n : Int} {t : List UInt8} {ks : List (List UInt8)} {ps ps' : List JV} {bv : Nat} {F : Nat → Prop} {W0 w w' : World} {kv pv pv' : Value} {xs xs' : List Value} {G : Nat → Prop} (h : StM k n t ks ps bv F W0 w kv pv xs G) (hbF : ¬ F bv) (hbW : bv < W0.heap.size)
    (hg : w.grownBy w' pv.ownBlock) (hown : w'.ownsRow 0 25 5 pv' ps'.length xs') (hat : pv'.ownBlock = pv.ownBlock ∨ pv'.ownBlock = some w.heap.size) (hall : ∀ W, POw W G ps xs → POw W G ps' xs') : StM k n t ks ps' bv F W0 (w'.setCell ⟨bv, 4, none⟩ pv') kv pv' xs' G := by
  have hkb : ∀ b, kv.ownBlock = some b → b ≠ bv := fun b hb e => by
    subst e
    rcases h.fk b hb with h1 | h1
    · exact hbF h1
    · omega
  have hpb : ∀ b, pv.ownBlock = some b → b ≠ bv := fun b hb e => by
    subst e
    rcases h.fp b hb with h1 | h1
    · exact hbF h1
    · omega
  have hW : W0.heap.size ≤ w.heap.size := h.onl.size
  have hkeep : ∀ b, b < w.heap.size → b ≠ bv → pv.ownBlock ≠ some b → (w'.setCell ⟨bv, 4, none⟩ pv').heap[b]? = w.heap[b]? := fun b hb hne hk => by
    rw [Below.heap_setCell _ _ _ _ hne, hg.block b hb (fun e => hk e.symm)]
  have hat' : ∀ b, pv'.ownBlock = some b → pv.ownBlock = some b ∨ b = w.heap.size := fun b hb => by
    rcases hat with e | e
    · exact .inl (e ▸ hb)
    · rw [e] at hb; injection hb with hb; exact .inr hb.symm
  have hszs : (w'.setCell ⟨bv, 4, none⟩ pv').heap.size = w'.heap.size := by simp [World.setCell]
  refine ⟨?_, ?_, ?_, ?_, h.fk, ?_, ?_, ?_⟩
  · exact (h.box.grown hg (fun e => hpb bv e.symm rfl)).set_ 4 pv'
  · refine sl_own_kept h.keys fun b hb => hkeep b (World.ownsRow.lt h.keys b hb).2 (hkb b hb) (fun e => ?_)
    rcases sl_apart h.keys h.parts (by decide) with h1 | h1
    · rw [h1] at hb; cases hb
    · exact h1 (hb.trans e.symm)
  · exact sl_own_kept hown fun b hb => Below.heap_setCell _ _ _ _ (by
      show b ≠ bv
      rcases hat' b hb with h1 | h1
      · exact hpb b h1
      · omega)
  · exact hall _ (POw.kept _ _ _ (fun b hG => hkeep b (h.fg b hG).2.1 (fun e => by
      subst e
      rcases (h.fg b hG).1 with h1 | h1
      · exact hbF h1
      · omega) (h.fg b hG).2.2.2) h.all)
  · intro b hb
    rcases hat' b hb with h1 | h1
    · exact h.fp b h1
    · exact .inr (by omega)
  · intro b hG
    have h0 := h.fg b hG
    refine ⟨h0.1, by have := hg.size; omega, h0.2.2.1, fun e => ?_⟩
    rcases hat' b e with h1 | h1
    · exact h0.2.2.2 h1
    · omega
  · refine ⟨hg.os.trans h.onl.os, hg.tape.trans h.onl.tape, hg.output.trans h.onl.output, by have := hg.size; omega, fun b hb hn => ?_⟩
    rw [hkeep b (by omega) (fun e => hn (.inr e)) (fun e => by
      rcases h.fp b e with h1 | h1
      · exact hn (.inl h1)
      · omega)]
    exact h.onl.block b hb hn
theorem POw.insEmpty {W : World} {G : Nat → Prop} {ps : List JV} {xs : List Value} (i : Nat) (hi : i ≤ ps.length) (h : POw W G ps xs) : POw W G (ps.insertIdx i (.mk 7 0 [] [] [])) (xs.take (i * 5) ++ [.int .i64 7, .int .i64 0, str [], .slice none 0 0, .slice none 0 0] ++ xs.drop (i * 5)) := by
  have e0 : VOw W (fun _ => False) (.mk 7 0 [] [] []) [.int .i64 7, .int .i64 0, str [], .slice none 0 0, .slice none 0 0] := by
    unfold VOw
    exact ⟨_, _, [], fun _ => False, rfl, by omega, by omega, by simp, by simp, by simp, by simp, World.ownsRow_nil _ _ _ _, World.ownsRow_nil _ _ _ _, by simp [Value.ownBlock], by simp [Value.ownBlock], fun b h => h.elim, by unfold POw; rfl⟩
  exact POw.mono (fun b hb => hb.elim id (fun h => h.elim)) (POw.insert e0 i hi h (fun b h => h.elim))
theorem set5_list {α : Type} (xs : List α) (m : Nat) (h : m + 5 ≤ xs.length) (b0 b1 b2 b3 b4 : α) : ((((xs.set m b0).set (m + 1) b1).set (m + 2) b2).set (m + 3) b3).set (m + 4) b4 = xs.take m ++ [b0, b1, b2, b3, b4] ++ xs.drop (m + 5) := by
  apply List.ext_getElem?
  intro i
  have ht : (xs.take m).length = m := by simp; omega
  simp only [List.getElem?_set, List.length_set]
  by_cases h0 : i < m
  · rw [List.getElem?_append_left (by simp; omega), List.getElem?_append_left (by omega), List.getElem?_take_of_lt h0]
    repeat rw [if_neg (by omega)]
  · by_cases h5 : i < m + 5
    · rw [List.getElem?_append_left (by simp; omega), List.getElem?_append_right (by omega), ht]
      rcases (by omega : i = m ∨ i = m + 1 ∨ i = m + 2 ∨ i = m + 3 ∨ i = m + 4) with rfl | rfl | rfl | rfl | rfl
      · rw [if_neg (by omega), if_neg (by omega), if_neg (by omega), if_neg (by omega), if_pos rfl, if_pos (by omega)]; simp
      · rw [if_neg (by omega), if_neg (by omega), if_neg (by omega), if_pos rfl, if_pos (by omega), show m + 1 - m = 1 by omega]; rfl
      · rw [if_neg (by omega), if_neg (by omega), if_pos rfl, if_pos (by omega), show m + 2 - m = 2 by omega]; rfl
      · rw [if_neg (by omega), if_pos rfl, if_pos (by omega), show m + 3 - m = 3 by omega]; rfl
      · rw [if_pos rfl, if_pos (by omega), show m + 4 - m = 4 by omega]; rfl
    · rw [List.getElem?_append_right (by simp; omega), List.getElem?_drop]
      repeat rw [if_neg (by omega)]
      congr 1
      simp; omega
theorem row_block {w : World} {e : TypeId} {size g n c : Nat} {xs : List Value} (h : w.ownsRow 0 e size (.slice (some ⟨g, 0, none⟩) n c) n xs) : ∃ cur : Array Value, Blk w g e cur ∧ n ≤ c ∧ c ≤ maxLen ∧ cur.size = c * size ∧ cur.toList.take (n * size) = xs := by
  rcases h.2 with ⟨h1, _⟩ | ⟨g', cap, cur, h1, _, h3, h4, h5, h6, h7⟩
  · cases h1
  · simp only [Value.slice.injEq, Option.some.injEq, Addr.mk.injEq] at h1
    obtain ⟨⟨e1, _, _⟩, _, e3⟩ := h1
    rw [← e1] at h3
    rw [← e3] at h4 h5 h6
    exact ⟨cur, h3, h4, h5, h6, h7⟩
theorem own_set5 {w : World} {e : TypeId} {g n c i : Nat} {xs : List Value} (h : w.ownsRow 0 e 5 (.slice (some ⟨g, 0, none⟩) n c) n xs) (hi : i < n) (b0 b1 b2 b3 b4 : Value) :
    (((((w.setCell ⟨g, i * 5, none⟩ b0).setCell ⟨g, i * 5 + 1, none⟩ b1).setCell ⟨g, i * 5 + 2, none⟩ b2).setCell ⟨g, i * 5 + 3, none⟩ b3).setCell ⟨g, i * 5 + 4, none⟩ b4).ownsRow 0 e 5 (.slice (some ⟨g, 0, none⟩) n c) n (xs.take (i * 5) ++ [b0, b1, b2, b3, b4] ++ xs.drop (i * 5 + 5)) := by
  have hl := h.1
  obtain ⟨cur, hb, h4, h5, h6, h7⟩ := row_block h
  have hb5 := ((((hb.set_ (i * 5) b0).set_ (i * 5 + 1) b1).set_ (i * 5 + 2) b2).set_ (i * 5 + 3) b3).set_ (i * 5 + 4) b4
  rw [← set5_list xs (i * 5) (by omega)]
  have hcs : (((((cur.setIfInBounds (i * 5) b0).setIfInBounds (i * 5 + 1) b1).setIfInBounds (i * 5 + 2) b2).setIfInBounds (i * 5 + 3) b3).setIfInBounds (i * 5 + 4) b4).size = c * 5 := by simp [h6]
  have hct : (((((cur.setIfInBounds (i * 5) b0).setIfInBounds (i * 5 + 1) b1).setIfInBounds (i * 5 + 2) b2).setIfInBounds (i * 5 + 3) b3).setIfInBounds (i * 5 + 4) b4).toList.take (n * 5) = ((((xs.set (i * 5) b0).set (i * 5 + 1) b1).set (i * 5 + 2) b2).set (i * 5 + 3) b3).set (i * 5 + 4) b4 := by
    simp only [Array.toList_setIfInBounds, List.take_set, h7]
  exact ⟨by simp only [List.length_set]; exact hl, .inr ⟨g, c, _, rfl, Nat.zero_le _, hb5, h4, h5, hcs, hct⟩⟩
theorem row_frozen {w : World} {e : TypeId} {g n c j : Nat} {xs : List Value} (h : w.ownsRow 0 e 5 (.slice (some ⟨g, 0, none⟩) n c) n xs) : w.frozen? ⟨g, j, none⟩ = false := by
  obtain ⟨cur, hb, _⟩ := row_block h
  exact hb.frozen j
theorem row_cell {w : World} {e : TypeId} {g n c j : Nat} {xs : List Value} {u : Value} (h : w.ownsRow 0 e 5 (.slice (some ⟨g, 0, none⟩) n c) n xs) (hu : xs[j]? = some u) : w.cell? ⟨g, j, none⟩ = some u := by
  obtain ⟨cur, hb, _, _, _, h7⟩ := row_block h
  rw [hb.cell j, ← Array.getElem?_toList]
  rw [← h7, List.getElem?_take] at hu
  split at hu
  · exact hu
  · cases hu
theorem sl_len_counts : ∀ ps : List JV, ps.length ≤ counts ps
  | [] => by simp [counts]
  | p :: r => by have := sl_len_counts r; have := count_pos p; simp [counts]; omega
theorem sl_block5' {w : World} {g' m k : Nat} (hp : k ≠ g') (b0 b1 b2 b3 b4 : Value) : (((((w.setCell ⟨g', m, none⟩ b0).setCell ⟨g', m + 1, none⟩ b1).setCell ⟨g', m + 2, none⟩ b2).setCell ⟨g', m + 3, none⟩ b3).setCell ⟨g', m + 4, none⟩ b4).heap[k]? = w.heap[k]? := by
  rw [Below.heap_setCell _ _ _ _ hp, Below.heap_setCell _ _ _ _ hp, Below.heap_setCell _ _ _ _ hp, Below.heap_setCell _ _ _ _ hp, Below.heap_setCell _ _ _ _ hp]
theorem sl_cell5' {w : World} {g' m b o : Nat} (hp : b ≠ g') (b0 b1 b2 b3 b4 : Value) : (((((w.setCell ⟨g', m, none⟩ b0).setCell ⟨g', m + 1, none⟩ b1).setCell ⟨g', m + 2, none⟩ b2).setCell ⟨g', m + 3, none⟩ b3).setCell ⟨g', m + 4, none⟩ b4).cell? ⟨b, o, none⟩ = w.cell? ⟨b, o, none⟩ :=
  World.cell?_of_block (sl_block5' hp _ _ _ _ _)
theorem count_at : ∀ (l : List JV) (i : Nat) (h : i < l.length), count l[i] ≤ counts l
  | [], i, h => by simp at h
  | a :: l, 0, h => by simp [counts]
  | a :: l, i + 1, h => by have := count_at l i (by simpa using h); simp [counts]; omega
theorem putAt_mem {key : List UInt8} {r : List (List UInt8)} {k n : Int} {t : List UInt8} {ks : List (List UInt8)} {ps : List JV} {e : JV} (hm : key ∈ ks) (hp : place ks key < ps.length) :
    putAt (key :: r) (.mk k n t ks ps) e = .mk k n t ks (ps.set (place ks key) (putAt r ps[place ks key] e)) := by
  rw [putAt, if_pos hm, List.getD_eq_getElem?_getD, List.getElem?_eq_getElem hp]; rfl
theorem putAt_new {key : List UInt8} {r : List (List UInt8)} {k n : Int} {t : List UInt8} {ks : List (List UInt8)} {ps : List JV} {e : JV} (hm : key ∉ ks) (hp : place ks key ≤ ps.length) :
    ∃ h : place ks key < (ps.insertIdx (place ks key) (.mk 7 0 [] [] [])).length, (ps.insertIdx (place ks key) (.mk 7 0 [] [] []))[place ks key] = .mk 7 0 [] [] [] ∧
    putAt (key :: r) (.mk k n t ks ps) e = .mk k n t (ks.insertIdx (place ks key) key) ((ps.insertIdx (place ks key) (.mk 7 0 [] [] [])).set (place ks key) (putAt r (.mk 7 0 [] [] []) e)) := by
  have hl : (ps.insertIdx (place ks key) (.mk 7 0 [] [] [])).length = ps.length + 1 := List.length_insertIdx_of_le_length hp _
  refine ⟨by omega, by simp, ?_⟩
  rw [putAt, if_neg hm]
  congr 1
  rw [insertIdx_parts _ _ _ hp, insertIdx_parts _ _ _ hp]
  have htk : (ps.take (place ks key)).length = place ks key := by simp; omega
  rw [List.append_assoc, List.append_assoc, List.set_append_right _ _ (by omega), htk, Nat.sub_self]
  rfl
theorem empty_ow (W : World) : VOw W (fun _ => False) (.mk 7 0 [] [] []) [.int .i64 7, .int .i64 0, str [], .slice none 0 0, .slice none 0 0] := by
  unfold VOw
  exact ⟨_, _, [], fun _ => False, rfl, by omega, by omega, by simp, by simp, by simp, by simp, World.ownsRow_nil _ _ _ _, World.ownsRow_nil _ _ _ _, by simp [Value.ownBlock], by simp [Value.ownBlock], fun b h => h.elim, by unfold POw; rfl⟩
end Go.Proofs.YtbdbcffnjibjoaaGreatDoor
