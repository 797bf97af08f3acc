/- Rows of the call's own under way: a list of batches, and the batch that is being filled. -/
import Derived.Test.YtploicbiapjfdaaBunWA
import Derived.Test.YtploicbiapjfdaaWlMem
namespace Go.Proofs.Ytploicbiapjfdaa
set_option linter.unusedVariables false
set_option linter.unusedSimpArgs false
open Go.RowKit
theorem info_row2 : (Try.prog.info? 24).map (fun i => (i.zero, i.size, i.bytes)) = some (some (.slice none 0 0), 1, 24) := by kernel_rfl
theorem info_rows : (Try.prog.info? 64).map (fun i => (i.zero, i.size, i.bytes)) = some (some (.slice none 0 0), 1, 24) := by kernel_rfl
/-- The rows vB (of the batches acc) and vC (of the records cur) are the call's own, from block base on; what they hold lies in neither. -/
def ScSt (w : World) (base : Nat) (vB vC : Value) (acc : List (List (List UInt8))) (cur : List (List UInt8)) : Prop :=
  ∃ csB csC, w.ownsRow base 64 1 vB acc.length csB ∧ Ats (In2 w (offOf base w vB vC)) acc csB ∧ w.ownsRow base 24 1 vC cur.length csC ∧ Ats (In1 w (offOf base w vB vC)) cur csC
theorem wl_rows {w : World} {b1 b2 e1 e2 s1 s2 n1 n2 : Nat} {v1 v2 : Value} {x1 x2 : List Value} (h1 : w.ownsRow b1 e1 s1 v1 n1 x1) (h2 : w.ownsRow b2 e2 s2 v2 n2 x2) (he : e1 ≠ e2) : v1.ownBlock = none ∨ v1.ownBlock ≠ v2.ownBlock := by
  rcases h1.2 with ⟨rfl, _⟩ | ⟨g, cap, cur, rfl, _, hh, _⟩
  · exact .inl rfl
  · refine .inr fun e => ?_
    rcases h2.2 with ⟨rfl, _⟩ | ⟨g', cap', cur', rfl, _, hh', _⟩
    · simp [Value.ownBlock] at e
    · have : g = g' := by simpa [Value.ownBlock] using e
      subst this
      rw [hh] at hh'
      injection hh' with hh'
      injection hh' with _ ht
      exact he ht
theorem ScSt.empty (w : World) (base : Nat) : ScSt w base (.slice none 0 0) (.slice none 0 0) [] [] :=
  ⟨[], [], World.ownsRow_nil _ _ _ _, Ats.nil, World.ownsRow_nil _ _ _ _, Ats.nil⟩
theorem ScSt.below {w w' : World} {base : Nat} {vB vC : Value} {acc : List (List (List UInt8))} {cur : List (List UInt8)} (h : ScSt w base vB vC acc cur) (hb : Below w.heap.size w w') : ScSt w' base vB vC acc cur := by
  obtain ⟨csB, csC, h1, h2, h3, h4⟩ := h
  have hk : ∀ p : Addr, offOf base w vB vC p.block → w'.cell? p = w.cell? p := fun p hp => hb.cell hp.2.1
  have hm : ∀ b, offOf base w vB vC b → offOf base w' vB vC b := fun b hb' => ⟨hb'.1, Nat.lt_of_lt_of_le hb'.2.1 hb.size, hb'.2.2⟩
  exact ⟨csB, csC, wl_below h1 hb, stays2.ats h2 hk hm, wl_below h3 hb, stays1.ats h4 hk hm⟩
theorem wl_far {w w' : World} {row : Option Nat} (hg : w.grownBy w' row) {p : Addr} (hp : p.block < w.heap.size) (hne : some p.block ≠ row) : w'.cell? p = w.cell? p :=
  World.cell?_of_block (hg.block p.block hp hne)
theorem ScSt.only {w w' : World} {base g : Nat} {vB vC : Value} {acc : List (List (List UInt8))} {cur : List (List UInt8)} (h : ScSt w base vB vC acc cur) (hg : w.grownBy w' (some g)) (hgb : g < base) : ScSt w' base vB vC acc cur := by
  obtain ⟨csB, csC, h1, h2, h3, h4⟩ := h
  have hk : ∀ p : Addr, offOf base w vB vC p.block → w'.cell? p = w.cell? p := fun p hp => wl_far hg hp.2.1 (fun e => by injection e with e; have := hp.1; omega)
  have hm : ∀ b, offOf base w vB vC b → offOf base w' vB vC b := fun b hb' => ⟨hb'.1, Nat.lt_of_lt_of_le hb'.2.1 hg.size, hb'.2.2⟩
  exact ⟨csB, csC, World.ownsRow.kept h1 hg (.inr fun e => by have := (h1.lt g e).1; omega), stays2.ats h2 hk hm, World.ownsRow.kept h3 hg (.inr fun e => by have := (h3.lt g e).1; omega), stays1.ats h4 hk hm⟩
theorem ScSt.push {w w' : World} {base : Nat} {vB vC v' : Value} {acc : List (List (List UInt8))} {cur : List (List UInt8)} {csB csC : List Value} {r : List UInt8} {u : Value}
    (h1 : w.ownsRow base 64 1 vB acc.length csB) (h2 : Ats (In2 w (offOf base w vB vC)) acc csB) (h3 : w.ownsRow base 24 1 vC cur.length csC) (h4 : Ats (In1 w (offOf base w vB vC)) cur csC)
    (hr : In1 w (offOf base w vB vC) r u) (ho : w'.ownsRow base 24 1 v' (cur.length + 1) (csC ++ [u])) (hg : w.grownBy w' vC.ownBlock) (hv : v'.ownBlock = vC.ownBlock ∨ v'.ownBlock = some (w.heap.size + 1)) :
    ScSt w' base vB v' acc (cur ++ [r]) := by
  have hk : ∀ p : Addr, offOf base w vB vC p.block → w'.cell? p = w.cell? p := fun p hp => wl_far hg hp.2.1 hp.2.2.2
  have hm : ∀ b, offOf base w vB vC b → offOf base w' vB v' b := fun b hb => ⟨hb.1, Nat.lt_of_lt_of_le hb.2.1 hg.size, hb.2.2.1, fun e => by
    rcases hv with hv | hv
    · exact hb.2.2.2 (e.trans hv)
    · rw [hv] at e; injection e with e; have := hb.2.1; omega⟩
  have hne := wl_rows h1 h3 (by decide)
  exact ⟨csB, csC ++ [u], World.ownsRow.kept h1 hg hne, stays2.ats h2 hk hm, by simpa using ho, (stays1.ats h4 hk hm).snoc (stays1.2 _ _ _ _ _ (stays1.1 _ _ _ _ _ hr hk) hm)⟩
theorem ScSt.flush {w w' : World} {base : Nat} {vB vC v' : Value} {acc : List (List (List UInt8))} {cur : List (List UInt8)} {csB csC : List Value}
    (h1 : w.ownsRow base 64 1 vB acc.length csB) (h2 : Ats (In2 w (offOf base w vB vC)) acc csB) (h3 : w.ownsRow base 24 1 vC cur.length csC) (h4 : Ats (In1 w (offOf base w vB vC)) cur csC)
    (ho : w'.ownsRow base 64 1 v' (acc.length + 1) (csB ++ [vC])) (hg : w.grownBy w' vB.ownBlock) (hv : v'.ownBlock = vB.ownBlock ∨ v'.ownBlock = some (w.heap.size + 1)) :
    ScSt w' base v' (.slice none 0 0) (acc ++ [cur]) [] := by
  have hk : ∀ p : Addr, offOf base w vB vC p.block → w'.cell? p = w.cell? p := fun p hp => wl_far hg hp.2.1 hp.2.2.1
  have hm : ∀ b, offOf base w vB vC b → offOf base w' v' (.slice none 0 0) b := fun b hb => ⟨hb.1, Nat.lt_of_lt_of_le hb.2.1 hg.size, fun e => (by
    rcases hv with hv | hv
    · exact hb.2.2.1 (e.trans hv)
    · rw [hv] at e; injection e with e; have := hb.2.1; omega), by simp [Value.ownBlock]⟩
  have hne : vC.ownBlock = none ∨ vC.ownBlock ≠ vB.ownBlock := wl_rows h3 h1 (by decide)
  have h3' := World.ownsRow.kept h3 hg hne
  have hC : In2 w' (offOf base w' v' (.slice none 0 0)) cur vC := by
    obtain ⟨A, c, rfl, hA⟩ := own_form h3'
    refine ⟨A, c, csC, rfl, ?_, fun h => (hA h).2, ?_, stays1.ats h4 hk hm⟩
    · rcases h3'.2 with ⟨hv', hn⟩ | ⟨g, cap, cr, hv', _, _, hnc, _⟩
      · omega
      · injection hv' with _ _ hc; omega
    · refine ⟨h3'.1, fun hn => ?_⟩
      obtain ⟨b, off, rfl, hb, hc⟩ := (Holds.own h3').2 hn
      have hlt := h3.lt b rfl
      refine ⟨b, off, rfl, ⟨hlt.1, Nat.lt_of_lt_of_le hlt.2 hg.size, fun e => ?_, by simp [Value.ownBlock]⟩, hc⟩
      rcases hv with hv | hv
      · rcases hne with hn1 | hn1
        · simp [Value.ownBlock] at hn1
        · exact hn1 (e.trans hv)
      · rw [hv] at e; injection e with e; have := hlt.2; omega
  exact ⟨csB ++ [vC], [], by simpa using ho, (stays2.ats h2 hk hm).snoc hC, World.ownsRow_nil _ _ _ _, Ats.nil⟩
theorem In1.one {w : World} {S : Nat → Prop} {l : List UInt8} {v : Value} (h : In1 w S l v) : v.oneCell' = true := by
  obtain ⟨A, c, rfl, _⟩ := h; rfl
/-- A record put behind the batch under way. -/
theorem wpList_scPush {w : World} {ops : Array Oper} {rest : List Oper} {o : Oper} {a : Act} {Q : Exit → Act → World → Prop} (hgd : o.guard = none) (s x : Operand)
    (ho : o.op = .call { callee := .builtin .append, args := #[s, x], argTypes := #[64, 64] })
    (base : Nat) (vB vC : Value) (acc : List (List (List UInt8))) (cur : List (List UInt8)) (hs : a.eval s = vC) (hst : ScSt w base vB vC acc cur) (r : List UInt8) (u : Value) (hr : In1 w (offOf base w vB vC) r u)
    (hx : a.eval x = .slice (some ⟨w.heap.size, 0, none⟩) 1 1) (hn : cur.length + 1 ≤ 1048576) (hB : base ≤ w.heap.size)
    (h : ∀ v' w', ScSt w' base vB v' acc (cur ++ [r]) → Below base w w' → w.grownBy w' vC.ownBlock → wpList Try.prog ops Q rest (a.put o.dst v') w') :
    wpList Try.prog ops Q (o :: rest) a (w.alloc (.cells #[u] 24)) := by
  obtain ⟨i0, hi0, hz0, hz1, hz2⟩ := info_parts info_row2
  obtain ⟨csB, csC, h1, h2, h3, h4⟩ := hst
  refine wpList_append1 w hgd s x 64 ho base 24 i0 _ 24 Try.underlying64 hi0 hz0 hz1 hz2 rfl vC cur.length csC hs h3 u hx hr.one hn (by decide) hB ?_
  intro v' w' k1 k2 k3
  exact h v' w' (ScSt.push h1 h2 h3 h4 hr k1 k2 k3) ((Below.refl _ _).grown k2 hB fun k hk => (h3.lt k hk).1) k2
/-- The batch under way put behind the batches. -/
theorem wpList_scFlush {w : World} {ops : Array Oper} {rest : List Oper} {o : Oper} {a : Act} {Q : Exit → Act → World → Prop} (hgd : o.guard = none) (s x : Operand)
    (ho : o.op = .call { callee := .builtin .append, args := #[s, x], argTypes := #[66, 66] })
    (base : Nat) (vB vC : Value) (acc : List (List (List UInt8))) (cur : List (List UInt8)) (hs : a.eval s = vB) (hst : ScSt w base vB vC acc cur)
    (hx : a.eval x = .slice (some ⟨w.heap.size, 0, none⟩) 1 1) (hn : acc.length + 1 ≤ 1048576) (hB : base ≤ w.heap.size)
    (h : ∀ v' w', ScSt w' base v' (.slice none 0 0) (acc ++ [cur]) [] → Below base w w' → w.grownBy w' vB.ownBlock → wpList Try.prog ops Q rest (a.put o.dst v') w') :
    wpList Try.prog ops Q (o :: rest) a (w.alloc (.cells #[vC] 64)) := by
  obtain ⟨i0, hi0, hz0, hz1, hz2⟩ := info_parts info_rows
  obtain ⟨csB, csC, h1, h2, h3, h4⟩ := hst
  obtain ⟨A, c, hv, _⟩ := own_form h3
  refine wpList_append1 w hgd s x 66 ho base 64 i0 _ 24 Try.underlying66 hi0 hz0 hz1 hz2 rfl vB acc.length csB hs h1 vC hx (by rw [hv]; rfl) hn (by decide) hB ?_
  intro v' w' k1 k2 k3
  exact h v' w' (ScSt.flush h1 h2 h3 h4 k1 k2 k3) ((Below.refl _ _).grown k2 hB fun k hk => (h1.lt k hk).1) k2
theorem ScSt.formC {w : World} {base : Nat} {vB vC : Value} {acc : List (List (List UInt8))} {cur : List (List UInt8)} (h : ScSt w base vB vC acc cur) : ∃ A c, vC = .slice A cur.length c := by
  obtain ⟨csB, csC, _, _, h3, _⟩ := h
  obtain ⟨A, c, h, _⟩ := own_form h3
  exact ⟨A, c, h⟩
theorem ScSt.formB {w : World} {base : Nat} {vB vC : Value} {acc : List (List (List UInt8))} {cur : List (List UInt8)} (h : ScSt w base vB vC acc cur) : ∃ A c, vB = .slice A acc.length c := by
  obtain ⟨csB, csC, h1, _, _, _⟩ := h
  obtain ⟨A, c, h, _⟩ := own_form h1
  exact ⟨A, c, h⟩
/-- What the call has built, as a list of batches. -/
theorem ScSt.built {w : World} {base : Nat} {vB vC : Value} {acc : List (List (List UInt8))} {cur : List (List UInt8)} (h : ScSt w base vB vC acc cur) : In3 w (fun b => base ≤ b ∧ b < w.heap.size) acc vB := by
  obtain ⟨csB, csC, h1, h2, h3, h4⟩ := h
  obtain ⟨A, c, rfl, hA⟩ := own_form h1
  refine ⟨A, c, csB, rfl, ?_, fun h => (hA h).2, HoldsS.own h1, h2.imp fun x v hv => stays2.2 _ _ _ _ _ hv fun b hb => ⟨hb.1, hb.2.1⟩⟩
  rcases h1.2 with ⟨hv', hn⟩ | ⟨g, cap, cr, hv', _, _, hnc, _⟩
  · omega
  · injection hv' with _ _ hc; omega
/-- A slice of bytes of the call's own is a record that lies in neither row. -/
theorem own_in1 {w : World} {base : Nat} {vB vC v : Value} {csB csC : List Value} {nB nC : Nat} {l : List UInt8} {b0 : Nat} (h1 : w.ownsRow base 64 1 vB nB csB) (h3 : w.ownsRow base 24 1 vC nC csC) (h : Own w b0 v l) (hb : base ≤ b0) : In1 w (offOf base w vB vC) l v := by
  obtain ⟨A, c, rfl, hA⟩ := own_form h
  refine ⟨A, c, rfl, ?_, fun h => (hA h).2, ?_⟩
  · rcases h.2 with ⟨hv', hn⟩ | ⟨g, cap, cr, hv', _, _, hnc, _⟩
    · omega
    · injection hv' with _ _ hc; omega
  · refine ⟨h.1, fun hn => ?_⟩
    obtain ⟨b, off, rfl, hb', hc⟩ := (Holds.own h).2 hn
    have hlt := h.lt b rfl
    refine ⟨b, off, rfl, ⟨Nat.le_trans hb hlt.1, hlt.2, ?_, ?_⟩, hc⟩
    · rcases wl_rows h h1 (by decide) with e | e
      · simp [Value.ownBlock] at e
      · simpa [Value.ownBlock] using e
    · rcases wl_rows h h3 (by decide) with e | e
      · simp [Value.ownBlock] at e
      · simpa [Value.ownBlock] using e
theorem ScSt.in1 {w : World} {base : Nat} {vB vC v : Value} {acc : List (List (List UInt8))} {cur : List (List UInt8)} {l : List UInt8} {b0 : Nat} (h : ScSt w base vB vC acc cur) (ho : Own w b0 v l) (hb : base ≤ b0) : In1 w (offOf base w vB vC) l v := by
  obtain ⟨csB, csC, h1, h2, h3, h4⟩ := h
  exact own_in1 h1 h3 ho hb
/-- Lists of lists that a walk can count. -/
def BdL (x : List (List (List UInt8))) : Prop := x.length ≤ 1048576 ∧ ∀ b ∈ x, b.length ≤ 1048576 ∧ ∀ r ∈ b, r.length ≤ 1048576
end Go.Proofs.Ytploicbiapjfdaa
