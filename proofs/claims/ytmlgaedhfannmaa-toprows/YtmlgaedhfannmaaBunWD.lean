/- Joined texts: RgG, WlSt, WlFirst, WlScan, WlBd. -/
import Derived.Test.YtmlgaedhfannmaaBunQ
import Derived.Test.YtmlgaedhfannmaaBunWA
import Derived.Test.YtmlgaedhfannmaaBunWC
import Derived.Lib.SliceRun
/- Regions that draw their order: one alone may come up, which is guarded, and wanted. -/
namespace Go.Proofs.Ytmlgaedhfannmaa
set_option linter.unusedVariables false
set_option linter.unusedSimpArgs false
open Go.RowKit
section
variable {P : Program} {ops : Array Oper} {Q : Exit → Act → World → Prop} {md : Region.Mode} {S : World → Prop} {st : List Nat}
theorem anyS_oneG {fuel : Nat} {listed : Array Bool} {a : Act} {w : World} (i : Nat) {oi : Oper} (hi : ops[i]? = some oi) (hr : Region.ready md ops listed = [i]) (hw : Region.wanted oi (yielded ops a.tmps) = true)
    (h : ∀ K' : Act → World → Prop, (∀ a' w', (i ∉ st → S w') ∧ anyS P md ops Q S st fuel (listed.setIfInBounds i true) a' w' → K' a' w') → Oper.wp P oi a w K' Q) : anyS P md ops Q S st (fuel + 1) listed a w := by
  refine ⟨fun h0 => (by rw [hr] at h0; cases h0), fun j hj => ?_⟩
  rw [hr] at hj
  obtain rfl : j = i := by simpa using hj
  unfold wpOp
  simp only [hi]
  rw [if_pos hw]
  exact .inl (h _ fun a' w' h' => h')
end
end Go.Proofs.Ytmlgaedhfannmaa

/- Rows of the call's own under way: a list of batches, and the batch that is being filled. -/
namespace Go.Proofs.Ytmlgaedhfannmaa
set_option linter.unusedVariables false
set_option linter.unusedSimpArgs false
open Go.RowKit
theorem info_row2 : (Try.prog.info? 56).map (fun i => (i.zero, i.size, i.bytes)) = some (some (.slice none 0 0), 1, 24) := by kernel_rfl
theorem info_rows : (Try.prog.info? 187).map (fun i => (i.zero, i.size, i.bytes)) = some (some (.slice none 0 0), 1, 24) := by kernel_rfl
/-- The rows vB (of the batches acc) and vC (of the records cur) are the call's own, from block base on; what they hold lies in neither. -/
def ScSt (w : World) (base : Nat) (vB vC : Value) (acc : List (List (List UInt8))) (cur : List (List UInt8)) : Prop :=
  ∃ csB csC, w.ownsRow base 187 1 vB acc.length csB ∧ Ats (In2 w (offOf base w vB vC)) acc csB ∧ w.ownsRow base 56 1 vC cur.length csC ∧ Ats (In1 w (offOf base w vB vC)) cur csC
theorem wl_rows {w : World} {b1 b2 e1 e2 s1 s2 n1 n2 : Nat} {v1 v2 : Value} {x1 x2 : List Value} (h1 : w.ownsRow b1 e1 s1 v1 n1 x1) (h2 : w.ownsRow b2 e2 s2 v2 n2 x2) (he : e1 ≠ e2) : v1.ownBlock = none ∨ v1.ownBlock ≠ v2.ownBlock := by
  rcases h1.2 with ⟨rfl, _⟩ | ⟨g, cap, cur, rfl, _, hh, _⟩
  · exact .inl rfl
  · refine .inr fun e => ?_
    rcases h2.2 with ⟨rfl, _⟩ | ⟨g', cap', cur', rfl, _, hh', _⟩
    · simp [Value.ownBlock] at e
    · have : g = g' := by simpa [Value.ownBlock] using e
      subst this
      rw [hh] at hh'
      injection hh' with hh'
      injection hh' with _ ht
      exact he ht
theorem ScSt.empty (w : World) (base : Nat) : ScSt w base (.slice none 0 0) (.slice none 0 0) [] [] :=
  ⟨[], [], World.ownsRow_nil _ _ _ _, Ats.nil, World.ownsRow_nil _ _ _ _, Ats.nil⟩
theorem ScSt.below {w w' : World} {base : Nat} {vB vC : Value} {acc : List (List (List UInt8))} {cur : List (List UInt8)} (h : ScSt w base vB vC acc cur) (hb : Below w.heap.size w w') : ScSt w' base vB vC acc cur := by
  obtain ⟨csB, csC, h1, h2, h3, h4⟩ := h
  have hk : ∀ p : Addr, offOf base w vB vC p.block → w'.cell? p = w.cell? p := fun p hp => hb.cell hp.2.1
  have hm : ∀ b, offOf base w vB vC b → offOf base w' vB vC b := fun b hb' => ⟨hb'.1, Nat.lt_of_lt_of_le hb'.2.1 hb.size, hb'.2.2⟩
  exact ⟨csB, csC, wl_below h1 hb, stays2.ats h2 hk hm, wl_below h3 hb, stays1.ats h4 hk hm⟩
theorem wl_far {w w' : World} {row : Option Nat} (hg : w.grownBy w' row) {p : Addr} (hp : p.block < w.heap.size) (hne : some p.block ≠ row) : w'.cell? p = w.cell? p :=
  World.cell?_of_block (hg.block p.block hp hne)
theorem ScSt.only {w w' : World} {base g : Nat} {vB vC : Value} {acc : List (List (List UInt8))} {cur : List (List UInt8)} (h : ScSt w base vB vC acc cur) (hg : w.grownBy w' (some g)) (hgb : g < base) : ScSt w' base vB vC acc cur := by
  obtain ⟨csB, csC, h1, h2, h3, h4⟩ := h
  have hk : ∀ p : Addr, offOf base w vB vC p.block → w'.cell? p = w.cell? p := fun p hp => wl_far hg hp.2.1 (fun e => by injection e with e; have := hp.1; omega)
  have hm : ∀ b, offOf base w vB vC b → offOf base w' vB vC b := fun b hb' => ⟨hb'.1, Nat.lt_of_lt_of_le hb'.2.1 hg.size, hb'.2.2⟩
  exact ⟨csB, csC, World.ownsRow.kept h1 hg (.inr fun e => by have := (h1.lt g e).1; omega), stays2.ats h2 hk hm, World.ownsRow.kept h3 hg (.inr fun e => by have := (h3.lt g e).1; omega), stays1.ats h4 hk hm⟩
theorem ScSt.push {w w' : World} {base : Nat} {vB vC v' : Value} {acc : List (List (List UInt8))} {cur : List (List UInt8)} {csB csC : List Value} {r : List UInt8} {u : Value}
    (h1 : w.ownsRow base 187 1 vB acc.length csB) (h2 : Ats (In2 w (offOf base w vB vC)) acc csB) (h3 : w.ownsRow base 56 1 vC cur.length csC) (h4 : Ats (In1 w (offOf base w vB vC)) cur csC)
    (hr : In1 w (offOf base w vB vC) r u) (ho : w'.ownsRow base 56 1 v' (cur.length + 1) (csC ++ [u])) (hg : w.grownBy w' vC.ownBlock) (hv : v'.ownBlock = vC.ownBlock ∨ v'.ownBlock = some (w.heap.size + 1)) :
    ScSt w' base vB v' acc (cur ++ [r]) := by
  have hk : ∀ p : Addr, offOf base w vB vC p.block → w'.cell? p = w.cell? p := fun p hp => wl_far hg hp.2.1 hp.2.2.2
  have hm : ∀ b, offOf base w vB vC b → offOf base w' vB v' b := fun b hb => ⟨hb.1, Nat.lt_of_lt_of_le hb.2.1 hg.size, hb.2.2.1, fun e => by
    rcases hv with hv | hv
    · exact hb.2.2.2 (e.trans hv)
    · rw [hv] at e; injection e with e; have := hb.2.1; omega⟩
  have hne := wl_rows h1 h3 (by decide)
  exact ⟨csB, csC ++ [u], World.ownsRow.kept h1 hg hne, stays2.ats h2 hk hm, by simpa using ho, (stays1.ats h4 hk hm).snoc (stays1.2 _ _ _ _ _ (stays1.1 _ _ _ _ _ hr hk) hm)⟩
theorem ScSt.flush {w w' : World} {base : Nat} {vB vC v' : Value} {acc : List (List (List UInt8))} {cur : List (List UInt8)} {csB csC : List Value}
    (h1 : w.ownsRow base 187 1 vB acc.length csB) (h2 : Ats (In2 w (offOf base w vB vC)) acc csB) (h3 : w.ownsRow base 56 1 vC cur.length csC) (h4 : Ats (In1 w (offOf base w vB vC)) cur csC)
    (ho : w'.ownsRow base 187 1 v' (acc.length + 1) (csB ++ [vC])) (hg : w.grownBy w' vB.ownBlock) (hv : v'.ownBlock = vB.ownBlock ∨ v'.ownBlock = some (w.heap.size + 1)) :
    ScSt w' base v' (.slice none 0 0) (acc ++ [cur]) [] := by
  have hk : ∀ p : Addr, offOf base w vB vC p.block → w'.cell? p = w.cell? p := fun p hp => wl_far hg hp.2.1 hp.2.2.1
  have hm : ∀ b, offOf base w vB vC b → offOf base w' v' (.slice none 0 0) b := fun b hb => ⟨hb.1, Nat.lt_of_lt_of_le hb.2.1 hg.size, fun e => (by
    rcases hv with hv | hv
    · exact hb.2.2.1 (e.trans hv)
    · rw [hv] at e; injection e with e; have := hb.2.1; omega), by simp [Value.ownBlock]⟩
  have hne : vC.ownBlock = none ∨ vC.ownBlock ≠ vB.ownBlock := wl_rows h3 h1 (by decide)
  have h3' := World.ownsRow.kept h3 hg hne
  have hC : In2 w' (offOf base w' v' (.slice none 0 0)) cur vC := by
    obtain ⟨A, c, rfl, hA⟩ := own_form h3'
    refine ⟨A, c, csC, rfl, ?_, fun h => (hA h).2, ?_, stays1.ats h4 hk hm⟩
    · rcases h3'.2 with ⟨hv', hn⟩ | ⟨g, cap, cr, hv', _, _, hnc, _⟩
      · omega
      · injection hv' with _ _ hc; omega
    · refine ⟨h3'.1, fun hn => ?_⟩
      obtain ⟨b, off, rfl, hb, hc⟩ := (Holds.own h3').2 hn
      have hlt := h3.lt b rfl
      refine ⟨b, off, rfl, ⟨hlt.1, Nat.lt_of_lt_of_le hlt.2 hg.size, fun e => ?_, by simp [Value.ownBlock]⟩, hc⟩
      rcases hv with hv | hv
      · rcases hne with hn1 | hn1
        · simp [Value.ownBlock] at hn1
        · exact hn1 (e.trans hv)
      · rw [hv] at e; injection e with e; have := hlt.2; omega
  exact ⟨csB ++ [vC], [], by simpa using ho, (stays2.ats h2 hk hm).snoc hC, World.ownsRow_nil _ _ _ _, Ats.nil⟩
theorem In1.one {w : World} {S : Nat → Prop} {l : List UInt8} {v : Value} (h : In1 w S l v) : v.oneCell' = true := by
  obtain ⟨A, c, rfl, _⟩ := h; rfl
/-- A record put behind the batch under way. -/
theorem wpList_scPush {w : World} {ops : Array Oper} {rest : List Oper} {o : Oper} {a : Act} {Q : Exit → Act → World → Prop} (hgd : o.guard = none) (s x : Operand)
    (ho : o.op = .call { callee := .builtin .append, args := #[s, x], argTypes := #[187, 187] })
    (base : Nat) (vB vC : Value) (acc : List (List (List UInt8))) (cur : List (List UInt8)) (hs : a.eval s = vC) (hst : ScSt w base vB vC acc cur) (r : List UInt8) (u : Value) (hr : In1 w (offOf base w vB vC) r u)
    (hx : a.eval x = .slice (some ⟨w.heap.size, 0, none⟩) 1 1) (hn : cur.length + 1 ≤ 1048576) (hB : base ≤ w.heap.size)
    (h : ∀ v' w', ScSt w' base vB v' acc (cur ++ [r]) → Below base w w' → w.grownBy w' vC.ownBlock → wpList Try.prog ops Q rest (a.put o.dst v') w') :
    wpList Try.prog ops Q (o :: rest) a (w.alloc (.cells #[u] 56)) := by
  obtain ⟨i0, hi0, hz0, hz1, hz2⟩ := info_parts info_row2
  obtain ⟨csB, csC, h1, h2, h3, h4⟩ := hst
  refine wpList_append1 w hgd s x 187 ho base 56 i0 _ 24 Try.underlying187 hi0 hz0 hz1 hz2 rfl vC cur.length csC hs h3 u hx hr.one hn (by decide) hB ?_
  intro v' w' k1 k2 k3
  exact h v' w' (ScSt.push h1 h2 h3 h4 hr k1 k2 k3) ((Below.refl _ _).grown k2 hB fun k hk => (h3.lt k hk).1) k2
/-- The batch under way put behind the batches. -/
theorem wpList_scFlush {w : World} {ops : Array Oper} {rest : List Oper} {o : Oper} {a : Act} {Q : Exit → Act → World → Prop} (hgd : o.guard = none) (s x : Operand)
    (ho : o.op = .call { callee := .builtin .append, args := #[s, x], argTypes := #[213, 213] })
    (base : Nat) (vB vC : Value) (acc : List (List (List UInt8))) (cur : List (List UInt8)) (hs : a.eval s = vB) (hst : ScSt w base vB vC acc cur)
    (hx : a.eval x = .slice (some ⟨w.heap.size, 0, none⟩) 1 1) (hn : acc.length + 1 ≤ 1048576) (hB : base ≤ w.heap.size)
    (h : ∀ v' w', ScSt w' base v' (.slice none 0 0) (acc ++ [cur]) [] → Below base w w' → w.grownBy w' vB.ownBlock → wpList Try.prog ops Q rest (a.put o.dst v') w') :
    wpList Try.prog ops Q (o :: rest) a (w.alloc (.cells #[vC] 187)) := by
  obtain ⟨i0, hi0, hz0, hz1, hz2⟩ := info_parts info_rows
  obtain ⟨csB, csC, h1, h2, h3, h4⟩ := hst
  obtain ⟨A, c, hv, _⟩ := own_form h3
  refine wpList_append1 w hgd s x 213 ho base 187 i0 _ 24 Try.underlying213 hi0 hz0 hz1 hz2 rfl vB acc.length csB hs h1 vC hx (by rw [hv]; rfl) hn (by decide) hB ?_
  intro v' w' k1 k2 k3
  exact h v' w' (ScSt.flush h1 h2 h3 h4 k1 k2 k3) ((Below.refl _ _).grown k2 hB fun k hk => (h1.lt k hk).1) k2
theorem ScSt.formC {w : World} {base : Nat} {vB vC : Value} {acc : List (List (List UInt8))} {cur : List (List UInt8)} (h : ScSt w base vB vC acc cur) : ∃ A c, vC = .slice A cur.length c := by
  obtain ⟨csB, csC, _, _, h3, _⟩ := h
  obtain ⟨A, c, h, _⟩ := own_form h3
  exact ⟨A, c, h⟩
theorem ScSt.formB {w : World} {base : Nat} {vB vC : Value} {acc : List (List (List UInt8))} {cur : List (List UInt8)} (h : ScSt w base vB vC acc cur) : ∃ A c, vB = .slice A acc.length c := by
  obtain ⟨csB, csC, h1, _, _, _⟩ := h
  obtain ⟨A, c, h, _⟩ := own_form h1
  exact ⟨A, c, h⟩
/-- What the call has built, as a list of batches. -/
theorem ScSt.built {w : World} {base : Nat} {vB vC : Value} {acc : List (List (List UInt8))} {cur : List (List UInt8)} (h : ScSt w base vB vC acc cur) : In3 w (fun b => base ≤ b ∧ b < w.heap.size) acc vB := by
  obtain ⟨csB, csC, h1, h2, h3, h4⟩ := h
  obtain ⟨A, c, rfl, hA⟩ := own_form h1
  refine ⟨A, c, csB, rfl, ?_, fun h => (hA h).2, HoldsS.own h1, h2.imp fun x v hv => stays2.2 _ _ _ _ _ hv fun b hb => ⟨hb.1, hb.2.1⟩⟩
  rcases h1.2 with ⟨hv', hn⟩ | ⟨g, cap, cr, hv', _, _, hnc, _⟩
  · omega
  · injection hv' with _ _ hc; omega
/-- A slice of bytes of the call's own is a record that lies in neither row. -/
theorem own_in1 {w : World} {base : Nat} {vB vC v : Value} {csB csC : List Value} {nB nC : Nat} {l : List UInt8} {b0 : Nat} (h1 : w.ownsRow base 187 1 vB nB csB) (h3 : w.ownsRow base 56 1 vC nC csC) (h : Own w b0 v l) (hb : base ≤ b0) : In1 w (offOf base w vB vC) l v := by
  obtain ⟨A, c, rfl, hA⟩ := own_form h
  refine ⟨A, c, rfl, ?_, fun h => (hA h).2, ?_⟩
  · rcases h.2 with ⟨hv', hn⟩ | ⟨g, cap, cr, hv', _, _, hnc, _⟩
    · omega
    · injection hv' with _ _ hc; omega
  · refine ⟨h.1, fun hn => ?_⟩
    obtain ⟨b, off, rfl, hb', hc⟩ := (Holds.own h).2 hn
    have hlt := h.lt b rfl
    refine ⟨b, off, rfl, ⟨Nat.le_trans hb hlt.1, hlt.2, ?_, ?_⟩, hc⟩
    · rcases wl_rows h h1 (by decide) with e | e
      · simp [Value.ownBlock] at e
      · simpa [Value.ownBlock] using e
    · rcases wl_rows h h3 (by decide) with e | e
      · simp [Value.ownBlock] at e
      · simpa [Value.ownBlock] using e
theorem ScSt.in1 {w : World} {base : Nat} {vB vC v : Value} {acc : List (List (List UInt8))} {cur : List (List UInt8)} {l : List UInt8} {b0 : Nat} (h : ScSt w base vB vC acc cur) (ho : Own w b0 v l) (hb : base ≤ b0) : In1 w (offOf base w vB vC) l v := by
  obtain ⟨csB, csC, h1, h2, h3, h4⟩ := h
  exact own_in1 h1 h3 ho hb
/-- Lists of lists that a walk can count. -/
def BdL (x : List (List (List UInt8))) : Prop := x.length ≤ 1048576 ∧ ∀ b ∈ x, b.length ≤ 1048576 ∧ ∀ r ∈ b, r.length ≤ 1048576
end Go.Proofs.Ytmlgaedhfannmaa

/- Package wal: the first frame of some bytes; the reader of frames; bytes.Clone. -/
namespace Go.Proofs.Ytmlgaedhfannmaa
set_option linter.unusedVariables false
set_option linter.unusedSimpArgs false
open Go.RowKit
@[go_sem] theorem eq_sums (a b c d : Int) (w : World) : (Op.equalIn 10000 231 (.agg #[.int .u8 a, .int .u8 b]) (.agg #[.int .u8 c, .int .u8 d])).run Try.prog w = .ok (a == c && b == d) w := by
  have u3 := Try.underlying5
  have a3 := Try.isAgg5
  have z3 := Try.sizeOf5
  rw [show (10000 : Nat) = 9999 + 1 from rfl, Op.equalIn]
  simp only [Sem.run_bind, run_underlying Try.underlying231, Result.andThen_ok]
  simp only [Std.Legacy.Range.forIn_eq_forIn_range', Std.Legacy.Range.size, Nat.sub_zero, Nat.add_sub_cancel, Nat.div_one, List.range'_succ, List.range'_zero, List.forIn_cons, List.forIn_nil]
  go_simp
  by_cases h1 : a = c <;> by_cases h2 : b = d <;> simp [h1, h2]
/-- What firstFrame returns. -/
def ffV (A : Option Addr) (c : Nat) (l : List UInt8) : Value :=
  match ff l with
  | none => .slice none 0 0
  | some (r, _, _) => .slice A (r.length + 4) c
theorem ffV_none {A : Option Addr} {c : Nat} {l : List UInt8} (h : ff l = none) : ffV A c l = .slice none 0 0 := by unfold ffV; rw [h]
theorem ffV_some {A : Option Addr} {c : Nat} {l r b' : List UInt8} {last : Bool} (h : ff l = some (r, last, b')) : ffV A c l = .slice A (r.length + 4) c := by unfold ffV; rw [h]
theorem ret_v {a b : Value} (h : a = b) : Ending.returned a = .returned b := by rw [h]
set_option maxHeartbeats 2000000 in
theorem firstFrame_any (A : Option Addr) (n c : Nat) (l : List UInt8) (w : World) (hh : Holds w w.heap.size 1 A n (l.map bv)) (hn : n ≤ 1200) (hc : n ≤ c) :
    Calls Try.prog 171 #[.slice A n c] w fun e w' => e = .returned (ffV A c l) ∧ Below w.heap.size w w' := by
  have hl := hh.len
  by_cases h2 : (n : Int) < 2
  · have H := Lib.hid (ffV_none (A := A) (c := c) (ff_no0 (b := l) (by omega)))
    clear hl hh
    rw [H.out]
    go_enter Try.func171, Try.ntmps171
    go_wp2
    go_ret
    exact ⟨rfl, Below.refl _ _⟩
  · match l, hl, hh with
    | [], hl, _ => simp at hl; omega
    | [_], hl, _ => simp at hl; omega
    | x :: f :: rest, hl, hh =>
    obtain ⟨b, off, _, rfl, hb, hc0⟩ := hh.byte (k := 0) (by omega)
    obtain ⟨_, _, _, e, _, hc1⟩ := hh.byte (k := 1) (by omega)
    injection e with e
    injection e with e1 e2
    subst e1 e2
    simp only [List.getElem_cons_zero, List.getElem_cons_succ, Nat.add_zero] at hc0 hc1
    obtain ⟨X, hX⟩ : ∃ X, x.toNat = X := ⟨_, rfl⟩
    obtain ⟨F, hF⟩ : ∃ F, f.toNat = F := ⟨_, rfl⟩
    have hXl := x.toNat_lt
    have hFl := f.toNat_lt
    rw [hX] at hc0 hXl
    rw [hF] at hc1 hFl
    have HX := Lib.hid hX
    have HF := Lib.hid hF
    have Hl := Lib.hid hl
    have Hh := Lib.hid hh
    clear hX hF hl hh
    have hrs := isRecordSize_any X w (by omega)
    by_cases h3 : 1 ≤ X ∧ X ≤ 60
    · obtain ⟨h3a, h3b⟩ := h3
      rw [decide_eq_true h3a, decide_eq_true h3b] at hrs
      have Hrs := Lib.hid hrs
      clear hrs
      by_cases h4 : 1 < (F : Int)
      · have H := Lib.hid (ffV_none (A := some ⟨b, off, none⟩) (c := c) (ff_no2 (x := x) (f := f) (rest := rest) (by rw [HF.out]; omega)))
        rw [H.out]
        go_enter Try.func171, Try.ntmps171
        go_wp2_with fail
        refine Hrs.out.mono ?_
        rintro e w1 ⟨rfl, rfl⟩
        go_wp2
        go_ret
        exact ⟨rfl, Below.refl _ _⟩
      · by_cases h5 : (n : Int) < 2 + (X : Int) + 2
        · have H := Lib.hid (ffV_none (A := some ⟨b, off, none⟩) (c := c) (ff_no3 (x := x) (f := f) (rest := rest) (by have := Hl.out; simp at this; rw [HX.out]; omega)))
          rw [H.out]
          go_enter Try.func171, Try.ntmps171
          go_wp2_with fail
          refine Hrs.out.mono ?_
          rintro e w1 ⟨rfl, rfl⟩
          go_wp2_with fail
          go_quiet (fail)
          go_wp2
          go_ret
          exact ⟨rfl, below_drewN (Below.refl _ _) _⟩
        · have hrl : X + 2 ≤ rest.length := by have := Hl.out; simp at this; omega
          have hff := ff_sum (x := x) (f := f) (rest := rest) (by rw [HX.out]; omega) (by rw [HX.out]; omega) (by rw [HF.out]; omega) (by rw [HX.out]; omega)
          simp only [HX.out] at hff
          obtain ⟨_, _, hk2, e, _, hcE⟩ := Hh.out.byte (k := 2 + X) (by omega)
          injection e with e
          injection e with e1 e2
          subst e1 e2
          obtain ⟨_, _, hk3, e, _, hcF⟩ := Hh.out.byte (k := 2 + X + 1) (by omega)
          injection e with e
          injection e with e1 e2
          subst e1 e2
          have g2 : (x :: f :: rest)[2 + X]'hk2 = rest[X]'(by omega) := by simp [Nat.add_comm 2 X]
          have g3 : (x :: f :: rest)[2 + X + 1]'hk3 = rest[X + 1]'(by omega) := by simp [show 2 + X + 1 = X + 1 + 2 by omega]
          rw [g2] at hcE
          rw [g3] at hcF
          obtain ⟨Y, hY⟩ : ∃ Y, (rest[X]'(by omega)).toNat = Y := ⟨_, rfl⟩
          obtain ⟨Z, hZ⟩ : ∃ Z, (rest[X + 1]'(by omega)).toNat = Z := ⟨_, rfl⟩
          simp only [hY, hZ] at hff
          rw [hY] at hcE
          rw [hZ] at hcF
          have Hff := Lib.hid hff
          have hhC : Holds w w.heap.size 1 (some ⟨b, off, none⟩) (2 + X) ((x :: f :: rest.take X).map bv) := by
            have := Hh.out.first (k := 2 + X) (by omega)
            rwa [show (x :: f :: rest).take (2 + X) = x :: f :: rest.take X by rw [Nat.add_comm]; rfl] at this
          have HhC := Lib.hid hhC
          clear hff hhC g2 g3 hY hZ hk2 hk3 hrl
          go_enter Try.func171, Try.ntmps171
          go_wp2_with fail
          refine Hrs.out.mono ?_
          rintro e w1 ⟨rfl, rfl⟩
          go_wp2_with fail
          have hw1 : IntKind.i64.wrap (2 + (X : Int) + 2) = 2 + (X : Int) + 2 := by simp [IntKind.wrap, IntKind.signed, IntKind.bits]; omega
          have hw2 : IntKind.i64.wrap (2 + (X : Int) + 1) = 2 + (X : Int) + 1 := by simp [IntKind.wrap, IntKind.signed, IntKind.bits]; omega
          have hn1 : (2 + (X : Int)).toNat = 2 + X := by omega
          have hn2 : (2 + (X : Int) + 1).toNat = 2 + X + 1 := by omega
          refine region_S (fun w' => w'.cell? ⟨b, off + (2 + X), none⟩ = some (.int .u8 (Y : Int)) ∧ w'.cell? ⟨b, off + (2 + X + 1), none⟩ = some (.int .u8 (Z : Int))) [] (by kernel_rfl) ?_
          have hS : w.drew.cell? ⟨b, off + (2 + X), none⟩ = some (.int .u8 (Y : Int)) ∧ w.drew.cell? ⟨b, off + (2 + X + 1), none⟩ = some (.int .u8 (Z : Int)) := ⟨hcE, hcF⟩
          refine anyS_take 0 (v := .slice (some ⟨b, off, none⟩) n c) rfl (by kernel_rfl) (by kernel_rfl) (by kernel_rfl) (by kernel_rfl) (fun _ _ _ h => h) (.inl ⟨by kernel_rfl, fun w' hS' => by kernel_rfl⟩) hS ?_
          refine anyS_take 1 (v := .int .i64 (n : Int)) rfl (by kernel_rfl) (by kernel_rfl) (by kernel_rfl) (by kernel_rfl) (fun _ _ _ h => h) (.inl ⟨by kernel_rfl, fun w' hS' => by go_simp⟩) hS ?_
          refine anyS_take 2 (v := .int .i64 (2 + (X : Int))) rfl (by kernel_rfl) (by kernel_rfl) (by kernel_rfl) (by kernel_rfl) (fun _ _ _ h => h) (.inl ⟨by kernel_rfl, fun w' hS' => by kernel_rfl⟩) hS ?_
          refine anyS_take 3 (v := .int .i64 (2 + (X : Int) + 2)) rfl (by kernel_rfl) (by kernel_rfl) (by kernel_rfl) (by kernel_rfl) (fun _ _ _ h => h) (.inl ⟨by kernel_rfl, fun w' hS' => by go_simp⟩) hS ?_
          refine anyS_take 4 (v := .bool false) rfl (by kernel_rfl) (by kernel_rfl) (by kernel_rfl) (by kernel_rfl) (fun _ _ _ h => h) (.inl ⟨by kernel_rfl, fun w' hS' => by go_simp⟩) hS ?_
          refine anyS_take 5 (v := .bool false) rfl (by kernel_rfl) (by kernel_rfl) (by kernel_rfl) (by kernel_rfl) (fun _ _ _ h => h) (.inl ⟨by kernel_rfl, fun w' hS' => by kernel_rfl⟩) hS ?_
          refine anyS_take 6 (v := .slice (some ⟨b, off, none⟩) n c) rfl (by kernel_rfl) (by kernel_rfl) (by kernel_rfl) (by kernel_rfl) (fun _ _ _ h => h) (.inl ⟨by kernel_rfl, fun w' hS' => by kernel_rfl⟩) hS ?_
          refine anyS_take 7 (v := .int .i64 (2 + (X : Int))) rfl (by kernel_rfl) (by kernel_rfl) (by kernel_rfl) (by kernel_rfl) (fun _ _ _ h => h) (.inl ⟨by kernel_rfl, fun w' hS' => by kernel_rfl⟩) hS ?_
          refine anyS_take 8 (v := .slice (some ⟨b, off, none⟩) (2 + X) c) rfl (by kernel_rfl) (by kernel_rfl) (by kernel_rfl) (by kernel_rfl) (fun _ _ _ h => h) (.inl ⟨by kernel_rfl, fun w' hS' => by (go_simp; exact fun h => absurd (h (by omega)) (by omega))⟩) hS ?_
          refine anyS_take 10 (v := .slice (some ⟨b, off, none⟩) n c) rfl (by kernel_rfl) (by kernel_rfl) (by kernel_rfl) (by kernel_rfl) (fun _ _ _ h => h) (.inl ⟨by kernel_rfl, fun w' hS' => by kernel_rfl⟩) hS ?_
          refine anyS_take 11 (v := .int .i64 (2 + (X : Int))) rfl (by kernel_rfl) (by kernel_rfl) (by kernel_rfl) (by kernel_rfl) (fun _ _ _ h => h) (.inl ⟨by kernel_rfl, fun w' hS' => by kernel_rfl⟩) hS ?_
          refine anyS_take 12 (v := .pointer (some ⟨b, off + (2 + X), none⟩)) rfl (by kernel_rfl) (by kernel_rfl) (by kernel_rfl) (by kernel_rfl) (fun _ _ _ h => h) (.inl ⟨by kernel_rfl, fun w' hS' => by (go_simp; exact fun h => absurd (h (by omega)) (by omega))⟩) hS ?_
          refine anyS_take 13 (v := .int .u8 (Y : Int)) rfl (by kernel_rfl) (by kernel_rfl) (by kernel_rfl) (by kernel_rfl) (fun _ _ _ h => h) (.inl ⟨by kernel_rfl, fun w' hS' => by (obtain ⟨k1, k2⟩ := hS'; go_simp)⟩) hS ?_
          refine anyS_take 14 (v := .slice (some ⟨b, off, none⟩) n c) rfl (by kernel_rfl) (by kernel_rfl) (by kernel_rfl) (by kernel_rfl) (fun _ _ _ h => h) (.inl ⟨by kernel_rfl, fun w' hS' => by kernel_rfl⟩) hS ?_
          refine anyS_take 15 (v := .int .i64 (2 + (X : Int))) rfl (by kernel_rfl) (by kernel_rfl) (by kernel_rfl) (by kernel_rfl) (fun _ _ _ h => h) (.inl ⟨by kernel_rfl, fun w' hS' => by kernel_rfl⟩) hS ?_
          refine anyS_take 16 (v := .int .i64 (2 + (X : Int) + 1)) rfl (by kernel_rfl) (by kernel_rfl) (by kernel_rfl) (by kernel_rfl) (fun _ _ _ h => h) (.inl ⟨by kernel_rfl, fun w' hS' => by go_simp⟩) hS ?_
          refine anyS_take 17 (v := .pointer (some ⟨b, off + (2 + X + 1), none⟩)) rfl (by kernel_rfl) (by kernel_rfl) (by kernel_rfl) (by kernel_rfl) (fun _ _ _ h => h) (.inl ⟨by kernel_rfl, fun w' hS' => by (go_simp; exact fun h => absurd (h (by omega)) (by omega))⟩) hS ?_
          refine anyS_take 18 (v := .int .u8 (Z : Int)) rfl (by kernel_rfl) (by kernel_rfl) (by kernel_rfl) (by kernel_rfl) (fun _ _ _ h => h) (.inl ⟨by kernel_rfl, fun w' hS' => by (obtain ⟨k1, k2⟩ := hS'; go_simp)⟩) hS ?_
          refine anyS_take 19 (v := .agg #[.int .u8 (Y : Int), .int .u8 (Z : Int)]) rfl (by kernel_rfl) (by kernel_rfl) (by kernel_rfl) (by kernel_rfl) (fun _ _ _ h => h) (.inl ⟨by kernel_rfl, fun w' hS' => by go_simp⟩) hS ?_
          refine anyS_oneG 9 rfl (by kernel_rfl) (by kernel_rfl) ?_
          intro K hK
          go_simp
          refine (checksum_any (some ⟨b, off, none⟩) (2 + X) c _ w.drew HhC.out (by omega)).mono ?_
          rintro e w2 ⟨rfl, hb2⟩
          have hS2 : w2.cell? ⟨b, off + (2 + X), none⟩ = some (.int .u8 (Y : Int)) ∧ w2.cell? ⟨b, off + (2 + X + 1), none⟩ = some (.int .u8 (Z : Int)) := ⟨(hb2.cell (p := ⟨b, off + (2 + X), none⟩) hb).trans hcE, (hb2.cell (p := ⟨b, off + (2 + X + 1), none⟩) hb).trans hcF⟩
          have Hb2 := Lib.hid (show Below w.heap.size w w2 from (below_drewN (Below.refl _ _) 1).trans hb2)
          obtain ⟨s1, hs1⟩ : ∃ s1, (sums (x :: f :: rest.take X)).1 = s1 := ⟨_, rfl⟩
          obtain ⟨s2, hs2⟩ : ∃ s2, (sums (x :: f :: rest.take X)).2 = s2 := ⟨_, rfl⟩
          rw [hs1, hs2] at Hff ⊢
          clear hs1 hs2
          refine hK _ _ ⟨fun _ => hS2, ?_⟩
          clear hK
          by_cases hsum : s1 = Y ∧ s2 = Z
          · obtain ⟨rfl, rfl⟩ := hsum
            have hff2 := Hff.out
            rw [if_pos ⟨rfl, rfl⟩] at hff2
            have H := Lib.hid (ffV_some (A := some ⟨b, off, none⟩) (c := c) hff2)
            have hrl : (rest.take X).length = X := by have := Hl.out; simp at this; rw [List.length_take]; omega
            rw [hrl] at H
            clear Hff hff2 hrl
            refine anyS_take 20 (v := .bool false) rfl (by kernel_rfl) (by kernel_rfl) (by kernel_rfl) (by kernel_rfl) (fun _ _ _ h => h) (.inl ⟨by kernel_rfl, fun w' hS' => by go_simp⟩) hS2 ?_
            refine anyS_take 21 (v := .bool false) rfl (by kernel_rfl) (by kernel_rfl) (by kernel_rfl) (by kernel_rfl) (fun _ _ _ h => h) (.inl ⟨by kernel_rfl, fun w' hS' => by go_simp⟩) hS2 ?_
            refine anyS_done (by kernel_rfl) ?_
            go_wp2
            go_ret
            exact ⟨by rw [H.out, show X + 4 = 2 + X + 2 by omega]; rfl, Hb2.out⟩
          · have hff2 := Hff.out
            rw [if_neg hsum] at hff2
            have H := Lib.hid (ffV_none (A := some ⟨b, off, none⟩) (c := c) hff2)
            clear Hff hff2
            refine anyS_take 20 (v := .bool true) rfl (by kernel_rfl) (by kernel_rfl) (by kernel_rfl) (by kernel_rfl) (fun _ _ _ h => h) (.inl ⟨by kernel_rfl, fun w' hS' => by (go_simp; omega)⟩) hS2 ?_
            refine anyS_take 21 (v := .bool true) rfl (by kernel_rfl) (by kernel_rfl) (by kernel_rfl) (by kernel_rfl) (fun _ _ _ h => h) (.inl ⟨by kernel_rfl, fun w' hS' => by go_simp⟩) hS2 ?_
            refine anyS_done (by kernel_rfl) ?_
            go_wp2
            go_ret
            exact ⟨by rw [H.out]; rfl, Hb2.out⟩
    · have H := Lib.hid (ffV_none (A := some ⟨b, off, none⟩) (c := c) (ff_no1 (x := x) (f := f) (rest := rest) (by rw [HX.out]; exact h3)))
      rw [H.out]
      have hf : (decide (1 ≤ X) && decide (X ≤ 60)) = false := by simp; omega
      rw [hf] at hrs
      have Hrs := Lib.hid hrs
      clear hrs
      go_enter Try.func171, Try.ntmps171
      go_wp2_with fail
      refine Hrs.out.mono ?_
      rintro e w1 ⟨rfl, rfl⟩
      go_wp2
      go_ret
      exact ⟨rfl, Below.refl _ _⟩
end Go.Proofs.Ytmlgaedhfannmaa

/- Package wal: bytes.Clone; the reader of frames; Scan. -/
namespace Go.Proofs.Ytmlgaedhfannmaa
set_option linter.unusedVariables false
set_option linter.unusedSimpArgs false
open Go.RowKit
theorem wl_eql_nil (w : World) (a : Option Addr) (n c n' c' : Nat) : (binOp .eql 56 (.slice a n c) (.slice none n' c')).run Try.prog w = .ok (.bool a.isNone) w := Lib.run_eql_slice_nil w _ _ a n c n' c' Try.underlying56
theorem wl_neq_nil (w : World) (a : Option Addr) (n c : Nat) : (binOp .neq 56 (.slice a n c) (.slice none 0 0)).run Try.prog w = .ok (.bool a.isSome) w := by
  simp only [binOp]
  simp [Op.equal, Op.maxDepth, Lib.run_equalIn_slice_nil w 9999 56 _ a n c 0 0 Try.underlying56]
theorem clone_any (ad : Addr) (n c B : Nat) (l : List UInt8) (w : World) (hh : Holds w B 1 (some ad) n (l.map bv)) (hn : n ≤ 1048576) :
    Calls Try.prog 144 #[.slice (some ad) n c] w fun e w' => ∃ v', e = .returned v' ∧ Own w' w.heap.size v' l ∧ Below w.heap.size w w' := by
  obtain ⟨i0, hi0, hz0, hz1, hz2⟩ := info_parts info_u8
  have hl := hh.len
  have q22 := wl_eql_nil
  have hB : (Holds (w.alloc (.cells #[] 5)) B 1 (some ad) n (l.map bv)) := by
    refine ⟨hh.1, fun hn => ?_⟩
    obtain ⟨b, off, e, hb, hc⟩ := hh.2 hn
    refine ⟨b, off, e, hb, fun j u hu => ?_⟩
    exact Lib.cell?_alloc_some _ (hc j u hu)
  have HB := Lib.hid hB
  have hown := World.ownsRow_made (base := w.heap.size) (size := 1) (e := 5) w #[] 0 (Nat.le_refl _) (Nat.zero_le _) rfl
  have Hown := Lib.hid hown
  have hb0 := (Below.refl w.heap.size w).alloc (Nat.le_refl _) (.cells #[] 5)
  have Hb0 := Lib.hid hb0
  have hs0 := hb0.size
  have hlen : 0 + n ≤ 1048576 := by omega
  clear hh hB hown hb0
  go_enter Try.func144, Try.ntmps144
  go_wp2_with (at_builtin; refine wpList_append_all _ (by rfl) _ _ 56 (by rfl) w.heap.size 5 i0 _ 1 1 Try.underlying56 hi0 hz0 hz1 hz2 rfl (by decide) _ _ _ (by rfl) Hown.out B (some ad) n c _ (by rfl) (fun h => by cases h) HB.out (bv_one _) hlen (by decide) hs0 ?_; intro v1 w1 ho1 hg1 _; have Ho1 := Lib.hid ho1; have Hb1 := Lib.hid (Hb0.out.grown hg1 hs0 (fun k hk => (Hown.out.lt k hk).1)); clear ho1 hg1)
  go_ret
  refine ⟨v1, rfl, ?_, Hb1.out⟩
  have := Ho1.out
  unfold Own
  rw [hl]
  simpa using this
/-- The reader: its box g holds the bytes that are not yet read. -/
def Rdr (w : World) (g B : Nat) (l : List UInt8) : Prop :=
  ∃ A n c, Blk w g 56 #[.slice A n c] ∧ Holds w B 1 A n (l.map bv) ∧ n ≤ c ∧ n ≤ 1200
theorem Rdr.below {w w' : World} {g B C : Nat} {l : List UInt8} (h : Rdr w g B l) (hb : Below C w w') (hg : g < C) (hB : B ≤ C) : Rdr w' g B l := by
  obtain ⟨A, n, c, h1, h2, h3⟩ := h
  exact ⟨A, n, c, h1.below hb hg, h2.below (hb.mono hB), h3⟩
/-- The frame that the reader has returned, where b was ahead of it. -/
def FrameV (w : World) (g B : Nat) (b : List UInt8) (v : Value) : Prop :=
  match ff b with
  | none => v = .slice none 0 0
  | some (r, last, b') => ∃ ad c, v = .slice (some ad) (r.length + 4) c ∧ r.length + 4 ≤ c ∧ Holds w B 1 (some ad) (r.length + 4) ((frm (if last then 1 else 0) r).map bv) ∧ Rdr w g B b'
theorem frameV_mk {w : World} {g B b off n c m n' c' : Nat} {A' : Option Addr} {l r b' : List UInt8} {last : Bool} {cs : Array Value} (hf : ff l = some (r, last, b')) (hm : r.length + 4 = m) (hk : Blk w g 56 cs) (hcs : cs.size = 1)
    (hh : Holds w B 1 (some ⟨b, off, none⟩) n (l.map bv)) (hB : B ≤ g) (hc : m ≤ c) (hr : Holds w B 1 A' n' (b'.map bv)) (hn : n' ≤ c') (hn2 : n' ≤ 1200) :
    FrameV (w.setCell ⟨g, 0, none⟩ (.slice A' n' c')) g B l (.slice (some ⟨b, off, none⟩) m c) := by
  have hb : Below B w (w.setCell ⟨g, 0, none⟩ (.slice A' n' c')) := (Below.refl B w).setCell (p := ⟨g, 0, none⟩) hB _
  obtain ⟨_, hl⟩ := ff_some hf
  have hlen := ff_len hf
  have hhl := hh.len
  unfold FrameV
  rw [hf]
  refine ⟨⟨b, off, none⟩, c, by rw [hm], by omega, ?_, A', n', c', ?_, hr.below hb, hn, hn2⟩
  · have h1 := (hh.below hb).first (k := r.length + 4) (by omega)
    rw [hl, List.take_append_of_le_length (by rw [frm_len]; omega), List.take_of_length_le (by rw [frm_len]; omega)] at h1
    exact h1
  · have h2 := hk.set_ 0 (.slice A' n' c')
    have e : cs.setIfInBounds 0 (.slice A' n' c') = #[.slice A' n' c'] := by
      obtain ⟨cl⟩ := cs
      match cl, hcs with
      | [x], _ => rfl
    rw [e] at h2
    exact h2
set_option maxHeartbeats 1000000 in
theorem next_any (g B : Nat) (l : List UInt8) (w : World) (h : Rdr w g B l) (hB : B ≤ g) :
    Calls Try.prog 170 #[.pointer (some ⟨g, 0, none⟩)] w fun e w' => ∃ v, e = .returned v ∧ FrameV w' g B l v ∧ w.grownBy w' (some g) := by
  obtain ⟨A, n, c, hblk, hh, hnc, hn⟩ := h
  have hg := hblk.lt
  have c0 : w.cell? ⟨g, 0, none⟩ = some (.slice A n c) := hblk.cell 0
  have hl := hh.len
  have H0 := Lib.hid (firstFrame_any A n c l w (hh.wider (by omega)) hn hnc)
  have Hb := Lib.hid hblk
  have Hh := Lib.hid hh
  have Hl := Lib.hid hl
  clear hblk hh hl
  cases hf : ff l with
  | none =>
    rw [ffV_none hf] at H0
    have HF := Lib.hid hf
    clear hf
    go_enter Try.func170, Try.ntmps170
    go_wp2_with fail
    refine H0.out.mono ?_
    rintro e w1 ⟨rfl, hb1⟩
    have hblk1 := Hb.out.below hb1 hg
    have c1 : w1.cell? ⟨g, 0, none⟩ = some (.slice A n c) := hblk1.cell 0
    have f1 := hblk1.frozen 0
    have Hb1 := Lib.hid hb1
    clear hblk1 hb1
    go_wp2
    all_goals
      go_ret
      refine ⟨_, rfl, ?_, only_setCell (only_below Hb1.out (some g)) (.inl rfl) _⟩
      unfold FrameV
      rw [HF.out]
      rfl
  | some x =>
    obtain ⟨r, last, b'⟩ := x
    rw [ffV_some hf] at H0
    have hlen := ff_len hf
    obtain ⟨hr, hb'⟩ := ff_some hf
    have HF := Lib.hid hf
    have Hb' := Lib.hid hb'
    have hr4 : r.length + 4 ≤ n := by have := Hl.out; omega
    obtain ⟨hr1, hr2⟩ := hr
    obtain ⟨b, off, rfl, hbb, _⟩ := Hh.out.2 (by omega)
    obtain ⟨m, hm⟩ : ∃ m, r.length + 4 = m := ⟨_, rfl⟩
    rw [hm] at H0 hr4
    have Hm := Lib.hid hm
    have hm5 : 5 ≤ m := by omega
    clear hf hb' hm
    go_enter Try.func170, Try.ntmps170
    go_wp2_with fail
    refine H0.out.mono ?_
    rintro e w1 ⟨rfl, hb1⟩
    have hblk1 := Hb.out.below hb1 hg
    have c1 : w1.cell? ⟨g, 0, none⟩ = some (.slice (some ⟨b, off, none⟩) n c) := hblk1.cell 0
    have f1 := hblk1.frozen 0
    have Hb1 := Lib.hid hb1
    have Hk1 := Lib.hid hblk1
    clear hblk1 hb1
    go_wp2
    · go_ret
      have hh1 : Holds w1 B 1 (some ⟨b, off, none⟩) n (l.map bv) := Hh.out.below (Hb1.out.mono (by omega))
      have hb0 : b' = [] := List.eq_nil_of_length_eq_zero (by have := Hl.out; have := Hm.out; omega)
      refine ⟨_, rfl, frameV_mk HF.out Hm.out Hk1.out rfl hh1 hB (by omega) ?_ (by omega) (by omega), only_setCell (only_below Hb1.out (some g)) (.inl rfl) _⟩
      rw [hb0, show n - m = 0 by omega]
      exact Holds.empty
    · go_ret
      have hh1 : Holds w1 B 1 (some ⟨b, off, none⟩) n (l.map bv) := Hh.out.below (Hb1.out.mono (by omega))
      refine ⟨_, rfl, frameV_mk HF.out Hm.out Hk1.out rfl hh1 hB (by omega) ?_ (by omega) (by omega), only_setCell (only_below Hb1.out (some g)) (.inl rfl) _⟩
      have hb'' := Hb'.out
      have hbb' : b < B := by
        obtain ⟨_, _, e, h, _⟩ := Hh.out.2 (by omega)
        cases e; exact h
      refine ⟨by rw [List.length_map]; have := Hl.out; have := Hm.out; omega, fun _ => ⟨b, off + m, rfl, hbb', fun j u hu => ?_⟩⟩
      obtain ⟨_, _, e, _, hc⟩ := hh1.2 (by omega)
      injection e with e
      injection e with e1 e2
      subst e1 e2
      rw [Nat.add_assoc]
      refine hc (m + j) u ?_
      rw [hb'', List.map_append, List.getElem?_append_right (by rw [List.length_map, frm_len]; have := Hm.out; omega)]
      rw [List.length_map, frm_len, Hm.out, Nat.add_sub_cancel_left]
      exact hu
def ScR (w : World) (l : List UInt8) (gk : Nat) (vB vU vC vR vF : Value) (wr : World) : Prop :=
  ∃ (b : List UInt8) (read used : Nat) (cur : List (List UInt8)) (acc : List (List (List UInt8))),
    vU = .int .i64 used ∧ vR = .int .i64 read ∧ gk = b.length ∧ scn b read used cur acc = scan l ∧ read + b.length = l.length ∧ used ≤ read ∧ cur.length ≤ read ∧ acc.length ≤ read ∧
    FrameV wr w.heap.size w.heap.size b vF ∧ ScSt wr (w.heap.size + 1) vB vC acc cur ∧ Below w.heap.size w wr ∧ w.heap.size + 1 ≤ wr.heap.size
theorem frameReader_any (A : Option Addr) (n c : Nat) (w : World) :
    Calls Try.prog 143 #[.slice A n c] w fun e w' => e = .returned (.func (.func 170) #[] #[.pointer (some ⟨w.heap.size, 0, none⟩)]) ∧ w' = w.alloc (.cells #[.slice A n c] 56) := by
  go_enter Try.func143, Try.ntmps143
  go_wp2
  go_ret
  exact ⟨rfl, rfl⟩
def scanR (l : List UInt8) : List (List (List UInt8)) × Nat × Int := if 1200 < l.length then ([], 0, 1) else ((scan l).1, (scan l).2, 0)
def newB (w w' : World) : Nat → Prop := fun b => w.heap.size ≤ b ∧ b < w'.heap.size
set_option maxHeartbeats 2000000 in
theorem wlScan_any (A : Option Addr) (n c : Nat) (l : List UInt8) (w : World) (hh : Holds w w.heap.size 1 A n (l.map bv)) (hnc : n ≤ c) (hn : n ≤ 9223372036854775807) :
    Calls Try.prog 126 #[.slice A n c] w fun e w' => ∃ v, e = .returned (.tuple #[v, .int .i64 (scanR l).2.1, .int .i64 (scanR l).2.2]) ∧ In3 w' (newB w w') (scanR l).1 v ∧ Below w.heap.size w w' := by
  have hl := hh.len
  by_cases hbig : (1200 : Int) < n
  · have H := Lib.hid (show scanR l = ([], 0, 1) by unfold scanR; rw [if_pos (by omega)])
    clear hl
    go_enter Try.func126, Try.ntmps126
    go_wp2
    go_ret3
    refine ⟨_, by rw [H.out]; rfl, ?_, Below.refl _ _⟩
    rw [H.out]
    exact ⟨none, 0, [], rfl, by simp, fun _ => rfl, HoldsS.nil, Ats.nil⟩
  · have H := Lib.hid (show scanR l = ((scan l).1, (scan l).2, 0) by unfold scanR; rw [if_neg (by omega)])
    have hR : Rdr (w.alloc (.cells #[.slice A n c] 56)) w.heap.size w.heap.size l :=
      ⟨A, n, c, Blk.new w _ _, hh.alloc (Nat.le_refl _) _, hnc, by omega⟩
    have HR := Lib.hid hR
    have Hl := Lib.hid hl
    have q23 := wl_neq_nil
    have hl12 : l.length ≤ 1200 := by omega
    have hb0 := (Below.refl w.heap.size w).alloc (Nat.le_refl _) (.cells #[.slice A n c] 56)
    have Hb0 := Lib.hid hb0
    have hs0 : w.heap.size + 1 ≤ (w.alloc (.cells #[.slice A n c] 56)).heap.size := by simp
    clear hR hl hb0 hh
    go_enter Try.func126, Try.ntmps126
    go_wp2_with fail
    refine (frameReader_any A n c w).mono ?_
    rintro e w1 ⟨rfl, hw1⟩
    rw [← hw1] at HR Hb0 hs0
    clear hw1
    go_wp2_with fail
    refine (next_any w.heap.size w.heap.size l w1 HR.out (Nat.le_refl _)).mono ?_
    rintro e w2 ⟨vF, rfl, hF, hb2⟩
    have HF := Lib.hid hF
    have Hb2 := Lib.hid (Hb0.out.trans (below_only hb2 (Nat.le_refl _) (by omega)))
    have hs2 : w.heap.size + 1 ≤ w2.heap.size := Nat.le_trans hs0 hb2.size
    clear hF hb2 HR
    go_wp2
    go_loopg [2, 3, 5, 6, 8] l.length (ScR w l)
    case atStart => exact ⟨l, 0, 0, [], [], rfl, rfl, rfl, rfl, by omega, by omega, by simp, by simp, HF.out, ScSt.empty _ _, Hb2.out, hs2⟩
    case round =>
      obtain ⟨b, read, used, cur, acc, rfl, rfl, rfl, hsc, hrb, hur, hcr, har, hfr, hst, hbe, hsz⟩ := hrel
      cases hf : ff b with
      | none =>
        have hv := hfr
        unfold FrameV at hv
        rw [hf] at hv
        replace hv : _ = Value.slice none 0 0 := hv
        subst hv
        rw [scn_none hf] at hsc
        have Hst := Lib.hid hst
        have Hbe := Lib.hid hbe
        have Hsc := Lib.hid hsc
        clear hst hbe hsc hf hfr
        go_wp2
        go_ret3
        refine ⟨_, by rw [H.out, ← Hsc.out]; rfl, ?_, Hbe.out⟩
        rw [H.out, ← Hsc.out]
        exact stays3.2 _ _ _ _ _ Hst.out.built fun b hb => ⟨by have := hb.1; omega, hb.2⟩
      | some x =>
        obtain ⟨r, last, b'⟩ := x
        have hfr' := hfr
        unfold FrameV at hfr'
        rw [hf] at hfr'
        obtain ⟨ad, cF, rfl, hcF, hhF, hRd⟩ := hfr'
        rw [scn_some hf] at hsc
        obtain ⟨⟨hr1, hr2⟩, _⟩ := ff_some hf
        have hlb := ff_len hf
        have hhl := hhF.len
        obtain ⟨b0, off, e0, hb0, hcell⟩ := hhF.2 (by omega)
        injection e0 with e0
        subst e0
        have Hhr := Lib.hid (show Holds wr w.heap.size 1 (some ⟨b0, off + 2, none⟩) r.length (r.map bv) from ⟨by simp, fun _ => ⟨b0, off + 2, rfl, hb0, fun j u hu => by
          rw [Nat.add_assoc]
          refine hcell (2 + j) u ?_
          rw [Nat.add_comm 2 j]
          simp only [frm, List.cons_append, List.map_cons, List.getElem?_cons_succ]
          rw [List.map_append, List.getElem?_append_left (by have := (List.getElem?_eq_some_iff.1 hu).1; simpa using this)]
          exact hu⟩⟩)
        have Hst := Lib.hid hst
        have Hbe := Lib.hid hbe
        have hfr' := hfr
        clear hf hfr hhF
        cases last
        · simp only [Bool.false_eq_true, if_false] at hsc hcell hhl
          have Hsc := Lib.hid hsc
          have hflag : wr.cell? ⟨b0, off + 1, none⟩ = some (.int .u8 0) := by
            have := hcell 1 (bv 0) (by simp [frm])
            exact this
          have HRd := Lib.hid hRd
          clear hsc hRd hst hbe hcell hfr' hhl
          go_wp2_with fail
          refine (clone_any _ _ _ w.heap.size r wr Hhr.out (by omega)).mono ?_
          rintro e w3 ⟨v3, rfl, ho3, hb3⟩
          obtain ⟨A3, c3, rfl, _⟩ := own_form ho3
          have hflag3 : w3.cell? ⟨b0, off + 1, none⟩ = some (.int .u8 0) := (hb3.cell (p := ⟨b0, off + 1, none⟩) (by show b0 < wr.heap.size; omega)).trans hflag
          have Hst3 := Lib.hid (Hst.out.below hb3)
          have Hin3 := Lib.hid (Hst3.out.in1 ho3 hsz)
          have Hb3 := Lib.hid (Hbe.out.trans (hb3.mono (by omega)))
          have HR3 := Lib.hid (HRd.out.below hb3 (by omega) (by omega))
          have hs3 : w.heap.size + 1 ≤ w3.heap.size := Nat.le_trans hsz hb3.size
          have hlen4 : cur.length + 1 ≤ 1048576 := by omega
          have hlen5 : acc.length + 1 ≤ 1048576 := by omega
          clear ho3 hb3 Hst Hbe HRd hflag
          go_wp2_with (first
            | (at_builtin; refine wpList_scPush (by rfl) _ _ (by rfl) (w.heap.size + 1) _ _ acc cur (by rfl) Hst3.out r _ Hin3.out (by rfl) hlen4 hs3 ?_; clear Hin3 Hst3; intro v4 w4 hst4 hb4 _; obtain ⟨A4, c4, hv4⟩ := hst4.formC; rw [List.length_append, List.length_singleton] at hv4; subst hv4; have Hst4 := Lib.hid hst4; have hb4' : Below (w.heap.size + 1) w3 w4 := hb4; have hs4 : w.heap.size + 1 ≤ w4.heap.size := Nat.le_trans hs3 hb4.size; have hflag4 : w4.cell? ⟨b0, off + 1, none⟩ = some (.int .u8 0) := (hb4.cell (p := ⟨b0, off + 1, none⟩) (by show b0 < w.heap.size + 1; omega)).trans hflag3; clear hst4 hb4)
)
          refine (next_any w.heap.size w.heap.size b' w4 (HR3.out.below (hb4') (by omega) (by omega)) (Nat.le_refl _)).mono ?_
          rintro e w6 ⟨v6, rfl, hF6, hb6⟩
          have Hb6 := Lib.hid (Hb3.out.trans ((hb4'.mono (Nat.le_succ _)).trans (below_only hb6 (Nat.le_refl _) (by omega))))
          have hs6 : w.heap.size + 1 ≤ w6.heap.size := Nat.le_trans hs4 hb6.size
          have Hst6 := Lib.hid (Hst4.out.only hb6 (Nat.lt_succ_self _))
          go_wp2
          go_roundg b'.length
          case measure => omega
          case rel => exact ⟨b', read + (r.length + 4), used, cur ++ [r], acc, rfl, by go_num, rfl, Hsc.out, by omega, by omega, by simp; omega, by omega, hF6, Hst6.out, Hb6.out, hs6⟩
        · simp only [if_true] at hsc hcell hhl
          have Hsc := Lib.hid hsc
          have hflag : wr.cell? ⟨b0, off + 1, none⟩ = some (.int .u8 1) := by
            have := hcell 1 (bv 1) (by simp [frm])
            exact this
          have HRd := Lib.hid hRd
          clear hsc hRd hst hbe hcell hfr' hhl
          go_wp2_with fail
          refine (clone_any _ _ _ w.heap.size r wr Hhr.out (by omega)).mono ?_
          rintro e w3 ⟨v3, rfl, ho3, hb3⟩
          obtain ⟨A3, c3, rfl, _⟩ := own_form ho3
          have hflag3 : w3.cell? ⟨b0, off + 1, none⟩ = some (.int .u8 1) := (hb3.cell (p := ⟨b0, off + 1, none⟩) (by show b0 < wr.heap.size; omega)).trans hflag
          have Hst3 := Lib.hid (Hst.out.below hb3)
          have Hin3 := Lib.hid (Hst3.out.in1 ho3 hsz)
          have Hb3 := Lib.hid (Hbe.out.trans (hb3.mono (by omega)))
          have HR3 := Lib.hid (HRd.out.below hb3 (by omega) (by omega))
          have hs3 : w.heap.size + 1 ≤ w3.heap.size := Nat.le_trans hsz hb3.size
          have hlen4 : cur.length + 1 ≤ 1048576 := by omega
          have hlen5 : acc.length + 1 ≤ 1048576 := by omega
          clear ho3 hb3 Hst Hbe HRd hflag
          go_wp2_with (first
            | (at_builtin; refine wpList_scPush (by rfl) _ _ (by rfl) (w.heap.size + 1) _ _ acc cur (by rfl) Hst3.out r _ Hin3.out (by rfl) hlen4 hs3 ?_; clear Hin3 Hst3; intro v4 w4 hst4 hb4 _; obtain ⟨A4, c4, hv4⟩ := hst4.formC; rw [List.length_append, List.length_singleton] at hv4; subst hv4; have Hst4 := Lib.hid hst4; have hb4' : Below (w.heap.size + 1) w3 w4 := hb4; have hs4 : w.heap.size + 1 ≤ w4.heap.size := Nat.le_trans hs3 hb4.size; have hflag4 : w4.cell? ⟨b0, off + 1, none⟩ = some (.int .u8 1) := (hb4.cell (p := ⟨b0, off + 1, none⟩) (by show b0 < w.heap.size + 1; omega)).trans hflag3; clear hst4 hb4)
            | (at_builtin; refine wpList_scFlush (by rfl) _ _ (by rfl) (w.heap.size + 1) _ _ acc (cur ++ [r]) (by rfl) Hst4.out (by rfl) hlen5 hs4 ?_; clear Hst4; intro v5 w5 hst5 hb5 _; have Hst5 := Lib.hid hst5; have hb5' : Below (w.heap.size + 1) w3 w5 := hb4'.trans hb5; have hs5 : w.heap.size + 1 ≤ w5.heap.size := Nat.le_trans hs4 hb5.size; clear hst5 hb5))
          refine (next_any w.heap.size w.heap.size b' w5 (HR3.out.below (hb5') (by omega) (by omega)) (Nat.le_refl _)).mono ?_
          rintro e w6 ⟨v6, rfl, hF6, hb6⟩
          have Hb6 := Lib.hid (Hb3.out.trans ((hb5'.mono (Nat.le_succ _)).trans (below_only hb6 (Nat.le_refl _) (by omega))))
          have hs6 : w.heap.size + 1 ≤ w6.heap.size := Nat.le_trans hs5 hb6.size
          have Hst6 := Lib.hid (Hst5.out.only hb6 (Nat.lt_succ_self _))
          go_wp2
          go_roundg b'.length
          case measure => omega
          case rel => exact ⟨b', read + (r.length + 4), read + (r.length + 4), [], acc ++ [cur ++ [r]], by go_num, by go_num, rfl, Hsc.out, by omega, by omega, by simp, by simp; omega, hF6, Hst6.out, Hb6.out, hs6⟩
end Go.Proofs.Ytmlgaedhfannmaa

/- Package wal: how many batches and records a scan can return. -/
namespace Go.Proofs.Ytmlgaedhfannmaa
set_option linter.unusedVariables false
set_option linter.unusedSimpArgs false
theorem pkT_ge (n i : Nat) (l : List (List UInt8)) : l.length ≤ (pkT n i l).length ∧ ∀ r ∈ l, r.length ≤ (pkT n i l).length := by
  induction l generalizing i with
  | nil => simp [pkT]
  | cons r t ih =>
    obtain ⟨h1, h2⟩ := ih (i + 1)
    simp only [pkT, List.length_append, frm_len, List.length_cons]
    refine ⟨by omega, fun x hx => ?_⟩
    rcases List.mem_cons.1 hx with rfl | hx
    · omega
    · have := h2 x hx; omega
theorem packs_ge (x : List (List (List UInt8))) (h : ∀ b ∈ x, okBatch b) : x.length ≤ (packs x).length ∧ ∀ b ∈ x, (pack b).length ≤ (packs x).length := by
  induction x with
  | nil => simp [packs]
  | cons b t ih =>
    obtain ⟨h1, h2⟩ := ih fun y hy => h y (by simp [hy])
    have e : packs (b :: t) = pack b ++ packs t := by simp [packs]
    have hb := (h b (by simp)).1
    have h0 : 1 ≤ (pack b).length := by
      have h3 : b.length ≤ (pack b).length := (pkT_ge b.length 0 b).1
      have h4 : 0 < b.length := List.length_pos_iff.2 hb
      omega
    rw [e, List.length_append, List.length_cons]
    refine ⟨by omega, fun y hy => ?_⟩
    rcases List.mem_cons.1 hy with rfl | hy
    · omega
    · have := h2 y hy; omega
theorem bdl_of (x : List (List (List UInt8))) (h : ∀ b ∈ x, okBatch b) (hl : (packs x).length ≤ 1048576) : BdL x := by
  obtain ⟨h1, h2⟩ := packs_ge x h
  refine ⟨by omega, fun b hb => ?_⟩
  have h3 := h2 b hb
  obtain ⟨h4, h5⟩ := pkT_ge b.length 0 b
  have h6 : (pkT b.length 0 b).length = (pack b).length := rfl
  exact ⟨by omega, fun r hr => by have := h5 r hr; omega⟩
theorem scan_bd (l : List UInt8) (h : l.length ≤ 1200) : BdL (scan l).1 := by
  obtain ⟨h1, ⟨d, h2⟩, h3⟩ := scan_reads l
  have h4 : l.length = (packs (scan l).1).length + d.length := by
    have := congrArg List.length h2
    rwa [List.length_append] at this
  exact bdl_of _ h1 (by omega)
theorem scanR_bd (l : List UInt8) : BdL (scanR l).1 := by
  unfold scanR
  split
  · exact ⟨by simp, by simp⟩
  · exact scan_bd l (by omega)
end Go.Proofs.Ytmlgaedhfannmaa
