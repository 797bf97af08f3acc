/- Memory of package seal: a value's five cells in a box, keys and parts of the call's own whose parts share what lies below. -/
import Derived.Test.YtikjpniobihanaaDoorJMemS
import Derived.Test.YtikjpniobihanaaDoorJIncr
import Derived.Test.YtikjpniobihanaaDoorSmall
namespace Go.Proofs.YtikjpniobihanaaDoor
set_option linter.unusedVariables false
set_option linter.unusedSimpArgs false
open Go.RowKit

theorem sl_info_val : (Tryd.prog.info? 25).map (fun i => (i.zero, i.size, i.bytes)) = some (some (.agg #[.int .i64 0, .int .i64 0, .string ⟨#[]⟩, .slice none 0 0, .slice none 0 0]), 5, 80) := by kernel_rfl
theorem sl_info_str : (Tryd.prog.info? 9).map (fun i => (i.zero, i.size, i.bytes)) = some (some (.string ⟨#[]⟩), 1, 16) := by kernel_rfl
theorem sl_str_one (l : List (List UInt8)) : ∀ u ∈ l.map str, u.oneCell' = true := by
  intro u hu
  obtain ⟨b, _, rfl⟩ := List.mem_map.1 hu
  rfl

/-- A string has one cell, as 'build' and 'buildSlice' ask for it. -/
@[go_sem high] theorem str_cells (l : List UInt8) : Value.cells (str l) = #[str l] := rfl
@[go_sem high] theorem str_match (l : List UInt8) : (Value.cells.match_1 (fun _ => Array Value) (str l) (fun cs => cs) (fun v => #[v])) = #[str l] := rfl

/-! ### a box of five cells -/
theorem sl_box {w : World} {g : Nat} {t : TypeId} {a0 a1 a2 a3 a4 : Value} (h : Blk w g t #[a0, a1, a2, a3, a4]) :
    w.cell? ⟨g, 0, none⟩ = some a0 ∧ w.cell? ⟨g, 1, none⟩ = some a1 ∧ w.cell? ⟨g, 2, none⟩ = some a2 ∧ w.cell? ⟨g, 3, none⟩ = some a3 ∧ w.cell? ⟨g, 4, none⟩ = some a4 ∧
    w.frozen? ⟨g, 0, none⟩ = false ∧ w.frozen? ⟨g, 1, none⟩ = false ∧ w.frozen? ⟨g, 2, none⟩ = false ∧ w.frozen? ⟨g, 3, none⟩ = false ∧ w.frozen? ⟨g, 4, none⟩ = false :=
  ⟨h.cell 0, h.cell 1, h.cell 2, h.cell 3, h.cell 4, h.frozen 0, h.frozen 1, h.frozen 2, h.frozen 3, h.frozen 4⟩
theorem sl_set5 {w : World} {g : Nat} {t : TypeId} {a0 a1 a2 a3 a4 : Value} (h : Blk w g t #[a0, a1, a2, a3, a4]) (b0 b1 b2 b3 b4 : Value) :
    Blk (((((w.setCell ⟨g, 0, none⟩ b0).setCell ⟨g, 1, none⟩ b1).setCell ⟨g, 2, none⟩ b2).setCell ⟨g, 3, none⟩ b3).setCell ⟨g, 4, none⟩ b4) g t #[b0, b1, b2, b3, b4] :=
  ((((h.set_ 0 b0).set_ 1 b1).set_ 2 b2).set_ 3 b3).set_ 4 b4
theorem sl_far5 {w : World} {g g' : Nat} {t : TypeId} {cs : Array Value} (h : Blk w g t cs) (hg : g ≠ g') (b0 b1 b2 b3 b4 : Value) :
    Blk (((((w.setCell ⟨g', 0, none⟩ b0).setCell ⟨g', 1, none⟩ b1).setCell ⟨g', 2, none⟩ b2).setCell ⟨g', 3, none⟩ b3).setCell ⟨g', 4, none⟩ b4) g t cs :=
  ((((h.far (p := ⟨g', 0, none⟩) hg _).far (p := ⟨g', 1, none⟩) hg _).far (p := ⟨g', 2, none⟩) hg _).far (p := ⟨g', 3, none⟩) hg _).far (p := ⟨g', 4, none⟩) hg _
theorem sl_below5 {a w : World} {B g' : Nat} (h : Below B a w) (hg : B ≤ g') (b0 b1 b2 b3 b4 : Value) :
    Below B a (((((w.setCell ⟨g', 0, none⟩ b0).setCell ⟨g', 1, none⟩ b1).setCell ⟨g', 2, none⟩ b2).setCell ⟨g', 3, none⟩ b3).setCell ⟨g', 4, none⟩ b4) :=
  ((((h.setCell hg _).setCell hg _).setCell hg _).setCell hg _).setCell hg _
theorem sl_size5 (w : World) (g' : Nat) (b0 b1 b2 b3 b4 : Value) : (((((w.setCell ⟨g', 0, none⟩ b0).setCell ⟨g', 1, none⟩ b1).setCell ⟨g', 2, none⟩ b2).setCell ⟨g', 3, none⟩ b3).setCell ⟨g', 4, none⟩ b4).heap.size = w.heap.size := by simp [World.setCell]
theorem sl_block5 {w : World} {g' k : Nat} (hp : k ≠ g') (b0 b1 b2 b3 b4 : Value) : (((((w.setCell ⟨g', 0, none⟩ b0).setCell ⟨g', 1, none⟩ b1).setCell ⟨g', 2, none⟩ b2).setCell ⟨g', 3, none⟩ b3).setCell ⟨g', 4, none⟩ b4).heap[k]? = w.heap[k]? := by
  rw [Below.heap_setCell _ _ _ _ hp, Below.heap_setCell _ _ _ _ hp, Below.heap_setCell _ _ _ _ hp, Below.heap_setCell _ _ _ _ hp, Below.heap_setCell _ _ _ _ hp]
/-- The end of a function whose one result is a value in memory. -/
theorem ret_v1 {fn : Func} {R : Ending → World → Prop} {a : Act} {W : World} {g : Nat} {s1 : Tmp} {x0 x1 x2 x3 x4 : Value}
    (hf : fn.results = #[.cell s1 25]) (h1 : a.tmps.getD s1 undef = .pointer (some ⟨g, 0, none⟩))
    (hb : Blk W g 25 #[x0, x1, x2, x3, x4]) (hd : a.defers = []) (hR : R (.returned (.agg #[x0, x1, x2, x3, x4])) W) : bodyPost Tryd.prog fn R .ret a W := by
  refine bodyPost_ret ?_ hd hR
  obtain ⟨c0, c1, c2, c3, c4, _⟩ := sl_box hb
  simp only [Array.getD_eq_getD_getElem?] at h1
  simp [results, hf, h1, go_sem, c0, c1, c2, c3, c4]
theorem ret_v2 {fn : Func} {R : Ending → World → Prop} {a : Act} {W : World} {g : Nat} {s1 s2 : Tmp} {b x0 x1 x2 x3 x4 : Value}
    (hf : fn.results = #[.cell s1 25, .tmp s2]) (h1 : a.tmps.getD s1 undef = .pointer (some ⟨g, 0, none⟩)) (h2 : a.tmps.getD s2 undef = b)
    (hb : Blk W g 25 #[x0, x1, x2, x3, x4]) (hd : a.defers = []) (hR : R (.returned (.tuple #[.agg #[x0, x1, x2, x3, x4], b])) W) : bodyPost Tryd.prog fn R .ret a W := by
  refine bodyPost_ret ?_ hd hR
  obtain ⟨c0, c1, c2, c3, c4, _⟩ := sl_box hb
  simp only [Array.getD_eq_getD_getElem?] at h1 h2
  simp [results, hf, h1, h2, go_sem, c0, c1, c2, c3, c4]

/-! ### rows of the call's own -/
theorem sl_row_of {w : World} {B : Nat} {e : TypeId} {size : Nat} {v : Value} {n : Nat} {xs : List Value} (h : w.ownsRow B e size v n xs) : ∀ g, v.ownBlock = some g → ∃ c fz, w.heap[g]? = some (.cells c e fz) := by
  intro g hg
  rcases h.2 with ⟨rfl, _⟩ | ⟨g', cap, cur, rfl, _, hh, _⟩
  · simp [Value.ownBlock] at hg
  · simp [Value.ownBlock] at hg; subst hg; exact ⟨_, _, hh⟩
theorem sl_apart {w : World} {B B' e e' size size' n n' : Nat} {v v' : Value} {xs xs' : List Value} (h : w.ownsRow B e size v n xs) (h' : w.ownsRow B' e' size' v' n' xs') (hne : e ≠ e') : v.ownBlock = none ∨ v.ownBlock ≠ v'.ownBlock := by
  cases hv : v.ownBlock with
  | none => exact .inl rfl
  | some g =>
    right
    intro e1
    obtain ⟨c, fz, h1⟩ := sl_row_of h g hv
    obtain ⟨c', fz', h2⟩ := sl_row_of h' g e1.symm
    rw [h1] at h2
    injection h2 with h2
    injection h2 with _ h3
    exact hne h3
/-- A row stays, where its block stays. -/
theorem sl_own_kept {w w' : World} {B e size n : Nat} {v : Value} {xs : List Value} (h : w.ownsRow B e size v n xs) (hb : ∀ g, v.ownBlock = some g → w'.heap[g]? = w.heap[g]?) : w'.ownsRow B e size v n xs := by
  refine ⟨h.1, ?_⟩
  rcases h.2 with hn | ⟨g, cap, cur, rfl, h1, h2, rest⟩
  · exact .inl hn
  · exact .inr ⟨g, cap, cur, rfl, h1, (hb g rfl).trans h2, rest⟩
theorem sl_own_below {w w' : World} {B e size n : Nat} {v : Value} {xs : List Value} (h : w.ownsRow B e size v n xs) (hb : Below w.heap.size w w') : w'.ownsRow B e size v n xs :=
  sl_own_kept h fun g hg => hb.block g (World.ownsRow.lt h g hg).2
theorem sl_own_cap {w : World} {base e size n c : Nat} {A : Option Addr} {xs : List Value} (h : w.ownsRow base e size (.slice A n c) n xs) : n ≤ c := by
  rcases h.2 with ⟨hv, hn⟩ | ⟨g, cap, cur, hv, _, _, hnc, _⟩
  · omega
  · injection hv with _ _ hc; omega
theorem PIn.snoc {w : World} {B : Nat} : ∀ {ps : List JV} {pc : List Value} {v : JV} {c : List Value}, PIn w B ps pc → VIn w B v c → PIn w B (ps ++ [v]) (pc ++ c)
  | [], pc, v, c, h, hv => by
    unfold PIn at h; subst h
    show PIn w B [v] ([] ++ c)
    unfold PIn
    exact ⟨c, [], by simp, hv, by unfold PIn; rfl⟩
  | p :: r, pc, v, c, h, hv => by
    unfold PIn at h
    obtain ⟨c', rest, rfl, h2, h3⟩ := h
    show PIn w B (p :: (r ++ [v])) (c' ++ rest ++ c)
    unfold PIn
    exact ⟨c', rest ++ c, by simp, h2, PIn.snoc h3 hv⟩
theorem VIn.form {w : World} {B : Nat} {v : JV} {cs : List Value} (h : VIn w B v cs) : ∃ k n t Ak nk ck Ap np cp, cs = [.int .i64 k, .int .i64 n, str t, .slice Ak nk ck, .slice Ap np cp] := by
  cases v; unfold VIn at h; obtain ⟨Ak, ck, Ap, cp, pc, rfl, _⟩ := h; exact ⟨_, _, _, _, _, _, _, _, _, rfl⟩
theorem VIn.one {w : World} {B : Nat} {v : JV} {cs : List Value} (h : VIn w B v cs) : ∀ u ∈ cs, u.oneCell' = true := by
  obtain ⟨k, n, t, Ak, nk, ck, Ap, np, cp, rfl⟩ := h.form
  intro u hu
  simp at hu
  rcases hu with rfl | rfl | rfl | rfl | rfl <;> rfl

/-- Keys at kv and parts at pv: both rows the call's own (from block base on); what the parts point to lies below B. -/
def ObjB (w : World) (B base : Nat) (kv pv : Value) (ks : List (List UInt8)) (ps : List JV) : Prop :=
  w.ownsRow base 9 1 kv ks.length (ks.map str) ∧ ∃ xs, w.ownsRow base 25 5 pv ps.length xs ∧ PIn w B ps xs
theorem ObjB.nil (w : World) (B base : Nat) : ObjB w B base (.slice none 0 0) (.slice none 0 0) [] [] := ⟨World.ownsRow_nil _ _ _ _, [], World.ownsRow_nil _ _ _ _, by unfold PIn; rfl⟩
section
variable {w w' : World} {B base : Nat} {kv pv : Value} {ks : List (List UInt8)} {ps : List JV}
theorem ObjB.below (h : ObjB w B base kv pv ks ps) (hb : Below w.heap.size w w') (hB : B ≤ w.heap.size) : ObjB w' B base kv pv ks ps := by
  obtain ⟨h1, xs, h2, h3⟩ := h
  exact ⟨sl_own_below h1 hb, xs, sl_own_below h2 hb, h3.below (hb.mono hB)⟩
/-- A store to a box between B and base. -/
theorem ObjB.set (h : ObjB w B base kv pv ks ps) {p : Addr} (h1 : B ≤ p.block) (h2 : p.block < base) (u : Value) : ObjB (w.setCell p u) B base kv pv ks ps := by
  obtain ⟨k1, xs, k2, k3⟩ := h
  exact ⟨ownsRow_setCell_below k1 h2 u, xs, ownsRow_setCell_below k2 h2 u, k3.below ((Below.refl _ _).setCell h1 u)⟩
theorem ObjB.set5 (h : ObjB w B base kv pv ks ps) {g : Nat} (h1 : B ≤ g) (h2 : g < base) (b0 b1 b2 b3 b4 : Value) :
    ObjB (((((w.setCell ⟨g, 0, none⟩ b0).setCell ⟨g, 1, none⟩ b1).setCell ⟨g, 2, none⟩ b2).setCell ⟨g, 3, none⟩ b3).setCell ⟨g, 4, none⟩ b4) B base kv pv ks ps :=
  ((((h.set (p := ⟨g, 0, none⟩) h1 h2 b0).set (p := ⟨g, 1, none⟩) h1 h2 b1).set (p := ⟨g, 2, none⟩) h1 h2 b2).set (p := ⟨g, 3, none⟩) h1 h2 b3).set (p := ⟨g, 4, none⟩) h1 h2 b4
theorem ObjB.forms (h : ObjB w B base kv pv ks ps) : (∃ A c, kv = .slice A ks.length c) ∧ ∃ A c, pv = .slice A ps.length c := by
  obtain ⟨h1, xs, h2, _⟩ := h
  obtain ⟨A, c, e, _⟩ := own_form h1
  obtain ⟨A', c', e', _⟩ := own_form h2
  exact ⟨⟨A, c, e⟩, A', c', e'⟩
end
theorem ObjB.value {w : World} {B base : Nat} {A A' : Option Addr} {c c' : Nat} {ks : List (List UInt8)} {ps : List JV} (k : Int) (hk : 0 ≤ k ∧ k ≤ 7) (h : ObjB w B base (.slice A ks.length c) (.slice A' ps.length c') ks ps) (hB : B ≤ w.heap.size) (hk1 : ks.length ≤ 1048576) (hp1 : ps.length ≤ 1048576) (hs : ∀ s ∈ ks, s.length ≤ 1048576) :
    VIn w w.heap.size (.mk k 0 [] ks ps) [.int .i64 k, .int .i64 0, str [], .slice A ks.length c, .slice A' ps.length c'] := by
  obtain ⟨h1, xs, h2, h3⟩ := h
  unfold VIn
  exact ⟨A, c, A', c', xs, rfl, by omega, by omega, by simp, hk1, hp1, hs, sl_own_cap h1, sl_own_cap h2, Holds.own h1, Holds.own h2, PIn.wider hB _ _ h3⟩

/-- An append of one key. -/
theorem objB_putK {W : World} {B base : Nat} {kv pv : Value} {ks : List (List UInt8)} {ps : List JV} (h : ObjB W B base kv pv ks ps) (ty : TypeId) (key : List UInt8) (ad : Addr) (c : Nat) (hc : W.cell? (ad.add 0) = some (str key))
    (hn : ks.length + 1 ≤ 1048576) (hB : base ≤ W.heap.size) (hBb : B ≤ base) :
    ∃ v' w', (Builtin.append_ #[22, 22] ty #[kv, .slice (some ad) 1 c]).run Tryd.prog W = .ok v' w' ∧ ObjB w' B base v' pv (ks ++ [key]) ps ∧ Below base W w' := by
  obtain ⟨i0, hi0, hz0, hz1, hz2⟩ := info_parts sl_info_str
  obtain ⟨hk1, xs, h1, h2⟩ := h
  have hap := sl_apart h1 hk1 (by decide)
  obtain ⟨v', w', hrun, k1, k2, _, _⟩ := run_append_own_at (P := Tryd.prog) W base 22 ty 9 i0 _ 1 16 Tryd.underlying22 hi0 hz0 hz1 hz2 rfl (by decide) kv ks.length _ hk1 ad 1 c [str key] rfl
    (fun j u hu => by
      match j, hu with
      | 0, hu => simp at hu; subst hu; exact hc
      | j + 1, hu => simp at hu) (by simp; rfl) (by unfold maxLen; omega) (by omega) hB
  have hbl : Below base W w' := (Below.refl base W).grown k2 hB fun k hk => (World.ownsRow.lt hk1 k hk).1
  exact ⟨v', w', hrun, ⟨by simpa using k1, xs, World.ownsRow.kept h1 k2 hap, h2.below (hbl.mono hBb)⟩, hbl⟩
/-- An append of one part. -/
theorem objB_putP {W : World} {B base : Nat} {kv pv : Value} {ks : List (List UInt8)} {ps : List JV} (h : ObjB W B base kv pv ks ps) (ty : TypeId) (p : JV) (cs : List Value) (hv : VIn W B p cs) (ad : Addr) (c : Nat)
    (hc : ∀ j u, cs[j]? = some u → W.cell? (ad.add j) = some u) (hn : ps.length + 1 ≤ 1048576) (hB : base ≤ W.heap.size) (hBb : B ≤ base) :
    ∃ v' w', (Builtin.append_ #[23, 23] ty #[pv, .slice (some ad) 1 c]).run Tryd.prog W = .ok v' w' ∧ ObjB w' B base kv v' ks (ps ++ [p]) ∧ Below base W w' := by
  obtain ⟨i0, hi0, hz0, hz1, hz2⟩ := info_parts sl_info_val
  obtain ⟨hk1, xs, h1, h2⟩ := h
  have hap := sl_apart hk1 h1 (by decide)
  obtain ⟨v', w', hrun, k1, k2, _, _⟩ := run_append_own_at (P := Tryd.prog) W base 23 ty 25 i0 _ 5 80 Tryd.underlying23 hi0 hz0 hz1 hz2 rfl (by decide) pv ps.length xs h1 ad 1 c cs (by have := hv.len; omega) hc hv.one (by unfold maxLen; omega) (by omega) hB
  have hbl : Below base W w' := (Below.refl base W).grown k2 hB fun k hk => (World.ownsRow.lt h1 k hk).1
  exact ⟨v', w', hrun, ⟨World.ownsRow.kept hk1 k2 hap, xs ++ cs, by simpa using k1, (h2.below (hbl.mono hBb)).snoc (hv.below (hbl.mono hBb))⟩, hbl⟩

/-- The append at an operation of a plain region. -/
theorem wpList_app {W w' : World} {ops : Array Oper} {rest : List Oper} {o : Oper} {a : Act} {Q : Exit → Act → World → Prop} {v' : Value} (hgd : o.guard = none) (s x : Operand) (t : TypeId)
    (ho : o.op = .call { callee := .builtin .append, args := #[s, x], argTypes := #[t, t] }) (vs vx : Value) (hs : a.eval s = vs) (hx : a.eval x = vx)
    (hrun : (Builtin.append_ #[t, t] o.type #[vs, vx]).run Tryd.prog W = .ok v' w') (h : wpList Tryd.prog ops Q rest (a.put o.dst v') w') : wpList Tryd.prog ops Q (o :: rest) a W := by
  refine wpList_plain hgd fun K hK => ?_
  unfold Oper.wp
  simp [execOp, ho, resolve, invoke, builtin, hs, hx, hrun, Result.andThen]
  exact hK _ _ h
/-- The append at an operation of a region that draws. -/
theorem step_app {W w' : World} {ops : Array Oper} {o : Oper} {a : Act} {K : Act → World → Prop} {Q : Exit → Act → World → Prop} {E : Prop} {v' : Value} (hgd : o.guard = none) (s x : Operand) (t : TypeId)
    (ho : o.op = .call { callee := .builtin .append, args := #[s, x], argTypes := #[t, t] }) (vs vx : Value) (hs : a.eval s = vs) (hx : a.eval x = vx)
    (hrun : (Builtin.append_ #[t, t] o.type #[vs, vx]).run Tryd.prog W = .ok v' w') (h : K (a.put o.dst v') w') :
    if Region.wanted o (yielded ops a.tmps) = true then Oper.wp Tryd.prog o a W K Q else E := by
  have hw : Region.wanted o (yielded ops a.tmps) = true := by simp [Region.wanted, hgd]
  rw [if_pos hw]
  unfold Oper.wp execOp
  simp only [ho, resolve, invoke, builtin, Sem.run_bind, Sem.run_pure, Result.andThen_ok, List.map_toArray, List.map_cons, List.map_nil, hs, hx, hrun]
  exact h
section
variable {W : World} {ops : Array Oper} {rest : List Oper} {o : Oper} {a : Act} {K : Act → World → Prop} {Q : Exit → Act → World → Prop} {E : Prop}
theorem wpList_putKB (hgd : o.guard = none) (s x : Operand) (ho : o.op = .call { callee := .builtin .append, args := #[s, x], argTypes := #[22, 22] })
    (B base : Nat) (kv pv : Value) (ks : List (List UInt8)) (ps : List JV) (key : List UInt8) (hs : a.eval s = kv) (h : ObjB W B base kv pv ks ps) (ad : Addr) (c : Nat) (hx : a.eval x = .slice (some ad) 1 c) (hc : W.cell? (ad.add 0) = some (str key))
    (hn : ks.length + 1 ≤ 1048576) (hB : base ≤ W.heap.size) (hBb : B ≤ base)
    (hk : ∀ v' w', ObjB w' B base v' pv (ks ++ [key]) ps → Below base W w' → wpList Tryd.prog ops Q rest (a.put o.dst v') w') : wpList Tryd.prog ops Q (o :: rest) a W := by
  obtain ⟨v', w', hrun, h1, h2⟩ := objB_putK h o.type key ad c hc hn hB hBb
  exact wpList_app hgd s x _ ho _ _ hs hx hrun (hk v' w' h1 h2)
theorem step_putKB (hgd : o.guard = none) (s x : Operand) (ho : o.op = .call { callee := .builtin .append, args := #[s, x], argTypes := #[22, 22] })
    (B base : Nat) (kv pv : Value) (ks : List (List UInt8)) (ps : List JV) (key : List UInt8) (hs : a.eval s = kv) (h : ObjB W B base kv pv ks ps) (ad : Addr) (c : Nat) (hx : a.eval x = .slice (some ad) 1 c) (hc : W.cell? (ad.add 0) = some (str key))
    (hn : ks.length + 1 ≤ 1048576) (hB : base ≤ W.heap.size) (hBb : B ≤ base)
    (hk : ∀ v' w', ObjB w' B base v' pv (ks ++ [key]) ps → Below base W w' → K (a.put o.dst v') w') : if Region.wanted o (yielded ops a.tmps) = true then Oper.wp Tryd.prog o a W K Q else E := by
  obtain ⟨v', w', hrun, h1, h2⟩ := objB_putK h o.type key ad c hc hn hB hBb
  exact step_app hgd s x _ ho _ _ hs hx hrun (hk v' w' h1 h2)
theorem wpList_putPB (hgd : o.guard = none) (s x : Operand) (ho : o.op = .call { callee := .builtin .append, args := #[s, x], argTypes := #[23, 23] })
    (B base : Nat) (kv pv : Value) (ks : List (List UInt8)) (ps : List JV) (p : JV) (cs : List Value) (hs : a.eval s = pv) (h : ObjB W B base kv pv ks ps) (hv : VIn W B p cs) (ad : Addr) (c : Nat) (hx : a.eval x = .slice (some ad) 1 c) (hc : ∀ j u, cs[j]? = some u → W.cell? (ad.add j) = some u)
    (hn : ps.length + 1 ≤ 1048576) (hB : base ≤ W.heap.size) (hBb : B ≤ base)
    (hk : ∀ v' w', ObjB w' B base kv v' ks (ps ++ [p]) → Below base W w' → wpList Tryd.prog ops Q rest (a.put o.dst v') w') : wpList Tryd.prog ops Q (o :: rest) a W := by
  obtain ⟨v', w', hrun, h1, h2⟩ := objB_putP h o.type p cs hv ad c hc hn hB hBb
  exact wpList_app hgd s x _ ho _ _ hs hx hrun (hk v' w' h1 h2)
theorem step_putPB (hgd : o.guard = none) (s x : Operand) (ho : o.op = .call { callee := .builtin .append, args := #[s, x], argTypes := #[23, 23] })
    (B base : Nat) (kv pv : Value) (ks : List (List UInt8)) (ps : List JV) (p : JV) (cs : List Value) (hs : a.eval s = pv) (h : ObjB W B base kv pv ks ps) (hv : VIn W B p cs) (ad : Addr) (c : Nat) (hx : a.eval x = .slice (some ad) 1 c) (hc : ∀ j u, cs[j]? = some u → W.cell? (ad.add j) = some u)
    (hn : ps.length + 1 ≤ 1048576) (hB : base ≤ W.heap.size) (hBb : B ≤ base)
    (hk : ∀ v' w', ObjB w' B base kv v' ks (ps ++ [p]) → Below base W w' → K (a.put o.dst v') w') : if Region.wanted o (yielded ops a.tmps) = true then Oper.wp Tryd.prog o a W K Q else E := by
  obtain ⟨v', w', hrun, h1, h2⟩ := objB_putP h o.type p cs hv ad c hc hn hB hBb
  exact step_app hgd s x _ ho _ _ hs hx hrun (hk v' w' h1 h2)
end
/-- The cells of a part that lies in a block of its own. -/
theorem blk_cells {w : World} {g : Nat} {t : TypeId} {cs : List Value} (h : Blk w g t cs.toArray) : ∀ j u, cs[j]? = some u → w.cell? ((⟨g, 0, none⟩ : Addr).add j) = some u := by
  intro j u hu
  rw [plus_addr, Nat.zero_add, h.cell j]
  simpa using hu
end Go.Proofs.YtikjpniobihanaaDoor
