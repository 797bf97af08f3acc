/- Joined texts: SlMem, SlSpec. -/
import Derived.Test.YtbdbcffnjibjoaaGreatDoorBunA
import Derived.Test.YtbdbcffnjibjoaaGreatDoorJIncr
import Derived.Test.YtbdbcffnjibjoaaGreatDoorJText
import Derived.Test.YtbdbcffnjibjoaaGreatDoorBunB
/- Memory of package seal: a value's five cells in a box, keys and parts of the call's own whose parts share what lies below. -/
namespace Go.Proofs.YtbdbcffnjibjoaaGreatDoor
set_option linter.unusedVariables false
set_option linter.unusedSimpArgs false
open Go.RowKit

theorem sl_info_val : (Tryz.prog.info? 25).map (fun i => (i.zero, i.size, i.bytes)) = some (some (.agg #[.int .i64 0, .int .i64 0, .string ⟨#[]⟩, .slice none 0 0, .slice none 0 0]), 5, 80) := by kernel_rfl
theorem sl_info_str : (Tryz.prog.info? 9).map (fun i => (i.zero, i.size, i.bytes)) = some (some (.string ⟨#[]⟩), 1, 16) := by kernel_rfl
theorem sl_str_one (l : List (List UInt8)) : ∀ u ∈ l.map str, u.oneCell' = true := by
  intro u hu
  obtain ⟨b, _, rfl⟩ := List.mem_map.1 hu
  rfl

/-- A string has one cell, as 'build' and 'buildSlice' ask for it. -/
@[go_sem high] theorem str_cells (l : List UInt8) : Value.cells (str l) = #[str l] := rfl
@[go_sem high] theorem str_match (l : List UInt8) : (Value.cells.match_1 (fun _ => Array Value) (str l) (fun cs => cs) (fun v => #[v])) = #[str l] := rfl

/-! ### a box of five cells -/
theorem sl_box {w : World} {g : Nat} {t : TypeId} {a0 a1 a2 a3 a4 : Value} (h : Blk w g t #[a0, a1, a2, a3, a4]) :
    w.cell? ⟨g, 0, none⟩ = some a0 ∧ w.cell? ⟨g, 1, none⟩ = some a1 ∧ w.cell? ⟨g, 2, none⟩ = some a2 ∧ w.cell? ⟨g, 3, none⟩ = some a3 ∧ w.cell? ⟨g, 4, none⟩ = some a4 ∧
    w.frozen? ⟨g, 0, none⟩ = false ∧ w.frozen? ⟨g, 1, none⟩ = false ∧ w.frozen? ⟨g, 2, none⟩ = false ∧ w.frozen? ⟨g, 3, none⟩ = false ∧ w.frozen? ⟨g, 4, none⟩ = false :=
  ⟨h.cell 0, h.cell 1, h.cell 2, h.cell 3, h.cell 4, h.frozen 0, h.frozen 1, h.frozen 2, h.frozen 3, h.frozen 4⟩
theorem sl_set5 {w : World} {g : Nat} {t : TypeId} {a0 a1 a2 a3 a4 : Value} (h : Blk w g t #[a0, a1, a2, a3, a4]) (b0 b1 b2 b3 b4 : Value) :
    Blk (((((w.setCell ⟨g, 0, none⟩ b0).setCell ⟨g, 1, none⟩ b1).setCell ⟨g, 2, none⟩ b2).setCell ⟨g, 3, none⟩ b3).setCell ⟨g, 4, none⟩ b4) g t #[b0, b1, b2, b3, b4] :=
  ((((h.set_ 0 b0).set_ 1 b1).set_ 2 b2).set_ 3 b3).set_ 4 b4
theorem sl_far5 {w : World} {g g' : Nat} {t : TypeId} {cs : Array Value} (h : Blk w g t cs) (hg : g ≠ g') (b0 b1 b2 b3 b4 : Value) :
    Blk (((((w.setCell ⟨g', 0, none⟩ b0).setCell ⟨g', 1, none⟩ b1).setCell ⟨g', 2, none⟩ b2).setCell ⟨g', 3, none⟩ b3).setCell ⟨g', 4, none⟩ b4) g t cs :=
  ((((h.far (p := ⟨g', 0, none⟩) hg _).far (p := ⟨g', 1, none⟩) hg _).far (p := ⟨g', 2, none⟩) hg _).far (p := ⟨g', 3, none⟩) hg _).far (p := ⟨g', 4, none⟩) hg _
theorem sl_below5 {a w : World} {B g' : Nat} (h : Below B a w) (hg : B ≤ g') (b0 b1 b2 b3 b4 : Value) :
    Below B a (((((w.setCell ⟨g', 0, none⟩ b0).setCell ⟨g', 1, none⟩ b1).setCell ⟨g', 2, none⟩ b2).setCell ⟨g', 3, none⟩ b3).setCell ⟨g', 4, none⟩ b4) :=
  ((((h.setCell hg _).setCell hg _).setCell hg _).setCell hg _).setCell hg _
theorem sl_size5 (w : World) (g' : Nat) (b0 b1 b2 b3 b4 : Value) : (((((w.setCell ⟨g', 0, none⟩ b0).setCell ⟨g', 1, none⟩ b1).setCell ⟨g', 2, none⟩ b2).setCell ⟨g', 3, none⟩ b3).setCell ⟨g', 4, none⟩ b4).heap.size = w.heap.size := by simp [World.setCell]
theorem sl_block5 {w : World} {g' k : Nat} (hp : k ≠ g') (b0 b1 b2 b3 b4 : Value) : (((((w.setCell ⟨g', 0, none⟩ b0).setCell ⟨g', 1, none⟩ b1).setCell ⟨g', 2, none⟩ b2).setCell ⟨g', 3, none⟩ b3).setCell ⟨g', 4, none⟩ b4).heap[k]? = w.heap[k]? := by
  rw [Below.heap_setCell _ _ _ _ hp, Below.heap_setCell _ _ _ _ hp, Below.heap_setCell _ _ _ _ hp, Below.heap_setCell _ _ _ _ hp, Below.heap_setCell _ _ _ _ hp]
/-- The end of a function whose one result is a value in memory. -/
theorem ret_v1 {fn : Func} {R : Ending → World → Prop} {a : Act} {W : World} {g : Nat} {s1 : Tmp} {x0 x1 x2 x3 x4 : Value}
    (hf : fn.results = #[.cell s1 25]) (h1 : a.tmps.getD s1 undef = .pointer (some ⟨g, 0, none⟩))
    (hb : Blk W g 25 #[x0, x1, x2, x3, x4]) (hd : a.defers = []) (hR : R (.returned (.agg #[x0, x1, x2, x3, x4])) W) : bodyPost Tryz.prog fn R .ret a W := by
  refine bodyPost_ret ?_ hd hR
  obtain ⟨c0, c1, c2, c3, c4, _⟩ := sl_box hb
  simp only [Array.getD_eq_getD_getElem?] at h1
  simp [results, hf, h1, go_sem, c0, c1, c2, c3, c4]
theorem ret_v2 {fn : Func} {R : Ending → World → Prop} {a : Act} {W : World} {g : Nat} {s1 s2 : Tmp} {b x0 x1 x2 x3 x4 : Value}
    (hf : fn.results = #[.cell s1 25, .tmp s2]) (h1 : a.tmps.getD s1 undef = .pointer (some ⟨g, 0, none⟩)) (h2 : a.tmps.getD s2 undef = b)
    (hb : Blk W g 25 #[x0, x1, x2, x3, x4]) (hd : a.defers = []) (hR : R (.returned (.tuple #[.agg #[x0, x1, x2, x3, x4], b])) W) : bodyPost Tryz.prog fn R .ret a W := by
  refine bodyPost_ret ?_ hd hR
  obtain ⟨c0, c1, c2, c3, c4, _⟩ := sl_box hb
  simp only [Array.getD_eq_getD_getElem?] at h1 h2
  simp [results, hf, h1, h2, go_sem, c0, c1, c2, c3, c4]

/-! ### rows of the call's own -/
theorem sl_row_of {w : World} {B : Nat} {e : TypeId} {size : Nat} {v : Value} {n : Nat} {xs : List Value} (h : w.ownsRow B e size v n xs) : ∀ g, v.ownBlock = some g → ∃ c fz, w.heap[g]? = some (.cells c e fz) := by
  intro g hg
  rcases h.2 with ⟨rfl, _⟩ | ⟨g', cap, cur, rfl, _, hh, _⟩
  · simp [Value.ownBlock] at hg
  · simp [Value.ownBlock] at hg; subst hg; exact ⟨_, _, hh⟩
theorem sl_apart {w : World} {B B' e e' size size' n n' : Nat} {v v' : Value} {xs xs' : List Value} (h : w.ownsRow B e size v n xs) (h' : w.ownsRow B' e' size' v' n' xs') (hne : e ≠ e') : v.ownBlock = none ∨ v.ownBlock ≠ v'.ownBlock := by
  cases hv : v.ownBlock with
  | none => exact .inl rfl
  | some g =>
    right
    intro e1
    obtain ⟨c, fz, h1⟩ := sl_row_of h g hv
    obtain ⟨c', fz', h2⟩ := sl_row_of h' g e1.symm
    rw [h1] at h2
    injection h2 with h2
    injection h2 with _ h3
    exact hne h3
/-- A row stays, where its block stays. -/
theorem sl_own_kept {w w' : World} {B e size n : Nat} {v : Value} {xs : List Value} (h : w.ownsRow B e size v n xs) (hb : ∀ g, v.ownBlock = some g → w'.heap[g]? = w.heap[g]?) : w'.ownsRow B e size v n xs := by
  refine ⟨h.1, ?_⟩
  rcases h.2 with hn | ⟨g, cap, cur, rfl, h1, h2, rest⟩
  · exact .inl hn
  · exact .inr ⟨g, cap, cur, rfl, h1, (hb g rfl).trans h2, rest⟩
theorem sl_own_below {w w' : World} {B e size n : Nat} {v : Value} {xs : List Value} (h : w.ownsRow B e size v n xs) (hb : Below w.heap.size w w') : w'.ownsRow B e size v n xs :=
  sl_own_kept h fun g hg => hb.block g (World.ownsRow.lt h g hg).2
theorem sl_own_cap {w : World} {base e size n c : Nat} {A : Option Addr} {xs : List Value} (h : w.ownsRow base e size (.slice A n c) n xs) : n ≤ c := by
  rcases h.2 with ⟨hv, hn⟩ | ⟨g, cap, cur, hv, _, _, hnc, _⟩
  · omega
  · injection hv with _ _ hc; omega
theorem PIn.snoc {w : World} {B : Nat} : ∀ {ps : List JV} {pc : List Value} {v : JV} {c : List Value}, PIn w B ps pc → VIn w B v c → PIn w B (ps ++ [v]) (pc ++ c)
  | [], pc, v, c, h, hv => by
    unfold PIn at h; subst h
    show PIn w B [v] ([] ++ c)
    unfold PIn
    exact ⟨c, [], by simp, hv, by unfold PIn; rfl⟩
  | p :: r, pc, v, c, h, hv => by
    unfold PIn at h
    obtain ⟨c', rest, rfl, h2, h3⟩ := h
    show PIn w B (p :: (r ++ [v])) (c' ++ rest ++ c)
    unfold PIn
    exact ⟨c', rest ++ c, by simp, h2, PIn.snoc h3 hv⟩
theorem VIn.form {w : World} {B : Nat} {v : JV} {cs : List Value} (h : VIn w B v cs) : ∃ k n t Ak nk ck Ap np cp, cs = [.int .i64 k, .int .i64 n, str t, .slice Ak nk ck, .slice Ap np cp] := by
  cases v; unfold VIn at h; obtain ⟨Ak, ck, Ap, cp, pc, rfl, _⟩ := h; exact ⟨_, _, _, _, _, _, _, _, _, rfl⟩
theorem VIn.one {w : World} {B : Nat} {v : JV} {cs : List Value} (h : VIn w B v cs) : ∀ u ∈ cs, u.oneCell' = true := by
  obtain ⟨k, n, t, Ak, nk, ck, Ap, np, cp, rfl⟩ := h.form
  intro u hu
  simp at hu
  rcases hu with rfl | rfl | rfl | rfl | rfl <;> rfl

/-- Keys at kv and parts at pv: both rows the call's own (from block base on); what the parts point to lies below B. -/
def ObjB (w : World) (B base : Nat) (kv pv : Value) (ks : List (List UInt8)) (ps : List JV) : Prop :=
  w.ownsRow base 9 1 kv ks.length (ks.map str) ∧ ∃ xs, w.ownsRow base 25 5 pv ps.length xs ∧ PIn w B ps xs
theorem ObjB.nil (w : World) (B base : Nat) : ObjB w B base (.slice none 0 0) (.slice none 0 0) [] [] := ⟨World.ownsRow_nil _ _ _ _, [], World.ownsRow_nil _ _ _ _, by unfold PIn; rfl⟩
section
variable {w w' : World} {B base : Nat} {kv pv : Value} {ks : List (List UInt8)} {ps : List JV}
theorem ObjB.below (h : ObjB w B base kv pv ks ps) (hb : Below w.heap.size w w') (hB : B ≤ w.heap.size) : ObjB w' B base kv pv ks ps := by
  obtain ⟨h1, xs, h2, h3⟩ := h
  exact ⟨sl_own_below h1 hb, xs, sl_own_below h2 hb, h3.below (hb.mono hB)⟩
/-- A store to a box between B and base. -/
theorem ObjB.set (h : ObjB w B base kv pv ks ps) {p : Addr} (h1 : B ≤ p.block) (h2 : p.block < base) (u : Value) : ObjB (w.setCell p u) B base kv pv ks ps := by
  obtain ⟨k1, xs, k2, k3⟩ := h
  exact ⟨ownsRow_setCell_below k1 h2 u, xs, ownsRow_setCell_below k2 h2 u, k3.below ((Below.refl _ _).setCell h1 u)⟩
theorem ObjB.set5 (h : ObjB w B base kv pv ks ps) {g : Nat} (h1 : B ≤ g) (h2 : g < base) (b0 b1 b2 b3 b4 : Value) :
    ObjB (((((w.setCell ⟨g, 0, none⟩ b0).setCell ⟨g, 1, none⟩ b1).setCell ⟨g, 2, none⟩ b2).setCell ⟨g, 3, none⟩ b3).setCell ⟨g, 4, none⟩ b4) B base kv pv ks ps :=
  ((((h.set (p := ⟨g, 0, none⟩) h1 h2 b0).set (p := ⟨g, 1, none⟩) h1 h2 b1).set (p := ⟨g, 2, none⟩) h1 h2 b2).set (p := ⟨g, 3, none⟩) h1 h2 b3).set (p := ⟨g, 4, none⟩) h1 h2 b4
theorem ObjB.forms (h : ObjB w B base kv pv ks ps) : (∃ A c, kv = .slice A ks.length c) ∧ ∃ A c, pv = .slice A ps.length c := by
  obtain ⟨h1, xs, h2, _⟩ := h
  obtain ⟨A, c, e, _⟩ := own_form h1
  obtain ⟨A', c', e', _⟩ := own_form h2
  exact ⟨⟨A, c, e⟩, A', c', e'⟩
end
theorem ObjB.value {w : World} {B base : Nat} {A A' : Option Addr} {c c' : Nat} {ks : List (List UInt8)} {ps : List JV} (k : Int) (hk : 0 ≤ k ∧ k ≤ 7) (h : ObjB w B base (.slice A ks.length c) (.slice A' ps.length c') ks ps) (hB : B ≤ w.heap.size) (hk1 : ks.length ≤ 1048576) (hp1 : ps.length ≤ 1048576) (hs : ∀ s ∈ ks, s.length ≤ 1048576) :
    VIn w w.heap.size (.mk k 0 [] ks ps) [.int .i64 k, .int .i64 0, str [], .slice A ks.length c, .slice A' ps.length c'] := by
  obtain ⟨h1, xs, h2, h3⟩ := h
  unfold VIn
  exact ⟨A, c, A', c', xs, rfl, by omega, by omega, by simp, hk1, hp1, hs, sl_own_cap h1, sl_own_cap h2, Holds.own h1, Holds.own h2, PIn.wider hB _ _ h3⟩

/-- An append of one key. -/
theorem objB_putK {W : World} {B base : Nat} {kv pv : Value} {ks : List (List UInt8)} {ps : List JV} (h : ObjB W B base kv pv ks ps) (ty : TypeId) (key : List UInt8) (ad : Addr) (c : Nat) (hc : W.cell? (ad.add 0) = some (str key))
    (hn : ks.length + 1 ≤ 1048576) (hB : base ≤ W.heap.size) (hBb : B ≤ base) :
    ∃ v' w', (Builtin.append_ #[22, 22] ty #[kv, .slice (some ad) 1 c]).run Tryz.prog W = .ok v' w' ∧ ObjB w' B base v' pv (ks ++ [key]) ps ∧ Below base W w' := by
  obtain ⟨i0, hi0, hz0, hz1, hz2⟩ := info_parts sl_info_str
  obtain ⟨hk1, xs, h1, h2⟩ := h
  have hap := sl_apart h1 hk1 (by decide)
  obtain ⟨v', w', hrun, k1, k2, _, _⟩ := run_append_own_at (P := Tryz.prog) W base 22 ty 9 i0 _ 1 16 Tryz.underlying22 hi0 hz0 hz1 hz2 rfl (by decide) kv ks.length _ hk1 ad 1 c [str key] rfl
    (fun j u hu => by
      match j, hu with
      | 0, hu => simp at hu; subst hu; exact hc
      | j + 1, hu => simp at hu) (by simp; rfl) (by unfold maxLen; omega) (by omega) hB
  have hbl : Below base W w' := (Below.refl base W).grown k2 hB fun k hk => (World.ownsRow.lt hk1 k hk).1
  exact ⟨v', w', hrun, ⟨by simpa using k1, xs, World.ownsRow.kept h1 k2 hap, h2.below (hbl.mono hBb)⟩, hbl⟩
/-- An append of one part. -/
theorem objB_putP {W : World} {B base : Nat} {kv pv : Value} {ks : List (List UInt8)} {ps : List JV} (h : ObjB W B base kv pv ks ps) (ty : TypeId) (p : JV) (cs : List Value) (hv : VIn W B p cs) (ad : Addr) (c : Nat)
    (hc : ∀ j u, cs[j]? = some u → W.cell? (ad.add j) = some u) (hn : ps.length + 1 ≤ 1048576) (hB : base ≤ W.heap.size) (hBb : B ≤ base) :
    ∃ v' w', (Builtin.append_ #[23, 23] ty #[pv, .slice (some ad) 1 c]).run Tryz.prog W = .ok v' w' ∧ ObjB w' B base kv v' ks (ps ++ [p]) ∧ Below base W w' := by
  obtain ⟨i0, hi0, hz0, hz1, hz2⟩ := info_parts sl_info_val
  obtain ⟨hk1, xs, h1, h2⟩ := h
  have hap := sl_apart hk1 h1 (by decide)
  obtain ⟨v', w', hrun, k1, k2, _, _⟩ := run_append_own_at (P := Tryz.prog) W base 23 ty 25 i0 _ 5 80 Tryz.underlying23 hi0 hz0 hz1 hz2 rfl (by decide) pv ps.length xs h1 ad 1 c cs (by have := hv.len; omega) hc hv.one (by unfold maxLen; omega) (by omega) hB
  have hbl : Below base W w' := (Below.refl base W).grown k2 hB fun k hk => (World.ownsRow.lt h1 k hk).1
  exact ⟨v', w', hrun, ⟨World.ownsRow.kept hk1 k2 hap, xs ++ cs, by simpa using k1, (h2.below (hbl.mono hBb)).snoc (hv.below (hbl.mono hBb))⟩, hbl⟩

/-- The append at an operation of a plain region. -/
theorem wpList_app {W w' : World} {ops : Array Oper} {rest : List Oper} {o : Oper} {a : Act} {Q : Exit → Act → World → Prop} {v' : Value} (hgd : o.guard = none) (s x : Operand) (t : TypeId)
    (ho : o.op = .call { callee := .builtin .append, args := #[s, x], argTypes := #[t, t] }) (vs vx : Value) (hs : a.eval s = vs) (hx : a.eval x = vx)
    (hrun : (Builtin.append_ #[t, t] o.type #[vs, vx]).run Tryz.prog W = .ok v' w') (h : wpList Tryz.prog ops Q rest (a.put o.dst v') w') : wpList Tryz.prog ops Q (o :: rest) a W := by
  refine wpList_plain hgd fun K hK => ?_
  unfold Oper.wp
  simp [execOp, ho, resolve, invoke, builtin, hs, hx, hrun, Result.andThen]
  exact hK _ _ h
/-- The append at an operation of a region that draws. -/
theorem step_app {W w' : World} {ops : Array Oper} {o : Oper} {a : Act} {K : Act → World → Prop} {Q : Exit → Act → World → Prop} {E : Prop} {v' : Value} (hgd : o.guard = none) (s x : Operand) (t : TypeId)
    (ho : o.op = .call { callee := .builtin .append, args := #[s, x], argTypes := #[t, t] }) (vs vx : Value) (hs : a.eval s = vs) (hx : a.eval x = vx)
    (hrun : (Builtin.append_ #[t, t] o.type #[vs, vx]).run Tryz.prog W = .ok v' w') (h : K (a.put o.dst v') w') :
    if Region.wanted o (yielded ops a.tmps) = true then Oper.wp Tryz.prog o a W K Q else E := by
  have hw : Region.wanted o (yielded ops a.tmps) = true := by simp [Region.wanted, hgd]
  rw [if_pos hw]
  unfold Oper.wp execOp
  simp only [ho, resolve, invoke, builtin, Sem.run_bind, Sem.run_pure, Result.andThen_ok, List.map_toArray, List.map_cons, List.map_nil, hs, hx, hrun]
  exact h
section
variable {W : World} {ops : Array Oper} {rest : List Oper} {o : Oper} {a : Act} {K : Act → World → Prop} {Q : Exit → Act → World → Prop} {E : Prop}
theorem wpList_putKB (hgd : o.guard = none) (s x : Operand) (ho : o.op = .call { callee := .builtin .append, args := #[s, x], argTypes := #[22, 22] })
    (B base : Nat) (kv pv : Value) (ks : List (List UInt8)) (ps : List JV) (key : List UInt8) (hs : a.eval s = kv) (h : ObjB W B base kv pv ks ps) (ad : Addr) (c : Nat) (hx : a.eval x = .slice (some ad) 1 c) (hc : W.cell? (ad.add 0) = some (str key))
    (hn : ks.length + 1 ≤ 1048576) (hB : base ≤ W.heap.size) (hBb : B ≤ base)
    (hk : ∀ v' w', ObjB w' B base v' pv (ks ++ [key]) ps → Below base W w' → wpList Tryz.prog ops Q rest (a.put o.dst v') w') : wpList Tryz.prog ops Q (o :: rest) a W := by
  obtain ⟨v', w', hrun, h1, h2⟩ := objB_putK h o.type key ad c hc hn hB hBb
  exact wpList_app hgd s x _ ho _ _ hs hx hrun (hk v' w' h1 h2)
theorem step_putKB (hgd : o.guard = none) (s x : Operand) (ho : o.op = .call { callee := .builtin .append, args := #[s, x], argTypes := #[22, 22] })
    (B base : Nat) (kv pv : Value) (ks : List (List UInt8)) (ps : List JV) (key : List UInt8) (hs : a.eval s = kv) (h : ObjB W B base kv pv ks ps) (ad : Addr) (c : Nat) (hx : a.eval x = .slice (some ad) 1 c) (hc : W.cell? (ad.add 0) = some (str key))
    (hn : ks.length + 1 ≤ 1048576) (hB : base ≤ W.heap.size) (hBb : B ≤ base)
    (hk : ∀ v' w', ObjB w' B base v' pv (ks ++ [key]) ps → Below base W w' → K (a.put o.dst v') w') : if Region.wanted o (yielded ops a.tmps) = true then Oper.wp Tryz.prog o a W K Q else E := by
  obtain ⟨v', w', hrun, h1, h2⟩ := objB_putK h o.type key ad c hc hn hB hBb
  exact step_app hgd s x _ ho _ _ hs hx hrun (hk v' w' h1 h2)
theorem wpList_putPB (hgd : o.guard = none) (s x : Operand) (ho : o.op = .call { callee := .builtin .append, args := #[s, x], argTypes := #[23, 23] })
    (B base : Nat) (kv pv : Value) (ks : List (List UInt8)) (ps : List JV) (p : JV) (cs : List Value) (hs : a.eval s = pv) (h : ObjB W B base kv pv ks ps) (hv : VIn W B p cs) (ad : Addr) (c : Nat) (hx : a.eval x = .slice (some ad) 1 c) (hc : ∀ j u, cs[j]? = some u → W.cell? (ad.add j) = some u)
    (hn : ps.length + 1 ≤ 1048576) (hB : base ≤ W.heap.size) (hBb : B ≤ base)
    (hk : ∀ v' w', ObjB w' B base kv v' ks (ps ++ [p]) → Below base W w' → wpList Tryz.prog ops Q rest (a.put o.dst v') w') : wpList Tryz.prog ops Q (o :: rest) a W := by
  obtain ⟨v', w', hrun, h1, h2⟩ := objB_putP h o.type p cs hv ad c hc hn hB hBb
  exact wpList_app hgd s x _ ho _ _ hs hx hrun (hk v' w' h1 h2)
theorem step_putPB (hgd : o.guard = none) (s x : Operand) (ho : o.op = .call { callee := .builtin .append, args := #[s, x], argTypes := #[23, 23] })
    (B base : Nat) (kv pv : Value) (ks : List (List UInt8)) (ps : List JV) (p : JV) (cs : List Value) (hs : a.eval s = pv) (h : ObjB W B base kv pv ks ps) (hv : VIn W B p cs) (ad : Addr) (c : Nat) (hx : a.eval x = .slice (some ad) 1 c) (hc : ∀ j u, cs[j]? = some u → W.cell? (ad.add j) = some u)
    (hn : ps.length + 1 ≤ 1048576) (hB : base ≤ W.heap.size) (hBb : B ≤ base)
    (hk : ∀ v' w', ObjB w' B base kv v' ks (ps ++ [p]) → Below base W w' → K (a.put o.dst v') w') : if Region.wanted o (yielded ops a.tmps) = true then Oper.wp Tryz.prog o a W K Q else E := by
  obtain ⟨v', w', hrun, h1, h2⟩ := objB_putP h o.type p cs hv ad c hc hn hB hBb
  exact step_app hgd s x _ ho _ _ hs hx hrun (hk v' w' h1 h2)
end
/-- The cells of a part that lies in a block of its own. -/
theorem blk_cells {w : World} {g : Nat} {t : TypeId} {cs : List Value} (h : Blk w g t cs.toArray) : ∀ j u, cs[j]? = some u → w.cell? ((⟨g, 0, none⟩ : Addr).add j) = some u := by
  intro j u hu
  rw [plus_addr, Nat.zero_add, h.cell j]
  simpa using hu
end Go.Proofs.YtbdbcffnjibjoaaGreatDoor

/- Plain mathematics of package seal: an object without the keys that are not signed, the value at the end of keys, a value put there. Nothing of the program is named here but what json.Check answers. -/
namespace Go.Proofs.YtbdbcffnjibjoaaGreatDoor
set_option linter.unusedVariables false
set_option linter.unusedSimpArgs false

def sigK : List UInt8 := [115, 105, 103, 110, 97, 116, 117, 114, 101, 115]
def unsK : List UInt8 := [117, 110, 115, 105, 103, 110, 101, 100]
def omitK (k : List UInt8) : Bool := k == sigK || k == unsK
/-- The members that are signed. -/
def wo : List (List UInt8) → List JV → List (List UInt8) × List JV
  | k :: ks, p :: ps => if omitK k = true then wo ks ps else (k :: (wo ks ps).1, p :: (wo ks ps).2)
  | _, _ => ([], [])
def strip (v : JV) : JV := .mk 7 0 [] (wo v.keys v.parts).1 (wo v.keys v.parts).2
theorem wo_cons_yes {k : List UInt8} {p : JV} {ks : List (List UInt8)} {ps : List JV} (h : omitK k = true) : wo (k :: ks) (p :: ps) = wo ks ps := by rw [wo, if_pos h]
theorem wo_cons_no {k : List UInt8} {p : JV} {ks : List (List UInt8)} {ps : List JV} (h : omitK k = false) : wo (k :: ks) (p :: ps) = (k :: (wo ks ps).1, p :: (wo ks ps).2) := by rw [wo, if_neg (by simp [h])]
theorem wo_drop_yes {ks : List (List UInt8)} {ps : List JV} {j : Nat} (hk : j < ks.length) (hp : j < ps.length) (h : omitK ks[j] = true) : wo (ks.drop j) (ps.drop j) = wo (ks.drop (j + 1)) (ps.drop (j + 1)) := by
  rw [List.drop_eq_getElem_cons hk, List.drop_eq_getElem_cons hp, wo_cons_yes h]
theorem wo_drop_no {ks : List (List UInt8)} {ps : List JV} {j : Nat} (hk : j < ks.length) (hp : j < ps.length) (h : omitK ks[j] = false) :
    wo (ks.drop j) (ps.drop j) = (ks[j] :: (wo (ks.drop (j + 1)) (ps.drop (j + 1))).1, ps[j] :: (wo (ks.drop (j + 1)) (ps.drop (j + 1))).2) := by
  rw [List.drop_eq_getElem_cons hk, List.drop_eq_getElem_cons hp, wo_cons_no h]
theorem wo_nil (ks : List (List UInt8)) : wo ks [] = ([], []) := by cases ks <;> rfl
theorem wo_len : ∀ (ks : List (List UInt8)) (ps : List JV), (wo ks ps).1.length = (wo ks ps).2.length ∧ (wo ks ps).1.length ≤ ks.length
  | [], ps => by simp [wo]
  | k :: ks, [] => by simp [wo]
  | k :: ks, p :: ps => by
    have h := wo_len ks ps
    cases hk : omitK k
    · rw [wo_cons_no hk]; simp; omega
    · rw [wo_cons_yes hk]; simp; omega
theorem wo_mem : ∀ (ks : List (List UInt8)) (ps : List JV), (∀ x ∈ (wo ks ps).1, x ∈ ks) ∧ (∀ p ∈ (wo ks ps).2, p ∈ ps)
  | [], ps => by simp [wo]
  | k :: ks, [] => by simp [wo]
  | k :: ks, p :: ps => by
    have h := wo_mem ks ps
    cases hk : omitK k
    · rw [wo_cons_no hk]
      refine ⟨fun x hx => ?_, fun q hq => ?_⟩
      · rcases List.mem_cons.1 hx with rfl | hx
        · simp
        · exact List.mem_cons_of_mem _ (h.1 x hx)
      · rcases List.mem_cons.1 hq with rfl | hq
        · simp
        · exact List.mem_cons_of_mem _ (h.2 q hq)
    · rw [wo_cons_yes hk]
      exact ⟨fun x hx => List.mem_cons_of_mem _ (h.1 x hx), fun q hq => List.mem_cons_of_mem _ (h.2 q hq)⟩
theorem wo_incr : ∀ (ks : List (List UInt8)) (ps : List JV), incr ks = true → incr (wo ks ps).1 = true
  | [], ps, _ => by simp [wo, incr]
  | k :: ks, [], _ => by simp [wo, incr]
  | k :: ks, p :: ps, h => by
    obtain ⟨h1, h2⟩ := incr_cons.1 h
    cases hk : omitK k
    · rw [wo_cons_no hk]
      exact incr_cons.2 ⟨fun x hx => h1 x ((wo_mem ks ps).1 x hx), wo_incr ks ps h2⟩
    · rw [wo_cons_yes hk]; exact wo_incr ks ps h2
theorem wo_counts : ∀ (ks : List (List UInt8)) (ps : List JV), counts (wo ks ps).2 ≤ counts ps
  | [], ps => by simp [wo, counts]
  | k :: ks, [] => by simp [wo, counts]
  | k :: ks, p :: ps => by
    have h := wo_counts ks ps
    cases hk : omitK k
    · rw [wo_cons_no hk]; simp [counts]; omega
    · rw [wo_cons_yes hk]; simp [counts]; omega
theorem wo_faults : ∀ (d : Nat) (ks : List (List UInt8)) (ps : List JV), faults d ps = 0 → faults d (wo ks ps).2 = 0
  | d, [], ps, _ => by simp [wo, faults]
  | d, k :: ks, [], _ => by simp [wo, faults]
  | d, k :: ks, p :: ps, h => by
    obtain ⟨h1, h2⟩ := faults_cons h
    have ih := wo_faults d ks ps h2
    cases hk : omitK k
    · rw [wo_cons_no hk]; simp [faults, h1, ih]
    · rw [wo_cons_yes hk]; exact ih
theorem jobj_first : ∀ (ks : List (List UInt8)) (ps : List JV), (jobj true ks ps).length ≤ (jobj false ks ps).length ∧ (jobj false ks ps).length ≤ (jobj true ks ps).length + 1
  | ks, [] => by simp [jobj]
  | [], p :: ps => by simp [jobj]
  | k :: ks, p :: ps => by simp [jobj, sep]
theorem wo_text : ∀ (f : Bool) (ks : List (List UInt8)) (ps : List JV), (jobj f (wo ks ps).1 (wo ks ps).2).length ≤ (jobj f ks ps).length
  | f, [], ps => by cases ps <;> simp [wo, jobj]
  | f, k :: ks, [] => by simp [wo, jobj]
  | f, k :: ks, p :: ps => by
    cases hk : omitK k
    · have ih := wo_text false ks ps
      rw [wo_cons_no hk]; simp [jobj]; omega
    · have ih := wo_text f ks ps
      have h2 := jobj_first ks ps
      rw [wo_cons_yes hk]
      have h3 : (jobj f ks ps).length ≤ (jobj false ks ps).length := by cases f <;> omega
      simp [jobj]; omega
theorem fine_obj {k n : Int} {t : List UInt8} {ks : List (List UInt8)} {ps : List JV} (h : Fine (.mk k n t ks ps)) : ks.length ≤ ps.length ∧ incr ks = true ∧ Fines ps ∧ (k = 7 → ks.length = ps.length ∧ n = 0 ∧ t = []) ∧ (k ≠ 7 → ks = []) := by
  unfold Fine at h
  obtain ⟨ha, hf⟩ := h
  obtain ⟨_, _, _, hobj, _, _, hu⟩ := alone_facts ha
  have hnot : k ≠ 7 → ks = [] := by
    intro h7
    cases ks with
    | nil => rfl
    | cons a l => simp [unused, JV.kind, JV.num, JV.text, JV.keys, JV.parts, h7] at hu
  by_cases h7 : k = 7
  · obtain ⟨h1, h2⟩ := hobj h7
    subst h7
    refine ⟨by omega, h2, hf, fun _ => ⟨h1, ?_, ?_⟩, fun h => absurd rfl h⟩
    · simp [unused, JV.kind, JV.num, JV.text, JV.keys, JV.parts] at hu; exact hu.1
    · simp [unused, JV.kind, JV.num, JV.text, JV.keys, JV.parts] at hu; exact hu.2
  · have := hnot h7
    subst this
    exact ⟨by simp, by simp [incr], hf, fun h => absurd h h7, fun _ => rfl⟩
theorem check_facts {v : JV} (h : checkN v = 0) : fault 0 v = 0 ∧ count v ≤ 100 ∧ (jtext v).length ≤ 600 := by
  unfold checkN at h
  by_cases h1 : fault 0 v = 0
  · rw [if_neg (by simpa using h1)] at h
    by_cases h2 : 100 < count v ∨ 600 < (jtext v).length
    · rw [if_pos h2] at h; cases h
    · exact ⟨h1, by omega, by omega⟩
  · rw [if_pos h1] at h; exact absurd h h1
theorem check_of {v : JV} (h1 : fault 0 v = 0) (h2 : count v ≤ 100) (h3 : (jtext v).length ≤ 600) : checkN v = 0 := by
  unfold checkN
  rw [if_neg (by simpa using h1), if_neg (by omega)]
theorem alone_seven (ks : List (List UInt8)) (ps : List JV) (d : Nat) (hd : d < 6) (h1 : ks.length = ps.length) (h2 : incr ks = true) : alone (.mk 7 0 [] ks ps) d = 0 := by
  show (if 6 ≤ d then (5 : Int) else if (7 : Int) < 1 ∨ 7 < (7 : Int) then 3 else if unused (.mk 7 0 [] ks ps) = true then 4
    else if (7 : Int) = 7 ∧ (ks.length ≠ ps.length ∨ incr ks = false) then 4
    else if (0 : Int) ≤ -9007199254740992 ∨ 9007199254740992 ≤ (0 : Int) then 2 else 0) = 0
  rw [if_neg (by omega), if_neg (by omega), if_neg (by simp [unused, JV.kind, JV.num, JV.text, JV.keys, JV.parts]), if_neg (by simp [h1, h2]), if_neg (by omega)]
theorem fault_seven {ks : List (List UInt8)} {ps : List JV} {d : Nat} (hd : d < 6) (h1 : ks.length = ps.length) (h2 : incr ks = true) (h3 : faults (d + 1) ps = 0) : fault d (.mk 7 0 [] ks ps) = 0 := by
  unfold fault
  rw [if_neg (by simp [alone_seven ks ps d hd h1 h2]), h3]
theorem jtext_seven (ks : List (List UInt8)) (ps : List JV) (n : Int) (t : List UInt8) : jtext (.mk 7 n t ks ps) = 123 :: (jobj true ks ps ++ [125]) := by
  rw [jtext]; simp
/-- An object that is right is right without some of its members. -/
theorem strip_check {v : JV} (h : checkN v = 0) (h7 : v.kind = 7) : checkN (strip v) = 0 := by
  obtain ⟨h1, h2, h3⟩ := check_facts h
  cases v with
  | mk k n t ks ps =>
  have h7' : k = 7 := h7
  subst h7'
  obtain ⟨ha, hfs⟩ := fault_parts h1
  obtain ⟨_, _, _, hobj, _, _, _⟩ := alone_facts ha
  obtain ⟨hl, hi⟩ := hobj rfl
  refine check_of ?_ ?_ ?_
  · exact fault_seven (by omega) (wo_len ks ps).1 (wo_incr ks ps hi) (wo_faults 1 ks ps hfs)
  · have := wo_counts ks ps
    simp only [count, strip, JV.keys, JV.parts] at *; omega
  · have := wo_text true ks ps
    simp only [strip, JV.keys, JV.parts]
    rw [jtext_seven] at h3 ⊢
    simp at *; omega

/-- The error of Text. -/
def sTextN (v : JV) : Int := if checkN v ≠ 0 then checkN v else if v.kind ≠ 7 then 4 else 0
def sTextL (v : JV) : List UInt8 := if sTextN v = 0 then jtext (strip v) else []
def sTextR (v : JV) : Value := .tuple #[str (sTextL v), .int .i64 (sTextN v)]
theorem sText_facts {v : JV} (h : sTextN v = 0) : checkN v = 0 ∧ v.kind = 7 ∧ sTextL v = jtext (strip v) ∧ (sTextL v).length ≤ 600 := by
  have h0 := h
  unfold sTextN at h
  by_cases h1 : checkN v = 0
  · rw [if_neg (by simpa using h1)] at h
    by_cases h2 : v.kind = 7
    · have h3 : sTextL v = jtext (strip v) := by unfold sTextL; rw [if_pos h0]
      exact ⟨h1, h2, h3, by rw [h3]; exact (check_facts (strip_check h1 h2)).2.2⟩
    · rw [if_pos h2] at h; cases h
  · rw [if_pos h1] at h; exact absurd h h1

/-! ### the value at the end of keys -/
def getAt : List (List UInt8) → JV → Option JV
  | [], v => some v
  | k :: r, .mk _ _ _ ks ps => if k ∈ ks then (match ps[place ks k]? with | some p => getAt r p | none => none) else none
/-- The value with another one put at the end of keys; missing objects are made. -/
def putAt : List (List UInt8) → JV → JV → JV
  | [], _, e => e
  | k :: r, .mk kd n t ks ps, e =>
    if k ∈ ks then .mk kd n t ks (ps.set (place ks k) (putAt r (ps.getD (place ks k) (.mk 7 0 [] [] [])) e))
    else .mk kd n t (ks.insertIdx (place ks k) k) (ps.insertIdx (place ks k) (putAt r (.mk 7 0 [] [] []) e))
def isObj (v : JV) : Bool := v.kind == 7
/-- A value on the way is no object. -/
def badAt (ks : List (List UInt8)) (v : JV) : Bool := match getAt ks v with | some p => p.kind != 7 | none => false
def zeroJ : JV := .mk 0 0 [] [] []
theorem fines_at : ∀ {ps : List JV} {i : Nat} {p : JV}, Fines ps → ps[i]? = some p → Fine p
  | [], i, p, _, h => by simp at h
  | q :: r, 0, p, hf, h => by unfold Fines at hf; simp at h; subst h; exact hf.1
  | q :: r, i + 1, p, hf, h => by unfold Fines at hf; exact fines_at hf.2 (by simpa using h)
theorem getAt_fine : ∀ {ks : List (List UInt8)} {v p : JV}, Fine v → getAt ks v = some p → Fine p
  | [], v, p, hf, h => by simp [getAt] at h; subst h; exact hf
  | k :: r, .mk kd n t ks ps, p, hf, h => by
    rw [getAt] at h
    by_cases hm : k ∈ ks
    · rw [if_pos hm] at h
      cases hp : ps[place ks k]? with
      | none => rw [hp] at h; cases h
      | some q => rw [hp] at h; exact getAt_fine (fines_at (fine_obj hf).2.2.1 hp) h
    · rw [if_neg hm] at h; cases h
theorem part_text : ∀ (f : Bool) (ks : List (List UInt8)) (ps : List JV) (i : Nat) (p : JV), ks.length = ps.length → ps[i]? = some p → (jtext p).length ≤ (jobj f ks ps).length
  | f, ks, [], i, p, _, h => by simp at h
  | f, [], q :: ps, i, p, hl, h => by simp at hl
  | f, k :: ks, q :: ps, 0, p, hl, h => by simp at h; subst h; simp [jobj]; omega
  | f, k :: ks, q :: ps, i + 1, p, hl, h => by
    have := part_text false ks ps i p (by simpa using hl) (by simpa using h)
    simp [jobj]; omega
theorem getAt_text : ∀ {ks : List (List UInt8)} {v p : JV}, Fine v → getAt ks v = some p → (jtext p).length ≤ (jtext v).length
  | [], v, p, hf, h => by simp [getAt] at h; subst h; omega
  | k :: r, .mk kd n t ks ps, p, hf, h => by
    rw [getAt] at h
    by_cases hm : k ∈ ks
    · rw [if_pos hm] at h
      obtain ⟨_, _, hfs, h7, hn7⟩ := fine_obj hf
      have hk7 : kd = 7 := Classical.byContradiction fun hc => by rw [hn7 hc] at hm; cases hm
      subst hk7
      cases hp : ps[place ks k]? with
      | none => rw [hp] at h; cases h
      | some q =>
        rw [hp] at h
        have h1 := getAt_text (fines_at hfs hp) h
        have h2 := part_text true ks ps _ _ (h7 rfl).1 hp
        rw [jtext_seven]
        simp; omega
    · rw [if_neg hm] at h; cases h
theorem str_text {n : Int} {t : List UInt8} {ks : List (List UInt8)} {ps : List JV} : t.length ≤ (jtext (.mk 5 n t ks ps)).length := by
  rw [jtext]
  have := (quo_len t).1
  simp; omega
theorem place_in {ks : List (List UInt8)} {k : List UInt8} (hi : incr ks = true) (hm : k ∈ ks) : place ks k < ks.length := by
  have := (place_mem hi).1 hm
  exact (List.getElem?_eq_some_iff.1 this).1
end Go.Proofs.YtbdbcffnjibjoaaGreatDoor
