/- The message box: posts, messages, and what posts come to, in memory. -/
import Derived.Test.YtmlgaedhfannmaaBxM
import Derived.Test.YtmlgaedhfannmaaBunVB
namespace Go.Proofs.Ytmlgaedhfannmaa
set_option linter.unusedVariables false
set_option linter.unusedSimpArgs false
open Go.RowKit
def ptL (p : Pt) : List Value := [.int .i64 p.kind, str p.frm, .int .i64 p.txn, str p.body, .int .i64 p.since]
def mlL (m : Ml) : List Value := [.int .i64 m.at_, str m.frm, str m.body]
def msL (p : Pt) : List Value := [str p.frm, .int .i64 p.txn]
theorem ptL_len (p : Pt) : (ptL p).length = 5 := rfl
theorem mlL_len (m : Ml) : (mlL m).length = 3 := rfl
theorem msL_len (p : Pt) : (msL p).length = 2 := rfl
theorem ptL_one (p : Pt) : ∀ u ∈ ptL p, u.oneCell' = true := by intro u hu; simp [ptL] at hu; rcases hu with rfl | rfl | rfl | rfl | rfl <;> rfl
theorem mlL_one (m : Ml) : ∀ u ∈ mlL m, u.oneCell' = true := by intro u hu; simp [mlL] at hu; rcases hu with rfl | rfl | rfl <;> rfl
theorem msL_one (p : Pt) : ∀ u ∈ msL p, u.oneCell' = true := by intro u hu; simp [msL] at hu; rcases hu with rfl | rfl <;> rfl
theorem info_mail : (Try.prog.info? 115).map (fun i => (i.zero, i.size, i.bytes)) = some (some (.agg #[.int .i64 0, .string ⟨#[]⟩, .string ⟨#[]⟩]), 3, 40) := by kernel_rfl
theorem info_msg : (Try.prog.info? 223).map (fun i => (i.zero, i.size, i.bytes)) = some (some (.agg #[.string ⟨#[]⟩, .int .i64 0]), 2, 24) := by kernel_rfl
theorem info_got : (Try.prog.info? 79).map (fun i => (i.zero, i.size, i.bytes)) = some (some (.agg #[.int .i64 0, .int .i64 0, .slice none 0 0]), 3, 40) := by kernel_rfl
theorem info_post : (Try.prog.info? 76).map (fun i => (i.zero, i.size, i.bytes)) = some (some (.agg #[.int .i64 0, .string ⟨#[]⟩, .int .i64 0, .string ⟨#[]⟩, .int .i64 0]), 5, 56) := by kernel_rfl
@[go_sem ↓high] theorem bx_str_cells (l : List UInt8) : (str l).cells = #[str l] := rfl
/-- The append at an operation, by its run. -/
theorem bx_app {W w' : World} {ops : Array Oper} {rest : List Oper} {o : Oper} {a : Act} {Q : Exit → Act → World → Prop} {v' : Value} (hgd : o.guard = none) (s x : Operand) (t : TypeId)
    (ho : o.op = .call { callee := .builtin .append, args := #[s, x], argTypes := #[t, t] }) (vs vx : Value) (hs : a.eval s = vs) (hx : a.eval x = vx)
    (hrun : (Builtin.append_ #[t, t] o.type #[vs, vx]).run Try.prog W = .ok v' w') (h : wpList Try.prog ops Q rest (a.put o.dst v') w') : wpList Try.prog ops Q (o :: rest) a W := by
  refine wpList_plain hgd fun K hK => ?_
  unfold Oper.wp
  simp [execOp, ho, resolve, invoke, builtin, hs, hx, hrun, Result.andThen]
  exact hK _ _ h
section
variable {w w' : World} {B B' n c i : Nat} {A : Option Addr}
theorem pt_at {l : List Pt} (h : LIn ptL 5 w B A n c l) (hi : i < l.length) :
    ∃ b off, A = some ⟨b, off, none⟩ ∧ b < B ∧ w.cell? ⟨b, off + i * 5, none⟩ = some (.int .i64 l[i].kind) ∧ w.cell? ⟨b, off + i * 5 + 1, none⟩ = some (str l[i].frm) ∧ w.cell? ⟨b, off + i * 5 + 2, none⟩ = some (.int .i64 l[i].txn) ∧ w.cell? ⟨b, off + i * 5 + 3, none⟩ = some (str l[i].body) ∧ w.cell? ⟨b, off + i * 5 + 4, none⟩ = some (.int .i64 l[i].since) := by
  obtain ⟨b, off, hA, hb, hc⟩ := h.at_ ptL_len hi
  refine ⟨b, off, hA, hb, hc 0 _ (by omega) rfl, ?_, ?_, ?_, ?_⟩
  · have := hc 1 _ (by omega) rfl; rwa [← Nat.add_assoc] at this
  · have := hc 2 _ (by omega) rfl; rwa [← Nat.add_assoc] at this
  · have := hc 3 _ (by omega) rfl; rwa [← Nat.add_assoc] at this
  · have := hc 4 _ (by omega) rfl; rwa [← Nat.add_assoc] at this
theorem ml_at {l : List Ml} (h : LIn mlL 3 w B A n c l) (hi : i < l.length) :
    ∃ b off, A = some ⟨b, off, none⟩ ∧ b < B ∧ w.cell? ⟨b, off + i * 3, none⟩ = some (.int .i64 l[i].at_) ∧ w.cell? ⟨b, off + i * 3 + 1, none⟩ = some (str l[i].frm) ∧ w.cell? ⟨b, off + i * 3 + 2, none⟩ = some (str l[i].body) := by
  obtain ⟨b, off, hA, hb, hc⟩ := h.at_ mlL_len hi
  refine ⟨b, off, hA, hb, hc 0 _ (by omega) rfl, ?_, ?_⟩
  · have := hc 1 _ (by omega) rfl; rwa [← Nat.add_assoc] at this
  · have := hc 2 _ (by omega) rfl; rwa [← Nat.add_assoc] at this
theorem ms_at {l : List Pt} (h : LIn msL 2 w B A n c l) (hi : i < l.length) :
    ∃ b off, A = some ⟨b, off, none⟩ ∧ b < B ∧ w.cell? ⟨b, off + i * 2, none⟩ = some (str l[i].frm) ∧ w.cell? ⟨b, off + i * 2 + 1, none⟩ = some (.int .i64 l[i].txn) := by
  obtain ⟨b, off, hA, hb, hc⟩ := h.at_ msL_len hi
  refine ⟨b, off, hA, hb, hc 0 _ (by omega) rfl, ?_⟩
  have := hc 1 _ (by omega) rfl; rwa [← Nat.add_assoc] at this
end
/-- One behind the other, each in cells of its own. -/
def Cls {α : Type} (E : α → List Value → Prop) : List α → List Value → Prop
  | [], pc => pc = []
  | a :: r, pc => ∃ c rest, pc = c ++ rest ∧ E a c ∧ Cls E r rest
section
variable {α : Type} {E E' : α → List Value → Prop} {k : Nat}
theorem Cls.nil : Cls E [] [] := by unfold Cls; rfl
theorem Cls.imp (hi : ∀ x c, E x c → E' x c) : ∀ {l : List α} {pc : List Value}, Cls E l pc → Cls E' l pc
  | [], _, h => h
  | x :: l, pc, h => by
    unfold Cls at h ⊢
    obtain ⟨c, rest, h1, h2, h3⟩ := h
    exact ⟨c, rest, h1, hi x c h2, Cls.imp hi h3⟩
theorem Cls.len (hk : ∀ x c, E x c → c.length = k) : ∀ {l : List α} {pc : List Value}, Cls E l pc → pc.length = l.length * k
  | [], pc, h => by unfold Cls at h; subst h; simp
  | x :: l, pc, h => by
    unfold Cls at h
    obtain ⟨c, rest, rfl, h2, h3⟩ := h
    rw [List.length_append, hk x c h2, Cls.len hk h3, List.length_cons, Nat.add_mul]; omega
theorem Cls.one (ho : ∀ x c, E x c → ∀ u ∈ c, u.oneCell' = true) : ∀ {l : List α} {pc : List Value}, Cls E l pc → ∀ u ∈ pc, u.oneCell' = true
  | [], pc, h, u, hu => by unfold Cls at h; subst h; simp at hu
  | x :: l, pc, h, u, hu => by
    unfold Cls at h
    obtain ⟨c, rest, rfl, h2, h3⟩ := h
    rcases List.mem_append.1 hu with h | h
    · exact ho x c h2 u h
    · exact Cls.one ho h3 u h
theorem Cls.app : ∀ {a b : List α} {pa pb : List Value}, Cls E a pa → Cls E b pb → Cls E (a ++ b) (pa ++ pb)
  | [], b, pa, pb, h, k => by unfold Cls at h; subst h; exact k
  | x :: a, b, pa, pb, h, k => by
    unfold Cls at h
    obtain ⟨c, rest, rfl, h2, h3⟩ := h
    show Cls E (x :: (a ++ b)) _
    unfold Cls
    exact ⟨c, rest ++ pb, by simp, h2, Cls.app h3 k⟩
theorem Cls.single {x : α} {c : List Value} (h : E x c) : Cls E [x] c := by
  unfold Cls; exact ⟨c, [], by simp, h, Cls.nil⟩
theorem Cls.at_ (hk : ∀ x c, E x c → c.length = k) : ∀ {l : List α} {pc : List Value} (i : Nat) (hi : i < l.length), Cls E l pc → ∃ c, E l[i] c ∧ ∀ j u, c[j]? = some u → pc[i * k + j]? = some u
  | [], pc, i, hi, h => by simp at hi
  | x :: l, pc, 0, hi, h => by
    unfold Cls at h
    obtain ⟨c, rest, rfl, h2, h3⟩ := h
    refine ⟨c, h2, fun j u hu => ?_⟩
    have hj : j < c.length := (List.getElem?_eq_some_iff.1 hu).1
    rw [Nat.zero_mul, Nat.zero_add, List.getElem?_append_left hj]; exact hu
  | x :: l, pc, i + 1, hi, h => by
    unfold Cls at h
    obtain ⟨c, rest, rfl, h2, h3⟩ := h
    obtain ⟨c', h4, h5⟩ := Cls.at_ hk i (by simpa using hi) h3
    refine ⟨c', by simpa using h4, fun j u hu => ?_⟩
    have hl := hk x c h2
    rw [List.getElem?_append_right (by rw [hl, Nat.add_mul]; omega), hl, Nat.add_mul, show i * k + 1 * k + j - k = i * k + j by omega]
    exact h5 j u hu
end
/-- What a post came to: its three cells; its messages lie in a row of the call's own that is not v's. -/
def GtO (w : World) (base : Nat) (vw : Value) (g : Gt) (cs : List Value) : Prop :=
  ∃ v, cs = [.int .i64 g.code, .int .i64 g.next, v] ∧ w.ownsRow base 115 3 v g.mail.length (pcK mlL g.mail) ∧ Apt v vw
/-- The same, wherever its messages lie below block B. -/
def GtI (w : World) (B : Nat) (g : Gt) (cs : List Value) : Prop :=
  ∃ A c, cs = [.int .i64 g.code, .int .i64 g.next, .slice A g.mail.length c] ∧ LIn mlL 3 w B A g.mail.length c g.mail
theorem GtO.form {w : World} {base : Nat} {vw : Value} {g : Gt} {cs : List Value} (h : GtO w base vw g cs) : GtI w w.heap.size g cs := by
  obtain ⟨v, rfl, h2, h3⟩ := h
  obtain ⟨A, c, rfl, h4⟩ := LIn.own mlL_len h2
  exact ⟨A, c, rfl, h4⟩
theorem GtI.len {w : World} {B : Nat} {g : Gt} {cs : List Value} (h : GtI w B g cs) : cs.length = 3 := by obtain ⟨A, c, rfl, _⟩ := h; rfl
theorem GtO.one {w : World} {base : Nat} {vw : Value} {g : Gt} {cs : List Value} (h : GtO w base vw g cs) : ∀ u ∈ cs, u.oneCell' = true := by
  obtain ⟨A, c, rfl, _⟩ := h.form
  intro u hu
  simp at hu
  rcases hu with rfl | rfl | rfl <;> rfl
theorem GtI.one {w : World} {B : Nat} {g : Gt} {cs : List Value} (h : GtI w B g cs) : ∀ u ∈ cs, u.oneCell' = true := by
  obtain ⟨A, c, rfl, _⟩ := h
  intro u hu
  simp at hu
  rcases hu with rfl | rfl | rfl <;> rfl
theorem GtI.below {w w' : World} {B : Nat} {g : Gt} {cs : List Value} (h : GtI w B g cs) (hb : Below B w w') : GtI w' B g cs := by
  obtain ⟨A, c, h1, h2⟩ := h
  exact ⟨A, c, h1, h2.below hb⟩
theorem GtI.wider {w : World} {B B' : Nat} {g : Gt} {cs : List Value} (h : GtI w B g cs) (hB : B ≤ B') : GtI w B' g cs := by
  obtain ⟨A, c, h1, h2⟩ := h
  exact ⟨A, c, h1, h2.wider hB⟩
/-- A list of what posts came to; all of it lies below block B. -/
def GsIn (w : World) (B : Nat) (A : Option Addr) (n c : Nat) (l : List Gt) : Prop :=
  l.length = n ∧ n ≤ c ∧ (A = none → c = 0) ∧ ∃ pc, Holds w B 3 A n pc ∧ Cls (GtI w B) l pc
section
variable {w w' : World} {B B' n c : Nat} {A : Option Addr} {l : List Gt}
theorem GsIn.nil : GsIn w B none 0 0 [] := ⟨rfl, Nat.le_refl _, fun _ => rfl, [], Holds.empty, Cls.nil⟩
theorem GsIn.below (h : GsIn w B A n c l) (hb : Below B w w') : GsIn w' B A n c l := by
  obtain ⟨h1, h2, h3, pc, h4, h5⟩ := h
  exact ⟨h1, h2, h3, pc, h4.below hb, h5.imp fun x c hx => hx.below hb⟩
theorem GsIn.wider (h : GsIn w B A n c l) (hB : B ≤ B') : GsIn w B' A n c l := by
  obtain ⟨h1, h2, h3, pc, h4, h5⟩ := h
  exact ⟨h1, h2, h3, pc, h4.wider hB, h5.imp fun x c hx => hx.wider hB⟩
theorem GsIn.at_ (h : GsIn w B A n c l) {i : Nat} (hi : i < l.length) :
    ∃ b off Am cm, A = some ⟨b, off, none⟩ ∧ b < B ∧ LIn mlL 3 w B Am l[i].mail.length cm l[i].mail ∧ w.cell? ⟨b, off + i * 3, none⟩ = some (.int .i64 l[i].code) ∧ w.cell? ⟨b, off + i * 3 + 1, none⟩ = some (.int .i64 l[i].next) ∧ w.cell? ⟨b, off + i * 3 + 2, none⟩ = some (.slice Am l[i].mail.length cm) := by
  obtain ⟨h1, h2, h3, pc, h4, h5⟩ := h
  obtain ⟨c, hc, hat⟩ := h5.at_ (fun x c hx => hx.len) i hi
  obtain ⟨b, off, rfl, hb, hcell⟩ := h4.2 (by omega)
  obtain ⟨Am, cm, rfl, hr⟩ := hc
  refine ⟨b, off, Am, cm, rfl, hb, hr, ?_, ?_, ?_⟩
  · exact hcell _ _ (hat 0 _ rfl)
  · rw [Nat.add_assoc]; exact hcell _ _ (hat 1 _ rfl)
  · rw [Nat.add_assoc]; exact hcell _ _ (hat 2 _ rfl)
end
/-- Lists of these in a row of the call's own. -/
def GsO (w : World) (base : Nat) (vw v : Value) (l : List Gt) : Prop := ∃ pc, w.ownsRow base 79 3 v l.length pc ∧ Cls (GtO w base vw) l pc
theorem GsO.form {w : World} {base : Nat} {vw v : Value} {l : List Gt} (h : GsO w base vw v l) : ∃ A c, v = .slice A l.length c ∧ GsIn w w.heap.size A l.length c l := by
  obtain ⟨pc, h1, h2⟩ := h
  obtain ⟨A, c, rfl, hA⟩ := own_form h1
  refine ⟨A, c, rfl, rfl, ?_, fun h => (hA h).2, pc, Holds.own h1, h2.imp fun x c hx => hx.form⟩
  rcases h1.2 with ⟨hv, hn⟩ | ⟨g, cap, cur, hv, _, _, hnc, _⟩
  · omega
  · injection hv with _ _ hc; omega
/-- What the box's own blocks may turn leaves the results alone. -/
theorem GsO.kept {w w' : World} {base : Nat} {vw vw' v : Value} {l : List Gt} (h : GsO w base vw v l)
    (hk : ∀ {e size n : Nat} {u : Value} {xs : List Value}, e = 115 ∧ Apt u vw ∨ e = 79 → w.ownsRow base e size u n xs → w'.ownsRow base e size u n xs)
    (hv : ∀ u n xs, w.ownsRow base 115 3 u n xs → Apt u vw → Apt u vw') : GsO w' base vw' v l := by
  obtain ⟨pc, h1, h2⟩ := h
  refine ⟨pc, hk (.inr rfl) h1, h2.imp fun x c hx => ?_⟩
  obtain ⟨u, rfl, h3, h4⟩ := hx
  exact ⟨u, rfl, hk (.inl ⟨rfl, h4⟩) h3, hv _ _ _ h3 h4⟩
/-- One more: its run. -/
theorem GsO.put {W : World} {base : Nat} {vw v u : Value} {l : List Gt} (h : GsO W base vw v l) (x : Gt) (hu : W.ownsRow base 115 3 u x.mail.length (pcK mlL x.mail)) (ha : Apt u vw) (hn : l.length + 1 ≤ 1048576) (hb : base ≤ W.heap.size)
    (cs : Array Value) (hcs : cs = #[.int .i64 x.code, .int .i64 x.next, u]) :
    ∃ v' wf, (Builtin.append_ #[72, 72] 72 #[v, .slice (some ⟨W.heap.size, 0, none⟩) 1 1]).run Try.prog (W.alloc (.cells cs 79)) = .ok v' wf ∧
      GsO wf base vw v' (l ++ [x]) ∧ W.grownBy wf v.ownBlock ∧ (v'.ownBlock = v.ownBlock ∨ v'.ownBlock = some (W.heap.size + 1)) := by
  subst hcs
  obtain ⟨i0, hi0, hz0, hzs, hzb⟩ := info_parts info_got
  obtain ⟨pc, h1, h2⟩ := h
  have hx1 : GtO W base vw x [.int .i64 x.code, .int .i64 x.next, u] := ⟨u, rfl, hu, ha⟩
  have hB := Blk.new W 79 #[.int .i64 x.code, .int .i64 x.next, u]
  have hh : Holds (W.alloc (.cells #[.int .i64 x.code, .int .i64 x.next, u] 79)) (W.heap.size + 1) 3 (some ⟨W.heap.size, 0, none⟩) 1 [.int .i64 x.code, .int .i64 x.next, u] := by
    refine ⟨rfl, fun _ => ⟨W.heap.size, 0, rfl, by omega, fun j u hu => ?_⟩⟩
    rw [Nat.zero_add, hB.cell j]
    simpa using hu
  obtain ⟨v', wf, k1, k2, k3, k4⟩ := run_app_all (P := Try.prog) (W.alloc (.cells #[.int .i64 x.code, .int .i64 x.next, u] 79)) 72 72 base 79 i0 _ 3 40 Try.underlying72 hi0 hz0 hzs hzb rfl (by decide) v l.length pc (h1.alloc _) (W.heap.size + 1) (some ⟨W.heap.size, 0, none⟩) 1 1 [.int .i64 x.code, .int .i64 x.next, u] (fun h => by cases h) hh hx1.one hn (by decide) (by simp; omega)
  have hgw : W.grownBy wf v.ownBlock := (World.grownBy_alloc W _ _).trans k3
  have keep : ∀ y cs, GtO W base vw y cs → GtO wf base vw y cs := fun y cs hy => by
    obtain ⟨u, rfl, h3, h4⟩ := hy
    exact ⟨u, rfl, own_apart h3 hgw fun g hg hg' => (apt_types h3 h1 (by decide)) g hg hg', h4⟩
  exact ⟨v', wf, k1, ⟨pc ++ [.int .i64 x.code, .int .i64 x.next, u], by simpa using k2, Cls.app (h2.imp keep) (Cls.single (keep _ _ hx1))⟩, hgw, by simpa using k4⟩
/-- The box in memory: all that was accepted, what waits, and whether it is shut. -/
structure BxS (B : Nat) (w : World) (acc : List Pt) (wt : List Ml) (sh : Bool) (va vw : Value) : Prop where
  box : Blk w B 146 #[va, vw, .bool sh]
  ra : w.ownsRow (B + 1) 223 2 va acc.length (pcK msL acc)
  rw_ : w.ownsRow (B + 1) 115 3 vw wt.length (pcK mlL wt)
  size : B + 1 ≤ w.heap.size
/-- The blocks that the box may turn. -/
def BxN (B : Nat) (va vw : Value) (k : Nat) : Prop := k = B ∨ va.ownBlock = some k ∨ vw.ownBlock = some k
section
variable {B : Nat} {w w' : World} {acc : List Pt} {wt : List Ml} {sh : Bool} {va vw : Value}
theorem BxS.below (h : BxS B w acc wt sh va vw) (hb : Below w.heap.size w w') : BxS B w' acc wt sh va vw :=
  ⟨h.box.below hb (by have := h.size; omega), own_below h.ra hb, own_below h.rw_ hb, Nat.le_trans h.size hb.size⟩
theorem BxS.grown (h : BxS B w acc wt sh va vw) {r : Option Nat} (hg : w.grownBy w' r) (hB : some B ≠ r) (ha : ∀ g, va.ownBlock = some g → r ≠ some g) (hw : ∀ g, vw.ownBlock = some g → r ≠ some g) : BxS B w' acc wt sh va vw :=
  ⟨h.box.grown hg hB, own_apart h.ra hg ha, own_apart h.rw_ hg hw, Nat.le_trans h.size hg.size⟩
theorem BxS.apart (h : BxS B w acc wt sh va vw) : Apt va vw := apt_types h.ra h.rw_ (by decide)
theorem BxS.set_ (h : BxS B w acc wt sh va vw) (va' vw' : Value) (acc' : List Pt) (wt' : List Ml) (sh' : Bool) {w1 : World} (hb : Blk w1 B 146 #[va', vw', .bool sh']) (h1 : w1.ownsRow (B + 1) 223 2 va' acc'.length (pcK msL acc')) (h2 : w1.ownsRow (B + 1) 115 3 vw' wt'.length (pcK mlL wt')) (hs : w.heap.size ≤ w1.heap.size) : BxS B w1 acc' wt' sh' va' vw' :=
  ⟨hb, h1, h2, Nat.le_trans h.size hs⟩
/-- A row above the box outlives a store to the box. -/
theorem own_box {e size n j : Nat} {v u : Value} {xs : List Value} (h : w.ownsRow (B + 1) e size v n xs) : (w.setCell ⟨B, j, none⟩ u).ownsRow (B + 1) e size v n xs :=
  own_kept h fun g hg => Below.heap_setCell w _ _ g (by show g ≠ B; have := (World.ownsRow.lt h g hg).1; omega)
theorem beside_set {N : Nat → Prop} (h : Beside N w w') (hN : N B) (j : Nat) (u : Value) : Beside N w (w'.setCell ⟨B, j, none⟩ u) :=
  ⟨h.os, h.tape, h.output, by simpa [World.setCell] using h.size, fun k hk hn => (Below.heap_setCell w' _ _ k (by rintro rfl; exact hn hN)).trans (h.block k hk hn)⟩
theorem beside_grown {N : Nat → Prop} {r : Option Nat} (h : w.grownBy w' r) (hr : ∀ k, r = some k → N k) : Beside N w w' :=
  ⟨h.os, h.tape, h.output, h.size, fun k hk hn => h.block k hk fun e => hn (hr k e.symm)⟩
theorem bxS0 (w : World) : BxS w.heap.size (w.alloc (.cells #[.slice none 0 0, .slice none 0 0, .bool false] 146)) [] [] false (.slice none 0 0) (.slice none 0 0) :=
  ⟨Blk.new _ _ _, World.ownsRow_nil _ _ _ _, World.ownsRow_nil _ _ _ _, by simp⟩
/-- One message more that was accepted. -/
theorem BxS.pushA (h : BxS B w acc wt sh va vw) (x : Pt) (cs : Array Value) (hcs : cs = (msL x).toArray) (hn : acc.length + 1 ≤ 1048576) :
    ∃ v' wf, (Builtin.append_ #[144, 144] 144 #[va, .slice (some ⟨w.heap.size, 0, none⟩) 1 1]).run Try.prog (w.alloc (.cells cs 223)) = .ok v' wf ∧
      wf.cell? ⟨B, 0, none⟩ = some va ∧ wf.frozen? ⟨B, 0, none⟩ = false ∧ BxS B (wf.setCell ⟨B, 0, none⟩ v') (acc ++ [x]) wt sh v' vw ∧ Beside (BxN B va vw) w (wf.setCell ⟨B, 0, none⟩ v') ∧ (∀ g, v'.ownBlock = some g → va.ownBlock = some g ∨ w.heap.size ≤ g) ∧ w.grownBy wf va.ownBlock := by
  obtain ⟨v', wf, hrun, ho, hg, hor⟩ := run_app_el (P := Try.prog) (enc := msL) msL_len msL_one (by omega) Try.underlying144 info_msg rfl (by omega) w (B + 1) acc.length va acc x cs hcs h.ra hn h.size
  have hgw : w.grownBy wf va.ownBlock := (World.grownBy_alloc w _ _).trans hg
  have hbB : some B ≠ va.ownBlock := fun e => by have := (World.ownsRow.lt h.ra B e.symm).1; omega
  have hb9 := h.box.grown hgw hbB
  refine ⟨v', wf, hrun, hb9.cell 0, hb9.frozen 0, ⟨by simpa using hb9.set_ 0 v', own_box (by simpa using ho), own_box (own_apart h.rw_ hgw fun g h1 h2 => h.apart g h2 h1), by have := hgw.size; have := h.size; simp [World.setCell]; omega⟩, ?_, ?_, hgw⟩
  · exact beside_set (beside_grown hgw fun k hk => .inr (.inl hk)) (.inl rfl) 0 v'
  · intro g hg'
    rcases hor with e | e
    · exact .inl (by rw [← e]; exact hg')
    · rw [hg'] at e; injection e with e; exact .inr (by omega)
/-- One message more that waits. -/
theorem BxS.pushW (h : BxS B w acc wt sh va vw) (x : Ml) (cs : Array Value) (hcs : cs = (mlL x).toArray) (hn : wt.length + 1 ≤ 1048576) :
    ∃ v' wf, (Builtin.append_ #[77, 77] 77 #[vw, .slice (some ⟨w.heap.size, 0, none⟩) 1 1]).run Try.prog (w.alloc (.cells cs 115)) = .ok v' wf ∧
      wf.cell? ⟨B, 1, none⟩ = some vw ∧ wf.frozen? ⟨B, 1, none⟩ = false ∧ BxS B (wf.setCell ⟨B, 1, none⟩ v') acc (wt ++ [x]) sh va v' ∧ Beside (BxN B va vw) w (wf.setCell ⟨B, 1, none⟩ v') ∧ (∀ g, v'.ownBlock = some g → vw.ownBlock = some g ∨ w.heap.size ≤ g) ∧ w.grownBy wf vw.ownBlock := by
  obtain ⟨v', wf, hrun, ho, hg, hor⟩ := run_app_el (P := Try.prog) (enc := mlL) mlL_len mlL_one (by omega) Try.underlying77 info_mail rfl (by omega) w (B + 1) wt.length vw wt x cs hcs h.rw_ hn h.size
  have hgw : w.grownBy wf vw.ownBlock := (World.grownBy_alloc w _ _).trans hg
  have hbB : some B ≠ vw.ownBlock := fun e => by have := (World.ownsRow.lt h.rw_ B e.symm).1; omega
  have hb9 := h.box.grown hgw hbB
  refine ⟨v', wf, hrun, hb9.cell 1, hb9.frozen 1, ⟨by simpa using hb9.set_ 1 v', own_box (own_apart h.ra hgw fun g h1 h2 => h.apart g h1 h2), own_box (by simpa using ho), by have := hgw.size; have := h.size; simp [World.setCell]; omega⟩, ?_, ?_, hgw⟩
  · exact beside_set (beside_grown hgw fun k hk => .inr (.inr hk)) (.inl rfl) 1 v'
  · intro g hg'
    rcases hor with e | e
    · exact .inl (by rw [← e]; exact hg')
    · rw [hg'] at e; injection e with e; exact .inr (by omega)
end
end Go.Proofs.Ytmlgaedhfannmaa
