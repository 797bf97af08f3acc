/- Joined texts: StLst, StAll. -/
import Derived.Test.YtmlgaedhfannmaaBunSD
import Derived.BigQuiet
import Derived.Test.YtmlgaedhfannmaaBunRC
/- The store: lists of acts that the statements make; stored. -/
namespace Go.Proofs.Ytmlgaedhfannmaa
set_option linter.unusedVariables false
set_option linter.unusedSimpArgs false
open Go.RowKit
theorem info_act : (Try.prog.info? 54).map (fun i => (i.zero, i.size, i.bytes)) = some (some (.agg #[.int .i64 0, .slice none 0 0, .string ⟨#[]⟩, .int .i64 0]), 4, 56) := by kernel_rfl
/-- Acts in a row of the call's own; their rows in blocks of S. -/
def AsS (w : World) (base : Nat) (S : Nat → Prop) (v : Value) (acs : List Ac) : Prop := ∃ pc, w.ownsRow base 54 4 v acs.length pc ∧ Chs (AIn w S) acs pc
theorem AsS.nil (w : World) (base : Nat) (S : Nat → Prop) : AsS w base S (.slice none 0 0) [] := ⟨[], World.ownsRow_nil _ _ _ _, Chs.nil⟩
theorem AsS.below {w w' : World} {base : Nat} {S : Nat → Prop} {v : Value} {acs : List Ac} (h : AsS w base S v acs) (hb : Below w.heap.size w w') : AsS w' base S v acs := by
  obtain ⟨pc, h1, h2⟩ := h
  exact ⟨pc, World.ownsRow.kept h1 (only_below hb none) (by cases v.ownBlock <;> simp), h2.imp fun x c hx => hx.kept fun p _ hlt => hb.cell hlt⟩
theorem AsS.form {w : World} {base : Nat} {S : Nat → Prop} {v : Value} {acs : List Ac} (h : AsS w base S v acs) : ∃ A c, v = .slice A acs.length c ∧ AsIn w w.heap.size A acs.length c acs := by
  obtain ⟨pc, h1, h2⟩ := h
  obtain ⟨A, c, rfl, hA⟩ := own_form h1
  refine ⟨A, c, rfl, rfl, ?_, fun h => (hA h).2, pc, Holds.own h1, h2.imp fun x c hx => hx.mono fun b hb _ => hb⟩
  rcases h1.2 with ⟨hv, hn⟩ | ⟨g, cap, cur, hv, _, _, hnc, _⟩
  · omega
  · injection hv with _ _ hc; omega
theorem AsS.mono {w : World} {base : Nat} {S S' : Nat → Prop} {v : Value} {acs : List Ac} (h : AsS w base S v acs) (hs : ∀ b, b < w.heap.size → S b → S' b) : AsS w base S' v acs := by
  obtain ⟨pc, h1, h2⟩ := h
  exact ⟨pc, h1, h2.imp fun x c hx => hx.mono hs⟩
/-- A copy of a list of acts: its run. -/
theorem acts_copy {W : World} {B n c : Nat} {A : Option Addr} {acs : List Ac} (h : AsIn W B A n c acs) (hB : B ≤ W.heap.size) (hn : n ≤ 1048576) :
    ∃ v' wf, (Builtin.append_ #[49, 49] 49 #[.slice none 0 0, .slice A n c]).run Try.prog W = .ok v' wf ∧ AsS wf W.heap.size (fun b => b < W.heap.size) v' acs ∧ Below W.heap.size W wf := by
  obtain ⟨i0, hi0, hz0, hzs, hzb⟩ := info_parts info_act
  obtain ⟨h1, h2, h3, pc, h4, h5⟩ := h
  obtain ⟨v', wf, k1, k2, k3, k4⟩ := run_app_all (P := Try.prog) W 49 49 W.heap.size 54 i0 _ 4 56 Try.underlying49 hi0 hz0 hzs hzb rfl (by decide) (.slice none 0 0) 0 [] (World.ownsRow_nil _ _ _ _) B A n c pc h3 h4 (h5.one fun x c hx => hx.one) (by omega) (by decide) (Nat.le_refl _)
  have hb := below_own (Below.refl W.heap.size W) k3 (World.ownsRow_nil W W.heap.size 54 4) (Nat.le_refl _) (Nat.le_refl _)
  exact ⟨v', wf, k1, ⟨pc, by rw [h1]; simpa using k2, h5.imp fun x c hx => (hx.kept fun p hp _ => hb.cell (Nat.lt_of_lt_of_le hp hB)).mono fun b _ hb => Nat.lt_of_lt_of_le hb hB⟩, hb⟩
/-- One act more: its run. -/
theorem acts_put {W : World} {base : Nat} {S : Nat → Prop} {v : Value} {acs : List Ac} (h : AsS W base S v acs) (hS : ∀ b, S b → some b ≠ v.ownBlock) (a : Ac) (cs : List Value) (ha : AIn W S a cs) (ca : Array Value) (hca : ca = cs.toArray) (hn : acs.length + 1 ≤ 1048576) (hb : base ≤ W.heap.size) :
    ∃ v' wf, (Builtin.append_ #[49, 49] 49 #[v, .slice (some ⟨W.heap.size, 0, none⟩) 1 1]).run Try.prog (W.alloc (.cells ca 54)) = .ok v' wf ∧
      AsS wf base S v' (acs ++ [a]) ∧ (∀ B a, Below B a W → B ≤ base → B ≤ W.heap.size → Below B a wf) ∧ W.grownBy wf v.ownBlock ∧ (v'.ownBlock = v.ownBlock ∨ ∀ k, v'.ownBlock = some k → W.heap.size ≤ k) := by
  subst hca
  obtain ⟨i0, hi0, hz0, hzs, hzb⟩ := info_parts info_act
  obtain ⟨pc, h1, h2⟩ := h
  have hB := Blk.new W 54 cs.toArray
  have hh : Holds (W.alloc (.cells cs.toArray 54)) (W.heap.size + 1) 4 (some ⟨W.heap.size, 0, none⟩) 1 cs := by
    refine ⟨by rw [ha.len], fun _ => ⟨W.heap.size, 0, rfl, by omega, fun j u hu => ?_⟩⟩
    rw [Nat.zero_add, hB.cell j]
    simpa using hu
  obtain ⟨v', wf, k1, k2, k3, k4⟩ := run_app_all (P := Try.prog) (W.alloc (.cells cs.toArray 54)) 49 49 base 54 i0 _ 4 56 Try.underlying49 hi0 hz0 hzs hzb rfl (by decide) v acs.length pc (h1.alloc _) (W.heap.size + 1) (some ⟨W.heap.size, 0, none⟩) 1 1 cs (fun h => by cases h) hh ha.one hn (by decide) (by simp; omega)
  have hsz : W.heap.size + 1 ≤ wf.heap.size := by have := k3.size; simpa using this
  have hgw : W.grownBy wf v.ownBlock := (World.grownBy_alloc W _ _).trans k3
  have hkeep : ∀ p : Addr, S p.block → p.block < W.heap.size → wf.cell? p = W.cell? p := fun p hp hlt => World.cell?_of_block (hgw.block p.block hlt (hS _ hp))
  exact ⟨v', wf, k1, ⟨pc ++ cs, by simpa using k2, Chs.app (h2.imp fun y c hy => hy.kept hkeep) (Chs.single (ha.kept hkeep))⟩, fun B a hBa hbb hBW => below_own (hBa.alloc hBW _) k3 (h1.alloc _) hbb (by simp; omega), hgw,
    k4.imp id fun e k hk => by rw [e] at hk; injection hk with hk; simp at hk; omega⟩
/-- Few acts in a block that has just been laid. -/
theorem acts_lit (W : World) (acs : List Ac) (pc : List Value) (k : Nat) (hk : acs.length = k) (h : Chs (AIn W (fun b => b < W.heap.size)) acs pc) (ca : Array Value) (hca : ca = pc.toArray) :
    AsIn (W.alloc (.cells ca 54)) (W.alloc (.cells ca 54)).heap.size (some ⟨W.heap.size, 0, none⟩) k k acs := by
  subst hca
  refine ⟨hk, Nat.le_refl _, fun h => (by cases h), pc, ⟨by rw [h.len (fun x c hx => hx.len), hk], fun _ => ⟨W.heap.size, 0, rfl, by simp, fun j u hu => ?_⟩⟩, h.imp fun x c hx => (hx.kept fun p hp _ => World.cell?_alloc_lt _ _ p hp).mono fun b _ hb => by simp; omega⟩
  rw [Nat.zero_add, (Blk.new W 54 _).cell j]
  simpa using hu
theorem ain_bare {W : World} {S : Nat → Prop} (a : Ac) (h : a.rows = []) (hk : a.key.length ≤ 100) (hn : 0 ≤ a.n ∧ a.n ≤ 2000000000) : AIn W S a [.int .i64 a.kind, .slice none 0 0, str a.key, .int .i64 a.n] := by
  refine ⟨none, 0, by rw [h]; rfl, by rw [h]; exact RInS.nil, by rw [h]; simp [Short], by rw [h]; simp, by omega, by omega⟩
def kv : Rw := ⟨[107], [118]⟩
def ackv : List Ac := [⟨1, [kv], [], 0⟩, ⟨2, [], [107], 0⟩]
theorem ackv_R : (actsR st0 ackv).1 = [(0, []), (0, [kv])] := by
  have h1 : planE ([] : List Rw) [kv] = 0 := by unfold planE; rw [if_neg (by simp), setN_fit fit_nil, if_neg (by decide), if_neg (by decide)]
  have h2 : ¬ 1200 < ([] : List UInt8).length + (pkF [kv]).length := by rw [pkF_ok ⟨by simp, by simp, by decide⟩, pack_wts]; decide
  have h3 : sets [] [kv] = [kv] := rfl
  unfold ackv st0
  simp only [actsR]
  rw [act_commit rfl]
  simp only [commitN, h1, h2, h3, ne_eq, not_true, if_false]
  rw [act_get rfl]
  rfl
def StdPost (acs : List Ac) (w : World) (e : Ending) (w' : World) : Prop :=
  ∃ (A : Option Addr) (c : Nat) (Af : Option Addr) (cf : Nat), e = .returned (.tuple #[.slice A acs.length c, .slice Af (actsR st0 acs).2.2.length cf, .bool true]) ∧ TdsIn w' w'.heap.size A acs.length c (actsR st0 acs).1 ∧ BIn w' (fun b => b < w'.heap.size) Af (actsR st0 acs).2.2.length cf (actsR st0 acs).2.2 ∧ Below w.heap.size w w'
end Go.Proofs.Ytmlgaedhfannmaa

/- The store: allRows, rowsBehind. -/
namespace Go.Proofs.Ytmlgaedhfannmaa
set_option linter.unusedVariables false
set_option linter.unusedSimpArgs false
open Go.RowKit
def acAll : Ac := ⟨3, [], [], 0⟩
theorem all_R (acs : List Ac) : actsR st0 (acs ++ [acAll]) = ((actsR st0 acs).1 ++ [(0, (actsR st0 acs).2.1)], (actsR st0 acs).2) := by
  rw [actsR_snoc, act_range rfl]
  have : (actsR st0 acs).2.1.filter (fun r => ([] : List UInt8).isPrefixOf r.key) = (actsR st0 acs).2.1 := by
    rw [List.filter_eq_self]; intro r _; rfl
  show (_ ++ [(0, (actsR st0 acs).2.1.filter (fun r => ([] : List UInt8).isPrefixOf r.key))], _) = _
  rw [this]
def tabOf (acs : List Ac) : List Rw := (actsR st0 acs).2.1
theorem tab_fit (acs : List Ac) : Fit (tabOf acs) := (Kp.acts acs kp0).fit
end Go.Proofs.Ytmlgaedhfannmaa
