/- Joined texts: StLst, StAll. -/
import Derived.Test.YtploicbiapjfdaaBunSD
import Derived.BigQuiet
import Derived.Test.YtploicbiapjfdaaBunRC
/- The store: lists of acts that the statements make; stored. -/
namespace Go.Proofs.Ytploicbiapjfdaa
set_option linter.unusedVariables false
set_option linter.unusedSimpArgs false
open Go.RowKit
theorem info_act : (Try.prog.info? 44).map (fun i => (i.zero, i.size, i.bytes)) = some (some (.agg #[.int .i64 0, .slice none 0 0, .string ⟨#[]⟩, .int .i64 0]), 4, 56) := by kernel_rfl
/-- Acts in a row of the call's own; their rows in blocks of S. -/
def AsS (w : World) (base : Nat) (S : Nat → Prop) (v : Value) (acs : List Ac) : Prop := ∃ pc, w.ownsRow base 44 4 v acs.length pc ∧ Chs (AIn w S) acs pc
theorem AsS.nil (w : World) (base : Nat) (S : Nat → Prop) : AsS w base S (.slice none 0 0) [] := ⟨[], World.ownsRow_nil _ _ _ _, Chs.nil⟩
theorem AsS.below {w w' : World} {base : Nat} {S : Nat → Prop} {v : Value} {acs : List Ac} (h : AsS w base S v acs) (hb : Below w.heap.size w w') : AsS w' base S v acs := by
  obtain ⟨pc, h1, h2⟩ := h
  exact ⟨pc, World.ownsRow.kept h1 (only_below hb none) (by cases v.ownBlock <;> simp), h2.imp fun x c hx => hx.kept fun p _ hlt => hb.cell hlt⟩
theorem AsS.form {w : World} {base : Nat} {S : Nat → Prop} {v : Value} {acs : List Ac} (h : AsS w base S v acs) : ∃ A c, v = .slice A acs.length c ∧ AsIn w w.heap.size A acs.length c acs := by
  obtain ⟨pc, h1, h2⟩ := h
  obtain ⟨A, c, rfl, hA⟩ := own_form h1
  refine ⟨A, c, rfl, rfl, ?_, fun h => (hA h).2, pc, Holds.own h1, h2.imp fun x c hx => hx.mono fun b hb _ => hb⟩
  rcases h1.2 with ⟨hv, hn⟩ | ⟨g, cap, cur, hv, _, _, hnc, _⟩
  · omega
  · injection hv with _ _ hc; omega
theorem AsS.mono {w : World} {base : Nat} {S S' : Nat → Prop} {v : Value} {acs : List Ac} (h : AsS w base S v acs) (hs : ∀ b, b < w.heap.size → S b → S' b) : AsS w base S' v acs := by
  obtain ⟨pc, h1, h2⟩ := h
  exact ⟨pc, h1, h2.imp fun x c hx => hx.mono hs⟩
/-- A copy of a list of acts: its run. -/
theorem acts_copy {W : World} {B n c : Nat} {A : Option Addr} {acs : List Ac} (h : AsIn W B A n c acs) (hB : B ≤ W.heap.size) (hn : n ≤ 1048576) :
    ∃ v' wf, (Builtin.append_ #[22, 22] 22 #[.slice none 0 0, .slice A n c]).run Try.prog W = .ok v' wf ∧ AsS wf W.heap.size (fun b => b < W.heap.size) v' acs ∧ Below W.heap.size W wf := by
  obtain ⟨i0, hi0, hz0, hzs, hzb⟩ := info_parts info_act
  obtain ⟨h1, h2, h3, pc, h4, h5⟩ := h
  obtain ⟨v', wf, k1, k2, k3, k4⟩ := run_app_all (P := Try.prog) W 22 22 W.heap.size 44 i0 _ 4 56 Try.underlying22 hi0 hz0 hzs hzb rfl (by decide) (.slice none 0 0) 0 [] (World.ownsRow_nil _ _ _ _) B A n c pc h3 h4 (h5.one fun x c hx => hx.one) (by omega) (by decide) (Nat.le_refl _)
  have hb := below_own (Below.refl W.heap.size W) k3 (World.ownsRow_nil W W.heap.size 44 4) (Nat.le_refl _) (Nat.le_refl _)
  exact ⟨v', wf, k1, ⟨pc, by rw [h1]; simpa using k2, h5.imp fun x c hx => (hx.kept fun p hp _ => hb.cell (Nat.lt_of_lt_of_le hp hB)).mono fun b _ hb => Nat.lt_of_lt_of_le hb hB⟩, hb⟩
/-- One act more: its run. -/
theorem acts_put {W : World} {base : Nat} {S : Nat → Prop} {v : Value} {acs : List Ac} (h : AsS W base S v acs) (hS : ∀ b, S b → some b ≠ v.ownBlock) (a : Ac) (cs : List Value) (ha : AIn W S a cs) (ca : Array Value) (hca : ca = cs.toArray) (hn : acs.length + 1 ≤ 1048576) (hb : base ≤ W.heap.size) :
    ∃ v' wf, (Builtin.append_ #[22, 22] 22 #[v, .slice (some ⟨W.heap.size, 0, none⟩) 1 1]).run Try.prog (W.alloc (.cells ca 44)) = .ok v' wf ∧
      AsS wf base S v' (acs ++ [a]) ∧ (∀ B a, Below B a W → B ≤ base → B ≤ W.heap.size → Below B a wf) ∧ W.grownBy wf v.ownBlock ∧ (v'.ownBlock = v.ownBlock ∨ ∀ k, v'.ownBlock = some k → W.heap.size ≤ k) := by
  subst hca
  obtain ⟨i0, hi0, hz0, hzs, hzb⟩ := info_parts info_act
  obtain ⟨pc, h1, h2⟩ := h
  have hB := Blk.new W 44 cs.toArray
  have hh : Holds (W.alloc (.cells cs.toArray 44)) (W.heap.size + 1) 4 (some ⟨W.heap.size, 0, none⟩) 1 cs := by
    refine ⟨by rw [ha.len], fun _ => ⟨W.heap.size, 0, rfl, by omega, fun j u hu => ?_⟩⟩
    rw [Nat.zero_add, hB.cell j]
    simpa using hu
  obtain ⟨v', wf, k1, k2, k3, k4⟩ := run_app_all (P := Try.prog) (W.alloc (.cells cs.toArray 44)) 22 22 base 44 i0 _ 4 56 Try.underlying22 hi0 hz0 hzs hzb rfl (by decide) v acs.length pc (h1.alloc _) (W.heap.size + 1) (some ⟨W.heap.size, 0, none⟩) 1 1 cs (fun h => by cases h) hh ha.one hn (by decide) (by simp; omega)
  have hsz : W.heap.size + 1 ≤ wf.heap.size := by have := k3.size; simpa using this
  have hgw : W.grownBy wf v.ownBlock := (World.grownBy_alloc W _ _).trans k3
  have hkeep : ∀ p : Addr, S p.block → p.block < W.heap.size → wf.cell? p = W.cell? p := fun p hp hlt => World.cell?_of_block (hgw.block p.block hlt (hS _ hp))
  exact ⟨v', wf, k1, ⟨pc ++ cs, by simpa using k2, Chs.app (h2.imp fun y c hy => hy.kept hkeep) (Chs.single (ha.kept hkeep))⟩, fun B a hBa hbb hBW => below_own (hBa.alloc hBW _) k3 (h1.alloc _) hbb (by simp; omega), hgw,
    k4.imp id fun e k hk => by rw [e] at hk; injection hk with hk; simp at hk; omega⟩
/-- Few acts in a block that has just been laid. -/
theorem acts_lit (W : World) (acs : List Ac) (pc : List Value) (k : Nat) (hk : acs.length = k) (h : Chs (AIn W (fun b => b < W.heap.size)) acs pc) (ca : Array Value) (hca : ca = pc.toArray) :
    AsIn (W.alloc (.cells ca 44)) (W.alloc (.cells ca 44)).heap.size (some ⟨W.heap.size, 0, none⟩) k k acs := by
  subst hca
  refine ⟨hk, Nat.le_refl _, fun h => (by cases h), pc, ⟨by rw [h.len (fun x c hx => hx.len), hk], fun _ => ⟨W.heap.size, 0, rfl, by simp, fun j u hu => ?_⟩⟩, h.imp fun x c hx => (hx.kept fun p hp _ => World.cell?_alloc_lt _ _ p hp).mono fun b _ hb => by simp; omega⟩
  rw [Nat.zero_add, (Blk.new W 44 _).cell j]
  simpa using hu
theorem ain_bare {W : World} {S : Nat → Prop} (a : Ac) (h : a.rows = []) (hk : a.key.length ≤ 100) (hn : 0 ≤ a.n ∧ a.n ≤ 2000000000) : AIn W S a [.int .i64 a.kind, .slice none 0 0, str a.key, .int .i64 a.n] := by
  refine ⟨none, 0, by rw [h]; rfl, by rw [h]; exact RInS.nil, by rw [h]; simp [Short], by rw [h]; simp, by omega, by omega⟩
def kv : Rw := ⟨[107], [118]⟩
def ackv : List Ac := [⟨1, [kv], [], 0⟩, ⟨2, [], [107], 0⟩]
theorem ackv_R : (actsR st0 ackv).1 = [(0, []), (0, [kv])] := by
  have h1 : planE ([] : List Rw) [kv] = 0 := by unfold planE; rw [if_neg (by simp), setN_fit fit_nil, if_neg (by decide), if_neg (by decide)]
  have h2 : ¬ 1200 < ([] : List UInt8).length + (pkF [kv]).length := by rw [pkF_ok ⟨by simp, by simp, by decide⟩, pack_wts]; decide
  have h3 : sets [] [kv] = [kv] := rfl
  unfold ackv st0
  simp only [actsR]
  rw [act_commit rfl]
  simp only [commitN, h1, h2, h3, ne_eq, not_true, if_false]
  rw [act_get rfl]
  rfl
def StdPost (acs : List Ac) (w : World) (e : Ending) (w' : World) : Prop :=
  ∃ (A : Option Addr) (c : Nat) (Af : Option Addr) (cf : Nat), e = .returned (.tuple #[.slice A acs.length c, .slice Af (actsR st0 acs).2.2.length cf, .bool true]) ∧ TdsIn w' w'.heap.size A acs.length c (actsR st0 acs).1 ∧ BIn w' (fun b => b < w'.heap.size) Af (actsR st0 acs).2.2.length cf (actsR st0 acs).2.2 ∧ Below w.heap.size w w'
set_option maxHeartbeats 4000000 in
set_option maxRecDepth 100000 in
theorem stored_any (A : Option Addr) (n c B : Nat) (acs : List Ac) (w : World) (hl : AsIn w B A n c acs) (hB : B ≤ w.heap.size) (hn : n ≤ 100) :
    Calls Try.prog 20 #[.slice A n c] w (StdPost acs w) := by
  have hln := hl.1
  obtain ⟨v', wf, hrun, has, hbf⟩ := acts_copy hl hB (by omega)
  obtain ⟨A1, c1, rfl, hin⟩ := has.form
  rw [hln] at hin
  simp only [hln] at hrun
  have HP := Lib.hid (splay_any A1 n c1 wf.heap.size acs wf hin (Nat.le_refl _) (by omega))
  have hpn : playN acs = ((actsR st0 acs).1, (actsR st0 acs).2.2, 0) := by unfold playN; rw [if_neg (by omega)]
  unfold PlyPost at HP
  rw [hpn] at HP
  have htl := actsR_len acs st0
  rw [hln] at htl
  simp only [htl] at HP
  unfold StdPost
  rw [hln]
  generalize (actsR st0 acs).1 = T at *
  generalize (actsR st0 acs).2.2 = F at *
  have Hrun := Lib.hid hrun
  have Hbf := Lib.hid hbf
  have Hln := Lib.hid hln
  clear hl hrun has hbf hin hpn htl hln
  go_enter Try.func20, Try.ntmps20
  go_wp2_with (first | (at_builtin; refine rw_app rfl _ _ _ rfl _ _ (by rfl) (by rfl) Hrun.out ?_; clear Hrun) | fail)
  refine HP.out.mono ?_
  rintro e w1 ⟨A2, c2, Af, cf, rfl, ht, hf, hb1⟩
  have hb1' := Hbf.out.trans (hb1.mono Hbf.out.size)
  have Hb1 := Lib.hid hb1'
  have Ht := Lib.hid ht
  have Hf := Lib.hid hf
  obtain ⟨W, hW⟩ : ∃ W, w1.alloc (.cells #[.string ⟨#[107]⟩, .string ⟨#[118]⟩] 50) = W := ⟨_, rfl⟩
  have hWb : Below w1.heap.size w1 W := by rw [← hW]; exact (Below.refl _ _).alloc (Nat.le_refl _) _
  have hrow : RInS W (fun b => b < W.heap.size) (some ⟨w1.heap.size, 0, none⟩) 1 1 [kv] := by
    have := row_lit w1 [107] [118] 0 (Nat.zero_le _)
    rw [← hW]
    exact RInS.mono this fun b hb _ => hb
  have hlit := acts_lit W ackv ([.int .i64 1, .slice (some ⟨w1.heap.size, 0, none⟩) 1 1, .string ⟨#[]⟩, .int .i64 0] ++ [.int .i64 2, .slice none 0 0, .string ⟨#[107]⟩, .int .i64 0]) 2 rfl
    (Chs.app (Chs.single ⟨some ⟨w1.heap.size, 0, none⟩, 1, rfl, hrow, by simp [Short, kv], by simp, by simp, by simp⟩) (Chs.single (ain_bare ⟨2, [], [107], 0⟩ rfl (by simp) (by simp))))
    #[.int .i64 1, .slice (some ⟨w1.heap.size, 0, none⟩) 1 1, .string ⟨#[]⟩, .int .i64 0, .int .i64 2, .slice none 0 0, .string ⟨#[107]⟩, .int .i64 0] rfl
  obtain ⟨W2, hW2⟩ : ∃ W2, W.alloc (.cells #[.int .i64 1, .slice (some ⟨w1.heap.size, 0, none⟩) 1 1, .string ⟨#[]⟩, .int .i64 0, .int .i64 2, .slice none 0 0, .string ⟨#[107]⟩, .int .i64 0] 44) = W2 := ⟨_, rfl⟩
  have hW2b : Below W.heap.size W W2 := by rw [← hW2]; exact (Below.refl _ _).alloc (Nat.le_refl _) _
  rw [hW2] at hlit
  have HQ := Lib.hid (splay_any _ 2 2 W2.heap.size ackv W2 hlit (Nat.le_refl _) (by omega))
  unfold PlyPost at HQ
  rw [show playN ackv = ((actsR st0 ackv).1, (actsR st0 ackv).2.2, 0) from rfl, ackv_R] at HQ
  generalize (actsR st0 ackv).2.2 = G at *
  have Hb2 := Lib.hid (hWb.trans (hW2b.mono hWb.size))
  clear ht hf hb1 hb1' HP hrow hlit hWb hW2b
  go_wp2_with fail
  refine HQ.out.mono ?_
  rintro e w2 ⟨A3, c3, Ag, cg, rfl, ht3, -, hb3⟩
  replace ht3 : TdsIn w2 w2.heap.size A3 2 c3 [(0, []), (0, [kv])] := ht3
  obtain ⟨b3, off3, Ar, cr, hA3, hbb3, -, -, hd⟩ := ht3.at_ (i := 1) (by simp)
  subst hA3
  replace hd : w2.cell? ⟨b3, off3 + 1 * 2 + 1, none⟩ = some (.slice Ar 1 cr) := hd
  rw [show off3 + 1 * 2 + 1 = off3 + 3 by omega] at hd
  have Hb3 := Lib.hid (Hb1.out.trans ((Hb2.out.trans (hb3.mono Hb2.out.size)).mono Hb1.out.size))
  have hb13 := Hb2.out.trans (hb3.mono Hb2.out.size)
  have Ht3 := Lib.hid ((Ht.out.below hb13).wider hb13.size)
  have Hf3 := Lib.hid ((Hf.out.below hb13).mono (S' := fun b => b < w2.heap.size) fun b hb _ => hb)
  clear ht3 hb3 hb13 HQ Ht Hf hbb3
  go_wp2_with fail
  go_quiet (fail)
  go_wp2_with fail
  go_ret3
  exact ⟨A2, c2, Af, cf, rfl, Ht3.out.below (below_drewN (Below.refl _ _) _), Hf3.out.kept fun p _ _ => rfl, below_drewN Hb3.out _⟩
end Go.Proofs.Ytploicbiapjfdaa

/- The store: allRows, rowsBehind. -/
namespace Go.Proofs.Ytploicbiapjfdaa
set_option linter.unusedVariables false
set_option linter.unusedSimpArgs false
open Go.RowKit
def acAll : Ac := ⟨3, [], [], 0⟩
theorem all_R (acs : List Ac) : actsR st0 (acs ++ [acAll]) = ((actsR st0 acs).1 ++ [(0, (actsR st0 acs).2.1)], (actsR st0 acs).2) := by
  rw [actsR_snoc, act_range rfl]
  have : (actsR st0 acs).2.1.filter (fun r => ([] : List UInt8).isPrefixOf r.key) = (actsR st0 acs).2.1 := by
    rw [List.filter_eq_self]; intro r _; rfl
  show (_ ++ [(0, (actsR st0 acs).2.1.filter (fun r => ([] : List UInt8).isPrefixOf r.key))], _) = _
  rw [this]
def tabOf (acs : List Ac) : List Rw := (actsR st0 acs).2.1
theorem tab_fit (acs : List Ac) : Fit (tabOf acs) := (Kp.acts acs kp0).fit
set_option maxHeartbeats 2000000 in
set_option maxRecDepth 100000 in
theorem allRows_any (A : Option Addr) (n c B : Nat) (acs : List Ac) (w : World) (hl : AsIn w B A n c acs) (hB : B ≤ w.heap.size) (hn : n ≤ 99) :
    Calls Try.prog 21 #[.slice A n c] w fun e w' => ∃ (A' : Option Addr) (c' : Nat), e = .returned (.tuple #[.slice A' (tabOf acs).length c', .bool true]) ∧ RIn w' w'.heap.size A' (tabOf acs).length c' (tabOf acs) ∧ Below w.heap.size w w' := by
  have hln := hl.1
  obtain ⟨v1, W1, hrun1, has1, hb1⟩ := acts_copy hl hB (by omega)
  obtain ⟨v2, W2, hrun2, has2, hb2, _, _⟩ := acts_put has1 (fun b hb e => by obtain ⟨pc, ho, _⟩ := has1; have := (ho.lt b e.symm).1; omega) acAll _ (ain_bare acAll rfl (by simp [acAll]) (by simp [acAll])) #[.int .i64 3, .slice none 0 0, .string ⟨#[]⟩, .int .i64 0] rfl (by omega) hb1.size
  obtain ⟨A2, c2, rfl, hin2⟩ := has2.form
  have hl2 : (acs ++ [acAll]).length = n + 1 := by simp; omega
  rw [hl2] at hin2
  simp only [hl2] at hrun2
  obtain ⟨A1, c1, rfl, -⟩ := has1.form
  simp only [hln] at hrun1 hrun2
  have HS := Lib.hid (stored_any A2 (n + 1) c2 W2.heap.size (acs ++ [acAll]) W2 hin2 (Nat.le_refl _) (by omega))
  unfold StdPost at HS
  rw [all_R, hl2] at HS
  have htl := actsR_len acs st0
  rw [hln] at htl
  have Hb2 := Lib.hid (hb2 _ _ hb1 (Nat.le_refl _) hb1.size)
  have Hrun1 := Lib.hid hrun1
  have Hrun2 := Lib.hid hrun2
  unfold tabOf
  generalize actsR st0 acs = P at *
  obtain ⟨T, tb, F⟩ := P
  simp only at HS htl ⊢
  clear hl hln hrun1 has1 hb1 hrun2 has2 hb2 hin2 hl2
  go_enter Try.func21, Try.ntmps21
  go_wp2_with (first | (at_builtin; refine rw_app rfl _ _ _ rfl _ _ (by rfl) (by rfl) Hrun1.out ?_; clear Hrun1) | (at_builtin; refine rw_app rfl _ _ _ rfl _ _ (by rfl) (by rfl) Hrun2.out ?_; clear Hrun2) | fail)
  refine HS.out.mono ?_
  rintro e w3 ⟨A3, c3, Af, cf, rfl, ht3, -, hb3⟩
  obtain ⟨b3, off3, Ar, cr, hA3, hbb3, hr, -, hd⟩ := ht3.at_ (i := n) (by simp; omega)
  subst hA3
  have e1 : (T ++ [(0, tb)])[n]'(by simp; omega) = (0, tb) := by simp [← htl]
  rw [e1] at hr hd
  replace hd : w3.cell? ⟨b3, off3 + n * 2 + 1, none⟩ = some (.slice Ar tb.length cr) := hd
  have Hr := Lib.hid hr
  have Hb3 := Lib.hid (Hb2.out.trans (hb3.mono Hb2.out.size))
  clear ht3 hr hb3 HS e1 htl hbb3
  go_wp2_with fail
  go_ret2
  exact ⟨Ar, cr, rfl, Hr.out, Hb3.out⟩
end Go.Proofs.Ytploicbiapjfdaa
