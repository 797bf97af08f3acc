/- Joined texts: StChs, StAct, StPlay. -/
import Derived.Test.YtmlgaedhfannmaaBunSB
import Derived.Test.YtmlgaedhfannmaaBunSG
import Derived.Test.YtmlgaedhfannmaaBunSC
import Derived.Test.YtmlgaedhfannmaaBunRB
import Derived.StillTailTactics
import Derived.BigQuiet
/- The store: lists of acts and of what they came to, in memory. -/
namespace Go.Proofs.Ytmlgaedhfannmaa
set_option linter.unusedVariables false
set_option linter.unusedSimpArgs false
open Go.RowKit
/-- One behind the other, each in cells of its own. -/
def Chs {α : Type} (E : α → List Value → Prop) : List α → List Value → Prop
  | [], pc => pc = []
  | a :: r, pc => ∃ c rest, pc = c ++ rest ∧ E a c ∧ Chs E r rest
section
variable {α : Type} {E E' : α → List Value → Prop} {k : Nat}
theorem Chs.nil : Chs E [] [] := by unfold Chs; rfl
theorem Chs.imp (hi : ∀ x c, E x c → E' x c) : ∀ {l : List α} {pc : List Value}, Chs E l pc → Chs E' l pc
  | [], _, h => h
  | x :: l, pc, h => by
    unfold Chs at h ⊢
    obtain ⟨c, rest, h1, h2, h3⟩ := h
    exact ⟨c, rest, h1, hi x c h2, Chs.imp hi h3⟩
theorem Chs.len (hk : ∀ x c, E x c → c.length = k) : ∀ {l : List α} {pc : List Value}, Chs E l pc → pc.length = l.length * k
  | [], pc, h => by unfold Chs at h; subst h; simp
  | x :: l, pc, h => by
    unfold Chs at h
    obtain ⟨c, rest, rfl, h2, h3⟩ := h
    rw [List.length_append, hk x c h2, Chs.len hk h3, List.length_cons, Nat.add_mul]; omega
theorem Chs.one (ho : ∀ x c, E x c → ∀ u ∈ c, u.oneCell' = true) : ∀ {l : List α} {pc : List Value}, Chs E l pc → ∀ u ∈ pc, u.oneCell' = true
  | [], pc, h, u, hu => by unfold Chs at h; subst h; simp at hu
  | x :: l, pc, h, u, hu => by
    unfold Chs at h
    obtain ⟨c, rest, rfl, h2, h3⟩ := h
    rcases List.mem_append.1 hu with h | h
    · exact ho x c h2 u h
    · exact Chs.one ho h3 u h
theorem Chs.app : ∀ {a b : List α} {pa pb : List Value}, Chs E a pa → Chs E b pb → Chs E (a ++ b) (pa ++ pb)
  | [], b, pa, pb, h, k => by unfold Chs at h; subst h; exact k
  | x :: a, b, pa, pb, h, k => by
    unfold Chs at h
    obtain ⟨c, rest, rfl, h2, h3⟩ := h
    show Chs E (x :: (a ++ b)) _
    unfold Chs
    exact ⟨c, rest ++ pb, by simp, h2, Chs.app h3 k⟩
theorem Chs.single {x : α} {c : List Value} (h : E x c) : Chs E [x] c := by
  unfold Chs; exact ⟨c, [], by simp, h, Chs.nil⟩
theorem Chs.at_ (hk : ∀ x c, E x c → c.length = k) : ∀ {l : List α} {pc : List Value} (i : Nat) (hi : i < l.length), Chs E l pc → ∃ c, E l[i] c ∧ ∀ j u, c[j]? = some u → pc[i * k + j]? = some u
  | [], pc, i, hi, h => by simp at hi
  | x :: l, pc, 0, hi, h => by
    unfold Chs at h
    obtain ⟨c, rest, rfl, h2, h3⟩ := h
    refine ⟨c, h2, fun j u hu => ?_⟩
    have hj : j < c.length := (List.getElem?_eq_some_iff.1 hu).1
    rw [Nat.zero_mul, Nat.zero_add, List.getElem?_append_left hj]; exact hu
  | x :: l, pc, i + 1, hi, h => by
    unfold Chs at h
    obtain ⟨c, rest, rfl, h2, h3⟩ := h
    obtain ⟨c', h4, h5⟩ := Chs.at_ hk i (by simpa using hi) h3
    refine ⟨c', by simpa using h4, fun j u hu => ?_⟩
    have hl := hk x c h2
    rw [List.getElem?_append_right (by rw [hl, Nat.add_mul]; omega), hl, Nat.add_mul, show i * k + 1 * k + j - k = i * k + j by omega]
    exact h5 j u hu
end
/-- An act's four cells; its rows lie in blocks of S. -/
def AIn (w : World) (S : Nat → Prop) (a : Ac) (cs : List Value) : Prop :=
  ∃ A c, cs = [.int .i64 a.kind, .slice A a.rows.length c, str a.key, .int .i64 a.n] ∧ RInS w S A a.rows.length c a.rows ∧ Short a.rows ∧ a.rows.length ≤ 9223372036854775807 ∧ a.key.length ≤ 9223372036854775807 ∧ (-9223372036854775808 ≤ a.n ∧ a.n ≤ 9223372036854775807)
theorem AIn.len {w : World} {S : Nat → Prop} {a : Ac} {cs : List Value} (h : AIn w S a cs) : cs.length = 4 := by obtain ⟨A, c, rfl, _⟩ := h; rfl
theorem AIn.one {w : World} {S : Nat → Prop} {a : Ac} {cs : List Value} (h : AIn w S a cs) : ∀ u ∈ cs, u.oneCell' = true := by
  obtain ⟨A, c, rfl, _⟩ := h
  intro u hu
  simp at hu
  rcases hu with rfl | rfl | rfl | rfl <;> rfl
theorem AIn.kept {w w' : World} {S : Nat → Prop} {a : Ac} {cs : List Value} (h : AIn w S a cs) (hk : ∀ p : Addr, S p.block → p.block < w.heap.size → w'.cell? p = w.cell? p) : AIn w' S a cs := by
  obtain ⟨A, c, h1, h2, h3⟩ := h
  exact ⟨A, c, h1, h2.kept hk, h3⟩
theorem AIn.mono {w : World} {S S' : Nat → Prop} {a : Ac} {cs : List Value} (h : AIn w S a cs) (hs : ∀ b, b < w.heap.size → S b → S' b) : AIn w S' a cs := by
  obtain ⟨A, c, h1, h2, h3⟩ := h
  exact ⟨A, c, h1, h2.mono hs, h3⟩
/-- A slice of acts; all of it lies below block B. -/
def AsIn (w : World) (B : Nat) (A : Option Addr) (n c : Nat) (acs : List Ac) : Prop :=
  acs.length = n ∧ n ≤ c ∧ (A = none → c = 0) ∧ ∃ pc, Holds w B 4 A n pc ∧ Chs (AIn w (fun b => b < B)) acs pc
section
variable {w w' : World} {B B' n c : Nat} {A : Option Addr} {acs : List Ac}
theorem AsIn.below (h : AsIn w B A n c acs) (hb : Below B w w') : AsIn w' B A n c acs := by
  obtain ⟨h1, h2, h3, pc, h4, h5⟩ := h
  exact ⟨h1, h2, h3, pc, h4.below hb, h5.imp fun x c hx => hx.kept fun p hp _ => hb.cell hp⟩
theorem AsIn.wider (h : AsIn w B A n c acs) (hB : B ≤ B') : AsIn w B' A n c acs := by
  obtain ⟨h1, h2, h3, pc, h4, h5⟩ := h
  exact ⟨h1, h2, h3, pc, h4.wider hB, h5.imp fun x c hx => hx.mono fun b _ hb => Nat.lt_of_lt_of_le hb hB⟩
theorem AsIn.at_ (h : AsIn w B A n c acs) {i : Nat} (hi : i < acs.length) :
    ∃ b off Ar cr, A = some ⟨b, off, none⟩ ∧ b < B ∧ AIn w (fun b => b < B) acs[i] [.int .i64 acs[i].kind, .slice Ar acs[i].rows.length cr, str acs[i].key, .int .i64 acs[i].n] ∧
      w.cell? ⟨b, off + i * 4, none⟩ = some (.int .i64 acs[i].kind) ∧ w.cell? ⟨b, off + i * 4 + 1, none⟩ = some (.slice Ar acs[i].rows.length cr) ∧ w.cell? ⟨b, off + i * 4 + 2, none⟩ = some (str acs[i].key) ∧ w.cell? ⟨b, off + i * 4 + 3, none⟩ = some (.int .i64 acs[i].n) := by
  obtain ⟨h1, h2, h3, pc, h4, h5⟩ := h
  obtain ⟨c, hc, hat⟩ := h5.at_ (fun x c hx => hx.len) i hi
  obtain ⟨b, off, rfl, hb, hcell⟩ := h4.2 (by omega)
  have hc' := hc
  obtain ⟨Ar, cr, rfl, _⟩ := hc'
  refine ⟨b, off, Ar, cr, rfl, hb, hc, ?_, ?_, ?_, ?_⟩
  · exact hcell _ _ (hat 0 _ rfl)
  · rw [Nat.add_assoc]; exact hcell _ _ (hat 1 _ rfl)
  · rw [Nat.add_assoc]; exact hcell _ _ (hat 2 _ rfl)
  · rw [Nat.add_assoc]; exact hcell _ _ (hat 3 _ rfl)
end
/-- What an act came to: two cells. -/
def TdIn (w : World) (S : Nat → Prop) (x : Int × List Rw) (cs : List Value) : Prop :=
  ∃ A c, cs = [.int .i64 x.1, .slice A x.2.length c] ∧ RInS w S A x.2.length c x.2
theorem TdIn.len {w : World} {S : Nat → Prop} {x : Int × List Rw} {cs : List Value} (h : TdIn w S x cs) : cs.length = 2 := by obtain ⟨A, c, rfl, _⟩ := h; rfl
theorem TdIn.one {w : World} {S : Nat → Prop} {x : Int × List Rw} {cs : List Value} (h : TdIn w S x cs) : ∀ u ∈ cs, u.oneCell' = true := by
  obtain ⟨A, c, rfl, _⟩ := h
  intro u hu
  simp at hu
  rcases hu with rfl | rfl <;> rfl
theorem TdIn.kept {w w' : World} {S : Nat → Prop} {x : Int × List Rw} {cs : List Value} (h : TdIn w S x cs) (hk : ∀ p : Addr, S p.block → p.block < w.heap.size → w'.cell? p = w.cell? p) : TdIn w' S x cs := by
  obtain ⟨A, c, h1, h2⟩ := h
  exact ⟨A, c, h1, h2.kept hk⟩
theorem TdIn.mono {w : World} {S S' : Nat → Prop} {x : Int × List Rw} {cs : List Value} (h : TdIn w S x cs) (hs : ∀ b, b < w.heap.size → S b → S' b) : TdIn w S' x cs := by
  obtain ⟨A, c, h1, h2⟩ := h
  exact ⟨A, c, h1, h2.mono hs⟩
def TdsIn (w : World) (B : Nat) (A : Option Addr) (n c : Nat) (l : List (Int × List Rw)) : Prop :=
  l.length = n ∧ n ≤ c ∧ (A = none → c = 0) ∧ ∃ pc, Holds w B 2 A n pc ∧ Chs (TdIn w (fun b => b < B)) l pc
section
variable {w w' : World} {B B' n c : Nat} {A : Option Addr} {l : List (Int × List Rw)}
theorem TdsIn.below (h : TdsIn w B A n c l) (hb : Below B w w') : TdsIn w' B A n c l := by
  obtain ⟨h1, h2, h3, pc, h4, h5⟩ := h
  exact ⟨h1, h2, h3, pc, h4.below hb, h5.imp fun x c hx => hx.kept fun p hp _ => hb.cell hp⟩
theorem TdsIn.wider (h : TdsIn w B A n c l) (hB : B ≤ B') : TdsIn w B' A n c l := by
  obtain ⟨h1, h2, h3, pc, h4, h5⟩ := h
  exact ⟨h1, h2, h3, pc, h4.wider hB, h5.imp fun x c hx => hx.mono fun b _ hb => Nat.lt_of_lt_of_le hb hB⟩
theorem TdsIn.at_ (h : TdsIn w B A n c l) {i : Nat} (hi : i < l.length) :
    ∃ b off Ar cr, A = some ⟨b, off, none⟩ ∧ b < B ∧ RIn w B Ar l[i].2.length cr l[i].2 ∧ w.cell? ⟨b, off + i * 2, none⟩ = some (.int .i64 l[i].1) ∧ w.cell? ⟨b, off + i * 2 + 1, none⟩ = some (.slice Ar l[i].2.length cr) := by
  obtain ⟨h1, h2, h3, pc, h4, h5⟩ := h
  obtain ⟨c, hc, hat⟩ := h5.at_ (fun x c hx => hx.len) i hi
  obtain ⟨b, off, rfl, hb, hcell⟩ := h4.2 (by omega)
  obtain ⟨Ar, cr, rfl, hr⟩ := hc
  refine ⟨b, off, Ar, cr, rfl, hb, hr, ?_, ?_⟩
  · exact hcell _ _ (hat 0 _ rfl)
  · rw [Nat.add_assoc]; exact hcell _ _ (hat 1 _ rfl)
end
/-- A list of these, in a row of the call's own (from block base on) that none of their rows lies in. -/
def TdOwn (w : World) (base : Nat) (v : Value) (l : List (Int × List Rw)) : Prop :=
  ∃ pc, w.ownsRow base 60 2 v l.length pc ∧ Chs (TdIn w (fun b => base ≤ b ∧ some b ≠ v.ownBlock)) l pc
theorem TdOwn.nil (w : World) (base : Nat) : TdOwn w base (.slice none 0 0) [] := ⟨[], World.ownsRow_nil _ _ _ _, Chs.nil⟩
theorem TdOwn.only {w w' : World} {base g : Nat} {v : Value} {l : List (Int × List Rw)} (h : TdOwn w base v l) (hg : w.grownBy w' (some g)) (hgb : g < base) : TdOwn w' base v l := by
  obtain ⟨pc, h1, h2⟩ := h
  refine ⟨pc, World.ownsRow.kept h1 hg (.inr fun e => by have := (h1.lt g e).1; omega), h2.imp fun x c hx => hx.kept fun p hp hlt => World.cell?_of_block (hg.block p.block hlt fun e => by injection e with e; have := hp.1; omega)⟩
theorem TdOwn.below {w w' : World} {base : Nat} {v : Value} {l : List (Int × List Rw)} (h : TdOwn w base v l) (hb : Below w.heap.size w w') : TdOwn w' base v l := by
  obtain ⟨pc, h1, h2⟩ := h
  exact ⟨pc, World.ownsRow.kept h1 (only_below hb none) (by cases v.ownBlock <;> simp), h2.imp fun x c hx => hx.kept fun p hp hlt => hb.cell hlt⟩
theorem TdOwn.form {w : World} {base : Nat} {v : Value} {l : List (Int × List Rw)} (h : TdOwn w base v l) : ∃ A c, v = .slice A l.length c ∧ TdsIn w w.heap.size A l.length c l := by
  obtain ⟨pc, h1, h2⟩ := h
  obtain ⟨A, c, rfl, hA⟩ := own_form h1
  refine ⟨A, c, rfl, rfl, ?_, fun h => (hA h).2, pc, Holds.own h1, h2.imp fun x c hx => hx.mono fun b hb _ => hb⟩
  rcases h1.2 with ⟨hv, hn⟩ | ⟨g, cap, cur, hv, _, _, hnc, _⟩
  · omega
  · injection hv with _ _ hc; omega
theorem StIn.grown {N N' : Nat → Prop} {w w' : World} {g : Nat} {s : List Rw × List UInt8} {row : Option Nat} (h : StIn N w g s) (hg : w.grownBy w' row) (h1 : some g ≠ row) (h2 : ∀ b, b < w.heap.size → some b = row → N b) (h3 : ∀ b, b < w.heap.size → ¬ N b → ¬ N' b) : StIn N' w' g s := by
  obtain ⟨Af, cf, At, ct, k1, k2, k3⟩ := h
  have hk : ∀ p : Addr, (p.block ≠ g ∧ ¬ N p.block) → p.block < w.heap.size → w'.cell? p = w.cell? p := fun p hp hlt => World.cell?_of_block (hg.block p.block hlt fun e => hp.2 (h2 _ hlt e))
  have hm : ∀ b, b < w.heap.size → (b ≠ g ∧ ¬ N b) → ((b ≠ g ∧ ¬ N b) ∧ (b ≠ g ∧ ¬ N' b)) := fun b hb hh => ⟨hh, hh.1, h3 b hb hh.2⟩
  exact ⟨Af, cf, At, ct, k1.grown hg h1, ((k2.mono hm).kept fun p hp => hk p hp.1).mono fun b _ hb => hb.2, ((k3.mono hm).kept fun p hp => hk p hp.1).mono fun b _ hb => hb.2⟩
theorem info_told : (Try.prog.info? 60).map (fun i => (i.zero, i.size, i.bytes)) = some (some (.agg #[.int .i64 0, .slice none 0 0]), 2, 32) := by kernel_rfl
/-- One more: its run. -/
theorem TdOwn.put {W : World} {base : Nat} {v : Value} {l : List (Int × List Rw)} (h : TdOwn W base v l) (x : Int × List Rw) (A : Option Addr) (c : Nat) (hx : RInS W (fun b => base ≤ b ∧ some b ≠ v.ownBlock) A x.2.length c x.2) (hn : l.length + 1 ≤ 1048576) (hb : base ≤ W.heap.size) :
    ∃ v' wf, (Builtin.append_ #[55, 55] 55 #[v, .slice (some ⟨W.heap.size, 0, none⟩) 1 1]).run Try.prog (W.alloc (.cells #[.int .i64 x.1, .slice A x.2.length c] 60)) = .ok v' wf ∧
      TdOwn wf base v' (l ++ [x]) ∧ (∀ B a, Below B a W → B ≤ base → B ≤ W.heap.size → Below B a wf) ∧ W.grownBy wf v.ownBlock ∧ (v'.ownBlock = v.ownBlock ∨ ∀ k, v'.ownBlock = some k → W.heap.size ≤ k) := by
  obtain ⟨i0, hi0, hz0, hzs, hzb⟩ := info_parts info_told
  obtain ⟨pc, h1, h2⟩ := h
  have hB := Blk.new W 60 #[.int .i64 x.1, .slice A x.2.length c]
  have hh : Holds (W.alloc (.cells #[.int .i64 x.1, .slice A x.2.length c] 60)) (W.heap.size + 1) 2 (some ⟨W.heap.size, 0, none⟩) 1 [.int .i64 x.1, .slice A x.2.length c] := by
    refine ⟨rfl, fun _ => ⟨W.heap.size, 0, rfl, by omega, fun j u hu => ?_⟩⟩
    rw [Nat.zero_add, hB.cell j]
    simpa using hu
  obtain ⟨v', wf, k1, k2, k3, k4⟩ := run_app_all (P := Try.prog) (W.alloc (.cells #[.int .i64 x.1, .slice A x.2.length c] 60)) 55 55 base 60 i0 _ 2 32 Try.underlying55 hi0 hz0 hzs hzb rfl (by decide) v l.length pc (h1.alloc _) (W.heap.size + 1) (some ⟨W.heap.size, 0, none⟩) 1 1 [.int .i64 x.1, .slice A x.2.length c] (fun h => by cases h) hh (by
    intro u hu
    simp at hu
    rcases hu with rfl | rfl <;> rfl) hn (by decide) (by simp; omega)
  have hsz : W.heap.size + 1 ≤ wf.heap.size := by have := k3.size; simpa using this
  have hgw : W.grownBy wf v.ownBlock := (World.grownBy_alloc W _ _).trans k3
  have hkeep : ∀ p : Addr, (base ≤ p.block ∧ some p.block ≠ v.ownBlock) → p.block < W.heap.size → wf.cell? p = W.cell? p := fun p hp hlt => World.cell?_of_block (hgw.block p.block hlt hp.2)
  have hmono : ∀ b, b < W.heap.size → (base ≤ b ∧ some b ≠ v.ownBlock) → (base ≤ b ∧ some b ≠ v'.ownBlock) := by
    intro b hlt hb
    refine ⟨hb.1, fun e => ?_⟩
    rcases k4 with k4 | k4
    · exact hb.2 (e.trans k4)
    · rw [k4] at e; injection e with e; simp at e; omega
  refine ⟨v', wf, k1, ⟨pc ++ [.int .i64 x.1, .slice A x.2.length c], by simpa using k2, ?_⟩, fun B a hBa hbb hBW => below_own (hBa.alloc hBW _) k3 (h1.alloc _) hbb (by simp; omega), hgw, k4.imp id fun e k hk => by rw [e] at hk; injection hk with hk; simp at hk; omega⟩
  refine Chs.app (h2.imp fun y cs hy => (hy.mono (S' := fun b => (base ≤ b ∧ some b ≠ v.ownBlock) ∧ (base ≤ b ∧ some b ≠ v'.ownBlock)) fun b hlt hb => ⟨hb, hmono b hlt hb⟩).kept (fun p hp hlt => hkeep p hp.1 hlt) |>.mono fun b _ hb => hb.2) (Chs.single ⟨A, c, rfl, ?_⟩)
  exact ((hx.mono (S' := fun b => (base ≤ b ∧ some b ≠ v.ownBlock) ∧ (base ≤ b ∧ some b ≠ v'.ownBlock)) fun b hlt hb => ⟨hb, hmono b hlt hb⟩).kept (fun p hp hlt => hkeep p hp.1 hlt)).mono fun b _ hb => hb.2
end Go.Proofs.Ytmlgaedhfannmaa

/- The store: one act. -/
namespace Go.Proofs.Ytmlgaedhfannmaa
set_option linter.unusedVariables false
set_option linter.unusedSimpArgs false
open Go.RowKit
theorem act_commit {s : List Rw × List UInt8} {a : Ac} (h : a.kind = 1) : actR s a = (((commitN s a.rows).1, []), (commitN s a.rows).2) := by
  unfold actR commitN; rw [if_pos h]
  split
  · rfl
  · split <;> rfl
theorem act_get {s : List Rw × List UInt8} {a : Ac} (h : a.kind = 2) : actR s a = (getN s.1 a.key, s) := by
  unfold actR getN; rw [if_neg (by omega), if_pos h]
  split <;> rfl
theorem act_range {s : List Rw × List UInt8} {a : Ac} (h : a.kind = 3) : actR s a = ((0, s.1.filter (fun r => a.key.isPrefixOf r.key)), s) := by
  unfold actR; rw [if_neg (by omega), if_neg (by omega), if_pos h]
theorem act_pack {s : List Rw × List UInt8} {a : Ac} (h : a.kind = 4) : actR s a = ((0, []), (s.1, pkF s.1)) := by
  unfold actR; rw [if_neg (by omega), if_neg (by omega), if_neg (by omega), if_pos h]
theorem act_crash {s : List Rw × List UInt8} {a : Ac} (h : a.kind = 5) : actR s a = (((crashN s a.rows a.n).1, []), (crashN s a.rows a.n).2) := by
  unfold actR crashN; rw [if_neg (by omega), if_neg (by omega), if_neg (by omega), if_neg (by omega), if_pos h]
  split
  · rfl
  · split
    · rfl
    · split
      · rfl
      · split <;> rfl
theorem act_other {s : List Rw × List UInt8} {a : Ac} (h : a.kind ≠ 1 ∧ a.kind ≠ 2 ∧ a.kind ≠ 3 ∧ a.kind ≠ 4 ∧ a.kind ≠ 5) : actR s a = ((3, []), s) := by
  unfold actR; rw [if_neg h.1, if_neg h.2.1, if_neg h.2.2.1, if_neg h.2.2.2.1, if_neg h.2.2.2.2]
theorem Kp.size {s : List Rw × List UInt8} (h : Kp s) : s.2.length ≤ 1200 ∧ (pkF s.1).length ≤ 1200 := by
  obtain ⟨css, h⟩ := h
  exact ⟨h.size, h.pack.size⟩
/-- Behind an act: what it came to, and the store. -/
def OnePost (N : Nat → Prop) (g : Nat) (X : (Int × List Rw) × (List Rw × List UInt8)) (w : World) (e : Ending) (w' : World) : Prop :=
  ∃ (A : Option Addr) (c : Nat), e = .returned (.tuple #[.slice A X.1.2.length c, .int .i64 X.1.1]) ∧ RInS w' (fun b => w.heap.size ≤ b) A X.1.2.length c X.1.2 ∧ StIn N w' g X.2 ∧ w.grownBy w' (some g)
set_option maxHeartbeats 4000000 in
set_option maxRecDepth 100000 in
theorem act_any {N : Nat → Prop} (g : Nat) (s : List Rw × List UInt8) (a : Ac) (Ar : Option Addr) (cr : Nat) (w : World) (hst : StIn N w g s) (hN : ∀ b, N b → b < w.heap.size) (hkp : Kp s) (ha : AIn w (fun b => b < w.heap.size) a [.int .i64 a.kind, .slice Ar a.rows.length cr, str a.key, .int .i64 a.n]) :
    Calls Try.prog 36 #[.pointer (some ⟨g, 0, none⟩), .agg #[.int .i64 a.kind, .slice Ar a.rows.length cr, str a.key, .int .i64 a.n]] w (OnePost N g (actR s a) w) := by
  have hg := hst.lt
  obtain ⟨A', c', e, hr, hsh, hrl, hkl, hnb⟩ := ha
  simp only [List.cons.injEq, Value.slice.injEq, and_true, true_and] at e
  obtain ⟨rfl, rfl⟩ := e
  obtain ⟨hf12, hp12⟩ := hkp.size
  have hft := hkp.fit
  obtain ⟨W, hW⟩ : ∃ W, w.alloc (.cells #[.int .i64 a.kind, .slice Ar a.rows.length cr, str a.key, .int .i64 a.n] 54) = W := ⟨_, rfl⟩
  have hWB := Blk.new w 54 #[.int .i64 a.kind, .slice Ar a.rows.length cr, str a.key, .int .i64 a.n]
  have hWb : Below w.heap.size w W := by rw [← hW]; exact (Below.refl _ _).alloc (Nat.le_refl _) _
  rw [hW] at hWB
  have x0 : W.cell? ⟨w.heap.size, 0, none⟩ = some (.int .i64 a.kind) := hWB.cell 0
  have x1 : W.cell? ⟨w.heap.size, 1, none⟩ = some (.slice Ar a.rows.length cr) := hWB.cell 1
  have x2 : W.cell? ⟨w.heap.size, 2, none⟩ = some (str a.key) := hWB.cell 2
  have x3 : W.cell? ⟨w.heap.size, 3, none⟩ = some (.int .i64 a.n) := hWB.cell 3
  have hstW := hst.below hWb
  have hNW := nUp hN hWb.size
  have hrW : RIn W W.heap.size Ar a.rows.length cr a.rows := (RInS.below hr hWb).all
  have Hst := Lib.hid hst
  have HstW := Lib.hid hstW
  have HWb := Lib.hid hWb
  by_cases h1 : a.kind = 1
  · have HE := Lib.hid (act_commit (s := s) h1)
    have HC := Lib.hid (commit_any g s Ar a.rows.length cr a.rows W hstW hNW hft hf12 hrW hsh hrl)
    unfold ActPost at HC
    rw [h1] at x0 hW ⊢
    clear hst hstW hrW hr hsh hWB hWb h1
    generalize a.rows.length = rl at *
    generalize commitN s a.rows = X at *
    go_enter Try.func36, Try.ntmps36
    go_wp2_with fail
    refine HC.out.mono ?_
    rintro e w2 ⟨rfl, hst2, hg2⟩
    have Hst2 := Lib.hid hst2
    have Hg2 := Lib.hid ((only_below HWb.out (some g)).trans hg2)
    clear hst2 hg2 HC
    go_wp2_with fail
    go_ret2
    rw [HE.out]
    exact ⟨none, 0, rfl, RInS.nil, Hst2.out, Hg2.out⟩
  · by_cases h2 : a.kind = 2
    · have HE := Lib.hid (act_get (s := s) h2)
      have HC := Lib.hid (get_any g s a.key W hstW hft hkl)
      unfold TellPost at HC
      rw [h2] at x0 hW ⊢
      clear hst hstW hrW hr hsh hWB hWb h1 h2
      generalize a.rows.length = rl at *
      generalize getN s.1 a.key = X at *
      go_enter Try.func36, Try.ntmps36
      go_wp2_with fail
      refine HC.out.mono ?_
      rintro e w2 ⟨A2, c2, rfl, hr2, hb2⟩
      have Hr2 := Lib.hid (hr2.mono (S' := fun b => w.heap.size ≤ b) fun b _ hb => Nat.le_trans HWb.out.size hb)
      have Hb2 := Lib.hid (HWb.out.trans (hb2.mono HWb.out.size))
      clear hr2 hb2 HC
      go_wp2_with fail
      go_ret2
      rw [HE.out]
      exact ⟨A2, c2, rfl, Hr2.out, Hst.out.below Hb2.out, only_below Hb2.out (some g)⟩
    · by_cases h3 : a.kind = 3
      · have HE := Lib.hid (act_range (s := s) h3)
        obtain ⟨Af, cf, At, ct, k1, k2, k3⟩ := hstW
        have y1 : W.cell? ⟨g, 1, none⟩ = some (.slice At s.1.length ct) := k1.cell 1
        have HC := Lib.hid (begin_any At s.1.length ct W.heap.size s.1 a.key W.drew (k3.all.below (Below.refl _ W).drew) (Nat.le_refl _) (fun r hr => by have := hft.shortR r hr; omega) (by have := hft.len; omega))
        rw [begin_ok hft.chk] at HC
        rw [h3] at x0 hW ⊢
        clear hst hrW hr hsh hWB hWb h1 h2 h3 k1 k2 k3
        generalize a.rows.length = rl at *
        generalize s.1.filter (fun r => a.key.isPrefixOf r.key) = X at *
        go_enter Try.func36, Try.ntmps36
        go_wp2_with fail
        refine region_S (fun w' => w'.cell? ⟨g, 1, none⟩ = some (.slice At s.1.length ct) ∧ w'.cell? ⟨w.heap.size, 2, none⟩ = some (str a.key)) [] (by kernel_rfl) ?_
        have hS0 : W.drew.cell? ⟨g, 1, none⟩ = some (.slice At s.1.length ct) ∧ W.drew.cell? ⟨w.heap.size, 2, none⟩ = some (str a.key) := ⟨y1, x2⟩
        have hgW : g < W.heap.size := HstW.out.lt
        have hwW : w.heap.size < W.heap.size := by rw [← hW]; simp
        refine anyS_take 0 (v := .pointer (some ⟨g, 0, none⟩)) rfl (by kernel_rfl) (by kernel_rfl) (by kernel_rfl) (by kernel_rfl) (fun _ _ _ h => h) (.inl ⟨by kernel_rfl, fun w' hS' => by kernel_rfl⟩) hS0 ?_
        refine anyS_take 1 (v := .pointer (some ⟨g, 0, none⟩)) rfl (by kernel_rfl) (by kernel_rfl) (by kernel_rfl) (by kernel_rfl) (fun _ _ _ h => h) (.inl ⟨by kernel_rfl, fun w' hS' => by go_simp⟩) hS0 ?_
        refine anyS_take 2 (v := .pointer (some ⟨g, 1, none⟩)) rfl (by kernel_rfl) (by kernel_rfl) (by kernel_rfl) (by kernel_rfl) (fun _ _ _ h => h) (.inl ⟨by kernel_rfl, fun w' hS' => by go_simp⟩) hS0 ?_
        refine anyS_take 3 (v := .slice At s.1.length ct) rfl (by kernel_rfl) (by kernel_rfl) (by kernel_rfl) (by kernel_rfl) (fun _ _ _ h => h) (.inl ⟨by kernel_rfl, fun w' hS' => by obtain ⟨z1, z2⟩ := hS'; go_simp⟩) hS0 ?_
        refine anyS_take 4 (v := .pointer (some ⟨w.heap.size, 2, none⟩)) rfl (by kernel_rfl) (by kernel_rfl) (by kernel_rfl) (by kernel_rfl) (fun _ _ _ h => h) (.inl ⟨by kernel_rfl, fun w' hS' => by go_simp⟩) hS0 ?_
        refine anyS_take 5 (v := str a.key) rfl (by kernel_rfl) (by kernel_rfl) (by kernel_rfl) (by kernel_rfl) (fun _ _ _ h => h) (.inl ⟨by kernel_rfl, fun w' hS' => by obtain ⟨z1, z2⟩ := hS'; go_simp⟩) hS0 ?_
        refine anyS_one 6 rfl (by kernel_rfl) rfl ?_
        intro K6 hK6
        go_simp
        refine HC.out.mono ?_
        rintro e w2 ⟨v2, rfl, ho2, hb2⟩
        have hS2 : w2.cell? ⟨g, 1, none⟩ = some (.slice At s.1.length ct) ∧ w2.cell? ⟨w.heap.size, 2, none⟩ = some (str a.key) := ⟨(hb2.cell (p := ⟨g, 1, none⟩) hgW).trans hS0.1, (hb2.cell (p := ⟨w.heap.size, 2, none⟩) hwW).trans hS0.2⟩
        refine hK6 _ _ ⟨fun _ => hS2, ?_⟩
        refine anyS_take 7 (v := v2) rfl (by kernel_rfl) (by kernel_rfl) (by kernel_rfl) (by kernel_rfl) (fun _ _ _ h => h) (.inl ⟨by kernel_rfl, fun w' hS' => by go_simp⟩) hS2 ?_
        refine anyS_take 8 (v := .int .i64 0) rfl (by kernel_rfl) (by kernel_rfl) (by kernel_rfl) (by kernel_rfl) (fun _ _ _ h => h) (.inl ⟨by kernel_rfl, fun w' hS' => by go_simp⟩) hS2 ?_
        refine anyS_one 9 rfl (by kernel_rfl) rfl ?_
        intro K9 hK9
        go_simp
        refine hK9 _ _ ⟨fun _ => hS2, ?_⟩
        refine anyS_one 10 rfl (by kernel_rfl) rfl ?_
        intro K10 hK10
        go_simp
        refine hK10 _ _ ⟨fun _ => hS2, ?_⟩
        refine anyS_done (by kernel_rfl) ?_
        clear hK6 hK9 hK10
        replace ho2 : w2.ownsRow W.drew.heap.size 51 2 v2 X.length (pcR X) := ho2
        obtain ⟨A2, c2, rfl, hr2⟩ := RInS.row ho2
        have Hr2 := Lib.hid (hr2.mono (S' := fun b => w.heap.size ≤ b) fun b _ hb => Nat.le_trans HWb.out.size hb)
        have Hb2 := Lib.hid (HWb.out.drew.trans (hb2.mono HWb.out.size))
        clear hr2 hb2 ho2 HC
        go_wp2_with fail
        go_ret2
        rw [HE.out]
        exact ⟨A2, c2, rfl, Hr2.out, Hst.out.below Hb2.out, only_below Hb2.out (some g)⟩
      · by_cases h4 : a.kind = 4
        · have HE := Lib.hid (act_pack (s := s) h4)
          have HC := Lib.hid (packS_any g s W hstW hNW hft hf12 hp12)
          unfold ActPost at HC
          rw [h4] at x0 hW ⊢
          clear hst hstW hrW hr hsh hWB hWb h1 h2 h3 h4
          generalize a.rows.length = rl at *
          generalize pkF s.1 = X at *
          go_enter Try.func36, Try.ntmps36
          go_wp2_with fail
          refine HC.out.mono ?_
          rintro e w2 ⟨rfl, hst2, hg2⟩
          have Hst2 := Lib.hid hst2
          have Hg2 := Lib.hid ((only_below HWb.out (some g)).trans hg2)
          clear hst2 hg2 HC
          go_wp2_with fail
          go_ret2
          rw [HE.out]
          exact ⟨none, 0, rfl, RInS.nil, Hst2.out, Hg2.out⟩
        · by_cases h5 : a.kind = 5
          · have HE := Lib.hid (act_crash (s := s) h5)
            have HC := Lib.hid (crash_any g s Ar a.rows.length cr a.rows a.n W hstW hNW hkp hf12 hrW hsh hrl hnb)
            unfold ActPost at HC
            rw [h5] at x0 hW ⊢
            clear hst hstW hrW hr hsh hWB hWb h1 h2 h3 h4 h5
            generalize a.rows.length = rl at *
            generalize crashN s a.rows a.n = X at *
            go_enter Try.func36, Try.ntmps36
            go_wp2_with fail
            refine HC.out.mono ?_
            rintro e w2 ⟨rfl, hst2, hg2⟩
            have Hst2 := Lib.hid hst2
            have Hg2 := Lib.hid ((only_below HWb.out (some g)).trans hg2)
            clear hst2 hg2 HC
            go_wp2_with fail
            go_ret2
            rw [HE.out]
            exact ⟨none, 0, rfl, RInS.nil, Hst2.out, Hg2.out⟩
          · have HE := Lib.hid (act_other (s := s) (a := a) ⟨h1, h2, h3, h4, h5⟩)
            have b1 : (a.kind == 1) = false := by simpa using h1
            have b2 : (a.kind == 2) = false := by simpa using h2
            have b3 : (a.kind == 3) = false := by simpa using h3
            have b4 : (a.kind == 4) = false := by simpa using h4
            have b5 : (a.kind == 5) = false := by simpa using h5
            clear hst hstW hrW hr hsh hWB hWb h1 h2 h3 h4 h5
            generalize a.kind = k at *
            generalize a.rows.length = rl at *
            go_enter Try.func36, Try.ntmps36
            go_wp2_with fail
            go_ret2
            rw [HE.out]
            exact ⟨none, 0, rfl, RInS.nil, HstW.out, only_below HWb.out (some g)⟩
end Go.Proofs.Ytmlgaedhfannmaa

/- The store: Play. -/
namespace Go.Proofs.Ytmlgaedhfannmaa
set_option linter.unusedVariables false
set_option linter.unusedSimpArgs false
open Go.RowKit
def playN (acs : List Ac) : List (Int × List Rw) × List UInt8 × Int := if 100 < acs.length then ([], [], 1) else ((actsR st0 acs).1, (actsR st0 acs).2.2, 0)
def PlyPost (X : List (Int × List Rw) × List UInt8 × Int) (w : World) (e : Ending) (w' : World) : Prop :=
  ∃ (A : Option Addr) (c : Nat) (Af : Option Addr) (cf : Nat), e = .returned (.tuple #[.slice A X.1.length c, .slice Af X.2.1.length cf, .int .i64 X.2.2]) ∧ TdsIn w' w'.heap.size A X.1.length c X.1 ∧ BIn w' (fun b => b < w'.heap.size) Af X.2.1.length cf X.2.1 ∧ Below w.heap.size w w'
def PlyR (w W0 : World) (acs : List Ac) (n : Nat) (gk : Nat) (s2 s15 : Value) (wr : World) : Prop :=
  ∃ k : Nat, s15 = .int .i64 (k : Int) ∧ k ≤ n ∧ gk = n - k ∧ TdOwn wr W0.heap.size s2 (actsR st0 (acs.take k)).1 ∧ StIn (fun b => some b = s2.ownBlock) wr w.heap.size (actsR st0 (acs.take k)).2 ∧ Below w.heap.size w wr ∧ W0.heap.size ≤ wr.heap.size
theorem TdsIn.nil {w : World} {B : Nat} : TdsIn w B none 0 0 [] := ⟨rfl, Nat.le_refl _, fun _ => rfl, [], Holds.empty, Chs.nil⟩
theorem BIn.nil {w : World} {S : Nat → Prop} : BIn w S none 0 0 [] := ⟨rfl, Nat.le_refl _, fun _ => rfl, HoldsS.nil⟩
set_option maxHeartbeats 4000000 in
set_option maxRecDepth 100000 in
theorem splay_any (A : Option Addr) (n c B : Nat) (acs : List Ac) (w : World) (hl : AsIn w B A n c acs) (hB : B ≤ w.heap.size) (hn : n ≤ 9223372036854775807) :
    Calls Try.prog 24 #[.slice A n c] w (PlyPost (playN acs) w) := by
  have hln := hl.1
  by_cases hbig : 100 < n
  · have HE := Lib.hid (show playN acs = ([], [], 1) by unfold playN; rw [if_pos (by omega)])
    have hb : (100 : Int) < (n : Int) := by omega
    clear hl hln
    go_enter Try.func24, Try.ntmps24
    go_wp2_with fail
    go_ret3
    rw [HE.out]
    exact ⟨none, 0, none, 0, rfl, TdsIn.nil, BIn.nil, Below.refl _ _⟩
  · have HE := Lib.hid (show playN acs = ((actsR st0 acs).1, (actsR st0 acs).2.2, 0) by unfold playN; rw [if_neg (by omega)])
    have hb : ¬ (100 : Int) < (n : Int) := by omega
    have Hl := Lib.hid hl
    have Hln := Lib.hid hln
    clear hl hln
    obtain ⟨W0, hW0⟩ : ∃ W0, w.alloc (.cells #[.slice none 0 0, .slice none 0 0] 94) = W0 := ⟨_, rfl⟩
    have hWB := Blk.new w 94 #[.slice none 0 0, .slice none 0 0]
    have hWb : Below w.heap.size w W0 := by rw [← hW0]; exact (Below.refl _ _).alloc (Nat.le_refl _) _
    have hWs : W0.heap.size = w.heap.size + 1 := by rw [← hW0]; simp
    rw [hW0] at hWB
    have HS0 := Lib.hid (show StIn (fun b => some b = (Value.slice none 0 0).ownBlock) W0 w.heap.size st0 from ⟨none, 0, none, 0, hWB, BIn.nil, RInS.nil⟩)
    have HWb := Lib.hid hWb
    clear hWB hWb
    go_enter Try.func24, Try.ntmps24
    go_wp2_with fail
    go_loopg [2, 15] n (PlyR w W0 acs n)
    case atStart => exact ⟨0, rfl, Nat.zero_le _, by omega, TdOwn.nil _ _, HS0.out, HWb.out, Nat.le_refl _⟩
    case round =>
      obtain ⟨k, rfl, hk, hgk, htd, hst, hbe, hsz⟩ := hrel
      obtain ⟨A2, c2, rfl, -⟩ := htd.form
      have htl := actsR_len (acs.take k) st0
      have htk : (acs.take k).length = k := by rw [List.length_take]; have := Hln.out; omega
      rw [htk] at htl
      have Hgk := Lib.hid hgk
      have Htd := Lib.hid htd
      have Hst := Lib.hid hst
      have Hbe := Lib.hid hbe
      have Htl := Lib.hid htl
      clear hgk htd hst hbe htk htl
      by_cases hkn : k < n
      · have hkl : k < acs.length := by rw [Hln.out]; exact hkn
        obtain ⟨b, off, Ar, cr, hA, hbB, hai, d0, d1, d2, d3⟩ := (Hl.out.below (Hbe.out.mono hB)).at_ hkl
        subst hA
        have HT := Lib.hid (show actsR st0 (acs.take (k + 1)) = ((actsR st0 (acs.take k)).1 ++ [(actR (actsR st0 (acs.take k)).2 acs[k]).1], (actR (actsR st0 (acs.take k)).2 acs[k]).2) by rw [List.take_succ_eq_append_getElem hkl, actsR_snoc])
        have hkp := Kp.acts (acs.take k) kp0
        generalize acs[k] = a at *
        obtain ⟨W, hW⟩ : ∃ W, wr.alloc (.cells #[.int .i64 a.kind, .slice Ar a.rows.length cr, str a.key, .int .i64 a.n] 54) = W := ⟨_, rfl⟩
        have hWB := Blk.new wr 54 #[.int .i64 a.kind, .slice Ar a.rows.length cr, str a.key, .int .i64 a.n]
        have hWb : Below wr.heap.size wr W := by rw [← hW]; exact (Below.refl _ _).alloc (Nat.le_refl _) _
        have hWl : wr.heap.size + 1 = W.heap.size := by rw [← hW]; simp
        rw [hW] at hWB
        have x0 : W.cell? ⟨wr.heap.size, 0, none⟩ = some (.int .i64 a.kind) := hWB.cell 0
        have x1 : W.cell? ⟨wr.heap.size, 1, none⟩ = some (.slice Ar a.rows.length cr) := hWB.cell 1
        have x2 : W.cell? ⟨wr.heap.size, 2, none⟩ = some (str a.key) := hWB.cell 2
        have x3 : W.cell? ⟨wr.heap.size, 3, none⟩ = some (.int .i64 a.n) := hWB.cell 3
        have hai' : AIn W (fun b => b < W.heap.size) a [.int .i64 a.kind, .slice Ar a.rows.length cr, str a.key, .int .i64 a.n] := (hai.kept fun p _ hp => hWb.cell hp).mono fun b hb _ => hb
        have HC := Lib.hid (act_any w.heap.size (actsR st0 (acs.take k)).2 a Ar cr W (Hst.out.below hWb) (fun b hb => by obtain ⟨pc, ho, _⟩ := Htd.out; have := (ho.lt b hb.symm).2; omega) hkp hai')
        unfold OnePost at HC
        have Htd2 := Lib.hid (Htd.out.below hWb)
        have Hbe2 := Lib.hid (Hbe.out.trans (hWb.mono Hbe.out.size))
        have hbw : b < wr.heap.size := by omega
        have hi1 : (k : Int) < (n : Int) := by omega
        clear hai hai' hkp hWB hWb Htd Hst Hbe
        generalize a.rows.length = rl at *
        generalize actsR st0 (acs.take k) = P at *
        generalize actR P.2 a = X at *
        go_wp2_with fail
        refine HC.out.mono ?_
        rintro e w2 ⟨A3, c3, rfl, hr3, hst3, hg3⟩
        have Hst3 := Lib.hid hst3
        have htd3 := Htd2.out.only hg3 (by omega)
        have hr3' : RInS w2 (fun b => W0.heap.size ≤ b ∧ some b ≠ (Value.slice A2 P.1.length c2).ownBlock) A3 X.1.2.length c3 X.1.2 := hr3.mono fun b _ hb => ⟨by omega, fun e => by
          obtain ⟨pc, ho, _⟩ := Htd2.out
          have := (ho.lt b e.symm).2
          omega⟩
        have hsz2 : W0.heap.size ≤ w2.heap.size := by have := hg3.size; omega
        obtain ⟨v', wf, hrun, ht', hbf, hgf, hvb⟩ := htd3.put X.1 A3 c3 hr3' (by have := Htl.out; omega) hsz2
        have Hrun := Lib.hid hrun
        have Ht' := Lib.hid ht'
        have hbe3 : Below w.heap.size w w2 := Hbe2.out.trans (below_only hg3 (Nat.le_refl _) Hbe2.out.size)
        have Hbf := Lib.hid (hbf _ _ hbe3 (by omega) (by omega))
        have Hst4 := Lib.hid (show StIn (fun b => some b = v'.ownBlock) wf w.heap.size X.2 from Hst3.out.grown hgf (fun e => by obtain ⟨pc, ho, _⟩ := Htd2.out; have := (ho.lt _ e.symm).1; omega) (fun b _ e => e) (fun b hb hn e => by
          rcases hvb with hv | hv
          · exact hn (e.trans hv)
          · have := hv b e.symm; omega))
        have hszf : W0.heap.size ≤ wf.heap.size := by have := hgf.size; omega
        clear hrun ht' hbf hgf hvb hbe3 htd3 hr3 hr3' hst3 hg3 HC
        go_wp2_with (first | (at_builtin; refine rw_app rfl _ _ _ rfl _ _ (by rfl) (by rfl) Hrun.out ?_; clear Hrun) | fail)
        go_roundg (n - (k + 1))
        case measure => have := Hgk.out; omega
        case rel => exact ⟨k + 1, by go_num, by omega, rfl, by rw [HT.out]; exact Ht'.out, by rw [HT.out]; exact Hst4.out, Hbf.out, hszf⟩
      · have hte : acs.take k = acs := List.take_of_length_le (by have := Hln.out; omega)
        have htd := Htd.out
        have hst := Hst.out
        rw [hte] at htd hst
        rw [hte]
        obtain ⟨A2', c2', e2, htds⟩ := htd.form
        injection e2 with e21 _ e23
        subst e21 e23
        obtain ⟨Af, cf, At, ct, k1, k2, k3⟩ := hst
        have y0 : wr.cell? ⟨w.heap.size, 0, none⟩ = some (.slice Af (actsR st0 acs).2.2.length cf) := k1.cell 0
        have Htds := Lib.hid htds
        have K2 := Lib.hid k2
        have hi1 : ¬ (k : Int) < (n : Int) := by omega
        clear htd htds k1 k2 k3 Htd Hst hte Htl
        generalize (actsR st0 acs) = P at *
        go_wp2_with fail
        go_quiet (fail)
        go_wp2_with fail
        go_ret3
        rw [HE.out]
        exact ⟨A2, c2, Af, cf, rfl, Htds.out.below (below_drewN (Below.refl _ _) _), (K2.out.mono (S' := fun b => b < wr.heap.size) fun b hb _ => hb).kept fun p _ _ => rfl, below_drewN Hbe.out _⟩
end Go.Proofs.Ytmlgaedhfannmaa
