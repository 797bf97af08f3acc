/- Joined texts: StActs, StTwo. -/
import Derived.Test.YtmlgaedhfannmaaBunSE
import Derived.Test.YtmlgaedhfannmaaBunRC
import Derived.Test.YtmlgaedhfannmaaOpenW
/- The store: Acts, the acts that the statements draw. -/
namespace Go.Proofs.Ytmlgaedhfannmaa
set_option linter.unusedVariables false
set_option linter.unusedSimpArgs false
open Go.RowKit
def kts9 : List (List UInt8) := kts ++ [[116]]
/-- Rows that are drawn, and one more. -/
def OkRows (l : List Rw) : Prop := l ≠ [] ∧ l.length ≤ 4 ∧ goodC l = true ∧ ∀ r ∈ l, r.key ∈ kts9
/-- An act that is drawn. -/
def OkAc (a : Ac) : Prop := ((a.kind = 1 ∨ a.kind = 5) ∧ OkRows a.rows ∨ (a.kind = 2 ∨ a.kind = 3 ∨ a.kind = 4) ∧ a.rows = []) ∧ a.key.length ≤ 20 ∧ 0 ≤ a.n ∧ a.n < 40
def AcsR (w : World) (n lim : Nat) (gk : Nat) (s5 s6 : Value) (wr : World) : Prop :=
  ∃ (k : Nat) (acs : List Ac), s6 = .int .i64 (k : Int) ∧ k ≤ lim ∧ k ≤ n ∧ gk = lim - k ∧ acs.length = k ∧ (∀ a ∈ acs, OkAc a) ∧ AsS wr w.heap.size (fun b => w.heap.size ≤ b ∧ some b ≠ s5.ownBlock) s5 acs ∧ Below w.heap.size w wr
def tv : Rw := ⟨[116], [118]⟩
theorem okRows_tv {cs : List Rw} (hd : Drawn cs) (hl : cs.length ≤ 3) : OkRows (cs ++ [tv]) := by
  refine ⟨by simp, by simp; omega, ?_, fun r hr => ?_⟩
  · unfold goodC
    rw [List.all_append]
    have := drawn_good hd
    unfold goodC at this
    rw [this]; decide
  · rcases List.mem_append.1 hr with h | h
    · exact List.mem_append_left _ (drawn_keys hd r h)
    · simp at h; subst h; decide
theorem ints_lit (W : World) (m : Int) (hm : -9223372036854775808 ≤ m ∧ m ≤ 9223372036854775807) : IntsAt (W.alloc (.cells #[.int .i64 m] 3)) (W.alloc (.cells #[.int .i64 m] 3)).heap.size (some ⟨W.heap.size, 0, none⟩) 1 1 := by
  refine ⟨[m], ⟨rfl, fun _ => ⟨W.heap.size, 0, rfl, by simp, fun j u hu => ?_⟩⟩, Nat.le_refl _, by omega, by simpa using hm⟩
  rw [Nat.zero_add, (Blk.new W 3 _).cell j]
  simpa using hu
theorem kts_len : ∀ k ∈ kts, k.length ≤ 20 := by decide
/-- One act more behind the acts. -/
theorem acts_more {w W : World} {v : Value} {acs : List Ac} (hbe : Below w.heap.size w W) (has : AsS W w.heap.size (fun b => w.heap.size ≤ b ∧ some b ≠ v.ownBlock) v acs) (a : Ac) (cs : List Value) (ha : AIn W (fun b => w.heap.size ≤ b ∧ some b ≠ v.ownBlock) a cs) (ca : Array Value) (hca : ca = cs.toArray) (hn : acs.length + 1 ≤ 1048576) :
    ∃ v' wf, (Builtin.append_ #[49, 49] 49 #[v, .slice (some ⟨W.heap.size, 0, none⟩) 1 1]).run Try.prog (W.alloc (.cells ca 54)) = .ok v' wf ∧
      AsS wf w.heap.size (fun b => w.heap.size ≤ b ∧ some b ≠ v'.ownBlock) v' (acs ++ [a]) ∧ Below w.heap.size w wf := by
  have hm : ∀ b, b < W.heap.size → (w.heap.size ≤ b ∧ some b ≠ v.ownBlock) → (b < W.heap.size ∧ w.heap.size ≤ b ∧ some b ≠ v.ownBlock) := fun b h1 h2 => ⟨h1, h2⟩
  obtain ⟨v', wf, h1, h2, h3, h4, h5⟩ := acts_put (S := fun b => b < W.heap.size ∧ w.heap.size ≤ b ∧ some b ≠ v.ownBlock) (has.mono hm) (fun b h => h.2.2) a cs (ha.mono hm) ca hca hn hbe.size
  refine ⟨v', wf, h1, h2.mono fun b _ hb => ⟨hb.2.1, fun e => ?_⟩, h3 _ _ hbe (Nat.le_refl _) hbe.size⟩
  rcases h5 with h5 | h5
  · exact hb.2.2 (e.trans h5)
  · have := h5 b e.symm; omega
end Go.Proofs.Ytmlgaedhfannmaa

/- The store: a list of acts and one act more, copied; the bytes of a file, copied. -/
namespace Go.Proofs.Ytmlgaedhfannmaa
set_option linter.unusedVariables false
set_option linter.unusedSimpArgs false
open Go.RowKit
/-- A list of acts copied, and one act more behind the copy: the two runs. -/
theorem acts_two {W : World} {B n c : Nat} {A : Option Addr} {acs : List Ac} (h : AsIn W B A n c acs) (hB : B ≤ W.heap.size) (hn : n ≤ 1000) (a : Ac) (cs : List Value) (ha : AIn W (fun b => b < W.heap.size) a cs) (ca : Array Value) (hca : ca = cs.toArray) :
    ∃ A1 c1 W1 A2 c2 W2, (Builtin.append_ #[49, 49] 49 #[.slice none 0 0, .slice A n c]).run Try.prog W = .ok (.slice A1 n c1) W1 ∧
      (Builtin.append_ #[49, 49] 49 #[.slice A1 n c1, .slice (some ⟨W1.heap.size, 0, none⟩) 1 1]).run Try.prog (W1.alloc (.cells ca 54)) = .ok (.slice A2 (n + 1) c2) W2 ∧
      AsIn W2 W2.heap.size A2 (n + 1) c2 (acs ++ [a]) ∧ Below W.heap.size W W2 ∧ Below W.heap.size W W1 := by
  have hln := h.1
  obtain ⟨v1, W1, hrun1, has1, hb1⟩ := acts_copy h hB (by omega)
  have hS : ∀ b, b < W.heap.size → some b ≠ v1.ownBlock := fun b hb e => by obtain ⟨pc, ho, _⟩ := has1; have := (ho.lt b e.symm).1; omega
  have ha1 : AIn W1 (fun b => b < W.heap.size) a cs := ha.kept fun p _ hp => hb1.cell hp
  obtain ⟨v2, W2, hrun2, has2, hb2, _, _⟩ := acts_put has1 hS a cs ha1 ca hca (by omega) hb1.size
  obtain ⟨A2, c2, rfl, hin2⟩ := has2.form
  obtain ⟨A1, c1, rfl, -⟩ := has1.form
  have hl2 : (acs ++ [a]).length = n + 1 := by simp; omega
  rw [hl2] at hin2 hrun2
  rw [hln] at hrun1 hrun2
  exact ⟨A1, c1, W1, A2, c2, W2, hrun1, hrun2, hin2, hb2 _ _ hb1 (Nat.le_refl _) hb1.size, hb1⟩
theorem byte_copy {W : World} {S : Nat → Prop} {n c : Nat} {A : Option Addr} {l : List UInt8} (h : BIn W S A n c l) (hn : n ≤ 1048576) :
    ∃ A1 c1 W1, (Builtin.append_ #[56, 56] 56 #[.slice none 0 0, .slice A n c]).run Try.prog W = .ok (.slice A1 n c1) W1 ∧ Holds W1 W1.heap.size 1 A1 n (l.map bv) ∧ n ≤ c1 ∧ Below W.heap.size W W1 := by
  obtain ⟨i0, hi0, hz0, hz1, hz2⟩ := info_parts info_u8
  obtain ⟨h1, h2, h3, h4⟩ := h.mono (S' := fun b => b < W.heap.size) fun b hb _ => hb
  obtain ⟨v', wf, k1, k2, k3, k4⟩ := run_app_all (P := Try.prog) W 56 56 W.heap.size 5 i0 _ 1 1 Try.underlying56 hi0 hz0 hz1 hz2 rfl (by decide) (.slice none 0 0) 0 [] (World.ownsRow_nil _ _ _ _) W.heap.size A n c (l.map bv) h3 h4 (bv_one _) (by omega) (by decide) (Nat.le_refl _)
  have hb := below_own (Below.refl W.heap.size W) k3 (World.ownsRow_nil W W.heap.size 5 1) (Nat.le_refl _) (Nat.le_refl _)
  rw [Nat.zero_add] at k2
  obtain ⟨A1, c1, rfl, hA⟩ := own_form k2
  refine ⟨A1, c1, wf, k1, Holds.own (by simpa using k2), ?_, hb⟩
  rcases k2.2 with ⟨hv, hn0⟩ | ⟨g, cap, cur, hv, _, _, hnc, _⟩
  · omega
  · injection hv with _ _ hc; omega
def acPk : Ac := ⟨4, [], [], 0⟩
theorem tab_pk (acs : List Ac) : tabOf (acs ++ [acPk]) = tabOf acs := by unfold tabOf; rw [actsR_snoc, act_pack rfl]
def filOfA (acs : List Ac) : List UInt8 := (actsR st0 acs).2.2
theorem fil_pk (acs : List Ac) : filOfA (acs ++ [acPk]) = pkF (tabOf acs) := by unfold filOfA; rw [actsR_snoc, act_pack rfl]; rfl
theorem rec_fil (acs : List Ac) : recoverR (filOfA acs) = (tabOf acs, (filOfA acs).length, 0) := by
  obtain ⟨css, h⟩ := Kp.acts acs kp0
  exact h.recover
theorem fil_len (acs : List Ac) : (filOfA acs).length ≤ 1200 := by
  obtain ⟨css, h⟩ := Kp.acts acs kp0
  exact h.size
end Go.Proofs.Ytmlgaedhfannmaa
