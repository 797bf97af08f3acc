/- The store: the acts that were answered with no error, and what they come to; lists of what acts came to, their rows in blocks of S. -/
import Derived.Test.YtploicbiapjfdaaBunSE
namespace Go.Proofs.Ytploicbiapjfdaa
set_option linter.unusedVariables false
set_option linter.unusedSimpArgs false
open Go.RowKit
theorem act_bad {s : List Rw × List UInt8} {a : Ac} (h : (actR s a).1.1 ≠ 0) : (actR s a).2 = s := by
  unfold actR at h ⊢
  split
  · rename_i h1
    rw [if_pos h1] at h
    split
    · rfl
    · rename_i h2
      rw [if_neg h2] at h
      split
      · rfl
      · rename_i h3
        rw [if_neg h3] at h
        exact absurd rfl h
  · rename_i h1
    rw [if_neg h1] at h
    split
    · split <;> rfl
    · rename_i h2
      rw [if_neg h2] at h
      split
      · rfl
      · rename_i h3
        rw [if_neg h3] at h
        split
        · rename_i h4
          rw [if_pos h4] at h
          exact absurd rfl h
        · rename_i h4
          rw [if_neg h4] at h
          split
          · rename_i h5
            rw [if_pos h5] at h
            split
            · rfl
            · rename_i h6
              rw [if_neg h6] at h
              split
              · rfl
              · rename_i h7
                rw [if_neg h7] at h
                split
                · rfl
                · rename_i h8
                  rw [if_neg h8] at h
                  split
                  · rfl
                  · rename_i h9
                    rw [if_neg h9] at h
                    exact absurd rfl h
          · rfl
def okT (x : Int × List Rw) : Bool := decide (x.1 = 0)
/-- The acts that were answered with no error. -/
def okL (s : List Rw × List UInt8) : List Ac → List Ac
  | [] => []
  | a :: l => if (actR s a).1.1 = 0 then a :: okL (actR s a).2 l else okL (actR s a).2 l
theorem okL_cons (s : List Rw × List UInt8) (a : Ac) (l : List Ac) : okL s (a :: l) = if (actR s a).1.1 = 0 then a :: okL (actR s a).2 l else okL (actR s a).2 l := rfl
theorem okL_R : ∀ (l : List Ac) (s : List Rw × List UInt8), actsR s (okL s l) = ((actsR s l).1.filter okT, (actsR s l).2)
  | [], _ => rfl
  | a :: l, s => by
    unfold okL
    by_cases h : (actR s a).1.1 = 0
    · rw [if_pos h]
      have ih := okL_R l (actR s a).2
      show ((actR s a).1 :: (actsR (actR s a).2 (okL (actR s a).2 l)).1, (actsR (actR s a).2 (okL (actR s a).2 l)).2) = (((actR s a).1 :: (actsR (actR s a).2 l).1).filter okT, _)
      rw [ih, List.filter_cons_of_pos (by simp [okT, h])]
      rfl
    · rw [if_neg h]
      have ih := okL_R l (actR s a).2
      rw [act_bad h] at ih ⊢
      show _ = (((actR s a).1 :: (actsR (actR s a).2 l).1).filter okT, (actsR (actR s a).2 l).2)
      rw [List.filter_cons_of_neg (by simp [okT, h]), act_bad h]
      exact ih
theorem okL_app : ∀ (l m : List Ac) (s : List Rw × List UInt8), okL s (l ++ m) = okL s l ++ okL (actsR s l).2 m
  | [], _, _ => rfl
  | a :: l, m, s => by
    show okL s (a :: (l ++ m)) = okL s (a :: l) ++ okL (actsR (actR s a).2 l).2 m
    rw [okL_cons, okL_cons, okL_app l m]
    by_cases h : (actR s a).1.1 = 0
    · rw [if_pos h, if_pos h]; rfl
    · rw [if_neg h, if_neg h]
theorem told_at {acs : List Ac} {i : Nat} (hi : i < acs.length) (hi2 : i < (actsR st0 acs).1.length) : (actsR st0 acs).1[i] = (actR (actsR st0 (acs.take i)).2 acs[i]).1 := by
  have e : acs = acs.take i ++ (acs[i] :: acs.drop (i + 1)) := by rw [List.getElem_cons_drop, List.take_append_drop]
  have h1 : (actsR st0 acs).1 = (actsR st0 (acs.take i)).1 ++ (actR (actsR st0 (acs.take i)).2 acs[i]).1 :: (actsR (actR (actsR st0 (acs.take i)).2 acs[i]).2 (acs.drop (i + 1))).1 := by
    conv => lhs; rw [e, actsR_app]
    rfl
  have hl : (actsR st0 (acs.take i)).1.length = i := by rw [actsR_len, List.length_take]; omega
  have h2 : (actsR st0 acs).1[i]? = some (actR (actsR st0 (acs.take i)).2 acs[i]).1 := by
    rw [h1, List.getElem?_append_right (by omega), hl, Nat.sub_self]; rfl
  rw [List.getElem?_eq_getElem hi2] at h2
  injection h2
theorem okL_step {acs : List Ac} {i : Nat} (hi : i < acs.length) (hi2 : i < (actsR st0 acs).1.length) : okL st0 (acs.take (i + 1)) = okL st0 (acs.take i) ++ (if (actsR st0 acs).1[i].1 = 0 then [acs[i]] else []) := by
  rw [List.take_succ_eq_append_getElem hi, okL_app, told_at hi hi2]
  rw [okL_cons]
  rfl
/-- What acts came to, in a row of the call's own; their rows in blocks of S. -/
def TdS (w : World) (base : Nat) (S : Nat → Prop) (v : Value) (l : List (Int × List Rw)) : Prop := ∃ pc, w.ownsRow base 31 2 v l.length pc ∧ Chs (TdIn w S) l pc
theorem TdS.nil (w : World) (base : Nat) (S : Nat → Prop) : TdS w base S (.slice none 0 0) [] := ⟨[], World.ownsRow_nil _ _ _ _, Chs.nil⟩
theorem TdS.form {w : World} {base : Nat} {S : Nat → Prop} {v : Value} {l : List (Int × List Rw)} (h : TdS w base S v l) : ∃ A c, v = .slice A l.length c ∧ TdsIn w w.heap.size A l.length c l := by
  obtain ⟨pc, h1, h2⟩ := h
  obtain ⟨A, c, rfl, hA⟩ := own_form h1
  refine ⟨A, c, rfl, rfl, ?_, fun h => (hA h).2, pc, Holds.own h1, h2.imp fun x c hx => ?_⟩
  · rcases h1.2 with ⟨hv, hn⟩ | ⟨g, cap, cur, hv, _, _, hnc, _⟩
    · omega
    · injection hv with _ _ hc; omega
  · exact TdIn.mono hx fun b hb _ => hb
/-- One more: its run. -/
theorem TdS.put {W : World} {base : Nat} {S : Nat → Prop} {v : Value} {l : List (Int × List Rw)} (h : TdS W base S v l) (hS : ∀ b, S b → some b ≠ v.ownBlock) (x : Int × List Rw) (A : Option Addr) (c : Nat) (hx : RInS W S A x.2.length c x.2) (hn : l.length + 1 ≤ 1048576) (hb : base ≤ W.heap.size) :
    ∃ v' wf, (Builtin.append_ #[23, 23] 23 #[v, .slice (some ⟨W.heap.size, 0, none⟩) 1 1]).run Try.prog (W.alloc (.cells #[.int .i64 x.1, .slice A x.2.length c] 31)) = .ok v' wf ∧
      TdS wf base S v' (l ++ [x]) ∧ (∀ B a, Below B a W → B ≤ base → B ≤ W.heap.size → Below B a wf) ∧ W.grownBy wf v.ownBlock := by
  obtain ⟨i0, hi0, hz0, hzs, hzb⟩ := info_parts info_told
  obtain ⟨pc, h1, h2⟩ := h
  have hB := Blk.new W 31 #[.int .i64 x.1, .slice A x.2.length c]
  have hh : Holds (W.alloc (.cells #[.int .i64 x.1, .slice A x.2.length c] 31)) (W.heap.size + 1) 2 (some ⟨W.heap.size, 0, none⟩) 1 [.int .i64 x.1, .slice A x.2.length c] := by
    refine ⟨rfl, fun _ => ⟨W.heap.size, 0, rfl, by omega, fun j u hu => ?_⟩⟩
    rw [Nat.zero_add, hB.cell j]
    simpa using hu
  obtain ⟨v', wf, k1, k2, k3, k4⟩ := run_app_all (P := Try.prog) (W.alloc (.cells #[.int .i64 x.1, .slice A x.2.length c] 31)) 23 23 base 31 i0 _ 2 32 Try.underlying23 hi0 hz0 hzs hzb rfl (by decide) v l.length pc (h1.alloc _) (W.heap.size + 1) (some ⟨W.heap.size, 0, none⟩) 1 1 [.int .i64 x.1, .slice A x.2.length c] (fun h => by cases h) hh (by
    intro u hu
    simp at hu
    rcases hu with rfl | rfl <;> rfl) hn (by decide) (by simp; omega)
  have hsz : W.heap.size + 1 ≤ wf.heap.size := by have := k3.size; simpa using this
  have hgw : W.grownBy wf v.ownBlock := (World.grownBy_alloc W _ _).trans k3
  have hkeep : ∀ p : Addr, S p.block → p.block < W.heap.size → wf.cell? p = W.cell? p := fun p hp hlt => World.cell?_of_block (hgw.block p.block hlt (hS _ hp))
  exact ⟨v', wf, k1, ⟨pc ++ [.int .i64 x.1, .slice A x.2.length c], by simpa using k2, Chs.app (h2.imp fun y cs hy => hy.kept hkeep) (Chs.single ⟨A, c, rfl, hx.kept hkeep⟩)⟩, fun B a hBa hbb hBW => below_own (hBa.alloc hBW _) k3 (h1.alloc _) hbb (by simp; omega), hgw⟩
theorem TdS.grown {w w' : World} {base : Nat} {S : Nat → Prop} {v : Value} {l : List (Int × List Rw)} {row : Option Nat} (h : TdS w base S v l) (hg : w.grownBy w' row) (hne : v.ownBlock = none ∨ v.ownBlock ≠ row) (hS : ∀ b, S b → some b ≠ row) : TdS w' base S v l := by
  obtain ⟨pc, h1, h2⟩ := h
  exact ⟨pc, World.ownsRow.kept h1 hg hne, h2.imp fun x c hx => hx.kept fun p hp hlt => World.cell?_of_block (hg.block p.block hlt (hS _ hp))⟩
theorem AsS.grown {w w' : World} {base : Nat} {S : Nat → Prop} {v : Value} {l : List Ac} {row : Option Nat} (h : AsS w base S v l) (hg : w.grownBy w' row) (hne : v.ownBlock = none ∨ v.ownBlock ≠ row) (hS : ∀ b, S b → some b ≠ row) : AsS w' base S v l := by
  obtain ⟨pc, h1, h2⟩ := h
  exact ⟨pc, World.ownsRow.kept h1 hg hne, h2.imp fun x c hx => hx.kept fun p hp hlt => World.cell?_of_block (hg.block p.block hlt (hS _ hp))⟩
theorem apart {w : World} {b1 b2 : Nat} {S1 S2 : Nat → Prop} {v1 v2 : Value} {acs : List Ac} {l : List (Int × List Rw)} (h1 : AsS w b1 S1 v1 acs) (h2 : TdS w b2 S2 v2 l) : (v1.ownBlock = none ∨ v1.ownBlock ≠ v2.ownBlock) ∧ (v2.ownBlock = none ∨ v2.ownBlock ≠ v1.ownBlock) := by
  obtain ⟨_, k1, _⟩ := h1
  obtain ⟨_, k2, _⟩ := h2
  exact ⟨row_row k1 k2 (by decide), row_row k2 k1 (by decide)⟩
theorem act_rows {s : List Rw × List UInt8} (h : s.1.length ≤ 40) (a : Ac) : (actR s a).1.2.length ≤ 40 := by
  unfold actR
  have hf := List.length_filter_le (fun r : Rw => a.key.isPrefixOf r.key) s.1
  split
  · split
    · simp
    · split <;> simp
  · split
    · split <;> simp
    · split
      · show (s.1.filter _).length ≤ 40
        omega
      · split
        · simp
        · split
          · split
            · simp
            · split
              · simp
              · split
                · simp
                · split <;> simp
          · simp
theorem told_rows {acs : List Ac} {x : Int × List Rw} (hx : x ∈ (actsR st0 acs).1) : x.2.length ≤ 40 := by
  obtain ⟨i, hi, rfl⟩ := List.getElem_of_mem hx
  rw [told_at (by rw [actsR_len] at hi; exact hi) hi]
  exact act_rows (Kp.acts _ kp0).fit.len _
end Go.Proofs.Ytploicbiapjfdaa
