/- Two members of an object's rows change places (statement SealGood). -/
import Derived.Test.YthkbeliplibiaaaGreatDoorSlGoodM
namespace Go.Proofs.YthkbeliplibiaaaGreatDoor
set_option linter.unusedVariables false
set_option linter.unusedSimpArgs false
open Go.RowKit
theorem own_at {w : World} {base e size n c : Nat} {A : Option Addr} {xs : List Value} (h : w.ownsRow base e size (.slice A n c) n xs) (hn : 0 < n) : ∃ g, A = some ⟨g, 0, none⟩ ∧ base ≤ g ∧ g < w.heap.size := by
  rcases h.2 with ⟨hv, _⟩ | ⟨g, cap, cur, hv, hb, hg, _⟩
  · injection hv with _ hv _; omega
  · injection hv with hv _ _
    exact ⟨g, hv, hb, by
      rcases Nat.lt_or_ge g w.heap.size with h1 | h1
      · exact h1
      · rw [Array.getElem?_eq_none h1] at hg; cases hg⟩
theorem five_parts {W : World} {B : Nat} {ps : List JV} {pc : List Value} (hp : PIn W B ps pc) (hl : ps.length = 5) : ∃ q k n t Ak nk ck Ap np cp, pc = q ++ [.int .i64 k, .int .i64 n, str t, .slice Ak nk ck, .slice Ap np cp] ∧ q.length = 20 := by
  match ps, hl with
  | [p0, p1, p2, p3, p4], _ =>
    unfold PIn at hp
    obtain ⟨a0, r0, rfl, v0, hp⟩ := hp
    unfold PIn at hp
    obtain ⟨a1, r1, rfl, v1, hp⟩ := hp
    unfold PIn at hp
    obtain ⟨a2, r2, rfl, v2, hp⟩ := hp
    unfold PIn at hp
    obtain ⟨a3, r3, rfl, v3, hp⟩ := hp
    unfold PIn at hp
    obtain ⟨a4, r4, rfl, v4, hp⟩ := hp
    unfold PIn at hp
    subst hp
    obtain ⟨k, n, t, Ak, nk, ck, Ap, np, cp, rfl⟩ := v4.form
    have h0 := v0.len
    have h1 := v1.len
    have h2 := v2.len
    have h3 := v3.len
    exact ⟨a0 ++ a1 ++ a2 ++ a3, k, n, t, Ak, nk, ck, Ap, np, cp, by simp, by simp; omega⟩
/-- Both rows, apart. -/
structure Rows2 (W : World) (base bk bp n ck cp : Nat) (xs ys : List Value) : Prop where
  keys : W.ownsRow base 9 1 (.slice (some ⟨bk, 0, none⟩) n ck) n xs
  parts : W.ownsRow base 25 5 (.slice (some ⟨bp, 0, none⟩) n cp) n ys
  ne : bk ≠ bp
section
variable {W : World} {base bk bp n ck cp : Nat} {xs ys : List Value}
theorem Rows2.setK (h : Rows2 W base bk bp n ck cp xs ys) (j : Nat) (u : Value) : Rows2 (W.setCell ⟨bk, j, none⟩ u) base bk bp n ck cp (xs.set j u) ys :=
  ⟨(h.keys.stored j u).1, World.ownsRow.kept h.parts (h.keys.stored j u).2 (.inr (by simp [Value.ownBlock, Ne.symm h.ne])), h.ne⟩
theorem Rows2.setP (h : Rows2 W base bk bp n ck cp xs ys) (j : Nat) (u : Value) : Rows2 (W.setCell ⟨bp, j, none⟩ u) base bk bp n ck cp xs (ys.set j u) :=
  ⟨World.ownsRow.kept h.keys (h.parts.stored j u).2 (.inr (by simp [Value.ownBlock, h.ne])), (h.parts.stored j u).1, h.ne⟩
theorem Rows2.bases (h : Rows2 W base bk bp n ck cp xs ys) : base ≤ bk ∧ base ≤ bp := by
  have h1 := World.ownsRow.lt h.keys bk rfl
  have h2 := World.ownsRow.lt h.parts bp rfl
  exact ⟨h1.1, h2.1⟩
end
/-- The world in which the members 4 and 5 have changed places. -/
def swapW (W : World) (bk bp : Nat) (u4 u5 f0 f1 f2 f3 f4 a b c d e : Value) : World :=
  (((((((((((W.setCell ⟨bk, 4, none⟩ u4).setCell ⟨bk, 5, none⟩ u5).setCell ⟨bp, 20, none⟩ f0).setCell ⟨bp, 21, none⟩ f1).setCell ⟨bp, 22, none⟩ f2).setCell ⟨bp, 23, none⟩ f3).setCell ⟨bp, 24, none⟩ f4).setCell ⟨bp, 25, none⟩ a).setCell ⟨bp, 26, none⟩ b).setCell ⟨bp, 27, none⟩ c).setCell ⟨bp, 28, none⟩ d).setCell ⟨bp, 29, none⟩ e
theorem swapW_rows {W : World} {base bk bp n ck cp : Nat} {xs ys : List Value} (h : Rows2 W base bk bp n ck cp xs ys) (u4 u5 f0 f1 f2 f3 f4 a b c d e : Value) :
    Rows2 (swapW W bk bp u4 u5 f0 f1 f2 f3 f4 a b c d e) base bk bp n ck cp ((xs.set 4 u4).set 5 u5) ((((((((((ys.set 20 f0).set 21 f1).set 22 f2).set 23 f3).set 24 f4).set 25 a).set 26 b).set 27 c).set 28 d).set 29 e) :=
  (((((((((((h.setK 4 u4).setK 5 u5).setP 20 f0).setP 21 f1).setP 22 f2).setP 23 f3).setP 24 f4).setP 25 a).setP 26 b).setP 27 c).setP 28 d).setP 29 e
theorem swapW_below {W : World} {base bk bp : Nat} (h1 : base ≤ bk) (h2 : base ≤ bp) (u4 u5 f0 f1 f2 f3 f4 a b c d e : Value) : Below base W (swapW W bk bp u4 u5 f0 f1 f2 f3 f4 a b c d e) :=
  (((((((((((((Below.refl base W).setCell (p := ⟨bk, 4, none⟩) h1 u4).setCell (p := ⟨bk, 5, none⟩) h1 u5).setCell (p := ⟨bp, 20, none⟩) h2 f0).setCell (p := ⟨bp, 21, none⟩) h2 f1).setCell (p := ⟨bp, 22, none⟩) h2 f2).setCell (p := ⟨bp, 23, none⟩) h2 f3).setCell (p := ⟨bp, 24, none⟩) h2 f4).setCell (p := ⟨bp, 25, none⟩) h2 a).setCell (p := ⟨bp, 26, none⟩) h2 b).setCell (p := ⟨bp, 27, none⟩) h2 c).setCell (p := ⟨bp, 28, none⟩) h2 d).setCell (p := ⟨bp, 29, none⟩) h2 e)
end Go.Proofs.YthkbeliplibiaaaGreatDoor
