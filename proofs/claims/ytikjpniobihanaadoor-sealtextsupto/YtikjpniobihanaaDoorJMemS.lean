/- A value in memory whose blocks are known by a set: what a reader has made. -/
import Derived.Test.YtikjpniobihanaaDoorJMem
namespace Go.Proofs.YtikjpniobihanaaDoor
set_option linter.unusedVariables false
set_option linter.unusedSimpArgs false
open Go.RowKit

def HoldsS (w : World) (S : Nat → Prop) (size : Nat) (A : Option Addr) (n : Nat) (xs : List Value) : Prop :=
  xs.length = n * size ∧ (0 < n → ∃ b off, A = some ⟨b, off, none⟩ ∧ S b ∧ ∀ j u, xs[j]? = some u → w.cell? ⟨b, off + j, none⟩ = some u)
theorem HoldsS.kept {w w' : World} {S : Nat → Prop} {size n : Nat} {A : Option Addr} {xs : List Value} (h : HoldsS w S size A n xs) (hk : ∀ p : Addr, S p.block → w'.cell? p = w.cell? p) : HoldsS w' S size A n xs := by
  refine ⟨h.1, fun hn => ?_⟩
  obtain ⟨b, off, e, hb, hc⟩ := h.2 hn
  exact ⟨b, off, e, hb, fun j u hu => (hk _ hb).trans (hc j u hu)⟩
theorem HoldsS.mono {w : World} {S S' : Nat → Prop} {size n : Nat} {A : Option Addr} {xs : List Value} (h : HoldsS w S size A n xs) (hs : ∀ b, S b → S' b) : HoldsS w S' size A n xs := by
  refine ⟨h.1, fun hn => ?_⟩
  obtain ⟨b, off, e, hb, hc⟩ := h.2 hn
  exact ⟨b, off, e, hs b hb, hc⟩
theorem HoldsS.toB {w : World} {S : Nat → Prop} {B size n : Nat} {A : Option Addr} {xs : List Value} (h : HoldsS w S size A n xs) (hs : ∀ b, S b → b < B) : Holds w B size A n xs := by
  refine ⟨h.1, fun hn => ?_⟩
  obtain ⟨b, off, e, hb, hc⟩ := h.2 hn
  exact ⟨b, off, e, hs b hb, hc⟩
theorem HoldsS.nil {w : World} {S : Nat → Prop} {size : Nat} {A : Option Addr} : HoldsS w S size A 0 [] := ⟨by simp, fun h => absurd h (by omega)⟩
theorem HoldsS.own {w : World} {base : Nat} {e : TypeId} {size n c : Nat} {A : Option Addr} {xs : List Value} (h : w.ownsRow base e size (.slice A n c) n xs) : HoldsS w (fun b => base ≤ b ∧ b < w.heap.size) size A n xs := by
  refine ⟨h.1, fun hn => ?_⟩
  obtain ⟨b, off, rfl, hb, hc⟩ := (Holds.own h).2 hn
  refine ⟨b, off, rfl, ⟨?_, hb⟩, hc⟩
  rcases h.2 with ⟨hv, _⟩ | ⟨g, cap, cur, hv, hbg, _⟩
  · injection hv with hv; cases hv
  · injection hv with hv
    injection hv with hv
    injection hv with hv
    omega

mutual
def VInS (w : World) (S : Nat → Prop) : JV → List Value → Prop
  | .mk k n t ks ps, cs => ∃ (Ak : Option Addr) (ck : Nat) (Ap : Option Addr) (cp : Nat) (pc : List Value),
      cs = [.int .i64 k, .int .i64 n, str t, .slice Ak ks.length ck, .slice Ap ps.length cp] ∧
      (-9223372036854775808 ≤ k ∧ k ≤ 9223372036854775807) ∧ (-9223372036854775808 ≤ n ∧ n ≤ 9223372036854775807) ∧
      t.length ≤ 1048576 ∧ ks.length ≤ 1048576 ∧ ps.length ≤ 1048576 ∧ (∀ s ∈ ks, s.length ≤ 1048576) ∧ ks.length ≤ ck ∧ ps.length ≤ cp ∧
      HoldsS w S 1 Ak ks.length (ks.map str) ∧ HoldsS w S 5 Ap ps.length pc ∧ PInS w S ps pc
def PInS (w : World) (S : Nat → Prop) : List JV → List Value → Prop
  | [], pc => pc = []
  | p :: r, pc => ∃ c rest, pc = c ++ rest ∧ VInS w S p c ∧ PInS w S r rest
end
mutual
theorem VInS.kept {w w' : World} {S : Nat → Prop} (hk : ∀ p : Addr, S p.block → w'.cell? p = w.cell? p) : ∀ (v : JV) (cs : List Value), VInS w S v cs → VInS w' S v cs
  | .mk k n t ks ps, cs, h => by
    unfold VInS at h ⊢
    obtain ⟨Ak, ck, Ap, cp, pc, h1, h2, h3, h4, h5, h6, h7, h8, h9, h10, h11, h12⟩ := h
    exact ⟨Ak, ck, Ap, cp, pc, h1, h2, h3, h4, h5, h6, h7, h8, h9, h10.kept hk, h11.kept hk, PInS.kept hk ps pc h12⟩
theorem PInS.kept {w w' : World} {S : Nat → Prop} (hk : ∀ p : Addr, S p.block → w'.cell? p = w.cell? p) : ∀ (ps : List JV) (pc : List Value), PInS w S ps pc → PInS w' S ps pc
  | [], pc, h => by unfold PInS at h ⊢; exact h
  | p :: r, pc, h => by
    unfold PInS at h ⊢
    obtain ⟨c, rest, h1, h2, h3⟩ := h
    exact ⟨c, rest, h1, VInS.kept hk p c h2, PInS.kept hk r rest h3⟩
end
mutual
theorem VInS.mono {w : World} {S S' : Nat → Prop} (hs : ∀ b, S b → S' b) : ∀ (v : JV) (cs : List Value), VInS w S v cs → VInS w S' v cs
  | .mk k n t ks ps, cs, h => by
    unfold VInS at h ⊢
    obtain ⟨Ak, ck, Ap, cp, pc, h1, h2, h3, h4, h5, h6, h7, h8, h9, h10, h11, h12⟩ := h
    exact ⟨Ak, ck, Ap, cp, pc, h1, h2, h3, h4, h5, h6, h7, h8, h9, h10.mono hs, h11.mono hs, PInS.mono hs ps pc h12⟩
theorem PInS.mono {w : World} {S S' : Nat → Prop} (hs : ∀ b, S b → S' b) : ∀ (ps : List JV) (pc : List Value), PInS w S ps pc → PInS w S' ps pc
  | [], pc, h => by unfold PInS at h ⊢; exact h
  | p :: r, pc, h => by
    unfold PInS at h ⊢
    obtain ⟨c, rest, h1, h2, h3⟩ := h
    exact ⟨c, rest, h1, VInS.mono hs p c h2, PInS.mono hs r rest h3⟩
end
mutual
theorem VInS.toB {w : World} {S : Nat → Prop} {B : Nat} (hs : ∀ b, S b → b < B) : ∀ (v : JV) (cs : List Value), VInS w S v cs → VIn w B v cs
  | .mk k n t ks ps, cs, h => by
    unfold VInS at h
    unfold VIn
    obtain ⟨Ak, ck, Ap, cp, pc, h1, h2, h3, h4, h5, h6, h7, h8, h9, h10, h11, h12⟩ := h
    exact ⟨Ak, ck, Ap, cp, pc, h1, h2, h3, h4, h5, h6, h7, h8, h9, h10.toB hs, h11.toB hs, PInS.toB hs ps pc h12⟩
theorem PInS.toB {w : World} {S : Nat → Prop} {B : Nat} (hs : ∀ b, S b → b < B) : ∀ (ps : List JV) (pc : List Value), PInS w S ps pc → PIn w B ps pc
  | [], pc, h => by unfold PInS at h; unfold PIn; exact h
  | p :: r, pc, h => by
    unfold PInS at h
    unfold PIn
    obtain ⟨c, rest, h1, h2, h3⟩ := h
    exact ⟨c, rest, h1, VInS.toB hs p c h2, PInS.toB hs r rest h3⟩
end
theorem VInS.len {w : World} {S : Nat → Prop} {v : JV} {cs : List Value} (h : VInS w S v cs) : cs.length = 5 := by
  cases v; unfold VInS at h; obtain ⟨_, _, _, _, _, rfl, _⟩ := h; rfl
theorem VInS.form {w : World} {S : Nat → Prop} {v : JV} {cs : List Value} (h : VInS w S v cs) : ∃ k n t Ak nk ck Ap np cp, cs = [.int .i64 k, .int .i64 n, str t, .slice Ak nk ck, .slice Ap np cp] := by
  cases v; unfold VInS at h; obtain ⟨_, _, _, _, _, rfl, _⟩ := h; exact ⟨_, _, _, _, _, _, _, _, _, rfl⟩
theorem PInS.len {w : World} {S : Nat → Prop} : ∀ {ps : List JV} {pc : List Value}, PInS w S ps pc → pc.length = ps.length * 5
  | [], pc, h => by unfold PInS at h; subst h; rfl
  | p :: r, pc, h => by
    unfold PInS at h
    obtain ⟨c, rest, rfl, h2, h3⟩ := h
    rw [List.length_append, h2.len, PInS.len h3]; simp; omega
theorem PInS.snoc {w : World} {S : Nat → Prop} : ∀ {ps : List JV} {pc : List Value} {v : JV} {c : List Value}, PInS w S ps pc → VInS w S v c → PInS w S (ps ++ [v]) (pc ++ c)
  | [], pc, v, c, h, hv => by
    unfold PInS at h; subst h
    show PInS w S [v] c
    unfold PInS
    exact ⟨c, [], by simp, hv, by unfold PInS; rfl⟩
  | p :: r, pc, v, c, h, hv => by
    unfold PInS at h
    obtain ⟨c', rest, rfl, h2, h3⟩ := h
    show PInS w S (p :: (r ++ [v])) (c' ++ rest ++ c)
    unfold PInS
    exact ⟨c', rest ++ c, by simp, h2, h3.snoc hv⟩
theorem PInS.one {w : World} {S : Nat → Prop} : ∀ {ps : List JV} {pc : List Value}, PInS w S ps pc → ∀ u ∈ pc, u.oneCell' = true
  | [], pc, h, u, hu => by unfold PInS at h; subst h; simp at hu
  | p :: r, pc, h, u, hu => by
    unfold PInS at h
    obtain ⟨c', rest, rfl, h2, h3⟩ := h
    rcases List.mem_append.1 hu with h | h
    · obtain ⟨k, n, t, Ak, nk, ck, Ap, np, cp, rfl⟩ := h2.form
      simp at h
      rcases h with rfl | rfl | rfl | rfl | rfl <;> rfl
    · exact h3.one u h
/-- What is new. -/
def newS (w w' : World) (b : Nat) : Prop := w.heap.size ≤ b ∧ b < w'.heap.size
end Go.Proofs.YtikjpniobihanaaDoor
