/- Joined texts: SlStr, SlWpM, SlWp, SlWpL, SlWpS. -/
import Derived.Test.YtbdbcffnjibjoaaGreatDoorBunS
import Derived.Test.YtbdbcffnjibjoaaGreatDoorBunB
import Derived.Test.YtbdbcffnjibjoaaGreatDoorBunT
import Derived.Test.YtbdbcffnjibjoaaGreatDoorBunL
import Derived.Deep.DeepCutAuto
import Derived.Deep.Cut
/- Strings compared with '>' and '>='. -/
namespace Go.Proofs.YtbdbcffnjibjoaaGreatDoor
set_option linter.unusedVariables false
set_option linter.unusedSimpArgs false
open Go.RowKit
theorem less_turn (a b : List UInt8) : (!Op.bytesLess a b && !a == b) = Op.bytesLess b a := by
  cases h1 : Op.bytesLess a b
  · cases h2 : Op.bytesLess b a
    · have := bytesLess_total a b h1 h2
      subst this
      simp
    · have hne : a ≠ b := fun e => by subst e; rw [h1] at h2; cases h2
      simpa using hne
  · cases h2 : Op.bytesLess b a
    · rfl
    · have := bytesLess_trans _ _ _ h1 h2
      rw [bytesLess_irrefl] at this; cases this
@[go_sem high] theorem run_str_gtr (w : World) (a b : List UInt8) : (binOp BinOp.gtr 9 (str a) (str b)).run Tryz.prog w = .ok (.bool (Op.bytesLess b a)) w := by
  rw [← less_turn a b]
  simp [str, go_sem]
@[go_sem high] theorem run_str_geq (w : World) (a b : List UInt8) : (binOp BinOp.geq 9 (str a) (str b)).run Tryz.prog w = .ok (.bool (!Op.bytesLess a b)) w := by
  simp [str, go_sem]
end Go.Proofs.YtbdbcffnjibjoaaGreatDoor

/- Plain mathematics of withPart of the reference: an object gone through, with one member put in where it belongs. -/
namespace Go.Proofs.YtbdbcffnjibjoaaGreatDoor
set_option linter.unusedVariables false
set_option linter.unusedSimpArgs false

/-- What is still to come; b: the member is in already. -/
def wpR (k : List UInt8) (p : JV) : Bool → List (List UInt8) → List JV → List (List UInt8) × List JV
  | b, y :: ks, q :: ps =>
    let r := wpR k p (b || !Op.bytesLess y k) ks ps
    let s := if y = k then r else (y :: r.1, q :: r.2)
    if b = false ∧ Op.bytesLess y k = false then (k :: s.1, p :: s.2) else s
  | b, _, _ => if b = true then ([], []) else ([k], [p])
theorem wpR_true (k : List UInt8) (p : JV) : ∀ (ks : List (List UInt8)) (ps : List JV), ks.length = ps.length → k ∉ ks → wpR k p true ks ps = (ks, ps)
  | [], [], _, _ => by simp [wpR]
  | [], _ :: _, h, _ => by simp at h
  | _ :: _, [], h, _ => by simp at h
  | y :: ks, q :: ps, hl, hn => by
    have h1 : y ≠ k := fun e => hn (by simp [e])
    rw [wpR, Bool.true_or, wpR_true k p ks ps (by simpa using hl) (fun h => hn (by simp [h])), if_neg h1]
    simp
/-- One step. -/
theorem wpR_less {k y : List UInt8} {p q : JV} {ks : List (List UInt8)} {ps : List JV} {b : Bool} (h : Op.bytesLess y k = true) (hb : b = false) : wpR k p b (y :: ks) (q :: ps) = (y :: (wpR k p false ks ps).1, q :: (wpR k p false ks ps).2) := by
  have hy : y ≠ k := fun e => by subst e; rw [bytesLess_irrefl] at h; cases h
  subst hb
  rw [wpR, if_neg (by simp [h]), if_neg hy, h]
  simp
theorem wpR_same {k y : List UInt8} {p q : JV} {ks : List (List UInt8)} {ps : List JV} (h : y = k) : wpR k p false (y :: ks) (q :: ps) = (k :: (wpR k p true ks ps).1, p :: (wpR k p true ks ps).2) := by
  subst h
  rw [wpR, if_pos ⟨rfl, bytesLess_irrefl _⟩, if_pos rfl, bytesLess_irrefl]
  simp
theorem wpR_more {k y : List UInt8} {p q : JV} {ks : List (List UInt8)} {ps : List JV} (h : Op.bytesLess y k = false) (hy : y ≠ k) : wpR k p false (y :: ks) (q :: ps) = (k :: y :: (wpR k p true ks ps).1, p :: q :: (wpR k p true ks ps).2) := by
  rw [wpR, if_pos ⟨rfl, h⟩, if_neg hy, h]
  simp
theorem wpR_in {k y : List UInt8} {p q : JV} {ks : List (List UInt8)} {ps : List JV} (hy : y ≠ k) : wpR k p true (y :: ks) (q :: ps) = (y :: (wpR k p true ks ps).1, q :: (wpR k p true ks ps).2) := by
  rw [wpR, if_neg hy]; simp
theorem wpR_end (k : List UInt8) (p : JV) (b : Bool) (ps : List JV) : wpR k p b [] ps = if b = true then ([], []) else ([k], [p]) := by rw [wpR]; intros; simp_all
/-- It is the object with the member put there. -/
theorem wpR_put (k : List UInt8) (p : JV) : ∀ (ks : List (List UInt8)) (ps : List JV), ks.length = ps.length → incr ks = true → putAt [k] (.mk 7 0 [] ks ps) p = .mk 7 0 [] (wpR k p false ks ps).1 (wpR k p false ks ps).2
  | [], [], _, _ => by simp [wpR, putAt, place]
  | [], _ :: _, h, _ => by simp at h
  | _ :: _, [], h, _ => by simp at h
  | y :: ks, q :: ps, hl, hi => by
    obtain ⟨h1, h2⟩ := incr_cons.1 hi
    have hl' : ks.length = ps.length := by simpa using hl
    have ih := wpR_put k p ks ps hl' h2
    by_cases hy : y = k
    · subst hy
      have hn : y ∉ ks := fun h => by have := h1 y h; rw [bytesLess_irrefl] at this; cases this
      rw [wpR_same rfl, wpR_true _ _ _ _ hl' hn, putAt, if_pos (by simp), place_cons, if_neg (by rw [bytesLess_irrefl]; simp)]
      simp [putAt]
    · cases hb : Op.bytesLess y k
      · have hn : k ∉ y :: ks := fun h => by
          rcases List.mem_cons.1 h with h | h
          · exact hy h.symm
          · have := h1 k h; rw [hb] at this; cases this
        rw [wpR_more hb hy, wpR_true _ _ _ _ hl' (fun h => hn (by simp [h])), putAt, if_neg hn, place_cons, if_neg (by simp [hb])]
        simp [putAt]
      · rw [wpR_less hb rfl]
        rw [putAt, place_cons, if_pos hb]
        rw [putAt] at ih
        by_cases hm : k ∈ ks
        · rw [if_pos hm] at ih
          rw [if_pos (by simp [hm])]
          injection ih with _ _ _ e1 e2
          rw [← e1, ← e2]
          simp
        · rw [if_neg hm] at ih
          rw [if_neg (by simp [hm, Ne.symm hy])]
          injection ih with _ _ _ e1 e2
          rw [← e1, ← e2]
          simp
/-- The part at a key, or an empty object. -/
def orE (o : Option JV) : JV := match o with | some p => p | none => .mk 7 0 [] [] []
theorem put_cons {k : List UInt8} {r : List (List UInt8)} {v e : JV} (h : v.keys.length = v.parts.length) (hi : incr v.keys = true) : putAt (k :: r) v e = putAt [k] v (putAt r (orE (getAt [k] v)) e) := by
  cases v with
  | mk kd n t ks ps =>
    have h' : ks.length = ps.length := h
    have hi' : incr ks = true := hi
    rw [putAt, putAt, getAt]
    by_cases hm : k ∈ ks
    · rw [if_pos hm, if_pos hm, if_pos hm]
      have hp : place ks k < ps.length := by rw [← h']; exact place_in hi' hm
      rw [List.getElem?_eq_getElem hp, List.getD_eq_getElem?_getD, List.getElem?_eq_getElem hp]
      simp [orE, getAt, putAt]
    · rw [if_neg hm, if_neg hm, if_neg hm]
      simp [orE, putAt]
end Go.Proofs.YtbdbcffnjibjoaaGreatDoor

/- withPart of the reference: what the call returns. -/
namespace Go.Proofs.YtbdbcffnjibjoaaGreatDoor
set_option linter.unusedVariables false
set_option linter.unusedSimpArgs false
open Go.RowKit
attribute [local go_sem high] str_mk
theorem wpR_len (k : List UInt8) (p : JV) : ∀ (b : Bool) (ks : List (List UInt8)) (ps : List JV), (wpR k p b ks ps).1.length ≤ ks.length + 1 ∧ (wpR k p b ks ps).2.length ≤ ks.length + 1 ∧ (wpR k p true ks ps).1.length ≤ ks.length ∧ (wpR k p true ks ps).2.length ≤ ks.length
  | b, [], ps => by rw [wpR_end, wpR_end]; cases b <;> simp
  | b, y :: ks, [] => by cases b <;> simp [wpR]
  | b, y :: ks, q :: ps => by
    have h1 := wpR_len k p (b || !Op.bytesLess y k) ks ps
    have h2 := wpR_len k p true ks ps
    have key : ∀ b, (wpR k p b (y :: ks) (q :: ps)).1.length ≤ (if b = false ∧ Op.bytesLess y k = false then 1 else 0) + 1 + (wpR k p (b || !Op.bytesLess y k) ks ps).1.length ∧ (wpR k p b (y :: ks) (q :: ps)).2.length ≤ (if b = false ∧ Op.bytesLess y k = false then 1 else 0) + 1 + (wpR k p (b || !Op.bytesLess y k) ks ps).2.length := by
      intro b
      rw [wpR]
      by_cases h : b = false ∧ Op.bytesLess y k = false
      · by_cases hy : y = k
        · simp only [if_pos h, if_pos hy, List.length_cons]; omega
        · simp only [if_pos h, if_neg hy, List.length_cons]; omega
      · by_cases hy : y = k
        · simp only [if_neg h, if_pos hy]; omega
        · simp only [if_neg h, if_neg hy]; simp; omega
    have k1 := key b
    have k2 := key true
    simp only [Bool.true_or] at k2
    rw [if_neg (by simp)] at k2
    refine ⟨?_, ?_, by simp; omega, by simp; omega⟩
    · by_cases h : b = false ∧ Op.bytesLess y k = false
      · rw [if_pos h] at k1
        rw [show (b || !Op.bytesLess y k) = true by simp [h]] at k1
        simp; omega
      · rw [if_neg h] at k1; simp; omega
    · by_cases h : b = false ∧ Op.bytesLess y k = false
      · rw [if_pos h] at k1
        rw [show (b || !Op.bytesLess y k) = true by simp [h]] at k1
        simp; omega
      · rw [if_neg h] at k1; simp; omega
/-- Blocks below B, or new since w. -/
def oldNew (B : Nat) (w w' : World) (b : Nat) : Prop := b < B ∨ newS w w' b
def WpPost (J : JV) (B : Nat) (w : World) (e : Ending) (w' : World) : Prop :=
  ∃ k n t Ak nk ck Ap np cp, e = .returned (.agg #[.int .i64 k, .int .i64 n, str t, .slice Ak nk ck, .slice Ap np cp]) ∧ VInS w' (oldNew B w w') J [.int .i64 k, .int .i64 n, str t, .slice Ak nk ck, .slice Ap np cp] ∧ Below w.heap.size w w'
/-- What is out already, in the box g. -/
structure WpO (aK : List (List UInt8)) (aP : List JV) (B g : Nat) (w : World) (cv cp : Array Value) (wr : World) (kv pv : Value) : Prop where
  bv : Blk wr g 25 cv
  bp : Blk wr (g + 1) 25 cp
  bz : Blk wr (g + 2) 25 #[.int .i64 0, .int .i64 0, str [], .slice none 0 0, .slice none 0 0]
  bo : Blk wr (g + 3) 25 #[.int .i64 7, .int .i64 0, str [], kv, pv]
  obj : ObjB wr B (g + 4) kv pv aK aP
  bel : Below g w wr
  sz : g + 4 ≤ wr.heap.size
end Go.Proofs.YtbdbcffnjibjoaaGreatDoor

/- withPart of the reference: words for its walk. -/
namespace Go.Proofs.YtbdbcffnjibjoaaGreatDoor
set_option linter.unusedVariables false
set_option linter.unusedSimpArgs false
open Go.RowKit
attribute [local go_sem high] str_mk
section
variable {aK : List (List UInt8)} {aP : List JV} {B g : Nat} {w : World} {cv cp : Array Value} {wr : World} {kv pv : Value}
theorem WpO.afterK (h : WpO aK aP B g w cv cp wr kv pv) (hBg : B ≤ g) {y : List UInt8} {y4 : World} {v4 : Value} (ho : ObjB y4 B (g + 4) v4 pv (aK ++ [y]) aP) (hb : Below (g + 4) wr y4) : WpO (aK ++ [y]) aP B g w cv cp (y4.setCell ⟨g + 3, 3, none⟩ v4) v4 pv :=
  ⟨(h.bv.below hb (by omega)).far (p := ⟨g + 3, 3, none⟩) (by show g ≠ g + 3; omega) _, (h.bp.below hb (by omega)).far (p := ⟨g + 3, 3, none⟩) (by show g + 1 ≠ g + 3; omega) _, (h.bz.below hb (by omega)).far (p := ⟨g + 3, 3, none⟩) (by show g + 2 ≠ g + 3; omega) _,
   (h.bo.below hb (by omega)).set_ 3 v4, ho.set (p := ⟨g + 3, 3, none⟩) (by show B ≤ g + 3; omega) (by show g + 3 < g + 4; omega) v4, (h.bel.trans (hb.mono (by omega))).setCell (p := ⟨g + 3, 3, none⟩) (by show g ≤ g + 3; omega) v4, by have := hb.size; have := h.sz; simp [World.setCell]; omega⟩
theorem WpO.afterP (h : WpO aK aP B g w cv cp wr kv pv) (hBg : B ≤ g) {p : JV} {y4 : World} {v4 : Value} (ho : ObjB y4 B (g + 4) kv v4 aK (aP ++ [p])) (hb : Below (g + 4) wr y4) : WpO aK (aP ++ [p]) B g w cv cp (y4.setCell ⟨g + 3, 4, none⟩ v4) kv v4 :=
  ⟨(h.bv.below hb (by omega)).far (p := ⟨g + 3, 4, none⟩) (by show g ≠ g + 3; omega) _, (h.bp.below hb (by omega)).far (p := ⟨g + 3, 4, none⟩) (by show g + 1 ≠ g + 3; omega) _, (h.bz.below hb (by omega)).far (p := ⟨g + 3, 4, none⟩) (by show g + 2 ≠ g + 3; omega) _,
   (h.bo.below hb (by omega)).set_ 4 v4, ho.set (p := ⟨g + 3, 4, none⟩) (by show B ≤ g + 3; omega) (by show g + 3 < g + 4; omega) v4, (h.bel.trans (hb.mono (by omega))).setCell (p := ⟨g + 3, 4, none⟩) (by show g ≤ g + 3; omega) v4, by have := hb.size; have := h.sz; simp [World.setCell]; omega⟩
end
mutual
theorem VIn.toS {w : World} {B : Nat} : ∀ (v : JV) (cs : List Value), VIn w B v cs → VInS w (fun b => b < B) v cs
  | .mk k n t ks ps, cs, h => by
    unfold VIn at h
    unfold VInS
    obtain ⟨Ak, ck, Ap, cp, pc, h1, h2, h3, h4, h5, h6, h7, h8, h9, h10, h11, h12⟩ := h
    exact ⟨Ak, ck, Ap, cp, pc, h1, h2, h3, h4, h5, h6, h7, h8, h9, h10, h11, PIn.toS ps pc h12⟩
theorem PIn.toS {w : World} {B : Nat} : ∀ (ps : List JV) (pc : List Value), PIn w B ps pc → PInS w (fun b => b < B) ps pc
  | [], pc, h => by unfold PIn at h; unfold PInS; exact h
  | p :: r, pc, h => by
    unfold PIn at h
    unfold PInS
    obtain ⟨c, rest, h1, h2, h3⟩ := h
    exact ⟨c, rest, h1, VIn.toS p c h2, PIn.toS r rest h3⟩
end
theorem ObjB.valueS {w : World} {B base : Nat} {A A' : Option Addr} {c c' : Nat} {ks : List (List UInt8)} {ps : List JV} (h : ObjB w B base (.slice A ks.length c) (.slice A' ps.length c') ks ps) (hk1 : ks.length ≤ 1048576) (hp1 : ps.length ≤ 1048576) (hs : ∀ s ∈ ks, s.length ≤ 1048576) :
    VInS w (fun b => b < B ∨ (base ≤ b ∧ b < w.heap.size)) (.mk 7 0 [] ks ps) [.int .i64 7, .int .i64 0, str [], .slice A ks.length c, .slice A' ps.length c'] := by
  obtain ⟨h1, xs, h2, h3⟩ := h
  unfold VInS
  exact ⟨A, c, A', c', xs, rfl, by omega, by omega, by simp, hk1, hp1, hs, sl_own_cap h1, sl_own_cap h2, (HoldsS.own h1).mono (fun b hb => .inr hb), (HoldsS.own h2).mono (fun b hb => .inr hb), PInS.mono (fun b hb => .inl hb) _ _ (PIn.toS _ _ h3)⟩
/-- The loop: what is out, and what is still to come. -/
def WpR (key : List UInt8) (p : JV) (ks : List (List UInt8)) (ps : List JV) (B g : Nat) (w : World) (cv cp : Array Value) (gk : Nat) (inn i : Value) (wr : World) : Prop :=
  ∃ (j : Nat) (b : Bool) (aK : List (List UInt8)) (aP : List JV) (kv pv : Value), i = .int .i64 j ∧ inn = .bool b ∧ j ≤ ks.length ∧ gk = ks.length - j ∧ (b = true → key ∉ ks.drop j) ∧
    aK ++ (wpR key p b (ks.drop j) (ps.drop j)).1 = (wpR key p false ks ps).1 ∧ aP ++ (wpR key p b (ks.drop j) (ps.drop j)).2 = (wpR key p false ks ps).2 ∧ WpO aK aP B g w cv cp wr kv pv
theorem incr_drop_ {ks : List (List UInt8)} : ∀ {j : Nat}, incr ks = true → incr (ks.drop j) = true := by
  intro j h
  induction j generalizing ks with
  | zero => simpa using h
  | succ j ih =>
    cases ks with
    | nil => simp [incr]
    | cons a r => exact ih (incr_cons.1 h).2
theorem wpR_mem (k : List UInt8) (p : JV) : ∀ (ks : List (List UInt8)) (ps : List JV) (b : Bool) (s : List UInt8), s ∈ (wpR k p b ks ps).1 → s = k ∨ s ∈ ks
  | [], ps, b, s, h => by rw [wpR_end] at h; cases b <;> simp at h; exact .inl h
  | y :: ks, [], b, s, h => by cases b <;> simp [wpR] at h; exact .inl h
  | y :: ks, q :: ps, b, s, h => by
    rw [wpR] at h
    have ih := wpR_mem k p ks ps (b || !Op.bytesLess y k) s
    by_cases hy : y = k
    · rw [if_pos hy] at h
      by_cases hc : b = false ∧ Op.bytesLess y k = false
      · rw [if_pos hc] at h
        rcases List.mem_cons.1 h with h | h
        · exact .inl h
        · rcases ih h with h | h
          · exact .inl h
          · exact .inr (by simp [h])
      · rw [if_neg hc] at h
        rcases ih h with h | h
        · exact .inl h
        · exact .inr (by simp [h])
    · rw [if_neg hy] at h
      by_cases hc : b = false ∧ Op.bytesLess y k = false
      · rw [if_pos hc] at h
        rcases List.mem_cons.1 h with h | h
        · exact .inl h
        · rcases List.mem_cons.1 h with h | h
          · exact .inr (by simp [h])
          · rcases ih h with h | h
            · exact .inl h
            · exact .inr (by simp [h])
      · rw [if_neg hc] at h
        rcases List.mem_cons.1 h with h | h
        · exact .inr (by simp [h])
        · rcases ih h with h | h
          · exact .inl h
          · exact .inr (by simp [h])
end Go.Proofs.YtbdbcffnjibjoaaGreatDoor

/- withPart of the reference: one key, one part put out, as the runs of the two appends. -/
namespace Go.Proofs.YtbdbcffnjibjoaaGreatDoor
set_option linter.unusedVariables false
set_option linter.unusedSimpArgs false
open Go.RowKit
attribute [local go_sem high] str_mk
section
variable {aK : List (List UInt8)} {aP : List JV} {B g : Nat} {w : World} {cv cp : Array Value} {wr : World} {kv pv : Value}
theorem WpO.putK (h : WpO aK aP B g w cv cp wr kv pv) (hBg : B ≤ g) (y : List UInt8) (hn : aK.length + 1 ≤ 1048576) :
    ∃ A c y4 y5, (Builtin.append_ #[22, 22] 22 #[kv, .slice (some ⟨wr.heap.size, 0, none⟩) 1 1]).run Tryz.prog (wr.alloc (.cells #[str y] 9)) = .ok (.slice A (aK.length + 1) c) y4 ∧
      y4.setCell ⟨g + 3, 3, none⟩ (.slice A (aK.length + 1) c) = y5 ∧ y4.cell? ⟨g + 3, 3, none⟩ = some kv ∧ y4.frozen? ⟨g + 3, 3, none⟩ = false ∧ WpO (aK ++ [y]) aP B g w cv cp y5 (.slice A (aK.length + 1) c) pv := by
  have hsz := h.sz
  have hal : Below wr.heap.size wr (wr.alloc (.cells #[str y] 9)) := (Below.refl _ _).alloc (Nat.le_refl _) _
  have ho := h.obj.below hal (by omega)
  obtain ⟨v', y4, hrun, k1, k2⟩ := objB_putK ho 22 y ⟨wr.heap.size, 0, none⟩ 1 (by rw [plus_addr]; exact (Blk.new wr 9 #[str y]).cell 0) hn (by have := hal.size; omega) (by omega)
  have hb4 : Below (g + 4) wr y4 := (hal.mono hsz).trans k2
  obtain ⟨⟨A, c, rfl⟩, _⟩ := k1.forms
  have hl : (aK ++ [y]).length = aK.length + 1 := by simp
  rw [hl] at hrun k1
  have hO := h.afterK hBg k1 hb4
  have hbo := h.bo.below hb4 (by omega)
  exact ⟨A, c, y4, _, hrun, rfl, hbo.cell 3, hbo.frozen 3, hO⟩
theorem WpO.putP (h : WpO aK aP B g w cv cp wr kv pv) (hBg : B ≤ g) (p : JV) (c0 c1 c2 c3 c4 : Value) (hv : VIn wr B p [c0, c1, c2, c3, c4]) (hn : aP.length + 1 ≤ 1048576) :
    ∃ A c y4 y5, (Builtin.append_ #[23, 23] 23 #[pv, .slice (some ⟨wr.heap.size, 0, none⟩) 1 1]).run Tryz.prog (wr.alloc (.cells #[c0, c1, c2, c3, c4] 25)) = .ok (.slice A (aP.length + 1) c) y4 ∧
      y4.setCell ⟨g + 3, 4, none⟩ (.slice A (aP.length + 1) c) = y5 ∧ y4.cell? ⟨g + 3, 4, none⟩ = some pv ∧ y4.frozen? ⟨g + 3, 4, none⟩ = false ∧ WpO aK (aP ++ [p]) B g w cv cp y5 kv (.slice A (aP.length + 1) c) := by
  have hsz := h.sz
  have hal : Below wr.heap.size wr (wr.alloc (.cells #[c0, c1, c2, c3, c4] 25)) := (Below.refl _ _).alloc (Nat.le_refl _) _
  have ho := h.obj.below hal (by omega)
  obtain ⟨v', y4, hrun, k1, k2⟩ := objB_putP ho 23 p [c0, c1, c2, c3, c4] (hv.below (hal.mono (by omega))) ⟨wr.heap.size, 0, none⟩ 1 (blk_cells (cs := [c0, c1, c2, c3, c4]) (Blk.new wr 25 #[c0, c1, c2, c3, c4])) hn (by have := hal.size; omega) (by omega)
  have hb4 : Below (g + 4) wr y4 := (hal.mono hsz).trans k2
  obtain ⟨_, ⟨A, c, rfl⟩⟩ := k1.forms
  have hl : (aP ++ [p]).length = aP.length + 1 := by simp
  rw [hl] at hrun k1
  have hO := h.afterP hBg k1 hb4
  have hbo := h.bo.below hb4 (by omega)
  exact ⟨A, c, y4, _, hrun, rfl, hbo.cell 4, hbo.frozen 4, hO⟩
/-- What region 12 reads. -/
def S12 (g bq off j np c : Nat) (pv c0 c1 c2 c3 c4 : Value) (w' : World) : Prop :=
  w'.cell? ⟨g + 3, 4, none⟩ = some pv ∧ w'.cell? ⟨g, 4, none⟩ = some (.slice (some ⟨bq, off, none⟩) np c) ∧ w'.cell? ⟨bq, off + j * 5, none⟩ = some c0 ∧ w'.cell? ⟨bq, off + j * 5 + 1, none⟩ = some c1 ∧ w'.cell? ⟨bq, off + j * 5 + 2, none⟩ = some c2 ∧
    w'.cell? ⟨bq, off + j * 5 + 3, none⟩ = some c3 ∧ w'.cell? ⟨bq, off + j * 5 + 4, none⟩ = some c4
theorem S12.below {g bq off j np c : Nat} {pv c0 c1 c2 c3 c4 : Value} {x x' : World} (h : S12 g bq off j np c pv c0 c1 c2 c3 c4 x) (hq : bq < g) {N : Nat} (hN : g + 4 ≤ N) (hb : Below N x x') : S12 g bq off j np c pv c0 c1 c2 c3 c4 x' := by
  obtain ⟨h1, h2, h3, h4, h5, h6, h7⟩ := h
  exact ⟨(hb.cell (p := ⟨g + 3, 4, none⟩) (by show g + 3 < N; omega)).trans h1, (hb.cell (p := ⟨g, 4, none⟩) (by show g < N; omega)).trans h2, (hb.cell (p := ⟨bq, off + j * 5, none⟩) (by show bq < N; omega)).trans h3,
    (hb.cell (p := ⟨bq, off + j * 5 + 1, none⟩) (by show bq < N; omega)).trans h4, (hb.cell (p := ⟨bq, off + j * 5 + 2, none⟩) (by show bq < N; omega)).trans h5, (hb.cell (p := ⟨bq, off + j * 5 + 3, none⟩) (by show bq < N; omega)).trans h6, (hb.cell (p := ⟨bq, off + j * 5 + 4, none⟩) (by show bq < N; omega)).trans h7⟩
/-- Ahead of region 12, in the world behind its draw. -/
theorem WpO.part {v0 v1 v2 v3 : Value} {bq off j np c : Nat} (h : WpO aK aP B g w #[v0, v1, v2, v3, .slice (some ⟨bq, off, none⟩) np c] cp wr kv pv) (hBg : B ≤ g) (hgw : g = w.heap.size) (hq : bq < B) (p : JV) (c0 c1 c2 c3 c4 : Value)
    (x0 : w.cell? ⟨bq, off + j * 5, none⟩ = some c0) (x1 : w.cell? ⟨bq, off + j * 5 + 1, none⟩ = some c1) (x2 : w.cell? ⟨bq, off + j * 5 + 2, none⟩ = some c2) (x3 : w.cell? ⟨bq, off + j * 5 + 3, none⟩ = some c3) (x4 : w.cell? ⟨bq, off + j * 5 + 4, none⟩ = some c4)
    (hv : VIn w B p [c0, c1, c2, c3, c4]) (hn : aP.length + 1 ≤ 1048576) :
    ∃ A c' XD y8 y9, wr.drew = XD ∧ S12 g bq off j np c pv c0 c1 c2 c3 c4 XD ∧ S12 g bq off j np c pv c0 c1 c2 c3 c4 (XD.alloc (.cells #[c0, c1, c2, c3, c4] 25)) ∧ S12 g bq off j np c pv c0 c1 c2 c3 c4 y8 ∧
      (Builtin.append_ #[23, 23] 23 #[pv, .slice (some ⟨XD.heap.size, 0, none⟩) 1 1]).run Tryz.prog (XD.alloc (.cells #[c0, c1, c2, c3, c4] 25)) = .ok (.slice A (aP.length + 1) c') y8 ∧
      y8.setCell ⟨g + 3, 4, none⟩ (.slice A (aP.length + 1) c') = y9 ∧ y8.frozen? ⟨g + 3, 4, none⟩ = false ∧ WpO aK (aP ++ [p]) B g w #[v0, v1, v2, v3, .slice (some ⟨bq, off, none⟩) np c] cp y9 kv (.slice A (aP.length + 1) c') := by
  obtain ⟨XD, hXD⟩ : ∃ XD, wr.drew = XD := ⟨_, rfl⟩
  have hsz := h.sz
  have OD : WpO aK aP B g w #[v0, v1, v2, v3, .slice (some ⟨bq, off, none⟩) np c] cp XD kv pv := by
    rw [← hXD]
    exact ⟨h.bv, h.bp, h.bz, h.bo, h.obj.below (below_drewN (Below.refl _ _) 1) (by omega), below_drewN h.bel 1, h.sz⟩
  have hsD := OD.sz
  have hgB : B ≤ g := hBg
  have hal : Below XD.heap.size XD (XD.alloc (.cells #[c0, c1, c2, c3, c4] 25)) := (Below.refl _ _).alloc (Nat.le_refl _) _
  have ho := OD.obj.below hal (by omega)
  have hvD : VIn XD B p [c0, c1, c2, c3, c4] := hv.below (OD.bel.mono hgB)
  obtain ⟨v', y4, hrun, k1, k2⟩ := objB_putP ho 23 p [c0, c1, c2, c3, c4] (hvD.below (hal.mono (by omega))) ⟨XD.heap.size, 0, none⟩ 1 (blk_cells (cs := [c0, c1, c2, c3, c4]) (Blk.new XD 25 #[c0, c1, c2, c3, c4])) hn (by have := hal.size; omega) (by omega)
  have hb4 : Below (g + 4) XD y4 := (hal.mono hsD).trans k2
  obtain ⟨_, ⟨A, c', rfl⟩⟩ := k1.forms
  have hl : (aP ++ [p]).length = aP.length + 1 := by simp
  rw [hl] at hrun k1
  have hO := OD.afterP hBg k1 hb4
  have hbo := OD.bo.below hb4 (by omega)
  have hbel := OD.bel
  have hS : S12 g bq off j np c pv c0 c1 c2 c3 c4 XD := by
    have hx : ∀ k u, w.cell? ⟨bq, k, none⟩ = some u → XD.cell? ⟨bq, k, none⟩ = some u := fun k u hu => (hbel.cell (p := ⟨bq, k, none⟩) (by show bq < g; omega)).trans hu
    exact ⟨OD.bo.cell 4, OD.bv.cell 4, hx _ _ x0, hx _ _ x1, hx _ _ x2, hx _ _ x3, hx _ _ x4⟩
  exact ⟨A, c', XD, y4, _, hXD, hS, hS.below (by omega) hsD hal, hS.below (by omega) (Nat.le_refl _) hb4, hrun, rfl, hbo.frozen 4, hO⟩
end
end Go.Proofs.YtbdbcffnjibjoaaGreatDoor
