/- The store: a table set part by part, in mathematics and in memory. -/
import Derived.Test.YtploicbiapjfdaaStChk
namespace Go.Proofs.Ytploicbiapjfdaa
set_option linter.unusedVariables false
set_option linter.unusedSimpArgs false
open Go.RowKit Go.Shelf
def ckF (S : List Rw) {m : Nat} (o : Option (List Rw)) (x : Ck m) : Option (List Rw) :=
  o.bind fun t => if (setN t ((S.take x.1.2).drop x.1.1)).2 = 0 then some (setN t ((S.take x.1.2).drop x.1.1)).1 else none
def ckFold (S : List Rw) {m : Nat} (t : List Rw) (l : List (Ck m)) : Option (List Rw) := l.foldl (ckF S) (some t)
theorem ckFold_snoc (S : List Rw) {m : Nat} (t : List Rw) (l : List (Ck m)) (x : Ck m) : ckFold S t (l ++ [x]) = ckF S (ckFold S t l) x := by unfold ckFold; rw [List.foldl_append]; rfl
theorem ck_cut (S : List Rw) {a b : Nat} (h : a ≤ b) : S.take a ++ (S.take b).drop a = S.take b := by
  have := List.take_append_drop a (S.take b)
  rwa [List.take_take, Nat.min_eq_left h] at this
theorem ck_parts (S : List Rw) {m : Nat} (hm : S.length = m) (k : Nat) : S.take (60 * k) ++ (S.take (ckAt m k).1.2).drop (ckAt m k).1.1 = S.take (60 * (k + 1)) := by
  have e1 : S.take (ckAt m k).1.1 = S.take (60 * k) := by
    show S.take (min (60 * k) m) = _
    rw [← hm, ← List.take_take, List.take_length]
  have e2 : S.take (ckAt m k).1.2 = S.take (60 * (k + 1)) := by
    show S.take (min (60 * k + 60) m) = _
    rw [← hm, ← List.take_take, List.take_length, Nat.mul_succ]
  rw [← e1, ck_cut S (ckAt m k).2.1, e2]
theorem ck_good {S : List Rw} (hg : goodC S = true) (a b : Nat) : goodC ((S.take b).drop a) = true :=
  List.all_eq_true.2 fun q hq => List.all_eq_true.1 hg q (List.mem_of_mem_take (List.mem_of_mem_drop hq))
theorem ck_len {m : Nat} (S : List Rw) (x : Ck m) : ((S.take x.1.2).drop x.1.1).length ≤ 60 := by
  rw [List.length_drop, List.length_take]; have := x.2.2.2; omega
theorem setN_ok {t cs : List Rw} (ht : Fit t) (hg : goodC cs = true) (hl : cs.length ≤ 60) : setN t cs = if 40 < (sets t cs).length then ([], 10) else (sets t cs, 0) := by
  rw [setN_fit ht, if_neg (by rw [hg]; simp; omega)]
theorem ckF_one {S : List Rw} {m : Nat} (x : Ck m) {t : List Rw} (ht : Fit t) (hg : goodC S = true) :
    ckF S (some t) x = if 40 < (sets t ((S.take x.1.2).drop x.1.1)).length then none else some (sets t ((S.take x.1.2).drop x.1.1)) := by
  show (if _ then _ else _) = _
  rw [setN_ok ht (ck_good hg _ _) (ck_len S x)]
  by_cases h : 40 < (sets t ((S.take x.1.2).drop x.1.1)).length
  · rw [if_pos h, if_pos h, if_neg (by decide)]
  · rw [if_neg h, if_neg h, if_pos rfl]
theorem ckFold_some {S : List Rw} {m : Nat} (hm : S.length = m) (hg : goodC S = true) {t : List Rw} (ht : Fit t) : ∀ (k : Nat) (t' : List Rw), ckFold S t (ckL m k) = some t' → t' = sets t (S.take (60 * k)) ∧ Fit t'
  | 0, t', h => by
    have : some t = some t' := h
    injection this with this
    subst this
    exact ⟨by simp [sets], ht⟩
  | k + 1, t', h => by
    rw [ckL_succ, ckFold_snoc] at h
    cases h1 : ckFold S t (ckL m k) with
    | none => rw [h1] at h; cases h
    | some t1 =>
      rw [h1] at h
      obtain ⟨e, hf⟩ := ckFold_some hm hg ht k t1 h1
      rw [ckF_one _ hf hg] at h
      split at h
      · cases h
      · rename_i h3
        injection h with h
        have e2 : sets t1 ((S.take (ckAt m k).1.2).drop (ckAt m k).1.1) = sets t (S.take (60 * (k + 1))) := by rw [e, ← sets_app, ck_parts S hm k]
        rw [← h]
        exact ⟨e2, fit_sets hf (ck_good hg _ _) (by omega)⟩
theorem ckFold_all {S : List Rw} {m : Nat} (hm : S.length = m) (hg : goodC S = true) {t : List Rw} (ht : Fit t) (ha : ∀ j, (sets t (S.take j)).length ≤ 40) : ∀ k, ckFold S t (ckL m k) = some (sets t (S.take (60 * k)))
  | 0 => by show some t = _; simp [sets]
  | k + 1 => by
    rw [ckL_succ, ckFold_snoc, ckFold_all hm hg ht ha k]
    have hf : Fit (sets t (S.take (60 * k))) := fit_sets ht (List.all_eq_true.2 fun q hq => List.all_eq_true.1 hg q (List.mem_of_mem_take hq)) (ha _)
    have e2 : sets (sets t (S.take (60 * k))) ((S.take (ckAt m k).1.2).drop (ckAt m k).1.1) = sets t (S.take (60 * (k + 1))) := by rw [← sets_app, ck_parts S hm k]
    rw [ckF_one _ hf hg, e2, if_neg (by have := ha (60 * (k + 1)); omega)]
/-- What the parts come to, all of them, or up to one that is refused. -/
theorem apply_done {t : List Rw} {bs : List (List UInt8)} (ht : Fit t) (hg : goodBs bs = true) {m k : Nat} (hm : (settledR (bs.map chgF)).length = m) (hk : m ≤ 60 * k) {t' : List Rw} (h : ckFold (settledR (bs.map chgF)) t (ckL m k) = some t') : applyR t bs = some t' := by
  have hgc := goodC_map hg
  obtain ⟨e, hf⟩ := ckFold_some hm (settled_good hgc) ht k t' h
  rw [List.take_of_length_le (by omega), sets_settled ht.srt (fun r hr => (ht.good r hr).2)] at e
  unfold applyR
  rw [if_pos hg, ← e, if_neg (by have := hf.len; omega)]
theorem apply_stop {t : List Rw} {bs : List (List UInt8)} (ht : Fit t) (hg : goodBs bs = true) {m k : Nat} (hm : (settledR (bs.map chgF)).length = m) (h : ckFold (settledR (bs.map chgF)) t (ckL m k) = none) : applyR t bs = none := by
  have hgc := goodC_map hg
  unfold applyR
  rw [if_pos hg]
  by_cases h40 : 40 < (sets t (bs.map chgF)).length
  · rw [if_pos h40]
  · have := ckFold_all hm (settled_good hgc) ht (fun j => settled_mid ht.len (by rw [sets_settled ht.srt (fun r hr => (ht.good r hr).2)]; omega) j) k
    rw [h] at this; cases this
/-! ### in memory -/
/-- A list of rows in blocks of S. -/
def RInS (w : World) (S : Nat → Prop) (A : Option Addr) (n c : Nat) (l : List Rw) : Prop := l.length = n ∧ n ≤ c ∧ (A = none → c = 0) ∧ HoldsS w S 2 A n (pcR l)
theorem RInS.low {w : World} {B n c : Nat} {A : Option Addr} {l : List Rw} (h : RIn w B A n c l) : RInS w (fun b => b < B) A n c l := h
theorem RInS.all {w : World} {S : Nat → Prop} {n c : Nat} {A : Option Addr} {l : List Rw} (h : RInS w S A n c l) : RIn w w.heap.size A n c l := by
  obtain ⟨h1, h2, h3, h4, h5⟩ := h
  refine ⟨h1, h2, h3, h4, fun hn => ?_⟩
  obtain ⟨b, off, e, hb, hc⟩ := h5 hn
  refine ⟨b, off, e, ?_, hc⟩
  have hl : 0 < (pcR l).length := by rw [h4]; omega
  have := cell_lt' (hc 0 _ (List.getElem?_eq_getElem hl))
  exact this
theorem RInS.mono {w : World} {S S' : Nat → Prop} {n c : Nat} {A : Option Addr} {l : List Rw} (h : RInS w S A n c l) (hs : ∀ b, b < w.heap.size → S b → S' b) : RInS w S' A n c l := by
  obtain ⟨h1, h2, h3, h4, h5⟩ := h
  refine ⟨h1, h2, h3, h4, fun hn => ?_⟩
  obtain ⟨b, off, e, hb, hc⟩ := h5 hn
  refine ⟨b, off, e, ?_, hc⟩
  have hl : 0 < (pcR l).length := by rw [h4]; omega
  exact hs b (cell_lt' (hc 0 _ (List.getElem?_eq_getElem hl))) hb
theorem RInS.kept {w w' : World} {S : Nat → Prop} {n c : Nat} {A : Option Addr} {l : List Rw} (h : RInS w S A n c l) (hk : ∀ p : Addr, S p.block → p.block < w.heap.size → w'.cell? p = w.cell? p) : RInS w' S A n c l := by
  obtain ⟨h1, h2, h3, h4, h5⟩ := h
  refine ⟨h1, h2, h3, h4, fun hn => ?_⟩
  obtain ⟨b, off, e, hb, hc⟩ := h5 hn
  exact ⟨b, off, e, hb, fun j u hu => (hk _ hb (cell_lt' (hc j u hu))).trans (hc j u hu)⟩
theorem RInS.below {w w' : World} {S : Nat → Prop} {n c : Nat} {A : Option Addr} {l : List Rw} (h : RInS w S A n c l) (hb : Below w.heap.size w w') : RInS w' S A n c l := h.kept fun p _ hp => hb.cell hp
theorem RInS.own {w w' : World} {S : Nat → Prop} {n c : Nat} {A : Option Addr} {l : List Rw} {row : Option Nat} (h : RInS w S A n c l) (hg : w.grownBy w' row) (hr : ∀ r, row = some r → ∃ o : Obj, w.heap[r]? = some o ∧ o.isCells = false) : RInS w' S A n c l := by
  obtain ⟨h1, h2, h3, h4, h5⟩ := h
  refine ⟨h1, h2, h3, h4, fun hn => ?_⟩
  obtain ⟨b, off, e, hb, hc⟩ := h5 hn
  exact ⟨b, off, e, hb, fun j u hu => cell_kept (hc j u hu) hg hr⟩
theorem RInS.row {w : World} {base e n : Nat} {v : Value} {l : List Rw} (h : w.ownsRow base e 2 v n (pcR l)) : ∃ A c, v = .slice A n c ∧ RInS w (fun b => base ≤ b) A n c l := by
  obtain ⟨A, c, rfl, hA⟩ := own_form h
  have hl : l.length = n := by have := h.1; rw [pcR_len] at this; omega
  refine ⟨A, c, rfl, hl, ?_, fun hA' => (hA hA').2, h.1, fun hn => ?_⟩
  · rcases h.2 with ⟨hv, h0⟩ | ⟨g, c', cur, hv, hb, hg, hnc, hrest⟩
    · injection hv; omega
    · injection hv; omega
  · obtain ⟨b, off, rfl, hb, hc⟩ := (Holds.own h).2 hn
    exact ⟨b, off, rfl, (h.lt b rfl).1, hc⟩
theorem kc_t {bs bn : Nat} {A B C : World} (h : Kc bs bn A B) (k : Kc bs bn B C) : Kc bs bn A C := ⟨k.1.trans h.1, k.2.trans h.2⟩
theorem kc_b {bs bn : Nat} {w : World} (h1 : bs < w.heap.size) (h2 : bn < w.heap.size) (W : World) (l : Nat) (o o' : Obj) (hl : w.heap.size ≤ l) (_ : W.heap[l]? = some o) (_ : o.isCells = false) (_ : o.isWalk = false) : Kc bs bn W (W.putObj l o') :=
  ⟨World.putObj_heap_other (by omega), World.putObj_heap_other (by omega)⟩
theorem kc_below {bs bn : Nat} {W W' : World} (h1 : bs < W.heap.size) (h2 : bn < W.heap.size) (hb : Below W.heap.size W W') : Kc bs bn W W' := ⟨hb.block _ h1, hb.block _ h2⟩
theorem kc_set {bs bn g i : Nat} (W : World) (v : Value) (h1 : bs ≠ g) (h2 : bn ≠ g) : Kc bs bn W (W.setCell ⟨g, i, none⟩ v) := ⟨Below.heap_setCell _ _ _ _ h1, Below.heap_setCell _ _ _ _ h2⟩
theorem keeps_below {B : Nat} {W W' : World} (hb : Below W.heap.size W W') : KeepsFrom B W W' := ⟨hb.size, fun k o _ hk _ => (hb.block k (Array.getElem?_eq_some_iff.1 hk).1).trans hk⟩
theorem keeps_set {B g i : Nat} (W : World) (v : Value) : KeepsFrom B W (W.setCell ⟨g, i, none⟩ v) := (KeepsOthers.setCell _ _ _).from _
theorem boxed_below {W W' : World} {B : Nat} {t : TypeId} {v : Value} (h : Boxed W B t v) (hb : Below W.heap.size W W') : Boxed W' B t v := (hb.block _ h.lt).trans h
theorem boxed_own1 {W W' : World} {row : Option Nat} {B : Nat} {t : TypeId} {v : Value} (h : Boxed W B t v) (hg : W.grownBy W' row) (hrow : ∀ r, row = some r → ∃ o : Obj, W.heap[r]? = some o ∧ o.isCells = false) : Boxed W' B t v :=
  h.kept hg fun e' => by obtain ⟨o, ho, hc⟩ := hrow B e'.symm; rw [show W.heap[B]? = _ from h] at ho; cases ho; cases hc
theorem RIn.cutM {w : World} {B n c : Nat} {A : Option Addr} {l : List Rw} (h : RIn w B A n c l) {lo hg : Nat} (h1 : lo ≤ hg) (h2 : hg ≤ n) : RIn w B (cutAt A hg lo 2) (hg - lo) (hg - lo) ((l.take hg).drop lo) := by
  have hcut := RIn.cut h h1 h2
  refine ⟨hcut.1, Nat.le_refl _, fun hA => ?_, hcut.2.2.2.1, fun hn => ?_⟩
  · have := h.2.2.1 (cutAt_none hA)
    have := h.2.1
    omega
  · obtain ⟨b, off, e, hb, hc⟩ := hcut.2.2.2.2 hn
    refine ⟨b, off, ?_, hb, hc⟩
    have h2' := h.2.1
    unfold cutAt at e ⊢
    rw [if_neg (by omega)] at e ⊢
    exact e
theorem RInS.set_ {w : World} {S : Nat → Prop} {n c g i : Nat} {A : Option Addr} {l : List Rw} (h : RInS w S A n c l) (hg : ¬ S g) (v : Value) : RInS (w.setCell ⟨g, i, none⟩ v) S A n c l :=
  h.kept fun p hp _ => World.cell?_of_block (Below.heap_setCell _ _ _ _ (fun e => hg (by rw [← show p.block = g from e]; exact hp)))
end Go.Proofs.Ytploicbiapjfdaa
