/- One-time keys: slices.SortFunc at names. -/
import Derived.Test.YtgckihglgnbaoaaBunKB
import Derived.Test.YtgckihglgnbaoaaShelfS
import Derived.Shelf.SlSortCmp.NoneTotal
namespace Go.Proofs.Ytgckihglgnbaoaa
set_option linter.unusedVariables false
set_option linter.unusedSimpArgs false
open Go.RowKit
open Go.Sort (SWO grow ahead mapBlock putCells onCells flatK get_flatK size_flatK HoldsK)
def encN (n : KNm) : List Value := [str n.1, str n.2]
theorem cmp_lt : ∀ a b : List UInt8, decide (Lib.compareBytes a b < 0) = Op.bytesLess a b
  | [], [] => rfl
  | [], _ :: _ => rfl
  | _ :: _, [] => rfl
  | a :: x, b :: y => by
    unfold Lib.compareBytes Op.bytesLess
    by_cases h1 : a < b
    · simp [h1]
    · by_cases h2 : b < a
      · have : ¬ a = b := fun e => by subst e; exact h1 h2
        simp [h1, h2, this]
      · have e : a = b := by
          have e1 : ¬ a.toNat < b.toNat := by simpa [UInt8.lt_iff_toNat_lt] using h1
          have e2 : ¬ b.toNat < a.toNat := by simpa [UInt8.lt_iff_toNat_lt] using h2
          exact UInt8.toNat_inj.1 (by omega)
        subst e
        simp [h1, cmp_lt x y]
theorem ltOf_cmpN (a b : KNm) : ltOf cmpN a b = Op.bytesLess a.2 b.2 := cmp_lt _ _
theorem swoN : SWO (ltOf cmpN) where
  irrefl x := by rw [ltOf_cmpN]; exact bl_irrefl _
  trans x y z h1 h2 := by rw [ltOf_cmpN] at *; exact bl_trans _ _ _ h1 h2
  ntrans x y z h1 h2 := by
    rw [ltOf_cmpN] at *
    cases h : Op.bytesLess x.2 z.2 with
    | false => rfl
    | true =>
      cases hyx : Op.bytesLess y.2 x.2 with
      | true => rw [bl_trans _ _ _ hyx h] at h2; cases h2
      | false =>
        have := bl_total _ _ h1 hyx
        rw [← this, h] at h2; cases h2
theorem pcN_get (l : List KNm) (t : Nat) (ht : t < l.length * 2) : (pcN l)[t]? = some ((encN l.toArray[t / 2]!)[t % 2]!) := by
  have hi : t / 2 < l.length := by omega
  have hi' : t / 2 < (l.map rwN).length := by simpa using hi
  obtain ⟨h1, h2⟩ := pcR_at hi'
  have e0 : l.toArray[t / 2]! = l[t / 2] := by simp [hi]
  rw [e0]
  unfold pcN
  rcases Nat.mod_two_eq_zero_or_one t with h | h
  · rw [show t / 2 * 2 = t by omega] at h1
    rw [h1, h]
    simp [rwN, encN]
  · rw [show t / 2 * 2 + 1 = t by omega] at h2
    rw [h2, h]
    simp [rwN, encN]
theorem flat_get (l : List KNm) (t : Nat) (ht : t < l.length * 2) : (flatK encN 2 l.toArray)[t]! = (pcN l)[t]?.getD undef := by
  rw [get_flatK encN 2 l.toArray t (by simpa using ht), pcN_get l t ht]
  rfl
theorem cmpLaysN (blk off size : Nat) (w : World) : CmpLays Try.prog 46 #[] encN 2 cmpN blk off size w := by
  intro m os dk _ x y
  refine (cmp_any x y _).mono ?_
  rintro e w' ⟨rfl, o1, o2, rfl⟩
  exact ⟨rfl, 0, #[o1, o2], by rw [Go.Sort.alloc_eq_grow, Go.Sort.alloc_eq_grow, Go.Sort.grow_grow]; rfl⟩
set_option maxHeartbeats 1000000 in
theorem srtN_holds : SrtN := by
  intro v l base w ho hl
  by_cases h0 : l.length = 0
  · obtain ⟨A, c, rfl, _⟩ := own_form ho
    rw [h0] at ho ⊢
    have hc := AnyF.slices_SortFunc_none Try.sortN A c (.func (.func 46) #[] #[]) w
    refine Calls.mono (show Calls Try.prog 45 _ w _ from hc) ?_
    rintro e w' ⟨rfl, rfl⟩
    have hl0 : l = [] := List.length_eq_zero_iff.1 h0
    subst hl0
    exact ⟨rfl, [], List.Perm.refl _, List.Pairwise.nil, ho, Beside.refl _ _⟩
  · obtain ⟨h1, h2⟩ := ho
    rcases h2 with ⟨_, h2⟩ | ⟨g, cap, cur, rfl, hbg, hh, hnc, hcm, hcs, htk⟩
    · exact absurd h2 h0
    have hgl : g < w.heap.size := (Array.getElem?_eq_some_iff.1 hh).1
    have hB : Blk w g 96 cur := hh
    have hH : HoldsK encN 2 w g 0 l.toArray := by
      intro j hj
      have hj2 : j < l.length * 2 := by simpa using hj
      refine ⟨?_, hB.frozen _⟩
      rw [hB.cell, Nat.zero_add, flat_get l j hj2]
      have e1 : (cur.toList.take (l.length * 2))[j]? = cur[j]? := by
        rw [List.getElem?_take, if_pos hj2]; simp
      rw [← e1, htk, pcN_get l j hj2]
      rfl
    have hc := AnyQ.slices_SortFunc Try.sortN 2 (fun w => by kernel_rfl) (fun w => by kernel_rfl) encN (fun _ => rfl) (fun x v hv => by simp [encN] at hv; rcases hv with rfl | rfl <;> rfl) cmpN swoN 46 #[] g 0 cap l.toArray w (enters_of Try.func46 (by kernel_rfl) rfl) (cmpLaysN _ _ _ _) hH hgl (by simp; omega)
    rw [List.size_toArray] at hc
    change Calls Try.prog 45 _ _ _ at hc
    refine hc.mono ?_
    rintro e w' ⟨rfl, d', n, os, hp, hs, rfl⟩
    obtain ⟨hp1, _, hp3⟩ := hp
    have hp1 : d'.size = l.length := by simpa using hp1
    have hp4 : d'.toList.Perm l := by
      have e1 : d'.extract 0 l.length = d' := by rw [← hp1]; simp
      have e2 : l.toArray.extract 0 l.length = l.toArray := by simp
      rw [e1, e2] at hp3
      simpa using hp3
    have hlen : d'.toList.length = l.length := hp4.length_eq
    refine ⟨rfl, d'.toList, hp4, ?_, ?_, ?_⟩
    · rw [List.pairwise_iff_getElem]
      intro i j hi hj hij
      have := hs i j (Nat.zero_le _) hij (by omega)
      rw [ltOf_cmpN] at this
      have a1 : d'[j]! = d'.toList[j] := by simp at hj; simp [hj]
      have a2 : d'[i]! = d'.toList[i] := by simp at hi; simp [hi]
      rw [a1, a2] at this
      exact this
    · refine ⟨by rw [pcN_len, hlen], .inr ⟨g, cap, putCells id 0 (flatK encN 2 d') cur, rfl, hbg, ?_, hnc, hcm, ?_, ?_⟩⟩
      · show ((w.heap.modify g (onCells (putCells id 0 (flatK encN 2 d')))) ++ os)[g]? = _
        rw [Array.getElem?_append_left (by simpa using hgl), Array.getElem?_modify, if_pos rfl, hh]
        rfl
      · rw [← hcs]; simp [putCells]
      · apply List.ext_getElem?
        intro j
        rw [List.getElem?_take]
        by_cases hj : j < l.length * 2
        · rw [if_pos hj]
          have hjc : j < cur.size := by rw [hcs]; exact Nat.lt_of_lt_of_le hj (Nat.mul_le_mul_right _ hnc)
          have hj' : j < d'.toList.length * 2 := by rw [hlen]; exact hj
          have hg := flat_get d'.toList j hj'
          rw [pcN_get _ _ hj'] at hg ⊢
          simp only [Array.toArray_toList] at hg ⊢
          unfold putCells
          simp only [Array.getElem?_toList, Array.getElem?_mapIdx, Array.getElem?_eq_getElem hjc, Option.map_some]
          rw [if_pos ⟨Nat.zero_le _, by rw [size_flatK, hp1]; omega⟩]
          simp only [Nat.sub_zero, id]
          rw [hg]
          rfl
        · rw [if_neg hj]
          refine (List.getElem?_eq_none ?_).symm
          rw [pcN_len, hlen]; omega
    · refine ⟨rfl, rfl, rfl, ?_, fun k hk hn => ?_⟩
      · show w.heap.size ≤ ((w.heap.modify g _) ++ os).size
        simp
      · show ((w.heap.modify g (onCells (putCells id 0 (flatK encN 2 d')))) ++ os)[k]? = _
        rw [Array.getElem?_append_left (by simpa using hk), Array.getElem?_modify, if_neg]
        exact fun e => hn (by rw [e]; rfl)
theorem left_ok (S : List UInt8) (s : Ks) (h : Nat) (w : World) (hk : KsIn w h s) (hup : s.up.length ≤ 1000) :
    Calls Try.prog 28 #[.pointer (some ⟨h + 4, 0, none⟩), str S] w fun e w' =>
      ∃ v, e = .returned v ∧ w'.ownsRow w.heap.size 96 2 v (leftR s S).length (pcN (leftR s S)) ∧ Below w.heap.size w w' := left_any' srtN_holds S s h w hk hup
end Go.Proofs.Ytgckihglgnbaoaa
