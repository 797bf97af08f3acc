/- Package wal: one frame put behind what is packed. -/
import Derived.Test.YtbdbcffnjibjoaaWlSum
namespace Go.Proofs.Ytbdbcffnjibjoaa
set_option linter.unusedVariables false
set_option linter.unusedSimpArgs false
open Go.RowKit
theorem wl_below {w w' : World} {base e size n : Nat} {v : Value} {xs : List Value} (h : w.ownsRow base e size v n xs) (hb : Below w.heap.size w w') : w'.ownsRow base e size v n xs :=
  World.ownsRow.kept h (only_below hb none) (by cases v.ownBlock <;> simp)
theorem own_place {w : World} {base e n : Nat} {v : Value} {xs : List Value} (h : w.ownsRow base e 1 v n xs) (hn : 0 < n) :
    ∃ g c, v = .slice (some ⟨g, 0, none⟩) n c ∧ base ≤ g ∧ n ≤ c ∧ (∀ j, w.frozen? ⟨g, j, none⟩ = false) ∧ (∀ j u, xs[j]? = some u → w.cell? ⟨g, j, none⟩ = some u) := by
  rcases h.2 with ⟨_, h0⟩ | ⟨g, cap, cur, hv, hb, hh, hnc, hm, hsz, ht⟩
  · omega
  · refine ⟨g, cap, hv, hb, hnc, fun j => ?_, fun j u hu => ?_⟩
    · exact (show Blk w g e cur from hh).frozen j
    · rw [(show Blk w g e cur from hh).cell j]
      rw [← ht, List.getElem?_take] at hu
      split at hu
      · simpa using hu
      · cases hu
theorem own_set1 {w : World} {base e n c g i : Nat} {xs : List Value} (h : w.ownsRow base e 1 (.slice (some ⟨g, 0, none⟩) n c) n xs) (u : Value) :
    (w.setCell ⟨g, i, none⟩ u).ownsRow base e 1 (.slice (some ⟨g, 0, none⟩) n c) n (xs.set i u) := by
  refine ⟨by rw [List.length_set]; exact h.1, ?_⟩
  rcases h.2 with ⟨hv, _⟩ | ⟨g', cap, cur, hv, hb, hh, hnc, hm, hsz, ht⟩
  · injection hv with hv; cases hv
  · injection hv with hv1 _ hv3
    injection hv1 with hv1
    injection hv1 with hv1
    subst hv1 hv3
    refine .inr ⟨g, c, cur.setIfInBounds i u, rfl, hb, (show Blk w g e cur from hh).set_ i u, hnc, hm, by simpa using hsz, ?_⟩
    rw [← ht]
    simp [List.take_set]
theorem u8_small {n : Nat} (h : n ≤ 255) : bv (UInt8.ofNat n) = .int .u8 (n : Int) := by
  unfold bv
  rw [UInt8.toNat_ofNat', Nat.mod_eq_of_lt (by omega)]
theorem holds_behind {w : World} {B g k m : Nat} {xs pre ys : List Value} (hce : ∀ j u, xs[j]? = some u → w.cell? ⟨g, j, none⟩ = some u) (hx : xs = pre ++ ys) (hk : pre.length = k) (hm : ys.length = m) (hg : g < B) : Holds w B 1 (some ⟨g, k, none⟩) m ys := by
  refine ⟨by omega, fun _ => ⟨g, k, rfl, hg, fun j u hu => hce (k + j) u ?_⟩⟩
  rw [hx, List.getElem?_append_right (by omega), hk, Nat.add_sub_cancel_left]
  exact hu
theorem set_flag (p : List UInt8) (a : UInt8) : ((p ++ [a, 0]).map bv).set (p.length + 1) (.int .u8 1) = (p ++ [a, 1]).map bv := by
  have e : p.length + 1 = (p.map bv ++ [bv a]).length := by simp
  have e1 : (p ++ [a, 0]).map bv = (p.map bv ++ [bv a]) ++ [bv 0] := by simp
  have e2 : (p ++ [a, 1]).map bv = (p.map bv ++ [bv a]) ++ [bv 1] := by simp
  rw [e1, e2, e, List.set_append_right _ _ (Nat.le_refl _)]
  simp; rfl
set_option maxHeartbeats 1000000 in
theorem appendFrame_no (v : Value) (p : List UInt8) (B : Nat) (Ar : Option Addr) (cr : Nat) (r : List UInt8) (w : World) (hown : Own w B v p) (hB : B ≤ w.heap.size)
    (hr : Holds w B 1 Ar r.length (r.map bv)) (hA : Ar = none → cr = 0) (hr2 : r.length ≤ 60) (hp : p.length ≤ 100000) :
    Calls Try.prog 24 #[v, .slice Ar r.length cr, .bool false] w fun e w' => ∃ v', e = .returned v' ∧ Own w' B v' (p ++ frm 0 r) ∧ Below B w w' := by
  obtain ⟨A, c, rfl, hAc⟩ := own_form hown
  obtain ⟨i0, hi0, hz0, hz1, hz2⟩ := info_parts info_u8
  have hcs : #[Value.int .u8 (r.length : Int), .int .u8 0] = ([UInt8.ofNat r.length, 0].map bv).toArray := by
    simp [u8_small (show r.length ≤ 255 by omega)]; rfl
  have hlen1 : p.length + ([UInt8.ofNat r.length, (0 : UInt8)] : List UInt8).length ≤ 1048576 := by simp; omega
  have hlen2 : p.length + 2 + r.length ≤ 1048576 := by omega
  have Hcs := Lib.hid hcs
  have Hown := Lib.hid hown
  have Hr := Lib.hid hr
  clear hcs hown hr
  go_enter Try.func24, Try.ntmps24
  go_wp2_with (first
    | (at_builtin; refine wpList_put (by rfl) _ _ (by rfl) B _ p [UInt8.ofNat r.length, 0] _ Hcs.out (by rfl) Hown.out _ (by rfl) _ (by rfl) (by rfl) hlen1 hB ?_; clear Hcs; intro v1 w1 ho1 hf1; have ho1' : w1.ownsRow B 5 1 v1 (p.length + 2) ((p ++ [UInt8.ofNat r.length, 0]).map bv) := (by simpa [Own] using ho1); obtain ⟨g1, c1, rfl, hg1, hc1, hfz1, hce1⟩ := own_place ho1' (by omega); have ho2 := ho1'; have hb2 : Below B w w1 := hf1.1; have hl2 := hf1.1.size; have Hr2 := Lib.hid (Hr.out.below hb2); have Ho2 := Lib.hid ho2; have Hb2 := Lib.hid hb2; clear ho2 hb2 ho1 ho1' hf1 hfz1 hce1)
    | (at_builtin; go_loud (refine wpList_append_all w1 (by rfl) _ _ 23 (by rfl) B 5 i0 _ 1 1 Try.underlying23 hi0 hz0 hz1 hz2 rfl (by decide) _ _ _ (by rfl) Ho2.out B Ar r.length cr (r.map bv) (by rfl) hA Hr2.out (bv_one _) hlen2 (by decide) (Nat.le_trans hB hl2) ?_); clear Hr2; intro v3 w3 ho3 hg3 _; have hl3' := hg3.size; obtain ⟨g3, c3, rfl, hg3a, hc3, _, hce3⟩ := own_place ho3 (by omega); have Hb3 := Lib.hid (Hb2.out.grown hg3 (Nat.le_trans hB hl2) (fun k hk => (Ho2.out.lt k hk).1)); have Ho3 := Lib.hid ho3; have Hce3 := Lib.hid hce3; have hl3 := Nat.le_trans hl2 hg3.size; have hlt3 : g3 < w3.heap.size := (ho3.lt g3 rfl).2; clear ho3 hg3 hce3))
  have hin : List.map bv (p ++ [UInt8.ofNat r.length, 0]) ++ List.map bv r = p.map bv ++ ((UInt8.ofNat r.length :: 0 :: r).map bv) := by simp
  have hm3 : ((UInt8.ofNat r.length :: (0 : UInt8) :: r).map bv).length = p.length + 2 + r.length - p.length := by simp; omega
  refine (checksum_any _ _ _ (UInt8.ofNat r.length :: 0 :: r) w3 (holds_behind Hce3.out hin (by simp) hm3 hlt3) (by omega)).mono ?_
  rintro e w4 ⟨rfl, hb4⟩
  have hst := sums_lt (UInt8.ofNat r.length :: 0 :: r)
  obtain ⟨x, hx⟩ : ∃ x, (sums (UInt8.ofNat r.length :: 0 :: r)).1 = x := ⟨_, rfl⟩
  obtain ⟨y, hy⟩ : ∃ y, (sums (UInt8.ofNat r.length :: 0 :: r)).2 = y := ⟨_, rfl⟩
  rw [hx, hy] at hst ⊢
  have Hx := Lib.hid hx
  have Hy := Lib.hid hy
  have Hb4 := Lib.hid hb4
  have hl4 := hb4.size
  have Ho4 := Lib.hid (wl_below Ho3.out hb4)
  clear hx hy hb4 hin hm3
  have hd : Holds (w4.alloc (.cells #[.int .u8 (x : Int), .int .u8 (y : Int)] 53)) (w4.heap.size + 1) 1 (some ⟨w4.heap.size, 0, none⟩) 2 ([UInt8.ofNat x, UInt8.ofNat y].map bv) := by
    refine ⟨rfl, fun _ => ⟨_, 0, rfl, by omega, fun j u hu => ?_⟩⟩
    rw [(Blk.new w4 53 _).cell, Nat.zero_add]
    simp only [List.map_cons, List.map_nil, u8_small (show x ≤ 255 by omega), u8_small (show y ≤ 255 by omega)] at hu
    simpa using hu
  have Hd := Lib.hid hd
  have hb5 : Below B w (w4.alloc (.cells #[.int .u8 (x : Int), .int .u8 (y : Int)] 53)) := (Hb3.out.trans (Hb4.out.mono (Nat.le_trans hB hl3))).alloc (by omega) _
  have Hb5 := Lib.hid hb5
  have hlen5 : p.length + 2 + r.length + 2 ≤ 1048576 := by omega
  have hB5 : B ≤ (w4.alloc (.cells #[.int .u8 (x : Int), .int .u8 (y : Int)] 53)).heap.size := Nat.le_trans hB hb5.size
  clear hd hb5
  go_wp2_with (at_builtin; refine wpList_append_all _ (by rfl) _ _ 23 (by rfl) B 5 i0 _ 1 1 Try.underlying23 hi0 hz0 hz1 hz2 rfl (by decide) _ _ _ (by rfl) (Ho4.out.alloc _) (w4.heap.size + 1) (some ⟨w4.heap.size, 0, none⟩) 2 2 _ (by rfl) (fun h => by cases h) Hd.out (bv_one _) hlen5 (by decide) hB5 ?_; clear Hd; intro v6 w6 ho6 hg6 _; have Hb6 := Lib.hid (Hb5.out.grown hg6 hB5 (fun k hk => (Ho4.out.lt k hk).1)); have Ho6 := Lib.hid ho6; clear ho6 hg6)
  go_ret
  refine ⟨_, rfl, ?_, Hb6.out⟩
  have h6 := Ho6.out
  have e : (List.map bv (p ++ [UInt8.ofNat r.length, 0]) ++ List.map bv r) ++ List.map bv [UInt8.ofNat x, UInt8.ofNat y] = List.map bv (p ++ frm 0 r) := by
    unfold frm
    simp only [Hx.out, Hy.out]
    simp
  rw [e] at h6
  unfold Own
  have e2 : (p ++ frm 0 r).length = p.length + 2 + r.length + 2 := by rw [List.length_append, frm_len]; omega
  rw [e2]
  exact h6
set_option maxHeartbeats 1000000 in
theorem appendFrame_yes (v : Value) (p : List UInt8) (B : Nat) (Ar : Option Addr) (cr : Nat) (r : List UInt8) (w : World) (hown : Own w B v p) (hB : B ≤ w.heap.size)
    (hr : Holds w B 1 Ar r.length (r.map bv)) (hA : Ar = none → cr = 0) (hr2 : r.length ≤ 60) (hp : p.length ≤ 100000) :
    Calls Try.prog 24 #[v, .slice Ar r.length cr, .bool true] w fun e w' => ∃ v', e = .returned v' ∧ Own w' B v' (p ++ frm 1 r) ∧ Below B w w' := by
  obtain ⟨A, c, rfl, hAc⟩ := own_form hown
  obtain ⟨i0, hi0, hz0, hz1, hz2⟩ := info_parts info_u8
  have hcs : #[Value.int .u8 (r.length : Int), .int .u8 0] = ([UInt8.ofNat r.length, 0].map bv).toArray := by
    simp [u8_small (show r.length ≤ 255 by omega)]; rfl
  have hlen1 : p.length + ([UInt8.ofNat r.length, (0 : UInt8)] : List UInt8).length ≤ 1048576 := by simp; omega
  have hlen2 : p.length + 2 + r.length ≤ 1048576 := by omega
  have Hcs := Lib.hid hcs
  have Hown := Lib.hid hown
  have Hr := Lib.hid hr
  clear hcs hown hr
  go_enter Try.func24, Try.ntmps24
  go_wp2_with (first
    | (at_builtin; refine wpList_put (by rfl) _ _ (by rfl) B _ p [UInt8.ofNat r.length, 0] _ Hcs.out (by rfl) Hown.out _ (by rfl) _ (by rfl) (by rfl) hlen1 hB ?_; clear Hcs; intro v1 w1 ho1 hf1; have ho1' : w1.ownsRow B 5 1 v1 (p.length + 2) ((p ++ [UInt8.ofNat r.length, 0]).map bv) := (by simpa [Own] using ho1); obtain ⟨g1, c1, rfl, hg1, hc1, hfz1, hce1⟩ := own_place ho1' (by omega); have hf := hfz1 (p.length + 1); have ho2 : (w1.setCell ⟨g1, p.length + 1, none⟩ (.int .u8 1)).ownsRow B 5 1 (.slice (some ⟨g1, 0, none⟩) (p.length + 2) c1) (p.length + 2) ((p ++ [UInt8.ofNat r.length, 1]).map bv) := (by have h := own_set1 (i := p.length + 1) ho1' (.int .u8 1); rw [set_flag p (UInt8.ofNat r.length)] at h; exact h); have hb2 : Below B w (w1.setCell ⟨g1, p.length + 1, none⟩ (.int .u8 1)) := hf1.1.setCell hg1 _; have hl2 : w.heap.size ≤ (w1.setCell ⟨g1, p.length + 1, none⟩ (.int .u8 1)).heap.size := (by simpa [World.setCell] using hf1.1.size); have hcx : w1.cell? ⟨g1, p.length + 1, none⟩ = some (.int .u8 0) := (by refine hce1 _ _ ?_; simp; rfl); have Hr2 := Lib.hid (Hr.out.below hb2); have Ho2 := Lib.hid ho2; have Hb2 := Lib.hid hb2; clear ho2 hb2 ho1 ho1' hf1 hfz1 hce1)
    | (at_builtin; go_loud (refine wpList_append_all (w1.setCell ⟨g1, p.length + 1, none⟩ (.int .u8 1)) (by rfl) _ _ 23 (by rfl) B 5 i0 _ 1 1 Try.underlying23 hi0 hz0 hz1 hz2 rfl (by decide) _ _ _ (by rfl) Ho2.out B Ar r.length cr (r.map bv) (by rfl) hA Hr2.out (bv_one _) hlen2 (by decide) (Nat.le_trans hB hl2) ?_); clear Hr2; intro v3 w3 ho3 hg3 _; have hl3' := hg3.size; obtain ⟨g3, c3, rfl, hg3a, hc3, _, hce3⟩ := own_place ho3 (by omega); have Hb3 := Lib.hid (Hb2.out.grown hg3 (Nat.le_trans hB hl2) (fun k hk => (Ho2.out.lt k hk).1)); have Ho3 := Lib.hid ho3; have Hce3 := Lib.hid hce3; have hl3 := Nat.le_trans hl2 hg3.size; have hlt3 : g3 < w3.heap.size := (ho3.lt g3 rfl).2; clear ho3 hg3 hce3))
  have hin : List.map bv (p ++ [UInt8.ofNat r.length, 1]) ++ List.map bv r = p.map bv ++ ((UInt8.ofNat r.length :: 1 :: r).map bv) := by simp
  have hm3 : ((UInt8.ofNat r.length :: (1 : UInt8) :: r).map bv).length = p.length + 2 + r.length - p.length := by simp; omega
  refine (checksum_any _ _ _ (UInt8.ofNat r.length :: 1 :: r) w3 (holds_behind Hce3.out hin (by simp) hm3 hlt3) (by omega)).mono ?_
  rintro e w4 ⟨rfl, hb4⟩
  have hst := sums_lt (UInt8.ofNat r.length :: 1 :: r)
  obtain ⟨x, hx⟩ : ∃ x, (sums (UInt8.ofNat r.length :: 1 :: r)).1 = x := ⟨_, rfl⟩
  obtain ⟨y, hy⟩ : ∃ y, (sums (UInt8.ofNat r.length :: 1 :: r)).2 = y := ⟨_, rfl⟩
  rw [hx, hy] at hst ⊢
  have Hx := Lib.hid hx
  have Hy := Lib.hid hy
  have Hb4 := Lib.hid hb4
  have hl4 := hb4.size
  have Ho4 := Lib.hid (wl_below Ho3.out hb4)
  clear hx hy hb4 hin hm3
  have hd : Holds (w4.alloc (.cells #[.int .u8 (x : Int), .int .u8 (y : Int)] 53)) (w4.heap.size + 1) 1 (some ⟨w4.heap.size, 0, none⟩) 2 ([UInt8.ofNat x, UInt8.ofNat y].map bv) := by
    refine ⟨rfl, fun _ => ⟨_, 0, rfl, by omega, fun j u hu => ?_⟩⟩
    rw [(Blk.new w4 53 _).cell, Nat.zero_add]
    simp only [List.map_cons, List.map_nil, u8_small (show x ≤ 255 by omega), u8_small (show y ≤ 255 by omega)] at hu
    simpa using hu
  have Hd := Lib.hid hd
  have hb5 : Below B w (w4.alloc (.cells #[.int .u8 (x : Int), .int .u8 (y : Int)] 53)) := (Hb3.out.trans (Hb4.out.mono (Nat.le_trans hB hl3))).alloc (by omega) _
  have Hb5 := Lib.hid hb5
  have hlen5 : p.length + 2 + r.length + 2 ≤ 1048576 := by omega
  have hB5 : B ≤ (w4.alloc (.cells #[.int .u8 (x : Int), .int .u8 (y : Int)] 53)).heap.size := Nat.le_trans hB hb5.size
  clear hd hb5
  go_wp2_with (at_builtin; refine wpList_append_all _ (by rfl) _ _ 23 (by rfl) B 5 i0 _ 1 1 Try.underlying23 hi0 hz0 hz1 hz2 rfl (by decide) _ _ _ (by rfl) (Ho4.out.alloc _) (w4.heap.size + 1) (some ⟨w4.heap.size, 0, none⟩) 2 2 _ (by rfl) (fun h => by cases h) Hd.out (bv_one _) hlen5 (by decide) hB5 ?_; clear Hd; intro v6 w6 ho6 hg6 _; have Hb6 := Lib.hid (Hb5.out.grown hg6 hB5 (fun k hk => (Ho4.out.lt k hk).1)); have Ho6 := Lib.hid ho6; clear ho6 hg6)
  go_ret
  refine ⟨_, rfl, ?_, Hb6.out⟩
  have h6 := Ho6.out
  have e : (List.map bv (p ++ [UInt8.ofNat r.length, 1]) ++ List.map bv r) ++ List.map bv [UInt8.ofNat x, UInt8.ofNat y] = List.map bv (p ++ frm 1 r) := by
    unfold frm
    simp only [Hx.out, Hy.out]
    simp
  rw [e] at h6
  unfold Own
  have e2 : (p ++ frm 1 r).length = p.length + 2 + r.length + 2 := by rw [List.length_append, frm_len]; omega
  rw [e2]
  exact h6
end Go.Proofs.Ytbdbcffnjibjoaa
