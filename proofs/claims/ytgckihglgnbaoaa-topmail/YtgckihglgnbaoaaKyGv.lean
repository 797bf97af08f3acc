/- One-time keys: replaceSpare and giveAway. -/
import Derived.Test.YtgckihglgnbaoaaKyLv
import Derived.Test.YtgckihglgnbaoaaBunKA
namespace Go.Proofs.Ytgckihglgnbaoaa
set_option linter.unusedVariables false
set_option linter.unusedSimpArgs false
open Go.RowKit
attribute [local go_sem high] str_mk
theorem ret_k2 {fn : Func} {R : Ending → World → Prop} {a : Act} {W : World} {g : Nat} {s1 s2 : Tmp} {b x0 x1 x2 : Value}
    (hf : fn.results = #[.cell s1 79, .tmp s2]) (h1 : a.tmps.getD s1 undef = .pointer (some ⟨g, 0, none⟩)) (h2 : a.tmps.getD s2 undef = b)
    (hb : Blk W g 79 #[x0, x1, x2]) (hd : a.defers = []) (hR : R (.returned (.tuple #[.agg #[x0, x1, x2], b])) W) : bodyPost Try.prog fn R .ret a W := by
  refine bodyPost_ret ?_ hd hR
  have c0 := hb.cell 0
  have c1 := hb.cell 1
  have c2 := hb.cell 2
  simp only [Array.getD_eq_getD_getElem?] at h1 h2
  simp [results, hf, h1, h2, go_sem, c0, c1, c2]
theorem ky_set3 {w : World} {g : Nat} {t : TypeId} {a0 a1 a2 : Value} (h : Blk w g t #[a0, a1, a2]) (b0 b1 b2 : Value) :
    Blk (((w.setCell ⟨g, 0, none⟩ b0).setCell ⟨g, 1, none⟩ b1).setCell ⟨g, 2, none⟩ b2) g t #[b0, b1, b2] := ((h.set_ 0 b0).set_ 1 b1).set_ 2 b2
theorem ky_below3 {a w : World} {B g' : Nat} (h : Below B a w) (hg : B ≤ g') (b0 b1 b2 : Value) :
    Below B a (((w.setCell ⟨g', 0, none⟩ b0).setCell ⟨g', 1, none⟩ b1).setCell ⟨g', 2, none⟩ b2) := ((h.setCell hg _).setCell hg _).setCell hg _
/-- Stores into a block that is new since w. -/
theorem beside_set3 {N : Nat → Prop} {a w : World} {g : Nat} (h : Beside N a w) (hg : a.heap.size ≤ g) (b0 b1 b2 : Value) :
    Beside N a (((w.setCell ⟨g, 0, none⟩ b0).setCell ⟨g, 1, none⟩ b1).setCell ⟨g, 2, none⟩ b2) :=
  ⟨h.os, h.tape, h.output, by simp [World.setCell]; exact h.size, fun k hk hn => by
    rw [Below.heap_setCell _ _ _ _ (by simp; omega), Below.heap_setCell _ _ _ _ (by simp; omega), Below.heap_setCell _ _ _ _ (by simp; omega)]
    exact h.block k hk hn⟩
theorem KsIn.set3 {w : World} {h : Nat} {s : Ks} (k : KsIn w h s) {g : Nat} (hg : h + 4 < g) (b0 b1 b2 : Value) :
    KsIn (((w.setCell ⟨g, 0, none⟩ b0).setCell ⟨g, 1, none⟩ b1).setCell ⟨g, 2, none⟩ b2) h s :=
  k.below (B := h + 5) (ky_below3 (Below.refl _ _) (by omega) _ _ _) (by omega)
def GPost (h : Nat) (X : Kv × Int × Ks) (w : World) (e : Ending) (w' : World) : Prop :=
  e = .returned (.tuple #[.agg #[str X.1.id, str X.1.body, .bool X.1.spare], .int .i64 X.2.1]) ∧ KsIn w' h X.2.2 ∧ Beside (Four h) w w'
theorem look_sp {w : World} {h : Nat} {s : Ks} (k : KsIn w h s) {S : List UInt8} (hn : okS S) (c : Bool) : (Instr.lookup 74 (.map (some (h + 2))) (str S) c).run Try.prog w = .ok (lookV evK (evK kv0) c (getA s.sp S)) w :=
  k.sp.look keyS Try.underlying74 (ky_zeroK w) hn c
theorem look_up1 {w : World} {h : Nat} {s : Ks} (k : KsIn w h s) {n : KNm} (hn : okN n) : (Instr.lookup 72 (.map (some h)) (ekN n) false).run Try.prog w = .ok (str ((getA s.up n).getD [])) w := by
  rw [look_up k hn false]
  cases getA s.up n <;> rfl
theorem four_up {h : Nat} {w w' : World} {i : Nat} (hb : Beside (fun k => k = i) w w') (h1 : h ≤ i) (h2 : i < h + 4) : Beside (Four h) w w' := hb.mono fun k _ hk => by subst hk; exact ⟨h1, h2⟩
set_option maxHeartbeats 4000000 in
set_option maxRecDepth 100000 in
theorem spare_any (a : Ak) (s : Ks) (h : Nat) (w : World) (hk : KsIn w h s) (hg : Gl w) (ha : AkOk a) :
    Calls Try.prog 34 #[.pointer (some ⟨h + 4, 0, none⟩), .agg #[.int .i64 a.kind, str a.sort, str a.id, str a.body, .int .i64 a.by_]] w (KPost h (spareR s a.sort a.id a.body) w) := by
  obtain ⟨hl1, hl2, _, _⟩ := ha.old
  have hn : okS a.sort := show a.sort.length ≤ maxLen by omega
  obtain ⟨W, hW⟩ : ∃ W, w.alloc (.cells #[.int .i64 a.kind, str a.sort, str a.id, str a.body, .int .i64 a.by_] 55) = W := ⟨_, rfl⟩
  have hWB := Blk.new w 55 #[.int .i64 a.kind, str a.sort, str a.id, str a.body, .int .i64 a.by_]
  have hWb : Below w.heap.size w W := by rw [← hW]; exact (Below.refl _ _).alloc (Nat.le_refl _) _
  rw [hW] at hWB
  have x1 : W.cell? ⟨w.heap.size, 1, none⟩ = some (str a.sort) := hWB.cell 1
  have x2 : W.cell? ⟨w.heap.size, 2, none⟩ = some (str a.id) := hWB.cell 2
  have HC := Lib.hid (checkName_any a.sort a.id W (hg.below hWb) (by omega))
  have HE := Lib.hid (show spareR s a.sort a.id a.body = (if nameR a.sort a.id ≠ 0 then (nameR a.sort a.id, s) else (0, { s with sp := putA s.sp a.sort ⟨a.id, a.body, true⟩ })) from rfl)
  have Hk := Lib.hid hk
  have HWb := Lib.hid hWb
  have Hn := Lib.hid hn
  have HWB := Lib.hid hWB
  have hwl : w.heap.size < W.heap.size := hWB.lt
  clear hk hWb hWB hn hg
  obtain ⟨kd, S, I, B, by_⟩ := a
  simp only at *
  generalize spareR s S I B = R at *
  generalize nameR S I = r at *
  go_enter Try.func34, Try.ntmps34
  go_wp2_with fail
  refine HC.out.mono ?_
  rintro e w1 ⟨rfl, hb1⟩
  have hbw1 : Below w.heap.size w w1 := below_tail HWb.out hb1 HWb.out.size
  have hB1 := (hb1.block _ hwl).trans HWB.out
  have y1 : w1.cell? ⟨w.heap.size, 1, none⟩ = some (str S) := Blk.cell (w := w1) hB1 1
  have y2 : w1.cell? ⟨w.heap.size, 2, none⟩ = some (str I) := Blk.cell (w := w1) hB1 2
  have y3 : w1.cell? ⟨w.heap.size, 3, none⟩ = some (str B) := Blk.cell (w := w1) hB1 3
  have hk1 := Hk.out.below' hbw1
  have y4 : w1.cell? ⟨h + 4, 2, none⟩ = some (.map (some (h + 2))) := hk1.box.cell 2
  have hh4 : h + 4 < w1.heap.size := hk1.lt
  have Hbw1 := Lib.hid hbw1
  have Hk1 := Lib.hid hk1
  clear hb1 hB1 hbw1 hk1 HC x1 x2
  by_cases hr : r = 0
  · subst hr
    have HR := Lib.hid (HE.out.trans (if_neg (by simp)))
    clear HE
    go_wp2_with fail
    go_still_tail 11, (by kernel_rfl)
    change wpList _ _ _ _ _ w1.drew
    have hd : Below w1.heap.size w1 w1.drew := below_drewN (Below.refl _ _) 1
    have Hk1d := Lib.hid (Hk1.out.below' hd)
    have Hbd := Lib.hid (below_tail Hbw1.out hd Hbw1.out.size)
    clear hd y1 y2 y3 y4
    generalize w1.drew = w5 at *
    go_wp2_with (first
      | (at_mapUpdate; refine wpList_mapUpdate_it rfl _ _ _ _ rfl keyS Try.underlying74 rfl Hk1d.out.sp S ⟨I, B, true⟩ rfl rfl Hn.out ?_; intro w6 hm6 hb6 hs6)
      | fail)
    go_ret
    rw [HR.out]
    exact ⟨rfl, Hk1d.out.put_sp hm6 hb6, (Beside.of_below Hbd.out).trans (four_up hb6 (by omega) (by omega))⟩
  · have HR := Lib.hid (HE.out.trans (if_pos hr))
    clear HE
    go_wp2_with fail
    go_ret
    rw [HR.out]
    exact ⟨rfl, Hk1.out, Beside.of_below Hbw1.out⟩
set_option maxHeartbeats 4000000 in
set_option maxRecDepth 100000 in
theorem give_any (S : List UInt8) (s : Ks) (h : Nat) (w : World) (hk : KsIn w h s) (hup : s.up.length ≤ 1000) (hS : S.length ≤ maxLen) :
    Calls Try.prog 44 #[.pointer (some ⟨h + 4, 0, none⟩), str S] w (GPost h (giveR s S) w) := by
  have hwh := hk.lt
  obtain ⟨W, hW⟩ : ∃ W, w.alloc (.cells #[str [], str [], .bool false] 79) = W := ⟨_, rfl⟩
  have hWB := Blk.new w 79 #[str [], str [], .bool false]
  have hWb : Below w.heap.size w W := by rw [← hW]; exact (Below.refl _ _).alloc (Nat.le_refl _) _
  rw [hW] at hWB
  have HC := Lib.hid (left_ok S s h W (hk.below' hWb) hup)
  have HE := Lib.hid (give_cases s S)
  have Hk := Lib.hid hk
  have HWb := Lib.hid hWb
  have HWB := Lib.hid hWB
  have hwl : w.heap.size < W.heap.size := hWB.lt
  clear hk hWb hWB
  generalize giveR s S = R at *
  go_enter Try.func44, Try.ntmps44
  go_wp2_with fail
  refine HC.out.mono ?_
  rintro e w2 ⟨v, rfl, ho, hb2⟩
  have hbw2 : Below w.heap.size w w2 := below_tail HWb.out hb2 HWb.out.size
  have hB2 : Blk w2 w.heap.size 79 #[str [], str [], .bool false] := (hb2.block _ hwl).trans HWB.out
  have f0 := hB2.frozen 0
  have f1 := hB2.frozen 1
  have f2 := hB2.frozen 2
  have c0 : w2.cell? ⟨w.heap.size, 0, none⟩ = some (str []) := hB2.cell 0
  have c1 : w2.cell? ⟨w.heap.size, 1, none⟩ = some (str []) := hB2.cell 1
  have c2 : w2.cell? ⟨w.heap.size, 2, none⟩ = some (.bool false) := hB2.cell 2
  have hk2 := Hk.out.below' hbw2
  have hw2 : w.heap.size < w2.heap.size := Nat.lt_of_lt_of_le hwl hb2.size
  have Hbw2 := Lib.hid hbw2
  have HB2 := Lib.hid hB2
  have Hk2 := Lib.hid hk2
  rcases HE.out with ⟨n, r, hL, hR⟩ | ⟨hL, k, hsp, hR⟩ | ⟨hL, hsp, hR⟩
  · rw [hL] at ho
    obtain ⟨ho1, ho2⟩ := ho
    rcases ho2 with ⟨_, h0⟩ | ⟨g, cap, cur, rfl, hbg, hh, hnc, hcm, hcs, htk⟩
    · cases h0
    have hnk : okN n := by
      have hmem := (head_left hL).1
      obtain ⟨p, hp, e⟩ := List.mem_map.1 hmem
      rw [← e]
      exact hk2.up.oks p hp
    have hB : Blk w2 g 96 cur := hh
    have hcell : ∀ j, j < 2 → w2.cell? ⟨g, j, none⟩ = (pcN (n :: r))[j]? := fun j hj => by
      rw [hB.cell, ← htk, List.getElem?_take, if_pos (by simp; omega)]
      simp
    have d0 : w2.cell? ⟨g, 0, none⟩ = some (str n.1) := hcell 0 (by omega)
    have d1 : w2.cell? ⟨g, 1, none⟩ = some (str n.2) := hcell 1 (by omega)
    have hlen : (n :: r).length = r.length + 1 := rfl
    rw [hlen] at htk hnc ⊢
    obtain ⟨m, hm⟩ : ∃ m, r.length + 1 = m := ⟨_, rfl⟩
    have hmi : (0 : Int) < (m : Int) := by omega
    rw [hm]
    have Hnk := Lib.hid hnk
    have HL := Lib.hid hL
    have HR := Lib.hid hR
    have hgw : g < w2.heap.size := hB.lt
    obtain ⟨W3, hW3⟩ : ∃ W3, w2.alloc (.cells #[str n.1, str n.2] 96) = W3 := ⟨_, rfl⟩
    have hWB3 := Blk.new w2 96 #[str n.1, str n.2]
    have hWb3 : Below w2.heap.size w2 W3 := by rw [← hW3]; exact (Below.refl _ _).alloc (Nat.le_refl _) _
    rw [hW3] at hWB3
    have hk3 := hk2.below' hWb3
    have z0 : W3.cell? ⟨w2.heap.size, 0, none⟩ = some (str n.1) := hWB3.cell 0
    have z1 : W3.cell? ⟨w2.heap.size, 1, none⟩ = some (str n.2) := hWB3.cell 1
    have z4 : W3.cell? ⟨h + 4, 1, none⟩ = some (.map (some (h + 1))) := hk3.box.cell 1
    have hw3 : w2.heap.size < W3.heap.size := hWB3.lt
    have HWB3 := Lib.hid hWB3
    have HWb3 := Lib.hid hWb3
    have Hk3 := Lib.hid hk3
    clear ho1 hB hcell hlen hcs htk hnc hm hnk hL hR hWB3 hWb3 hk3 hk2 hb2 hbw2 hB2 HE HC hh
    go_wp2_with fail
    go_still_tail 5, (by kernel_rfl)
    change wpList _ _ _ _ _ W3.drew
    have hd : Below W3.heap.size W3 W3.drew := below_drewN (Below.refl _ _) 1
    have Hk3d := Lib.hid (Hk3.out.below' hd)
    have Hbd := Lib.hid (below_tail HWb3.out hd HWb3.out.size)
    have HB3d := Lib.hid ((hd.block _ hw3).trans HWB3.out)
    have hsz : W3.drew.heap.size = W3.heap.size := rfl
    clear hd z0 z1 z4
    generalize W3.drew = w5 at *
    go_wp2_with (first
      | (at_mapUpdate; refine wpList_mapUpdate_it (ek := ekN) (ev := Value.bool) rfl _ _ _ _ rfl keyN Try.underlying73 rfl Hk3d.out.gv n true rfl rfl Hnk.out ?_; intro w6 hm6 hb6 hs6)
      | fail)
    have hk6 := Hk3d.out.put_gv hm6 hb6
    have hb36 : Beside (Four h) w w6 := ((Beside.of_below Hbw2.out).trans (Beside.of_below Hbd.out)).trans (four_up hb6 (by omega) (by omega))
    have hB6 : Blk w6 w2.heap.size 96 #[str n.1, str n.2] := (hb6.block _ (by omega) (by omega)).trans HB3d.out
    have hR6 : Blk w6 w.heap.size 79 #[str [], str [], .bool false] := (hb6.block _ (by omega) (by omega)).trans ((Hbd.out.block _ hw2).trans HB2.out)
    have z0 : w6.cell? ⟨w2.heap.size, 0, none⟩ = some (str n.1) := hB6.cell 0
    have z1 : w6.cell? ⟨w2.heap.size, 1, none⟩ = some (str n.2) := hB6.cell 1
    have z4 : w6.cell? ⟨h + 4, 0, none⟩ = some (.map (some h)) := hk6.box.cell 0
    have hh6 : h + 4 < w6.heap.size := hk6.lt
    have HLk : (Instr.lookup 72 (.map (some h)) (.agg #[str n.1, str n.2]) false).run Try.prog w6 = .ok (str ((getA s.up n).getD [])) w6 := look_up1 hk6 Hnk.out
    have HLq : (Instr.lookup 72 (.map (some h)) (.agg #[str n.1, str n.2]) false).run Try.prog w6.drew = .ok (str ((getA s.up n).getD [])) w6.drew :=
      look_up1 (hk6.below (B := w6.heap.size) (below_drewN (Below.refl _ _) 1) hh6) Hnk.out
    obtain ⟨bd, hbd⟩ : ∃ bd, (getA s.up n).getD [] = bd := ⟨_, rfl⟩
    rw [hbd] at HLk
    rw [hbd] at HLq
    have HR2 := Lib.hid (show R = (⟨n.2, bd, false⟩, 0, { s with gv := putA s.gv n true }) by rw [HR.out, hbd])
    have Hk6 := Lib.hid hk6
    have Hb36 := Lib.hid hb36
    have HR6 := Lib.hid hR6
    have hw6 : w.heap.size < w6.heap.size := by omega
    clear hbd hk6 hb36 hB6 hR6 HR c0 c1 c2 f0 f1 f2 d0 d1
    go_still_tail 9, (by kernel_rfl)
    change wpList _ _ _ _ _ w6.drew
    have hd : Below w6.heap.size w6 w6.drew := below_drewN (Below.refl _ _) 1
    have Hk6d := Lib.hid (Hk6.out.below' hd)
    have Hb6d := Lib.hid (Hb36.out.trans (Beside.of_below hd))
    have hR6d := (hd.block _ hw6).trans HR6.out
    have hsz6 : w6.drew.heap.size = w6.heap.size := rfl
    clear hd z0 z1 z4 HLk HLq
    generalize w6.drew = w7 at *
    have hR7 : Blk w7 w.heap.size 79 #[str [], str [], .bool false] := hR6d
    have c0 : w7.cell? ⟨w.heap.size, 0, none⟩ = some (str []) := hR7.cell 0
    have c1 : w7.cell? ⟨w.heap.size, 1, none⟩ = some (str []) := hR7.cell 1
    have c2 : w7.cell? ⟨w.heap.size, 2, none⟩ = some (.bool false) := hR7.cell 2
    have f0 := hR7.frozen 0
    have f1 := hR7.frozen 1
    have f2 := hR7.frozen 2
    go_wp2_with fail
    refine ret_k2 (by rfl) (by rfl) (by rfl) (ky_set3 hR7 _ _ _) (by rfl) ?_
    rw [HR2.out]
    exact ⟨rfl, Hk6d.out.set3 hwh _ _ _, beside_set3 Hb6d.out (Nat.le_refl _) _ _ _⟩
  · have HR := Lib.hid hR
    rw [hL] at ho
    have ho' : w2.ownsRow W.heap.size 96 2 v 0 (pcN []) := ho
    obtain ⟨A, c, rfl, -⟩ := own_form ho'
    have z4 : w2.cell? ⟨h + 4, 2, none⟩ = some (.map (some (h + 2))) := hk2.box.cell 2
    have hh2 : h + 4 < w2.heap.size := hk2.lt
    have HLs := look_sp hk2 (show okS S from hS) true
    rw [hsp] at HLs
    unfold lookV evK at HLs
    simp only [if_true] at HLs
    clear ho ho' hk2 hb2 hbw2 hB2 HE HC hR
    go_wp2_with fail
    refine ret_k2 (by rfl) (by rfl) (by rfl) ((ky_set3 HB2.out _ _ _).alloc _) (by rfl) ?_
    rw [HR.out]
    exact ⟨rfl, (Hk2.out.set3 hwh _ _ _).below' ((Below.refl _ _).alloc (Nat.le_refl _) _), (beside_set3 (Beside.of_below Hbw2.out) (Nat.le_refl _) _ _ _).alloc _⟩
  · have HR := Lib.hid hR
    rw [hL] at ho
    have ho' : w2.ownsRow W.heap.size 96 2 v 0 (pcN []) := ho
    obtain ⟨A, c, rfl, -⟩ := own_form ho'
    have z4 : w2.cell? ⟨h + 4, 2, none⟩ = some (.map (some (h + 2))) := hk2.box.cell 2
    have hh2 : h + 4 < w2.heap.size := hk2.lt
    have HLs := look_sp hk2 (show okS S from hS) true
    rw [hsp] at HLs
    unfold lookV evK kv0 at HLs
    simp only [if_true] at HLs
    clear ho ho' hk2 hb2 hbw2 hB2 HE HC hR
    go_wp2_with fail
    refine ret_k2 (by rfl) (by rfl) (by rfl) ((ky_set3 HB2.out _ _ _).alloc _) (by rfl) ?_
    rw [HR.out]
    exact ⟨rfl, (Hk2.out.set3 hwh _ _ _).below' ((Below.refl _ _).alloc (Nat.le_refl _) _), (beside_set3 (Beside.of_below Hbw2.out) (Nat.le_refl _) _ _ _).alloc _⟩
end Go.Proofs.Ytgckihglgnbaoaa
