/- The message box: slices.DeleteFunc at messages, in a row of the call's own. -/
import Derived.Test.YtmlgaedhfannmaaBxMem
import Derived.Test.YtmlgaedhfannmaaInsLaws
import Derived.Test.YtmlgaedhfannmaaBunA
import Derived.BigQuiet
namespace Go.Proofs.Ytmlgaedhfannmaa
set_option linter.unusedVariables false
set_option linter.unusedSimpArgs false
open Go.RowKit
def keepM (s : Int) (m : Ml) : Bool := !decide (m.at_ ≤ s)
theorem over_take {R d : List Value} {o : Nat} (h : o ≤ R.length) : (overL R o d).take o = R.take o := by
  unfold overL
  rw [List.append_assoc, List.take_append_of_le_length (by simp; omega), List.take_take, Nat.min_self]
theorem own_cell1 {w : World} {base e size n c g i : Nat} {xs : List Value} (h : w.ownsRow base e size (.slice (some ⟨g, 0, none⟩) n c) n xs) (u : Value) :
    (w.setCell ⟨g, i, none⟩ u).ownsRow base e size (.slice (some ⟨g, 0, none⟩) n c) n (xs.set i u) := by
  refine ⟨by rw [List.length_set]; exact h.1, ?_⟩
  rcases h.2 with ⟨hv, _⟩ | ⟨g', cap, cur, hv, hb, hh, hnc, hm, hsz, ht⟩
  · injection hv with hv; cases hv
  · injection hv with hv1 _ hv3
    injection hv1 with hv1
    injection hv1 with hv1
    subst hv1 hv3
    refine .inr ⟨g, c, cur.setIfInBounds i u, rfl, hb, (show Blk w g e cur from hh).set_ i u, hnc, hm, by simpa using hsz, ?_⟩
    rw [← ht]
    simp [List.take_set]
theorem set_in {a b : List Value} {j : Nat} {u : Value} (k : Nat) (hk : a.length = k) : (a ++ b).set (k + j) u = a ++ b.set j u := by
  rw [List.set_append_right _ _ (by omega), hk, Nat.add_sub_cancel_left]
theorem pcM_set : ∀ (dk : List Ml) (i : Nat) (_ : i < dk.length) (x : Ml), (((pcK mlL dk).set (i * 3) (.int .i64 x.at_)).set (i * 3 + 1) (str x.frm)).set (i * 3 + 2) (str x.body) = pcK mlL (dk.set i x)
  | [], i, h, _ => by simp at h
  | y :: l, 0, _, x => by simp [pcK_cons, mlL]
  | y :: l, i + 1, h, x => by
    have ih := pcM_set l i (by simpa using h) x
    rw [List.set_cons_succ, pcK_cons, pcK_cons, ← ih, show (i + 1) * 3 = 3 + i * 3 by omega, set_in 3 rfl, show 3 + i * 3 + 1 = 3 + (i * 3 + 1) by omega, set_in 3 rfl, show 3 + i * 3 + 2 = 3 + (i * 3 + 2) by omega, set_in 3 rfl]
theorem own_setM {w : World} {base e n c g i : Nat} {dk : List Ml} (h : w.ownsRow base e 3 (.slice (some ⟨g, 0, none⟩) n c) n (pcK mlL dk)) (hi : i < dk.length) (x : Ml) :
    (((w.setCell ⟨g, i * 3, none⟩ (.int .i64 x.at_)).setCell ⟨g, i * 3 + 1, none⟩ (str x.frm)).setCell ⟨g, i * 3 + 2, none⟩ (str x.body)).ownsRow base e 3 (.slice (some ⟨g, 0, none⟩) n c) n (pcK mlL (dk.set i x)) := by
  rw [← pcM_set dk i hi x]
  exact own_cell1 (own_cell1 (own_cell1 h _) _) _
/-- A row of the call's own is a block that is known whole. -/
theorem own_blk {w : World} {base e size n c : Nat} {A : Option Addr} {xs : List Value} (h : w.ownsRow base e size (.slice A n c) n xs) (hn : 0 < n) : ∃ (g : Nat) (cur : Array Value), A = some ⟨g, 0, none⟩ ∧ base ≤ g ∧ Blk w g e cur ∧ n ≤ c ∧ c ≤ maxLen ∧ cur.size = c * size ∧ cur.toList.take (n * size) = xs := by
  rcases h.2 with ⟨hv, h0⟩ | ⟨g, cap, cur, hv, hb, hh, hnc, hm, hsz, ht⟩
  · omega
  · injection hv with hv1 _ hv3
    subst hv1 hv3
    exact ⟨g, cur, rfl, hb, hh, hnc, hm, hsz, ht⟩
def zM : Array Value := (Value.agg #[.int .i64 0, .string ⟨#[]⟩, .string ⟨#[]⟩]).cells
theorem zM_eq : zM = #[.int .i64 0, .string ⟨#[]⟩, .string ⟨#[]⟩] := by kernel_rfl
theorem zerosM_len (m : Nat) : (Builtin.zeroCells zM m).toList.length = m * 3 := by unfold Builtin.zeroCells; simp [zM_eq]
theorem zerosM_one (m : Nat) : ∀ v ∈ (Builtin.zeroCells zM m).toList, v.oneCell' = true := by
  intro v hv
  unfold Builtin.zeroCells at hv
  rw [Array.mem_toList_iff, Array.mem_map] at hv
  obtain ⟨i, _, rfl⟩ := hv
  rw [zM_eq]
  show (#[Value.int .i64 0, .string ⟨#[]⟩, .string ⟨#[]⟩][i % 3]!).oneCell' = true
  have h3 : i % 3 < 3 := Nat.mod_lt _ (by decide)
  rcases (by omega : i % 3 = 0 ∨ i % 3 = 1 ∨ i % 3 = 2) with h | h | h <;> rw [h] <;> rfl
theorem run_clear_mails (W : World) (ty : TypeId) (b o m c : Nat) (hc : ∀ j, j < m * 3 → (W.cell? ⟨b, o + j, none⟩).isSome = true) (hf : ∀ j, j < m * 3 → W.frozen? ⟨b, o + j, none⟩ = false) :
    (Builtin.clear_ #[77] ty #[.slice (some ⟨b, o, none⟩) m c]).run Try.prog W = .ok (.tuple #[]) (W.setCells b o (Builtin.zeroCells zM m).toList) := by
  have hst := run_storeCells_cells (P := Try.prog) b o (Builtin.zeroCells zM m).toList 0 W (by rw [zerosM_len]; simpa using hc) (by rw [zerosM_len]; simpa using hf) (zerosM_one m)
  simp only [Nat.add_zero] at hst
  have hz : (zeroValue 115).run Try.prog W = .ok (.agg #[.int .i64 0, .string ⟨#[]⟩, .string ⟨#[]⟩]) W := by kernel_rfl
  cases m with
  | zero => simp [Builtin.clear_, run_underlying Try.underlying77, Builtin.zeroCells, World.setCells]
  | succ m =>
    unfold zM at hst ⊢
    simp [Builtin.clear_, run_underlying Try.underlying77, hz, hst]
/-- The closure of fetch. -/
theorem old_any (m : Ml) (s : Int) (g : Nat) (w : World) (c0 : w.cell? ⟨g, 0, none⟩ = some (.int .i64 s)) (hg : g < w.heap.size) :
    Calls Try.prog 136 #[.agg #[.int .i64 m.at_, str m.frm, str m.body], .pointer (some ⟨g, 0, none⟩)] w fun e w' => e = .returned (.bool (decide (m.at_ ≤ s))) ∧ Below w.heap.size w w' := by
  obtain ⟨ma, mf, mb⟩ := m
  simp only
  have Hb := Lib.hid ((Below.refl _ w).alloc (Nat.le_refl _) (.cells #[.int .i64 ma, str mf, str mb] 115))
  go_enter Try.func136, Try.ntmps136
  go_wp2_with fail
  go_ret
  exact ⟨rfl, Hb.out⟩
def IfD (w : World) (l : List Ml) (s : Int) (n : Nat) (gk : Nat) (vi : Value) (wr : World) : Prop :=
  ∃ k : Nat, vi = .int .i64 (k : Int) ∧ k ≤ n ∧ gk = n - k ∧ (l.take k).filter (keepM s) = l.take k ∧ Below w.heap.size w wr
set_option maxHeartbeats 1000000 in
theorem indexD_any (A : Option Addr) (n c B : Nat) (l : List Ml) (s : Int) (g : Nat) (w : World) (hl : LIn mlL 3 w B A n c l) (hB : B ≤ w.heap.size) (hn : n ≤ 9223372036854775807)
    (c0 : w.cell? ⟨g, 0, none⟩ = some (.int .i64 s)) (hg : g < w.heap.size) :
    Calls Try.prog 165 #[.slice A n c, .func (.func 136) #[] #[.pointer (some ⟨g, 0, none⟩)]] w fun e w' =>
      (e = .returned (.int .i64 (-1)) ∧ l.filter (keepM s) = l ∨ ∃ i : Nat, e = .returned (.int .i64 (i : Int)) ∧ i < n ∧ (l.take (i + 1)).filter (keepM s) = l.take i) ∧ Below w.heap.size w w' := by
  have Hln := Lib.hid hl.1
  have Hl := Lib.hid hl
  clear hl
  go_enter Try.func165, Try.ntmps165
  go_wp2
  go_loopg [8] n (IfD w l s n)
  case atStart => exact ⟨0, rfl, Nat.zero_le _, by omega, rfl, Below.refl _ _⟩
  case round =>
    obtain ⟨k, rfl, hk, hgk, hall, hbe⟩ := hrel
    have Hgk := Lib.hid hgk
    have Hall := Lib.hid hall
    have Hbe := Lib.hid hbe
    have hszw := hbe.size
    have d0 := (hbe.cell (p := ⟨g, 0, none⟩) hg).trans c0
    clear hgk hall hbe
    by_cases hkn : k < n
    · have hkl : k < l.length := by rw [Hln.out]; exact hkn
      obtain ⟨b, off, hA, hbB, e0, e1, e2⟩ := ml_at (Hl.out.below (Hbe.out.mono hB)) hkl
      subst hA
      have H1 := Lib.hid (old_any l[k] s g wr d0 (by omega))
      have Ht := Lib.hid (show (l.take (k + 1)).filter (keepM s) = l.take k ++ (if keepM s l[k] then [l[k]] else []) by
        rw [List.take_succ_eq_append_getElem hkl, List.filter_append, Hall.out]
        cases h : keepM s l[k] <;> simp [h])
      have Hs := Lib.hid (List.take_succ_eq_append_getElem hkl)
      obtain ⟨r, hr⟩ : ∃ r, decide (l[k].at_ ≤ s) = r := ⟨_, rfl⟩
      have hr2 : keepM s l[k] = !r := by unfold keepM; rw [hr]
      rw [hr] at H1
      rw [hr2] at Ht
      clear hr hr2
      generalize l[k] = q at *
      have hi1 : (k : Int) < (n : Int) := by omega
      cases hb : r
      · rw [hb] at Ht H1
        have Ht2 : Hid ((l.take (k + 1)).filter (keepM s) = l.take (k + 1)) := Lib.hid (by rw [Ht.out, Hs.out]; simp)
        clear hb Ht Hs
        go_wp2_with fail
        refine H1.out.mono ?_
        rintro e w1 ⟨rfl, hb1⟩
        have Hb1 := Lib.hid (Hbe.out.trans (hb1.mono hszw))
        clear hb1 H1
        go_wp2
        go_roundg (n - (k + 1))
        case measure => have := Hgk.out; omega
        case rel => exact ⟨k + 1, by go_num, by omega, rfl, Ht2.out, Hb1.out⟩
      · rw [hb] at Ht H1
        have Ht2 : Hid ((l.take (k + 1)).filter (keepM s) = l.take k) := Lib.hid (by rw [Ht.out]; simp)
        clear hb Ht Hs
        go_wp2_with fail
        refine H1.out.mono ?_
        rintro e w1 ⟨rfl, hb1⟩
        have Hb1 := Lib.hid (Hbe.out.trans (hb1.mono hszw))
        clear hb1 H1
        go_wp2
        go_ret
        exact ⟨.inr ⟨k, rfl, hkn, Ht2.out⟩, Hb1.out⟩
    · have hkn' : k = l.length := by have := Hln.out; omega
      have HG := Lib.hid (show l.filter (keepM s) = l by
        have := Hall.out
        rw [hkn', List.take_length] at this
        exact this)
      clear hkn'
      go_wp2
      go_ret
      exact ⟨.inl ⟨rfl, HG.out⟩, Hbe.out⟩
def DelR (w : World) (l : List Ml) (s : Int) (base n c g : Nat) (gk : Nat) (s5 s6 : Value) (wr : World) : Prop :=
  ∃ (i j : Nat) (dk : List Ml), s5 = .int .i64 (i : Int) ∧ s6 = .int .i64 (j : Int) ∧ i < j ∧ j ≤ n ∧ n - j ≤ gk ∧ dk.length = n ∧ dk.take i = (l.take j).filter (keepM s) ∧ dk.drop j = l.drop j ∧
    wr.ownsRow base 115 3 (.slice (some ⟨g, 0, none⟩) n c) n (pcK mlL dk) ∧ w.grownBy wr (some g)
def DelPost (base n c : Nat) (A : Option Addr) (l : List Ml) (s : Int) (w : World) (e : Ending) (w' : World) : Prop :=
  ∃ m, m = (l.filter (keepM s)).length ∧ e = .returned (.slice A m c) ∧ w'.ownsRow base 115 3 (.slice A m c) m (pcK mlL (l.filter (keepM s))) ∧ w.grownBy w' (.slice A n c : Value).ownBlock
set_option maxHeartbeats 2000000 in
set_option maxRecDepth 100000 in
theorem delM_any (base n c : Nat) (A : Option Addr) (l : List Ml) (s : Int) (gs : Nat) (w : World) (hown : w.ownsRow base 115 3 (.slice A n c) n (pcK mlL l)) (hln : l.length = n) (hn : n ≤ 1048576)
    (c0 : w.cell? ⟨gs, 0, none⟩ = some (.int .i64 s)) (hgs : gs < w.heap.size) (hga : (Value.slice A n c).ownBlock ≠ some gs) :
    Calls Try.prog 135 #[.slice A n c, .func (.func 136) #[] #[.pointer (some ⟨gs, 0, none⟩)]] w (DelPost base n c A l s w) := by
  have hli : LIn mlL 3 w w.heap.size A n c l := by
    have h2 := hown
    rw [← hln] at h2
    obtain ⟨A2, c2, h3, h4⟩ := LIn.own mlL_len h2
    injection h3 with e1 _ e3
    subst e1 e3
    rw [hln] at h4
    exact h4
  have HI := Lib.hid (indexD_any A n c w.heap.size l s gs w hli (Nat.le_refl _) (by omega) c0 hgs)
  have Hown := Lib.hid hown
  clear hli hown
  go_enter Try.func135, Try.ntmps135
  go_wp2_with fail
  refine HI.out.mono ?_
  rintro e w1 ⟨⟨rfl, hf⟩ | ⟨i, rfl, hin, hf⟩, hb1⟩
  · have ho1 := own_below Hown.out hb1
    have Hb1 := Lib.hid (only_below hb1 (Value.slice A n c).ownBlock)
    have Ho1 := Lib.hid ho1
    have Hf := Lib.hid hf
    clear hb1 ho1 hf HI
    go_wp2_with fail
    go_ret
    exact ⟨n, by rw [Hf.out]; exact hln.symm, rfl, by rw [Hf.out]; exact Ho1.out, Hb1.out⟩
  · obtain ⟨g, cur, rfl, hbg, hblk, hnc, hcm, hcs, htk⟩ := own_blk Hown.out (by omega)
    have hgg : g ≠ gs := fun e => hga (by rw [e]; rfl)
    have Hgrow1 := Lib.hid (only_below hb1 (some g))
    have Ho1 := Lib.hid (own_below Hown.out hb1)
    have Hf := Lib.hid hf
    have hs1 := hb1.size
    clear hblk hcs htk hf HI hga hb1
    have hi0 : ((i : Int) == -1) = false := beq_eq_false_iff_ne.2 (by omega)
    go_wp2_with fail
    go_loopg [5, 6] n (DelR w l s base n c g)
    case atStart => exact ⟨i, i + 1, l, rfl, by go_num, by omega, by omega, by omega, hln, Hf.out.symm, rfl, Ho1.out, Hgrow1.out⟩
    case round =>
      clear Hf Ho1 Hgrow1
      obtain ⟨i, j, dk, rfl, rfl, hij, hjn, hgk, hdl, hdt, hdd, ho, hg⟩ := hrel
      have hsz := hg.size
      have d0 : wr.cell? ⟨gs, 0, none⟩ = some (.int .i64 s) := (World.cell?_of_block (hg.block gs hgs (by intro e; injection e with e; exact hgg e.symm))).trans c0
      obtain ⟨g2, cur, hA2, -, hblk, -, -, hcs, htk⟩ := own_blk ho (by omega)
      injection hA2 with hA2
      injection hA2 with hA2
      subst hA2
      have hcl : ∀ k u, (pcK mlL dk)[k]? = some u → wr.cell? ⟨g, k, none⟩ = some u := fun k u hu => by
        rw [hblk.cell k]
        rw [← htk, List.getElem?_take] at hu
        split at hu
        · simpa using hu
        · cases hu
      have Hgk := Lib.hid hgk
      have Hdl := Lib.hid hdl
      have Hdt := Lib.hid hdt
      have Hdd := Lib.hid hdd
      have Ho := Lib.hid ho
      have Hg := Lib.hid hg
      have Hblk := Lib.hid hblk
      have Hcs := Lib.hid hcs
      have Htk := Lib.hid htk
      have hgw := hblk.lt
      clear hgk hdl hdt hdd ho hg hcs htk
      by_cases hj : j < n
      · have hjl : j < l.length := by omega
        have hjd : j < dk.length := by rw [Hdl.out]; exact hj
        have hid : i < dk.length := by rw [Hdl.out]; omega
        have hdj : dk[j] = l[j] := by
          have h1 : (dk.drop j)[0]? = (l.drop j)[0]? := by rw [Hdd.out]
          rw [List.getElem?_drop, List.getElem?_drop, Nat.add_zero, List.getElem?_eq_getElem hjd, List.getElem?_eq_getElem hjl] at h1
          exact Option.some.inj h1
        have e0 : wr.cell? ⟨g, j * 3, none⟩ = some (.int .i64 l[j].at_) := by rw [← hdj]; exact hcl _ _ (pcK_at (enc := mlL) mlL_len hjd (j := 0) (by omega))
        have e1 : wr.cell? ⟨g, j * 3 + 1, none⟩ = some (str l[j].frm) := by rw [← hdj]; exact hcl _ _ (pcK_at (enc := mlL) mlL_len hjd (j := 1) (by omega))
        have e2 : wr.cell? ⟨g, j * 3 + 2, none⟩ = some (str l[j].body) := by rw [← hdj]; exact hcl _ _ (pcK_at (enc := mlL) mlL_len hjd (j := 2) (by omega))
        have Ht := Lib.hid (show (l.take (j + 1)).filter (keepM s) = dk.take i ++ (if keepM s l[j] then [l[j]] else []) by
          rw [List.take_succ_eq_append_getElem hjl, List.filter_append, Hdt.out]
          cases h : keepM s l[j] <;> simp [h])
        have Hd2 := Lib.hid (show dk.drop (j + 1) = l.drop (j + 1) by
          have h1 := congrArg (List.drop 1) Hdd.out
          simpa [List.drop_drop, Nat.add_comm] using h1)
        obtain ⟨W, hW⟩ : ∃ W, wr.alloc (.cells #[.int .i64 l[j].at_, str l[j].frm, str l[j].body] 115) = W := ⟨_, rfl⟩
        have hWB := Blk.new wr 115 #[.int .i64 l[j].at_, str l[j].frm, str l[j].body]
        have hWb : Below wr.heap.size wr W := by rw [← hW]; exact (Below.refl _ _).alloc (Nat.le_refl _) _
        rw [hW] at hWB
        have x0 : W.cell? ⟨wr.heap.size, 0, none⟩ = some (.int .i64 l[j].at_) := hWB.cell 0
        have x1 : W.cell? ⟨wr.heap.size, 1, none⟩ = some (str l[j].frm) := hWB.cell 1
        have x2 : W.cell? ⟨wr.heap.size, 2, none⟩ = some (str l[j].body) := hWB.cell 2
        have hWl := hWB.lt
        have H1 := Lib.hid (old_any l[j] s gs W ((hWb.cell (p := ⟨gs, 0, none⟩) (by show gs < _; omega)).trans d0) (by omega))
        have HoW := Lib.hid (own_below Ho.out hWb)
        have HgW := Lib.hid (only_trans Hg.out (only_below hWb (some g)))
        obtain ⟨r, hr⟩ : ∃ r, decide (l[j].at_ ≤ s) = r := ⟨_, rfl⟩
        have hr2 : keepM s l[j] = !r := by unfold keepM; rw [hr]
        rw [hr] at H1
        rw [hr2] at Ht
        have hi1 : (j : Int) < (n : Int) := by omega
        have hi2 : (i : Int) < (n : Int) := by omega
        have hbw : g < wr.heap.size := hgw
        clear hr hr2 hcl hdj hWB hblk
        generalize l[j] = q at *
        cases hb : r
        · rw [hb] at Ht H1
          clear hb
          go_wp2_with fail
          refine H1.out.mono ?_
          rintro e w2 ⟨rfl, hb2⟩
          have y0 := (hb2.cell (p := ⟨wr.heap.size, 0, none⟩) hWl).trans x0
          have y1 := (hb2.cell (p := ⟨wr.heap.size, 1, none⟩) hWl).trans x1
          have y2 := (hb2.cell (p := ⟨wr.heap.size, 2, none⟩) hWl).trans x2
          have ho2 := own_below HoW.out hb2
          have hg2 := only_trans HgW.out (only_below hb2 (some g))
          obtain ⟨g2, cur2, hA2, -, hblk2, -, -, hcs2, -⟩ := own_blk ho2 (by omega)
          injection hA2 with hA2
          injection hA2 with hA2
          subst hA2
          have hin3 : i * 3 + 2 < cur2.size := by rw [hcs2]; omega
          have z0 : ∃ u, w2.cell? ⟨g, i * 3, none⟩ = some u := ⟨_, (hblk2.cell _).trans (Array.getElem?_eq_getElem (by omega))⟩
          have z1 : ∃ u, w2.cell? ⟨g, i * 3 + 1, none⟩ = some u := ⟨_, (hblk2.cell _).trans (Array.getElem?_eq_getElem (by omega))⟩
          have z2 : ∃ u, w2.cell? ⟨g, i * 3 + 2, none⟩ = some u := ⟨_, (hblk2.cell _).trans (Array.getElem?_eq_getElem (by omega))⟩
          obtain ⟨u0, z0⟩ := z0
          obtain ⟨u1, z1⟩ := z1
          obtain ⟨u2, z2⟩ := z2
          have f0 := hblk2.frozen (i * 3)
          have f1 := hblk2.frozen (i * 3 + 1)
          have f2 := hblk2.frozen (i * 3 + 2)
          have Hos := Lib.hid (own_setM ho2 hid q)
          have Hgs := Lib.hid (only_setCell (only_setCell (only_setCell hg2 (p := ⟨g, i * 3, none⟩) (.inl rfl) (.int .i64 q.at_)) (p := ⟨g, i * 3 + 1, none⟩) (.inl rfl) (str q.frm)) (p := ⟨g, i * 3 + 2, none⟩) (.inl rfl) (str q.body))
          have hgw2 := hblk2.lt
          have hww2 : wr.heap.size < w2.heap.size := Nat.lt_of_lt_of_le hWl hb2.size
          have Hts := Lib.hid (show (dk.set i q).take (i + 1) = (l.take (j + 1)).filter (keepM s) by
            rw [Ht.out, List.take_succ_eq_append_getElem (by rw [List.length_set]; exact hid), List.take_set, List.getElem_set_self, List.set_eq_of_length_le (by rw [List.length_take]; exact Nat.min_le_left _ _)]
            simp)
          have Hds := Lib.hid (show (dk.set i q).drop (j + 1) = l.drop (j + 1) by rw [List.drop_set_of_lt (by omega)]; exact Hd2.out)
          have Hls : Hid ((dk.set i q).length = n) := Lib.hid (by rw [List.length_set]; exact Hdl.out)
          clear hb2 ho2 hg2 hblk2 hcs2 hin3 H1
          go_wp2_with fail
          go_roundg (n - (j + 1))
          case measure => have := Hgk.out; omega
          case rel => exact ⟨i + 1, j + 1, dk.set i q, by go_num, by go_num, by omega, by omega, Nat.le_refl _, Hls.out, Hts.out, Hds.out, Hos.out, Hgs.out⟩
        · rw [hb] at Ht H1
          clear hb
          go_wp2_with fail
          refine H1.out.mono ?_
          rintro e w2 ⟨rfl, hb2⟩
          have Ho2 := Lib.hid (own_below HoW.out hb2)
          have Hg2 := Lib.hid (only_trans HgW.out (only_below hb2 (some g)))
          have Ht2 : Hid (dk.take i = (l.take (j + 1)).filter (keepM s)) := Lib.hid (by rw [Ht.out]; simp)
          clear hb2 H1
          go_wp2_with fail
          go_roundg (n - (j + 1))
          case measure => have := Hgk.out; omega
          case rel => exact ⟨i, j + 1, dk, rfl, by go_num, by omega, by omega, Nat.le_refl _, Hdl.out, Ht2.out, Hd2.out, Ho2.out, Hg2.out⟩
      · obtain rfl : j = n := by omega
        have hi1 : ¬ (j : Int) < (j : Int) := by omega
        have Hfl : Hid (dk.take i = l.filter (keepM s)) := Lib.hid (by rw [Hdt.out, List.take_of_length_le (by omega)])
        have hfl2 : (l.filter (keepM s)).length = i := by rw [← Hfl.out, List.length_take, Hdl.out]; omega
        obtain ⟨i0, hi0, hz0, hzs, hzb⟩ := info_parts info_mail
        have s1 := fun W => run_cut_l (P := Try.prog) W 77 115 i0 Try.underlying77 hi0 (some ⟨g, 0, none⟩) j c .i64 (i : Int) i rfl (by omega)
        have hcz : cutAt (some ⟨g, 0, none⟩) c i 3 = some ⟨g, i * 3, none⟩ := by unfold cutAt; rw [if_neg (by omega)]; simp [plus_addr]
        rw [hzs, hcz] at s1
        have s2 := fun W => run_cut_h (P := Try.prog) W 77 115 i0 Try.underlying77 hi0 (some ⟨g, 0, none⟩) j c .i64 (i : Int) i rfl (by omega)
        have HR := fun ty => run_clear_mails wr ty g (i * 3) (j - i) (c - i) (fun k hk => by rw [hblk.cell, Array.getElem?_eq_getElem (by rw [Hcs.out]; omega)]; rfl) (fun k _ => hblk.frozen _)
        have hzl := zerosM_len (j - i)
        generalize (Builtin.zeroCells zM (j - i)).toList = zs at *
        have hb2 := Blk.setCells (w := wr) zs (i * 3) hblk (by rw [hzl, Hcs.out]; omega)
        have Hrow := Lib.hid (show (wr.setCells g (i * 3) zs).ownsRow base 115 3 (.slice (some ⟨g, 0, none⟩) i c) i (pcK mlL (l.filter (keepM s))) from by
          refine ⟨by rw [pcK_len mlL_len, hfl2], .inr ⟨g, c, _, rfl, hbg, hb2, by omega, hcm, ?_, ?_⟩⟩
          · rw [List.size_toArray, overL_len (by rw [hzl, Array.length_toList, Hcs.out]; omega), Array.length_toList, Hcs.out]
          · rw [List.toList_toArray, over_take (by rw [Array.length_toList, Hcs.out]; omega), ← Hfl.out, ← pcK_take mlL_len, ← Htk.out, List.take_take, Nat.min_eq_left (by omega)])
        have Hgz := Lib.hid (only_setCells zs (i * 3) Hg.out)
        have Hl2 := Lib.hid hfl2
        clear hcz hb2 hzl hcl hfl2 hzs hzb hz0 hi0 hblk
        have HR2 := HR 0
        go_wp2_with fail
        go_ret
        exact ⟨i, Hl2.out.symm, rfl, Hrow.out, Hgz.out⟩
end Go.Proofs.Ytmlgaedhfannmaa
