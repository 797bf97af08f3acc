/- The store: apply. -/
import Derived.Test.YtmlgaedhfannmaaBunSG
import Derived.Test.YtmlgaedhfannmaaBunSA
import Derived.Test.YtmlgaedhfannmaaRwSet
import Derived.Test.YtmlgaedhfannmaaBunWC
namespace Go.Proofs.Ytmlgaedhfannmaa
set_option linter.unusedVariables false
set_option linter.unusedSimpArgs false
open Go.RowKit Go.Shelf
attribute [local go_sem] Oper.semAt_some
def optT : Option (List Rw) → List Rw × Int
  | none => ([], 4)
  | some t => (t, 0)
/-- What it returns: a list of rows, somewhere. -/
def RowsPost (lo : Nat) (X : List Rw × Int) (w : World) (e : Ending) (w' : World) : Prop :=
  ∃ (A : Option Addr) (c : Nat), e = .returned (.tuple #[.slice A X.1.length c, .int .i64 X.2]) ∧ RInS w' (fun b => lo ≤ b) A X.1.length c X.1 ∧ Below w.heap.size w w'
def ApR (W0 : World) (bs : List (List UInt8)) (n : Nat) (gk : Nat) (s6 s15 : Value) (wr : World) : Prop :=
  ∃ k : Nat, s15 = .int .i64 (k : Int) ∧ k ≤ n ∧ gk = n - k ∧ goodBs (bs.take k) = true ∧ wr.ownsRow W0.heap.size 51 2 s6 k (pcR ((bs.take k).map chgF)) ∧ Below W0.heap.size W0 wr
theorem goodBs_no {bs : List (List UInt8)} {k : Nat} (hk : k < bs.length) (h : (chgOf bs[k]).isSome = false) (t : List Rw) : applyR t bs = none := by
  unfold applyR
  rw [if_neg]
  intro hg
  have := List.all_eq_true.1 hg _ (List.getElem_mem hk)
  rw [h] at this; cases this
theorem goodBs_yes {bs : List (List UInt8)} {k : Nat} (hk : k < bs.length) (hg : goodBs (bs.take k) = true) (h : (chgOf bs[k]).isSome = true) : goodBs (bs.take (k + 1)) = true := by
  rw [List.take_succ_eq_append_getElem hk]
  unfold goodBs at *
  rw [List.all_append, hg]; simp [h]
theorem ret_ap {fn : Func} {a : Act} {W : World} {s1 s2 : Tmp} {g1 g2 : Nat} {x0 x1 : Value}
    (hf : fn.results = #[.cell s1 52, .cell s2 26]) (h1 : a.tmps.getD s1 undef = .pointer (some ⟨g1, 0, none⟩)) (h2 : a.tmps.getD s2 undef = .pointer (some ⟨g2, 0, none⟩))
    (c0 : W.cell? ⟨g1, 0, none⟩ = some x0) (c1 : W.cell? ⟨g2, 0, none⟩ = some x1) : (results fn a.tmps).run Try.prog W = .ok (.tuple #[x0, x1]) W := by
  simp only [Array.getD_eq_getD_getElem?] at h1 h2
  simp [results, hf, h1, h2, go_sem, c0, c1]
set_option maxHeartbeats 4000000 in
set_option maxRecDepth 100000 in
theorem apply_any (lo : Nat) (A A' : Option Addr) (n c n' c' B B' : Nat) (t : List Rw) (bs : List (List UInt8)) (cs : List Value) (w : World) (hl : RInS w (fun b => lo ≤ b ∧ b < B) A n c t) (hB : B ≤ w.heap.size) (hlo : lo ≤ w.heap.size) (ht : Fit t)
    (hh : HoldsS w (lowB B') 1 A' n' cs) (ha : Ats (In1 w (lowB B')) bs cs) (hB' : B' ≤ w.heap.size) (hn : n' = bs.length) (hn3 : n' ≤ 1000) (hok : ∀ b ∈ bs, okRec b) :
    Calls Try.prog 127 #[.slice A n c, .slice A' n' c'] w (RowsPost lo (optT (applyR t bs)) w) := by
  refine (callsIn_wide (n := 3)).1 (callsIn_of_wp_marks Try.func127 rfl trivial ?_ rfl)
  simp only [Try.ntmps127, List.size_toArray, List.length_cons, List.length_nil, Nat.reduceAdd, Nat.reduceSub, Array.replicate_succ, Array.replicate_zero, List.push_toArray, List.append_toArray, List.nil_append, List.cons_append]
  refine wpIn_wide.2 ?_
  have Hh := Lib.hid hh
  have Ha := Lib.hid ha
  have Hn := Lib.hid hn
  have Hok := Lib.hid hok
  have Hl := Lib.hid hl
  have Ht := Lib.hid ht
  clear hh ha hn hok hl ht
  go_wp2_with fail
  have b0 := Boxed.new w 52 (.slice A n c)
  have b1 := Boxed.new (w.alloc (.cells #[.slice A n c] 52)) 52 (.slice none 0 0)
  have b2 := Boxed.new ((w.alloc (.cells #[.slice A n c] 52)).alloc (.cells #[.slice none 0 0] 52)) 26 (.int .i64 0)
  have hb0 : Below w.heap.size w (((w.alloc (.cells #[.slice A n c] 52)).alloc (.cells #[.slice none 0 0] 52)).alloc (.cells #[.int .i64 0] 26)) := (((Below.refl _ w).alloc (Nat.le_refl _) _).alloc (by simp) _).alloc (by simp; omega) _
  simp only [World.size_alloc] at b1 b2
  replace b0 := (b0.alloc (.cells #[.slice none 0 0] 52)).alloc (.cells #[.int .i64 0] 26)
  replace b1 := b1.alloc (.cells #[.int .i64 0] 26)
  have hz : (((w.alloc (.cells #[.slice A n c] 52)).alloc (.cells #[.slice none 0 0] 52)).alloc (.cells #[.int .i64 0] 26)).heap.size = w.heap.size + 3 := by simp
  generalize (((w.alloc (.cells #[.slice A n c] 52)).alloc (.cells #[.slice none 0 0] 52)).alloc (.cells #[.int .i64 0] 26)) = W0 at *
  have H0 := Lib.hid b0
  have H1 := Lib.hid b1
  have H2 := Lib.hid b2
  have Hb0 := Lib.hid hb0
  clear b0 b1 b2 hb0
  go_loopg [6, 15] n' (ApR W0 bs n')
  case atStart => exact ⟨0, rfl, Nat.zero_le _, by omega, rfl, World.ownsRow_nil _ _ _ _, Below.refl _ _⟩
  case round =>
    obtain ⟨k, rfl, hk, hgk, hgb, ho, hbe⟩ := hrel
    have Hgk := Lib.hid hgk
    have Hgb := Lib.hid hgb
    have Ho := Lib.hid ho
    have Hbe := Lib.hid hbe
    have hszw := hbe.size
    have hkeep : ∀ p : Addr, lowB B' p.block → wr.cell? p = w.cell? p := fun p hp => ((Hbe.out.cell (p := p) (by have : p.block < B' := hp; omega)).trans (Hb0.out.cell (p := p) (by have : p.block < B' := hp; omega)))
    clear hgk hgb ho hbe
    by_cases hkn : k < n'
    · have hkl : k < bs.length := by have := Hn.out; omega
      have hh2 : HoldsS wr (lowB B') 1 A' n' cs := Hh.out.kept hkeep
      have ha2 : Ats (In1 wr (lowB B')) bs cs := stays1.ats Ha.out hkeep (fun _ h => h)
      obtain ⟨b, off, u, hA', hbb, hc1, A1, c1, hu, hc2, hA1, hr1⟩ := InL.at_ hh2 ha2 hkn Hn.out
      subst hA' hu
      have hrec := Hok.out bs[k] (List.getElem_mem hkl)
      have HC := Lib.hid (stChange_any A1 bs[k].length c1 bs[k] wr (Holds.wider (show Holds wr B' 1 A1 _ _ from hr1) (by omega)) hc2 (by have := hrec.2; omega) (by have := hrec.1; omega))
      have Hno := Lib.hid (fun h => goodBs_no hkl h t)
      have Hyes := Lib.hid (fun h => goodBs_yes hkl Hgb.out h)
      have HT := Lib.hid (show (bs.take (k + 1)).map chgF = (bs.take k).map chgF ++ [chgF bs[k]] by rw [List.take_succ_eq_append_getElem hkl, List.map_append]; rfl)
      generalize bs[k].length = q at *
      generalize bs[k] = x at *
      generalize chgF x = r at *
      obtain ⟨rk, rv⟩ := r
      simp only at HC
      have hkn' : (k : Int) < (n' : Int) := by omega
      have hbw : b < wr.heap.size := by omega
      clear hh2 ha2 hkeep hr1 hrec hc2 hA1
      cases hs : (chgOf x).isSome
      · have HE := Lib.hid (Hno.out hs)
        rw [hs] at HC
        clear hs Hyes HT
        go_wp2_with fail
        refine HC.out.mono ?_
        rintro e w1 ⟨rfl, hb1⟩
        have hbw1 := (Hbe.out.trans (hb1.mono hszw)).alloc (by have := (Hbe.out.trans (hb1.mono hszw)).size; omega) (.cells #[str rk, str rv] 51)
        have k1 : Boxed (w1.alloc (.cells #[str rk, str rv] 51)) (w.heap.size + 1) 52 (.slice none 0 0) := (hbw1.block _ (by omega)).trans H1.out
        have k2 : Boxed (w1.alloc (.cells #[str rk, str rv] 51)) (w.heap.size + 1 + 1) 26 (.int .i64 0) := (hbw1.block _ (by omega)).trans H2.out
        have c1 := k1.cell
        have c2 := k2.cell
        have f1 := k1.frozen
        have f2 := k2.frozen
        have K1 := Lib.hid k1
        have K2 := Lib.hid k2
        have Hbw1 := Lib.hid (Hb0.out.trans (hbw1.mono (by omega)))
        clear hbw1 k1 k2 hb1 HC
        go_wp2_with fail
        have kk1 := (K1.out.set (.slice none 0 0)).other (show w.heap.size + 1 ≠ w.heap.size + 1 + 1 by omega) (.int .i64 4)
        have kk2 := (K2.out.other (show w.heap.size + 1 + 1 ≠ w.heap.size + 1 by omega) (.slice none 0 0)).set (.int .i64 4)
        refine ⟨_, ret_ap rfl rfl rfl kk1.cell kk2.cell, ?_⟩
        rw [HE.out]
        exact ⟨none, 0, rfl, ⟨rfl, Nat.le_refl _, fun _ => rfl, HoldsS.nil⟩, (Hbw1.out.setCell (p := ⟨w.heap.size + 1, 0, none⟩) (by simp) _).setCell (p := ⟨w.heap.size + 1 + 1, 0, none⟩) (by simp; omega) _⟩
      · have Hyes2 := Lib.hid (Hyes.out hs)
        rw [hs] at HC
        clear hs Hno Hyes
        go_wp2_with fail
        refine HC.out.mono ?_
        rintro e w1 ⟨rfl, hb1⟩
        have hbe1 := Hbe.out.trans (hb1.mono hszw)
        have hs1 := hbe1.size
        obtain ⟨W2, hW2⟩ : ∃ W2, w1.alloc (.cells #[str rk, str rv] 51) = W2 := ⟨_, rfl⟩
        have hB2 := Blk.new w1 51 #[str rk, str rv]
        rw [hW2] at hB2
        have hb2 : Below w1.heap.size w1 W2 := by rw [← hW2]; exact (Below.refl _ _).alloc (Nat.le_refl _) _
        have y0 : W2.cell? ⟨w1.heap.size, 0, none⟩ = some (str rk) := hB2.cell 0
        have y1 : W2.cell? ⟨w1.heap.size, 1, none⟩ = some (str rv) := hB2.cell 1
        have ho2 := rowR_below (rowR_below Ho.out hb1) hb2
        have hbe2 := hbe1.trans (hb2.mono hs1)
        obtain ⟨v', wf, hrun, ho', hg'⟩ := run_app_row W2 W0.heap.size k u6 _ ⟨rk, rv⟩ ho2 (by omega) hbe2.size
        rw [← HT.out] at ho'
        have Hrun := Lib.hid hrun
        have Ho' := Lib.hid ho'
        have Hb' := Lib.hid (below_own (hbe2.alloc hbe2.size _) hg' (ho2.alloc _) (Nat.le_refl _) (by have := hbe2.size; simp; omega))
        clear hrun ho' hg' ho2 hbe2 hb2 hB2 hbe1 hb1 HC Ho HT
        go_wp2_with (first | (at_builtin; refine rw_app rfl _ _ _ rfl _ _ (by rfl) (by rfl) Hrun.out ?_; clear Hrun) | fail)
        go_roundg (n' - (k + 1))
        case measure => have := Hgk.out; omega
        case rel => exact ⟨k + 1, by go_num, by omega, rfl, Hyes2.out, Ho'.out, Hb'.out⟩
    · have hke : k = bs.length := by have := Hn.out; omega
      have hgb := Hgb.out
      have ho := Ho.out
      rw [hke, List.take_length] at hgb ho
      rw [← hke] at ho
      obtain ⟨A6, c6, rfl, hin6⟩ := RIn.own ho
      have hlm : (bs.map chgF).length = k := by rw [List.length_map, hke]
      have HS := Lib.hid (settled_any A6 k c6 wr.heap.size (bs.map chgF) wr hin6 (Nat.le_refl _) (by omega))
      have hsl := settled_len (bs.map chgF)
      rw [hlm] at hsl
      have Hgb2 := Lib.hid hgb
      obtain ⟨m, hm⟩ : ∃ m, (settledR (bs.map chgF)).length = m := ⟨_, rfl⟩
      rw [hm] at HS hsl
      have Hm := Lib.hid hm
      clear hke hgb ho hin6 hlm Ho Hgb hm hkeep Hgk
      have hkn' : ¬ (k : Int) < (n' : Int) := by omega
      go_wp2_with fail
      refine HS.out.mono ?_
      rintro e w1 ⟨v1, rfl, ho1, hb1⟩
      obtain ⟨A1, c1, rfl, hin1⟩ := RIn.own ho1
      have hmc := hin1.2.1
      obtain ⟨_, _, e1, hrs⟩ := RInS.row ho1
      injection e1 with e11 _ e13
      subst e11 e13
      have Hin1 := Lib.hid hrs
      have Hb1 := Lib.hid (Hbe.out.trans (hb1.mono hszw))
      have HC := Lib.hid (chunk_any A1 m c1 w1)
      have hs1 := hb1.size
      clear ho1 hin1 hb1 HS Hbe hrs
      go_wp2_with fail
      refine HC.out.mono ?_
      rintro e w2 ⟨rfl, hw2⟩
      clear HC
      go_wp2_with fail
      rw [← hw2]
      have hws : w2.heap.size = w1.heap.size + 1 + 1 := by rw [hw2]; simp
      have hbs : w2.cell? ⟨w1.heap.size, 0, none⟩ = some (.slice A1 m c1) := by rw [hw2]; exact cell_alloc_sl _ (cell_new_sl w1 _ _)
      have hbn : w2.cell? ⟨w1.heap.size + 1, 0, none⟩ = some (.int .i64 60) := by
        rw [hw2]
        have := cell_new_sl (w1.alloc (.cells #[.slice A1 m c1] 52)) (.int .i64 60) 3
        rwa [World.size_alloc] at this
      have hb12 : Below w1.heap.size w1 w2 := by rw [hw2]; exact ((Below.refl _ _).alloc (Nat.le_refl _) _).alloc (by simp) _
      have hbw2 := Lib.hid (Hb1.out.trans (hb12.mono (by omega)))
      have Hin2 := Lib.hid ((Hin1.out.below hb12).mono (S' := fun b => w.heap.size + 3 ≤ b) (fun b _ hb => by omega))
      have K0 := Lib.hid ((hbw2.out.block w.heap.size (by omega)).trans H0.out : Boxed w2 w.heap.size 52 (.slice A n c))
      have K1 := Lib.hid ((hbw2.out.block (w.heap.size + 1) (by omega)).trans H1.out : Boxed w2 (w.heap.size + 1) 52 (.slice none 0 0))
      have K2 := Lib.hid ((hbw2.out.block (w.heap.size + 1 + 1) (by omega)).trans H2.out : Boxed w2 (w.heap.size + 1 + 1) 26 (.int .i64 0))
      have Hbw := Lib.hid (Hb0.out.trans (hbw2.out.mono (by omega)))
      have Hlt := Lib.hid (show RInS w2 (fun b => (lo ≤ b ∧ b < w.heap.size) ∨ w.heap.size + 3 ≤ b) A n c t from (RInS.below Hl.out Hbw.out).mono fun b _ hb => .inl ⟨hb.1, by omega⟩)
      clear hw2 hb12 Hb1 Hin1 hbw2
      refine (wpIn_wide (n := 3)).1 ?_
      refine wpIn_rangeFunc_ownG (F := Fence.wide) (n := 3) rfl (by omega) (gf := 172) (lb := #[.pointer (some ⟨w1.heap.size, 0, none⟩), .pointer (some ⟨w1.heap.size + 1, 0, none⟩)]) rfl trivial (enters_of Try.func172 (by kernel_rfl) rfl)
        (chunk_stops Fence.wide 2 trivial rfl (by omega) w1.heap.size (w1.heap.size + 1) A1 m c1 (by omega) hmc w2 hbs hbn) kc_t (kc_b (by omega) (by omega)) (Below.refl _ _) (fun _ => rfl)
        (fun pre W => ∃ t' At ct, ckFold (settledR (bs.map chgF)) t pre = some t' ∧ Fit t' ∧ Boxed W w.heap.size 52 (.slice At t'.length ct) ∧ RInS W (fun b => (lo ≤ b ∧ b < w.heap.size) ∨ w.heap.size + 3 ≤ b) At t'.length ct t' ∧
          Boxed W (w.heap.size + 1) 52 (.slice none 0 0) ∧ Boxed W (w.heap.size + 1 + 1) 26 (.int .i64 0) ∧ RInS W (fun b => w.heap.size + 3 ≤ b) A1 m c1 (settledR (bs.map chgF)) ∧ w2.heap.size ≤ W.heap.size ∧ Below w.heap.size w W)
        (fun cd pre W => cd = .ret ∧ ckFold (settledR (bs.map chgF)) t pre = none ∧ Boxed W (w.heap.size + 1) 52 (.slice none 0 0) ∧ Boxed W (w.heap.size + 1 + 1) 26 (.int .i64 4) ∧ Below w.heap.size w W)
        ?hI ?hIx ?h0 (fun x => { tmps := #[.slice A n c, .slice A' n' c', .pointer (some ⟨w.heap.size, 0, none⟩), undef, .pointer (some ⟨w.heap.size + 1, 0, none⟩), .pointer (some ⟨w.heap.size + 1 + 1, 0, none⟩), .slice A6 k c6, undef, u8, u9, u10, (.slice (cutAt A1 x.1.2 x.1.1 2) (x.1.2 - x.1.1) (x.1.2 - x.1.1)), undef, .slice A' n' c', .int .i64 (n' : Int), .int .i64 (k : Int), .bool false, u17, u18, u19, u20, u21, u22, u23, u24, u25, u26, u27, u28, u29, u30, .slice A6 k c6, .slice A1 m c1, .func (.func 172) #[] #[.pointer (some ⟨w1.heap.size, 0, none⟩), .pointer (some ⟨w1.heap.size + 1, 0, none⟩)], (.slice (cutAt A1 x.1.2 x.1.1 2) (x.1.2 - x.1.1) (x.1.2 - x.1.1)), undef, undef, undef, undef, undef, undef, undef, undef, undef], defers := [] }) ?assign ?body ?done ?stop
      case hI =>
        rintro s W W' row ⟨t', At, ct, h1, h2, h3, h4, h5, h6, h7, h8, h9⟩ hg hr
        have hr' : ∀ r, row = some r → ∃ o : Obj, W.heap[r]? = some o ∧ o.isCells = false := fun r e => (hr r e).2
        exact ⟨t', At, ct, h1, h2, boxed_own1 h3 hg hr', h4.own hg hr', boxed_own1 h5 hg hr', boxed_own1 h6 hg hr', h7.own hg hr', Nat.le_trans h8 hg.size, h9.grown hg (by have := h9.size; omega) fun k e => by have := (hr k e).1; have := Hbw.out.size; omega⟩
      case hIx =>
        rintro cd s W W' row ⟨h1, h2, h3, h4, h5⟩ hg hr
        have hr' : ∀ r, row = some r → ∃ o : Obj, W.heap[r]? = some o ∧ o.isCells = false := fun r e => (hr r e).2
        exact ⟨h1, h2, boxed_own1 h3 hg hr', boxed_own1 h4 hg hr', h5.grown hg (by have := h5.size; omega) fun k e => by have := (hr k e).1; have := Hbw.out.size; omega⟩
      case h0 =>
        have hln := Hl.out.1
        refine ⟨t, A, c, rfl, Ht.out, ?_, ?_, K1.out, K2.out, Hin2.out, Nat.le_refl _, Hbw.out⟩
        · rw [hln]; exact K0.out
        · rw [hln]; exact Hlt.out
      case assign =>
        intro l x W K hK
        dsimp only [ckV] at hK ⊢
        gi_wp2
        exact hK
      case body =>
        rintro l pre x W ⟨t', At, ct, h1, h2, h3, h4, h5, h6, h7, h8, h9⟩ _
        have H1' := Lib.hid h1
        have H2' := Lib.hid h2
        have H3' := Lib.hid h3
        have H4' := Lib.hid h4
        have H5' := Lib.hid h5
        have H6' := Lib.hid h6
        have H7' := Lib.hid h7
        have H9' := Lib.hid h9
        have p0 := h3.cell
        have q0 := h3.frozen
        have hd : 1 ≤ 3 - 1 - 1 := by omega
        have hcs := ck_good (settled_good (goodC_map Hgb2.out)) x.1.1 x.1.2
        have hcl := ck_len (settledR (bs.map chgF)) x
        have hxm := x.2
        have hin := RIn.cutM (lo := x.1.1) (hg := x.1.2) h7.all hxm.1 hxm.2.1
        have HSet := Lib.hid (set_any At (cutAt A1 x.1.2 x.1.1 2) t'.length ct (x.1.2 - x.1.1) (x.1.2 - x.1.1) W.heap.size W.heap.size t' ((settledR (bs.map chgF)).take x.1.2 |>.drop x.1.1) W h4.all (Nat.le_refl _) (fun r hr => by have := h2.shortR r hr; omega) (by have := h2.len; omega)
          hin (Nat.le_refl _) (fun r hr => by have := sized_short (List.all_eq_true.1 hcs r hr); omega) (by omega))
        have hck := ckFold_snoc (settledR (bs.map chgF)) t pre x
        rw [h1, ckF_one x h2 (settled_good (goodC_map Hgb2.out))] at hck
        have hsn := setN_ok h2 hcs hcl
        have Hck := Lib.hid hck
        have Hsn := Lib.hid hsn
        generalize (List.take x.1.2 (settledR (bs.map chgF))).drop x.1.1 = ch at *
        clear h1 h2 h3 h4 h5 h6 h7 h9 hin hck hsn
        dsimp only
        obtain ⟨vx, hvx⟩ : ∃ vx, Value.slice (cutAt A1 x.1.2 x.1.1 2) (x.1.2 - x.1.1) (x.1.2 - x.1.1) = vx := ⟨_, rfl⟩
        rw [hvx] at HSet ⊢
        have Hcs := Lib.hid hcs
        clear hvx hcs hcl hxm
        by_cases h40 : 40 < (sets t' ch).length
        · rw [if_pos h40] at Hck Hsn
          rw [Hsn.out] at HSet
          gi_wp2_with (refine ⟨trivial, ?_⟩; gi_at_call 25; refine (CallsIn.inRound l (callsIn_wide.2 HSet.out)).mono ?_; rintro e w' ⟨v, rfl, ho, hb⟩; clear HSet; obtain ⟨Av, cv, rfl, hrv⟩ := RInS.row ho; have e0 := boxed_below H3'.out hb; have e1 := boxed_below H5'.out hb; have e2 := boxed_below H6'.out hb; have pp0 := e0.cell; have qq0 := e0.frozen; have pp1 := e1.cell; have qq1 := e1.frozen; have pp2 := e2.cell; have qq2 := e2.frozen; have E0 := Lib.hid e0; have E1 := Lib.hid e1; have E2 := Lib.hid e2; have Hrv := Lib.hid hrv; have Hb := Lib.hid hb; clear e0 e1 e2 hrv hb ho)
          refine ⟨((keeps_below Hb.out).trans (keeps_set _ _)).trans ((keeps_set _ _).trans (keeps_set _ _)), rfl, ?_, ?_, ?_, ?_⟩
          · rw [Hck.out]
          · exact ((E1.out.other (show w.heap.size + 1 ≠ w.heap.size by omega) _).set _).other (show w.heap.size + 1 ≠ w.heap.size + 1 + 1 by omega) _
          · exact ((E2.out.other (show w.heap.size + 1 + 1 ≠ w.heap.size by omega) _).other (show w.heap.size + 1 + 1 ≠ w.heap.size + 1 by omega) _).set _
          · exact (((H9'.out.trans (Hb.out.mono (by have := H9'.out.size; omega))).setCell (p := ⟨w.heap.size, 0, none⟩) (Nat.le_refl _) _).setCell (p := ⟨w.heap.size + 1, 0, none⟩) (by simp) _).setCell (p := ⟨w.heap.size + 1 + 1, 0, none⟩) (by simp; omega) _
        · rw [if_neg h40] at Hck Hsn
          rw [Hsn.out] at HSet
          gi_wp2_with (refine ⟨trivial, ?_⟩; gi_at_call 25; refine (CallsIn.inRound l (callsIn_wide.2 HSet.out)).mono ?_; rintro e w' ⟨v, rfl, ho, hb⟩; clear HSet; obtain ⟨Av, cv, rfl, hrv⟩ := RInS.row ho; have e0 := boxed_below H3'.out hb; have e1 := boxed_below H5'.out hb; have e2 := boxed_below H6'.out hb; have pp0 := e0.cell; have qq0 := e0.frozen; have pp1 := e1.cell; have qq1 := e1.frozen; have pp2 := e2.cell; have qq2 := e2.frozen; have E0 := Lib.hid e0; have E1 := Lib.hid e1; have E2 := Lib.hid e2; have Hrv := Lib.hid hrv; have Hb := Lib.hid hb; clear e0 e1 e2 hrv hb ho)
          have hs2 := Hbw.out.size
          refine ⟨(keeps_below Hb.out).trans (keeps_set _ _), kc_t (kc_below (by omega) (by omega) Hb.out) (kc_set _ _ (by omega) (by omega)), sets t' ch, Av, cv, by rw [Hck.out], fit_sets H2'.out Hcs.out (by omega), E0.out.set _, ?_, E1.out.other (show w.heap.size + 1 ≠ w.heap.size by omega) _,
            E2.out.other (show w.heap.size + 1 + 1 ≠ w.heap.size by omega) _, (H7'.out.below Hb.out).set_ (by omega) _, ?_, (H9'.out.trans (Hb.out.mono (by have := H9'.out.size; omega))).setCell (p := ⟨w.heap.size, 0, none⟩) (Nat.le_refl _) _⟩
          · exact (Hrv.out.mono fun b _ hb => .inr (by omega)).set_ (by omega) _
          · have := Hb.out.size
            have := (keeps_set (B := 0) (g := w.heap.size) (i := 0) w' (.slice Av (sets t' ch).length cv)).size
            omega
      case done =>
        rintro D ys W hD ⟨k', hk', rfl⟩ ⟨t', At, ct, h1, h2, h3, h4, h5, h6, h7, h8, h9⟩ hK
        have HE := Lib.hid (apply_done Ht.out Hgb2.out Hm.out hk' h1)
        have H3' := Lib.hid h3
        have H4' := Lib.hid h4
        have H5' := Lib.hid h5
        have H6' := Lib.hid h6
        have H9' := Lib.hid h9
        have HK := Lib.hid hK
        have p0 := h3.cell
        have p1 := h5.cell
        have p2 := h6.cell
        have q1 := h5.frozen
        have q2 := h6.frozen
        have hs2 := Hbw.out.size
        clear h1 h2 h3 h4 h5 h6 h7 h9 hK
        go_wp2_with fail
        have kk1 := (H5'.out.set (.slice At t'.length ct)).other (show w.heap.size + 1 ≠ w.heap.size + 1 + 1 by omega) (.int .i64 0)
        have kk2 := (H6'.out.other (show w.heap.size + 1 + 1 ≠ w.heap.size + 1 by omega) (.slice At t'.length ct)).set (.int .i64 0)
        have hK' := ((KeepsOthers.setCell W ⟨w.heap.size + 1, 0, none⟩ (.slice At t'.length ct)).trans (KeepsOthers.setCell _ ⟨w.heap.size + 1 + 1, 0, none⟩ (.int .i64 0))).same D _ HK.out rfl
        have hown : ∀ r, some D = some r → ∃ o : Obj, ((W.setCell ⟨w.heap.size + 1, 0, none⟩ (.slice At t'.length ct)).setCell ⟨w.heap.size + 1 + 1, 0, none⟩ (.int .i64 0)).heap[r]? = some o ∧ o.isCells = false := fun r e => by cases e; exact ⟨_, hK', rfl⟩
        have hr := ((H4'.out.set_ (i := 0) (g := w.heap.size + 1) (by omega) (.slice At t'.length ct)).set_ (i := 0) (g := w.heap.size + 1 + 1) (by omega) (.int .i64 0)).own (grownBy_putObj' _ D (.deferred none)) hown
        refine ⟨by simp, .inl ⟨_, _, rfl, run_takeDeferred hK', ?_⟩⟩
        refine ⟨_, ret_ap rfl rfl rfl (boxed_own1 kk1 (grownBy_putObj' _ D (.deferred none)) hown).cell (boxed_own1 kk2 (grownBy_putObj' _ D (.deferred none)) hown).cell, ?_⟩
        rw [HE.out]
        refine ⟨At, ct, rfl, hr.mono fun b _ hb => by omega, ?_⟩
        exact ((H9'.out.setCell (p := ⟨w.heap.size + 1, 0, none⟩) (by simp) _).setCell (p := ⟨w.heap.size + 1 + 1, 0, none⟩) (by simp; omega) _).trans (belowK_b (w := w) (Nat.le_refl _) _ D _ _ (by omega) hK' rfl rfl)
      case stop =>
        rintro D cd pre W hD ⟨k', rfl⟩ ⟨rfl, h2, h3, h4, h5⟩ hK
        have HE := Lib.hid (apply_stop Ht.out Hgb2.out Hm.out h2)
        have hs2 := Hbw.out.size
        gi_wp2
        have hown : ∀ r, some D = some r → ∃ o : Obj, W.heap[r]? = some o ∧ o.isCells = false := fun r e => by cases e; exact ⟨_, hK, rfl⟩
        refine ⟨by simp, .inl ⟨_, _, rfl, run_takeDeferred hK, ?_⟩⟩
        refine ⟨_, ret_ap rfl rfl rfl (boxed_own1 h3 (grownBy_putObj' _ D (.deferred none)) hown).cell (boxed_own1 h4 (grownBy_putObj' _ D (.deferred none)) hown).cell, ?_⟩
        rw [HE.out]
        exact ⟨none, 0, rfl, ⟨rfl, Nat.le_refl _, fun _ => rfl, HoldsS.nil⟩, h5.trans (belowK_b (w := w) (Nat.le_refl _) W D _ _ (by omega) hK rfl rfl)⟩
end Go.Proofs.Ytmlgaedhfannmaa
