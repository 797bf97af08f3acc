/- Proved here: for every list of raw numbers, each record takes four bytes more when it is packed, and a batch is told as it was packed (statement WalLong). No condition. -/
import Derived.Test.YtbdbcffnjibjoaaWlKp
import Derived.Test.YtbdbcffnjibjoaaOpenI
import Derived.Test.YtbdbcffnjibjoaaRows
import Derived.ChangeSame
import Derived.Deep.Cut
namespace Go.Proofs.Ytbdbcffnjibjoaa
set_option linter.unusedVariables false
set_option linter.unusedSimpArgs false
open Go.RowKit
def LoR (w : World) (bb : List (List UInt8)) (m : Nat) (gk : Nat) (vw vi : Value) (wr : World) : Prop :=
  ∃ i : Nat, vi = .int .i64 i ∧ vw = .int .i64 (((bb.take i).map (fun r => r.length + 4)).sum : Nat) ∧ i ≤ m ∧ gk = m - i ∧ w = wr
/-- The literal of one batch of one record of one byte. -/
theorem lit_in3 (W : World) (x : UInt8) :
    In3 (((W.alloc (.cells #[bv x] 5)).alloc (.cells #[.slice (some ⟨W.heap.size, 0, none⟩) 1 1] 23)).alloc (.cells #[.slice (some ⟨W.heap.size + 1, 0, none⟩) 1 1] 22))
      (lowB (((W.alloc (.cells #[bv x] 5)).alloc (.cells #[.slice (some ⟨W.heap.size, 0, none⟩) 1 1] 23)).alloc (.cells #[.slice (some ⟨W.heap.size + 1, 0, none⟩) 1 1] 22)).heap.size)
      [[[x]]] (.slice (some ⟨W.heap.size + 2, 0, none⟩) 1 1) := by
  obtain ⟨Y, hY⟩ : ∃ Y, Y = ((W.alloc (.cells #[bv x] 5)).alloc (.cells #[.slice (some ⟨W.heap.size, 0, none⟩) 1 1] 23)).alloc (.cells #[.slice (some ⟨W.heap.size + 1, 0, none⟩) 1 1] 22) := ⟨_, rfl⟩
  have hs : Y.heap.size = W.heap.size + 3 := by rw [hY]; simp
  have k1 : Blk Y W.heap.size 5 #[bv x] := by rw [hY]; exact ((Blk.new W _ _).alloc _).alloc _
  have k2 : Blk Y (W.heap.size + 1) 23 #[.slice (some ⟨W.heap.size, 0, none⟩) 1 1] := by
    rw [hY]
    have := (Blk.new (W.alloc (.cells #[bv x] 5)) 23 #[.slice (some ⟨W.heap.size, 0, none⟩) 1 1]).alloc (.cells #[.slice (some ⟨W.heap.size + 1, 0, none⟩) 1 1] 22)
    simpa using this
  have k3 : Blk Y (W.heap.size + 2) 22 #[.slice (some ⟨W.heap.size + 1, 0, none⟩) 1 1] := by
    rw [hY]
    have := Blk.new ((W.alloc (.cells #[bv x] 5)).alloc (.cells #[.slice (some ⟨W.heap.size, 0, none⟩) 1 1] 23)) 22 #[.slice (some ⟨W.heap.size + 1, 0, none⟩) 1 1]
    simpa using this
  rw [← hY]
  have one : ∀ (g : Nat) (t : TypeId) (u : Value), Blk Y g t #[u] → g < Y.heap.size → HoldsS Y (lowB Y.heap.size) 1 (some ⟨g, 0, none⟩) 1 [u] := fun g t u hb hg => by
    refine ⟨rfl, fun _ => ⟨g, 0, rfl, hg, fun j v hv => ?_⟩⟩
    match j, hv with
    | 0, hv => simp at hv; subst hv; exact hb.cell 0
  have ats : ∀ {α : Type} (R : α → Value → Prop) (y : α) (u : Value), R y u → Ats R [y] [u] := fun R y u h => by
    refine ⟨rfl, fun i z v hz hv => ?_⟩
    match i, hz, hv with
    | 0, hz, hv => simp at hz hv; subst hz hv; exact h
  refine ⟨_, 1, [.slice (some ⟨W.heap.size + 1, 0, none⟩) 1 1], rfl, by simp, fun h => (by cases h), one _ _ _ k3 (by omega), ats _ _ _ ?_⟩
  refine ⟨_, 1, [.slice (some ⟨W.heap.size, 0, none⟩) 1 1], rfl, by simp, fun h => (by cases h), one _ _ _ k2 (by omega), ats _ _ _ ?_⟩
  exact ⟨_, 1, rfl, by simp, fun h => (by cases h), one _ _ _ k1 (by omega)⟩
set_option maxRecDepth 100000 in
set_option maxHeartbeats 4000000 in
theorem walkWalLong (A0 : Option Addr) (n0 c0 : Nat) (w : World) (hx0 : IntsAt w w.heap.size A0 n0 c0) :
    Calls Try.prog 8 #[.slice A0 n0 c0] w fun e w' => e = .returned (.bool true) ∧ Below w.heap.size w w' := by
  have H0 := Lib.hid (batches_any A0 n0 c0 1 w hx0 (by decide))
  clear hx0
  go_enter Try.func8, Try.ntmps8
  go_wp2_with fail
  refine H0.out.mono ?_
  rintro e w1 ⟨v1, rfl, bs, hsm, hin1, hb1⟩
  have hin1' := hin1.low
  obtain ⟨A1, c1, rfl, hc1⟩ := hin1'.formA
  have hl1 := hsm.1
  rcases (show bs = [] ∨ ∃ bb, bs = [bb] from by
    match bs, hl1 with
    | [], _ => exact .inl rfl
    | [bb], _ => exact .inr ⟨bb, rfl⟩
    | _ :: _ :: _, h => simp at h) with rfl | ⟨bb, rfl⟩
  · clear hin1'
    have hb2 := ((hb1.alloc hb1.size (.cells #[.int .u8 5] 5)).alloc (by have := hb1.size; simp; omega) (.cells #[.slice (some ⟨w1.heap.size, 0, none⟩) 1 1] 23)).alloc (by have := hb1.size; simp; omega) (.cells #[.slice (some ⟨w1.heap.size + 1, 0, none⟩) 1 1] 22)
    have hin := lit_in3 w1 5
    obtain ⟨bb, hbb⟩ : ∃ bb : List (List UInt8), bb = [[5]] := ⟨_, rfl⟩
    have hsb : SmB bb := by rw [hbb]; exact ⟨by simp, by simp, by simp⟩
    rw [show ([[[5]]] : List (List (List UInt8))) = [bb] by rw [hbb]] at hin
    have Hbd := Lib.hid (show BdL [bb] by rw [hbb]; exact ⟨by simp, by simp⟩)
    clear hbb hin1 hb1 H0 hc1
    simp only [List.length_nil]
    have Hin := Lib.hid hin
    have Hb0 := Lib.hid hb2
    clear hin hb2
    go_upto_region 4 with (fail)
    rw [show bv 5 = .int .u8 5 from rfl] at Hin
    generalize (((w1.alloc (.cells #[.int .u8 5] 5)).alloc (.cells #[.slice (some ⟨w1.heap.size, 0, none⟩) 1 1] 23)).alloc (.cells #[.slice (some ⟨w1.heap.size + 1, 0, none⟩) 1 1] 22)) = W at Hin Hb0 ⊢
    generalize (some ⟨w1.heap.size + 2, 0, none⟩ : Option Addr) = AX at Hin ⊢
    obtain ⟨bw, off, uw, hAw, hbw, hcw, Ab, cb, csb, rfl, hccb, hAb, hhb, hab⟩ := (show ∃ bw off u, AX = some ⟨bw, off, none⟩ ∧ bw < W.heap.size ∧ W.cell? ⟨bw, off + 0, none⟩ = some u ∧ In2 W (lowB W.heap.size) bb u from by
      obtain ⟨A', c', cs', e, _, _, hh', ha'⟩ := Hin.out
      injection e with e1 _ _
      subst e1
      exact InL.at_ hh' ha' (show 0 < 1 by omega) rfl)
    subst hAw
    rw [Nat.add_zero] at hcw
    obtain ⟨hp1, hp2, hp3⟩ := pack_small hsb
    have HC := pack_any Ab bb.length cb W.heap.size bb csb W hhb hab rfl (Nat.le_refl _) (by have := hsb.2.1; omega) (fun r hr => by have := (hsb.2.2 r hr).2; omega)
    rw [hp1] at HC
    have HC' := Lib.hid HC
    have Hsb := Lib.hid hsb
    have Hhb := Lib.hid hhb
    have Hab := Lib.hid hab
    have hb3 : bb.length ≤ 3 := hsb.2.1
    have Hpl := Lib.hid (pack_len bb)
    have hsum : ∀ i, ((bb.take i).map (fun r => r.length + 4)).sum ≤ i * 10 := fun i => by
      have key : ∀ l : List (List UInt8), (∀ r ∈ l, r.length ≤ 6) → (l.map (fun r => r.length + 4)).sum ≤ l.length * 10 := by
        intro l
        induction l with
        | nil => simp
        | cons r t ih =>
          intro h
          have h4 := h r (by simp)
          have h5 := ih fun x hx => h x (by simp [hx])
          simp only [List.map_cons, List.sum_cons, List.length_cons, Nat.add_mul]
          omega
      refine Nat.le_trans (key _ fun r hr => (hsb.2.2 r (List.mem_of_mem_take hr)).2) ?_
      rw [List.length_take]
      omega
    have Hsum := Lib.hid hsum
    have Hsc := Lib.hid (show scan (pack bb) = ([bb], (pack bb).length) by
      have h := scan_whole [bb] (by simpa using hsb.ok)
      have e : packs [bb] = pack bb := by simp [packs]
      rwa [e] at h)
    obtain ⟨P, hP⟩ : ∃ P, pack bb = P := ⟨_, rfl⟩
    rw [hP] at Hsc Hpl HC' hp2 hp3
    obtain ⟨q, hq⟩ : ∃ q, P.length = q := ⟨_, rfl⟩
    rw [hq] at hp2 hp3 Hpl Hsc
    have Hq := Lib.hid hq
    clear hsb hhb hab hp1 HC hsum hq hP
    go_wp2_with fail
    refine HC'.out.mono ?_
    rintro e wp ⟨vp, rfl, hop, hbp⟩
    obtain ⟨Ap, cp, rfl, hnp⟩ := own_form hop
    rw [Hq.out]
    have Hop := Lib.hid hop
    have hcwp := (hbp.cell (p := ⟨bw, off, none⟩) hbw).trans hcw
    have Hbp := Lib.hid hbp
    have hsp := hbp.size
    obtain ⟨m, hm⟩ : ∃ m, bb.length = m := ⟨_, rfl⟩
    rw [hm] at hcwp hb3
    have Hm := Lib.hid hm
    clear hop hbp HC' hcw hm
    go_wp2
    go_loopg [6, 7] m (LoR wp bb m)
    case atStart => exact ⟨0, rfl, by simp, by omega, by omega, rfl⟩
    case round =>
      obtain ⟨i, rfl, rfl, hi, hgi, rfl⟩ := hrel
      have Hgi := Lib.hid hgi
      have hsi := Hsum.out i
      obtain ⟨S, hS⟩ : ∃ S, ((bb.take i).map (fun r => r.length + 4)).sum = S := ⟨_, rfl⟩
      rw [hS] at hsi ⊢
      have HS := Lib.hid hS
      clear hgi hS
      by_cases him : i < m
      · have him' : (i : Int) < (m : Int) := by omega
        have hhb2 : HoldsS wp (lowB W.heap.size) 1 Ab m csb := by rw [← Hm.out]; exact Hhb.out.kept fun p hp => Hbp.out.cell hp
        have hab2 : Ats (In1 wp (lowB W.heap.size)) bb csb := stays1.ats Hab.out (fun p hp => Hbp.out.cell hp) (fun _ h => h)
        obtain ⟨br, offr, ur, hAr, hbr, hcr, Arr, crr, rfl, _, _, _⟩ := InL.at_ hhb2 hab2 him Hm.out.symm
        subst hAr
        have hib : i < bb.length := by have := Hm.out; omega
        have hrl := (Hsb.out.2.2 bb[i] (List.getElem_mem hib)).2
        have Hnext := Lib.hid (show ((bb.take (i + 1)).map (fun r => r.length + 4)).sum = S + (bb[i].length + 4) by
          rw [List.take_succ_eq_append_getElem hib, List.map_append, List.sum_append, HS.out]; simp)
        clear hhb2 hab2
        generalize bb[i].length = z at *
        go_wp2
        go_roundg (m - (i + 1))
        case measure => have := Hgi.out; omega
        case rel => exact ⟨i + 1, by go_num, by rw [Hnext.out]; go_num, by omega, rfl, rfl⟩
      · have him' : i = m := by omega
        subst him'
        have hSq : S = q := by rw [← HS.out, Hpl.out, List.take_of_length_le (by have := Hm.out; omega)]
        subst hSq
        have hhp : Holds wp wp.heap.size 1 Ap S (P.map bv) := by have := Holds.own Hop.out; rwa [Hq.out] at this
        have Hhp := Lib.hid hhp
        have hnil : Ap = none → cp = 0 := fun h => (hnp h).2
        have hS10 : S ≤ 1048576 := by omega
        have Hinp := Lib.hid (Hin.out.farL Hbp.out)
        have Hbw := Lib.hid (Hb0.out.trans (Hbp.out.mono Hb0.out.size))
        have hswp := Hbw.out.size
        clear hhp hnp
        go_wp2_with (at_builtin; refine wpList_copyB (by rfl) _ (by rfl) wp.heap.size Ap S cp P Hhp.out Hq.out.symm (by rfl) hnil hS10 ?_; clear Hhp; intro A4 c4 w4 ho4 hc4 hb4; have Ho4 := Lib.hid ho4; have Hc4 := Lib.hid hc4; have Hb4 := Lib.hid hb4; clear ho4 hc4 hb4)
        have H5 := scanS_any A4 c4 P w4 (Holds.own Ho4.out) Hc4.out (by rw [Hq.out]; omega)
        rw [Hq.out, Hsc.out] at H5
        have H5' := Lib.hid H5
        have hs4 := Hb4.out.size
        have Hin4 := Lib.hid ((Hinp.out.farL (Hb4.out.mono hsp)))
        have Hbw4 := Lib.hid (Hbw.out.trans (Hb4.out.mono hswp))
        have hsw4 := Hbw4.out.size
        clear H5 Hinp
        refine H5'.out.mono ?_
        rintro e w5 ⟨v5, rfl, hi5, hb5⟩
        have hs5 := hb5.size
        have hin5 := (Hin4.out.farL (hb5.mono (by omega))).wideL (show W.heap.size ≤ w5.heap.size by omega)
        have hi5' := hi5.low
        have H7 := Lib.hid (sbK_any [bb] [bb] v5 _ w5 _ _ hi5' hin5 (Nat.le_refl _) (Nat.le_refl _) Hbd.out Hbd.out)
        have Hb5 := Lib.hid (Hbw4.out.trans (hb5.mono hsw4))
        have hq5 : 5 ≤ (S : Int) := by omega
        clear hi5 hin5 hi5' hb5 H5' Hin4 Hbw4
        go_wp2_with fail
        refine H7.out.mono ?_
        rintro e w7 ⟨rfl, q7, rfl⟩
        go_wp2_with fail
        go_ret
        exact ⟨by simp, below_drewN Hb5.out q7⟩
  · have hin := hin1'
    have hsb : SmB bb := hsm.2 bb (by simp)
    have Hbd := Lib.hid (hsm.bd (by decide))
    have Hin := Lib.hid hin
    have Hb0 := Lib.hid hb1
    clear hin hin1 hin1' hb1 H0 hc1
    simp only [List.length_cons, List.length_nil, Nat.zero_add] at Hin ⊢
    obtain ⟨bw, off, uw, hAw, hbw, hcw, Ab, cb, csb, rfl, hccb, hAb, hhb, hab⟩ := (show ∃ bw off u, A1 = some ⟨bw, off, none⟩ ∧ bw < w1.heap.size ∧ w1.cell? ⟨bw, off + 0, none⟩ = some u ∧ In2 w1 (lowB w1.heap.size) bb u from by
      obtain ⟨A', c', cs', e, _, _, hh', ha'⟩ := Hin.out
      injection e with e1 _ _
      subst e1
      exact InL.at_ hh' ha' (show 0 < 1 by omega) rfl)
    subst hAw
    rw [Nat.add_zero] at hcw
    obtain ⟨hp1, hp2, hp3⟩ := pack_small hsb
    have HC := pack_any Ab bb.length cb w1.heap.size bb csb w1 hhb hab rfl (Nat.le_refl _) (by have := hsb.2.1; omega) (fun r hr => by have := (hsb.2.2 r hr).2; omega)
    rw [hp1] at HC
    have HC' := Lib.hid HC
    have Hsb := Lib.hid hsb
    have Hhb := Lib.hid hhb
    have Hab := Lib.hid hab
    have hb3 : bb.length ≤ 3 := hsb.2.1
    have Hpl := Lib.hid (pack_len bb)
    have hsum : ∀ i, ((bb.take i).map (fun r => r.length + 4)).sum ≤ i * 10 := fun i => by
      have key : ∀ l : List (List UInt8), (∀ r ∈ l, r.length ≤ 6) → (l.map (fun r => r.length + 4)).sum ≤ l.length * 10 := by
        intro l
        induction l with
        | nil => simp
        | cons r t ih =>
          intro h
          have h4 := h r (by simp)
          have h5 := ih fun x hx => h x (by simp [hx])
          simp only [List.map_cons, List.sum_cons, List.length_cons, Nat.add_mul]
          omega
      refine Nat.le_trans (key _ fun r hr => (hsb.2.2 r (List.mem_of_mem_take hr)).2) ?_
      rw [List.length_take]
      omega
    have Hsum := Lib.hid hsum
    have Hsc := Lib.hid (show scan (pack bb) = ([bb], (pack bb).length) by
      have h := scan_whole [bb] (by simpa using hsb.ok)
      have e : packs [bb] = pack bb := by simp [packs]
      rwa [e] at h)
    obtain ⟨P, hP⟩ : ∃ P, pack bb = P := ⟨_, rfl⟩
    rw [hP] at Hsc Hpl HC' hp2 hp3
    obtain ⟨q, hq⟩ : ∃ q, P.length = q := ⟨_, rfl⟩
    rw [hq] at hp2 hp3 Hpl Hsc
    have Hq := Lib.hid hq
    clear hsb hhb hab hp1 HC hsum hq hP
    go_wp2_with fail
    refine HC'.out.mono ?_
    rintro e wp ⟨vp, rfl, hop, hbp⟩
    obtain ⟨Ap, cp, rfl, hnp⟩ := own_form hop
    rw [Hq.out]
    have Hop := Lib.hid hop
    have hcwp := (hbp.cell (p := ⟨bw, off, none⟩) hbw).trans hcw
    have Hbp := Lib.hid hbp
    have hsp := hbp.size
    obtain ⟨m, hm⟩ : ∃ m, bb.length = m := ⟨_, rfl⟩
    rw [hm] at hcwp hb3
    have Hm := Lib.hid hm
    clear hop hbp HC' hcw hm
    go_wp2
    go_loopg [6, 7] m (LoR wp bb m)
    case atStart => exact ⟨0, rfl, by simp, by omega, by omega, rfl⟩
    case round =>
      obtain ⟨i, rfl, rfl, hi, hgi, rfl⟩ := hrel
      have Hgi := Lib.hid hgi
      have hsi := Hsum.out i
      obtain ⟨S, hS⟩ : ∃ S, ((bb.take i).map (fun r => r.length + 4)).sum = S := ⟨_, rfl⟩
      rw [hS] at hsi ⊢
      have HS := Lib.hid hS
      clear hgi hS
      by_cases him : i < m
      · have him' : (i : Int) < (m : Int) := by omega
        have hhb2 : HoldsS wp (lowB w1.heap.size) 1 Ab m csb := by rw [← Hm.out]; exact Hhb.out.kept fun p hp => Hbp.out.cell hp
        have hab2 : Ats (In1 wp (lowB w1.heap.size)) bb csb := stays1.ats Hab.out (fun p hp => Hbp.out.cell hp) (fun _ h => h)
        obtain ⟨br, offr, ur, hAr, hbr, hcr, Arr, crr, rfl, _, _, _⟩ := InL.at_ hhb2 hab2 him Hm.out.symm
        subst hAr
        have hib : i < bb.length := by have := Hm.out; omega
        have hrl := (Hsb.out.2.2 bb[i] (List.getElem_mem hib)).2
        have Hnext := Lib.hid (show ((bb.take (i + 1)).map (fun r => r.length + 4)).sum = S + (bb[i].length + 4) by
          rw [List.take_succ_eq_append_getElem hib, List.map_append, List.sum_append, HS.out]; simp)
        clear hhb2 hab2
        generalize bb[i].length = z at *
        go_wp2
        go_roundg (m - (i + 1))
        case measure => have := Hgi.out; omega
        case rel => exact ⟨i + 1, by go_num, by rw [Hnext.out]; go_num, by omega, rfl, rfl⟩
      · have him' : i = m := by omega
        subst him'
        have hSq : S = q := by rw [← HS.out, Hpl.out, List.take_of_length_le (by have := Hm.out; omega)]
        subst hSq
        have hhp : Holds wp wp.heap.size 1 Ap S (P.map bv) := by have := Holds.own Hop.out; rwa [Hq.out] at this
        have Hhp := Lib.hid hhp
        have hnil : Ap = none → cp = 0 := fun h => (hnp h).2
        have hS10 : S ≤ 1048576 := by omega
        have Hinp := Lib.hid (Hin.out.farL Hbp.out)
        have Hbw := Lib.hid (Hb0.out.trans (Hbp.out.mono Hb0.out.size))
        have hswp := Hbw.out.size
        clear hhp hnp
        go_wp2_with (at_builtin; refine wpList_copyB (by rfl) _ (by rfl) wp.heap.size Ap S cp P Hhp.out Hq.out.symm (by rfl) hnil hS10 ?_; clear Hhp; intro A4 c4 w4 ho4 hc4 hb4; have Ho4 := Lib.hid ho4; have Hc4 := Lib.hid hc4; have Hb4 := Lib.hid hb4; clear ho4 hc4 hb4)
        have H5 := scanS_any A4 c4 P w4 (Holds.own Ho4.out) Hc4.out (by rw [Hq.out]; omega)
        rw [Hq.out, Hsc.out] at H5
        have H5' := Lib.hid H5
        have hs4 := Hb4.out.size
        have Hin4 := Lib.hid ((Hinp.out.farL (Hb4.out.mono hsp)))
        have Hbw4 := Lib.hid (Hbw.out.trans (Hb4.out.mono hswp))
        have hsw4 := Hbw4.out.size
        clear H5 Hinp
        refine H5'.out.mono ?_
        rintro e w5 ⟨v5, rfl, hi5, hb5⟩
        have hs5 := hb5.size
        have hin5 := (Hin4.out.farL (hb5.mono (by omega))).wideL (show w1.heap.size ≤ w5.heap.size by omega)
        have hi5' := hi5.low
        have H7 := Lib.hid (sbK_any [bb] [bb] v5 _ w5 _ _ hi5' hin5 (Nat.le_refl _) (Nat.le_refl _) Hbd.out Hbd.out)
        have Hb5 := Lib.hid (Hbw4.out.trans (hb5.mono hsw4))
        have hq5 : 5 ≤ (S : Int) := by omega
        clear hi5 hin5 hi5' hb5 H5' Hin4 Hbw4
        go_wp2_with fail
        refine H7.out.mono ?_
        rintro e w7 ⟨rfl, q7, rfl⟩
        go_wp2_with fail
        go_ret
        exact ⟨by simp, below_drewN Hb5.out q7⟩
namespace walLong
open Go.ChangeShapes Go.WideShapes Go.ChangeAt Go.RowKit
theorem own : ownKnob Try.prog.godebug = none := by kernel_rfl
theorem laidOut : laidOutB Try.prog = true := by kernel_rfl
set_option linter.unusedVariables false
set_option maxRecDepth 100000 in
theorem lifted (os : Os) (started : os.Started) (H : Type) (enc : TypeId × Value → H) :
    ReturnsInHanded {} Try.checked os 8 .any (Rows.walLongSpec.pre6 enc Try.prog Try.f8 Rows.walLongRow.domain false) (Rows.walLongSpec.post enc Try.prog Try.f8 false true false false) := by
  refine returnsInHanded_of_change (C := Try.checked) own started (by kernel_rfl) Try.func8
    (ChangeSpec.witness6 (enc := enc) (C := Try.checked) false ⟨#[], #[.slice none 0 0], []⟩ 8 (by kernel_rfl) (by kernel_rfl) (by kernel_rfl) (by kernel_rfl)) ?_
  intro W base args ds gs before hval0 hW hcnd _
  have hval : ∀ (j : Nat) t v, Try.f8.params[j]? = some t → args[j]? = some v → Value.okWide Try.prog W .any base t v := hval0
  have hW' := hW
  obtain ⟨p, q, hA0, hV, rfl, hfz, hnd⟩ := hW
  have hA : DataW.TrodAll enc Try.prog W 0 (fun _ => true) true Try.f8.params.toList args.toList ds p := hA0
  rw [Try.params8] at hA hval
  obtain ⟨v0, vs0, d0, ds0, p0, q0, hargs, rfl, rfl, h0, rr0⟩ := trodAll_cons hA
  obtain ⟨rfl, rfl, rfl⟩ := trodAll_nil rr0
  obtain rfl : args = #[v0] := by cases args; simp_all
  obtain ⟨rfl, rfl⟩ := trodVars_none hV
  have k0 := h0
  have lt0 : ∀ x ∈ p0, x.block < W.heap.size := by obtain ⟨m, hm⟩ := k0; exact DataW.trod_lt m _ _ _ hm
  obtain ⟨A0, n0, c0, rfl, hx0⟩ := open_intsl Try.underlying34 Try.underlying3 (by kernel_rfl) (hval 0 34 v0 rfl rfl) h0
  clear hA0 hval0
  refine (walkWalLong A0 n0 c0 W hx0).mono fun e W' ⟨he, bel⟩ => ?_
  subst he
  exact ⟨_, rfl, _, _, _, [], _, [], hW', trodAll_mk1 (shut_bool Try.underlying4 _), (trodAll_cons_mk (Below.trod laidOut (by kernel_rfl) (of_decide_eq_true (by kernel_rfl)) k0 bel lt0) trodAll_mk0), rfl, bel.frame _, fun h => by cases h⟩

theorem over : Rows.walLongRow.holds Try.pinned (OpenSpec.ofChange Rows.walLongSpec) :=
  OpenClaim.holds_of_wide 8 Try.f8 rfl rfl rfl rfl rfl rfl rfl ⟨rfl, rfl, rfl, rfl, rfl⟩ rfl rfl rfl rfl rfl (by kernel_rfl) Try.func8 (by kernel_rfl)
    (of_decide_eq_true (by kernel_rfl)) (by unfold Func.isWrapper; first | (rw [if_pos (by decide +kernel)]; kernel_rfl) | (rw [if_neg (by decide +kernel)]; exact ⟨rfl, rfl⟩))
    (fun os started H enc _ => lifted os started H enc)

theorem proved : Rows.WalLongSaid := over
#print axioms proved
end walLong
end Go.Proofs.Ytbdbcffnjibjoaa
