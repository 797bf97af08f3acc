/- Proved here: the rows with a common prefix are adjacent, and end where Next says (statement RowsHeads). No condition. -/
import Derived.Test.YtecpccdmmaigiaaRwOf
import Derived.Test.YtecpccdmmaigiaaRwNext
import Derived.Test.YtecpccdmmaigiaaRwSameK
import Derived.Test.YtecpccdmmaigiaaOpenI
namespace Go.Proofs.Ytecpccdmmaigiaa
set_option linter.unusedVariables false
set_option linter.unusedSimpArgs false
open Go.RowKit
def hds : List (List UInt8) := [[], [97], [98], [98, 255], [107], [255], [107, 49], [97, 98]]
def hdt (p : Nat) : List UInt8 := (hds[p]?).getD []
def hdC : Array Value := #[.string ⟨#[]⟩, .string ⟨#[97]⟩, .string ⟨#[98]⟩, .string ⟨#[98, 255]⟩, .string ⟨#[107]⟩, .string ⟨#[255]⟩, .string ⟨#[107, 49]⟩, .string ⟨#[97, 98]⟩]
theorem hdC_at : ∀ p : Nat, p < 8 → hdC[p]? = some (str (hdt p))
  | 0, _ => rfl | 1, _ => rfl | 2, _ => rfl | 3, _ => rfl | 4, _ => rfl | 5, _ => rfl | 6, _ => rfl | 7, _ => rfl
  | p + 8, h => by omega
theorem hdt_len : ∀ p : Nat, p < 8 → (hdt p).length ≤ 2 := by decide
theorem filt_yes {p : Rw → Bool} {l : List Rw} {j : Nat} (hj : j < l.length) (h : p l[j] = true) : (l.take (j + 1)).filter p = (l.take j).filter p ++ [l[j]] := by
  rw [List.take_succ_eq_append_getElem hj, List.filter_append, List.filter_cons_of_pos h]; rfl
theorem filt_no {p : Rw → Bool} {l : List Rw} {j : Nat} (hj : j < l.length) (h : p l[j] = false) : (l.take (j + 1)).filter p = (l.take j).filter p := by
  rw [List.take_succ_eq_append_getElem hj, List.filter_append, List.filter_cons_of_neg (by simp [h])]; simp
def HdL (l : List Rw) (k : List UInt8) (w6 : World) (n : Nat) (gk : Nat) (s11 s12 : Value) (wr : World) : Prop :=
  ∃ j : Nat, s12 = .int .i64 (j : Int) ∧ j ≤ n ∧ gk = n - j ∧
    wr.ownsRow w6.heap.size 40 2 s11 ((l.take j).filter (fun r => k.isPrefixOf r.key)).length (pcR ((l.take j).filter (fun r => k.isPrefixOf r.key))) ∧ Below w6.heap.size w6 wr
set_option maxHeartbeats 4000000 in
set_option maxRecDepth 100000 in
theorem walkRowsHeads (A0 : Option Addr) (n0 c0 : Nat) (x1 : Int) (w : World) (hx0 : IntsAt w w.heap.size A0 n0 c0) (hx1 : -9223372036854775808 ≤ x1 ∧ x1 ≤ 9223372036854775807) :
    Calls Try.prog 10 #[.slice A0 n0 c0, .int .i64 x1] w fun e w' => e = .returned (.bool true) ∧ Below w.heap.size w w' := by
  have H1 := Lib.hid (changes_any A0 n0 c0 w.heap.size 50 w hx0 (Nat.le_refl _) (by decide))
  obtain ⟨P, hP, hP8⟩ : ∃ P : Nat, x1 % 8 = (P : Int) ∧ P < 8 := ⟨(x1 % 8).toNat, by have := Int.emod_nonneg x1 (show (8 : Int) ≠ 0 by decide); omega, by have := Int.emod_nonneg x1 (show (8 : Int) ≠ 0 by decide); have := Int.emod_lt_of_pos x1 (show (0 : Int) < 8 by decide); omega⟩
  have HPk := Lib.hid (fun W => picked_any x1 8 W (by decide) (by decide))
  rw [hP] at HPk
  clear hx0 hP
  go_enter Try.func10, Try.ntmps10
  go_wp2_with fail
  refine H1.out.mono ?_
  rintro e w1 ⟨v1, cs, rfl, ho1, hlen, hdr, b1⟩
  obtain ⟨A1, c1, rfl, hin1⟩ := RIn.own ho1
  have Hdr := Lib.hid hdr
  have B1 := Lib.hid b1
  have H2 := Lib.hid (rowsOf_any A1 cs.length c1 _ cs w1 hin1 (Nat.le_refl _) (by omega) hdr)
  clear ho1 hin1 b1 hdr hlen H1
  go_wp2_with fail
  refine H2.out.mono ?_
  rintro e w2 ⟨v2, rfl, ho2, b2⟩
  obtain ⟨A2, c2, rfl, hin2⟩ := RIn.own ho2
  have T1 := Lib.hid (Tbl.nil.setsT Hdr.out)
  have hl2 := T1.out.len
  have Hin2 := Lib.hid hin2
  have B2 := Lib.hid (B1.out.trans (b2.mono B1.out.size))
  obtain ⟨l, hl⟩ : ∃ l, sets [] cs = l := ⟨_, rfl⟩
  rw [hl] at T1 hl2 Hin2 ⊢
  obtain ⟨n2, hn2⟩ : ∃ n2, l.length = n2 := ⟨_, rfl⟩
  have Hn2 := Lib.hid hn2
  rw [hn2] at hl2 Hin2 ⊢
  clear ho2 hin2 b2 H2 hl hn2
  obtain ⟨w3, hw3⟩ : ∃ w3, w3 = w2.alloc (.cells hdC 9) := ⟨_, rfl⟩
  have hB3 : Blk w3 w2.heap.size 9 hdC := by rw [hw3]; exact Blk.new w2 _ _
  have hb3 : Below w2.heap.size w2 w3 := by rw [hw3]; exact (Below.refl _ _).alloc (Nat.le_refl _) _
  have hcell : w3.cell? ⟨w2.heap.size, P, none⟩ = some (str (hdt P)) := (hB3.cell P).trans (hdC_at P hP8)
  have HK := Lib.hid hw3
  have B3 := Lib.hid hb3
  have hpi : (P : Int) < 8 := by omega
  have hkl := hdt_len P hP8
  have H4 := Lib.hid (copR_any A2 n2 c2 _ l w3 (Hin2.out.below hb3) hb3.size (by omega))
  unfold hdC at HK
  clear hw3 hB3 hb3
  generalize hdt P = k at *
  go_wp2_with fail
  rw [← HK.out]
  refine (HPk.out w3).mono ?_
  rintro e w3' ⟨rfl, hw3'⟩
  obtain rfl : w3 = w3' := hw3'
  clear HPk
  go_wp2_with fail
  refine H4.out.mono ?_
  rintro e w4 ⟨v4, rfl, ho4, b4⟩
  obtain ⟨A4, c4, rfl, hin4⟩ := RIn.own ho4
  have H5 := Lib.hid (begin_any A4 n2 c4 _ l k w4 hin4 (Nat.le_refl _) T1.out.short (by omega))
  rw [begin_ok T1.out.fit.chk k] at H5
  have B4 := Lib.hid (B3.out.trans (b4.mono B3.out.size))
  clear ho4 hin4 b4 H4
  go_wp2_with fail
  refine H5.out.mono ?_
  rintro e w5 ⟨v5, rfl, ho5, b5⟩
  replace ho5 : w5.ownsRow w4.heap.size 40 2 v5 (l.filter (fun r => k.isPrefixOf r.key)).length (pcR (l.filter (fun r => k.isPrefixOf r.key))) := ho5
  obtain ⟨A5, c5, rfl, hin5⟩ := RIn.own ho5
  have Hin5 := Lib.hid hin5
  have B5 := Lib.hid (B4.out.trans (b5.mono B4.out.size))
  have H6 := Lib.hid (next_any k w5 (by omega))
  have hNB := Lib.hid (next_begins k)
  obtain ⟨N, hN⟩ : ∃ N, nextF k = N := ⟨_, rfl⟩
  rw [hN] at H6 hNB
  clear ho5 hin5 b5 H5 hN
  go_wp2_with fail
  refine H6.out.mono ?_
  rintro e w6 ⟨rfl, b6⟩
  have B56 := Lib.hid b6
  have B6 := Lib.hid (B5.out.trans (b6.mono B5.out.size))
  clear b6 H6
  have hflen := List.length_filter_le (fun r : Rw => k.isPrefixOf r.key) l
  go_wp2_with fail
  go_loopg [11, 12] n2 (HdL l k w6 n2)
  case atStart => exact ⟨0, rfl, Nat.zero_le _, by omega, by rw [List.take_zero]; exact World.ownsRow_nil _ _ _ _, Below.refl _ _⟩
  case round =>
    obtain ⟨j, rfl, hj, hgk, ho, hbe⟩ := hrel
    have Hgk := Lib.hid hgk
    have Hbe := Lib.hid hbe
    have hszw := hbe.size
    have Ho := Lib.hid ho
    clear hgk hbe ho
    have L2 := Lib.hid (B6.out.trans (Hbe.out.mono B6.out.size))
    by_cases hjn : j < n2
    · have hjl : j < l.length := by rw [Hn2.out]; exact hjn
      obtain ⟨b, off, hA, hbB, c0', c1'⟩ := (Hin2.out.below L2.out).at_ hjl
      subst hA
      have hbw : b < wr.heap.size := by have := L2.out.size; omega
      have HY := Lib.hid (fun h => filt_yes (p := fun r => k.isPrefixOf r.key) hjl h)
      have HNo := Lib.hid (fun h => filt_no (p := fun r => k.isPrefixOf r.key) hjl h)
      generalize hr : l[j] = r at *
      obtain ⟨rk, rv⟩ := r
      simp only at c0' c1'
      have hi1 : (j : Int) < (n2 : Int) := by omega
      have hfl2 := List.length_filter_le (fun r : Rw => k.isPrefixOf r.key) (l.take j)
      rw [List.length_take] at hfl2
      have hnb := hNB.out rk
      clear hr
      cases hx : Op.bytesLess rk k
      · cases hNe : N.isEmpty
        · cases hy : Op.bytesLess rk N
          · rw [hx, hNe, hy] at hnb
            have HF := HNo.out hnb
            have Ho2 := Lib.hid Ho.out
            rw [← HF] at Ho2
            clear HY HNo HF hnb
            go_wp2_with fail
            go_roundg (n2 - (j + 1))
            case measure => have := Hgk.out; omega
            case rel => exact ⟨j + 1, by go_num, by omega, rfl, Ho2.out, Hbe.out⟩
          · rw [hx, hNe, hy] at hnb
            have HF := Lib.hid (HY.out hnb)
            obtain ⟨v', wf, hrun, ho', hg'⟩ := run_app_row wr w6.heap.size _ u11 _ ⟨rk, rv⟩ Ho.out (by omega) hszw
            rw [← HF.out] at ho'
            have hlen2 := congrArg List.length HF.out
            simp only [List.length_append, List.length_singleton] at hlen2
            rw [← hlen2] at ho'
            have Ho' := Lib.hid ho'
            have HW' := Lib.hid (below_own (Hbe.out.alloc hszw (.cells #[str rk, str rv] 40)) hg' (Ho.out.alloc _) (Nat.le_refl _) (by simp; omega))
            have Hrun := Lib.hid hrun
            clear HY HNo HF ho' hlen2 hg' hrun hnb
            go_wp2_with (first | (at_builtin; refine rw_app rfl _ _ _ rfl _ _ (by rfl) (by rfl) Hrun.out ?_; clear Hrun) | fail)
            go_roundg (n2 - (j + 1))
            case measure => have := Hgk.out; omega
            case rel => exact ⟨j + 1, by go_num, by omega, rfl, Ho'.out, HW'.out⟩
        · rw [hx, hNe] at hnb
          have HF := Lib.hid (HY.out (by rw [hnb]; rfl))
          obtain ⟨v', wf, hrun, ho', hg'⟩ := run_app_row wr w6.heap.size _ u11 _ ⟨rk, rv⟩ Ho.out (by omega) hszw
          rw [← HF.out] at ho'
          have hlen2 := congrArg List.length HF.out
          simp only [List.length_append, List.length_singleton] at hlen2
          rw [← hlen2] at ho'
          have Ho' := Lib.hid ho'
          have HW' := Lib.hid (below_own (Hbe.out.alloc hszw (.cells #[str rk, str rv] 40)) hg' (Ho.out.alloc _) (Nat.le_refl _) (by simp; omega))
          have Hrun := Lib.hid hrun
          clear HY HNo HF ho' hlen2 hg' hrun hnb
          go_wp2_with (first | (at_builtin; refine rw_app rfl _ _ _ rfl _ _ (by rfl) (by rfl) Hrun.out ?_; clear Hrun) | fail)
          go_roundg (n2 - (j + 1))
          case measure => have := Hgk.out; omega
          case rel => exact ⟨j + 1, by go_num, by omega, rfl, Ho'.out, HW'.out⟩
      · rw [hx] at hnb
        have HF := HNo.out hnb
        have Ho2 := Lib.hid Ho.out
        rw [← HF] at Ho2
        clear HY HNo HF hnb
        go_wp2_with fail
        go_roundg (n2 - (j + 1))
        case measure => have := Hgk.out; omega
        case rel => exact ⟨j + 1, by go_num, by omega, rfl, Ho2.out, Hbe.out⟩
    · have hj2 : j = l.length := by have := Hn2.out; omega
      have Ho2 := Lib.hid Ho.out
      rw [hj2, List.take_length] at Ho2
      obtain ⟨A7, c7, rfl, hin7⟩ := RIn.own Ho2.out
      have L5 := Lib.hid (B56.out.trans (Hbe.out.mono B56.out.size))
      have HS := Lib.hid (sameRowsK_any A5 A7 _ c5 c7 _ _ _ wr (Hin5.out.below L5.out) hin7 (by omega))
      have HX := Lib.hid (B2.out.trans (L2.out.mono B2.out.size))
      clear Ho Ho2 hin7 hj2
      go_wp2_with fail
      refine HS.out.mono ?_
      rintro e w8 ⟨rfl, q, rfl⟩
      go_wp2_with fail
      go_ret
      exact ⟨rfl, below_drewN HX.out _⟩
namespace rowsHeads
open Go.ChangeShapes Go.WideShapes Go.ChangeAt Go.RowKit
theorem own : ownKnob Try.prog.godebug = none := by kernel_rfl
theorem laidOut : laidOutB Try.prog = true := by kernel_rfl
set_option linter.unusedVariables false
set_option maxRecDepth 100000 in
theorem lifted (os : Os) (started : os.Started) (H : Type) (enc : TypeId × Value → H) :
    ReturnsInHanded {} Try.checked os 10 .any (Rows.rowsHeadsSpec.pre6 enc Try.prog Try.f10 Rows.rowsHeadsRow.domain false) (Rows.rowsHeadsSpec.post enc Try.prog Try.f10 false true false false) := by
  refine returnsInHanded_of_change (C := Try.checked) own started (by kernel_rfl) Try.func10
    (ChangeSpec.witness6 (enc := enc) (C := Try.checked) false ⟨#[], #[.slice none 0 0, .int .i64 0], []⟩ 8 (by kernel_rfl) (by kernel_rfl) (by kernel_rfl) (by kernel_rfl)) ?_
  intro W base args ds gs before hval0 hW hcnd _
  have hval : ∀ (j : Nat) t v, Try.f10.params[j]? = some t → args[j]? = some v → Value.okWide Try.prog W .any base t v := hval0
  have hW' := hW
  obtain ⟨p, q, hA0, hV, rfl, hfz, hnd⟩ := hW
  have hA : DataW.TrodAll enc Try.prog W 0 (fun _ => true) true Try.f10.params.toList args.toList ds p := hA0
  rw [Try.params10] at hA hval
  obtain ⟨v0, vs0, d0, ds0, p0, q0, hargs, rfl, rfl, h0, rr0⟩ := trodAll_cons hA
  obtain ⟨v1, vs1, d1, ds1, p1, q1, rfl, rfl, rfl, h1, rr1⟩ := trodAll_cons rr0
  obtain ⟨rfl, rfl, rfl⟩ := trodAll_nil rr1
  obtain rfl : args = #[v0, v1] := by cases args; simp_all
  obtain ⟨rfl, rfl⟩ := trodVars_none hV
  have k0 := h0
  have lt0 : ∀ x ∈ p0, x.block < W.heap.size := by obtain ⟨m, hm⟩ := k0; exact DataW.trod_lt m _ _ _ hm
  obtain ⟨A0, n0, c0, rfl, hx0⟩ := open_intsl Try.underlying35 Try.underlying3 (by kernel_rfl) (hval 0 35 v0 rfl rfl) h0
  have k1 := h1
  have lt1 : ∀ x ∈ p1, x.block < W.heap.size := by obtain ⟨m, hm⟩ := k1; exact DataW.trod_lt m _ _ _ hm
  obtain ⟨x1, rfl, hx1⟩ := open_i64 Try.underlying3 (hval 1 3 v1 rfl rfl) h1
  clear hA0 hval0
  refine (walkRowsHeads A0 n0 c0 x1 W hx0 hx1).mono fun e W' ⟨he, bel⟩ => ?_
  subst he
  exact ⟨_, rfl, _, _, _, [], _, [], hW', trodAll_mk1 (shut_bool Try.underlying4 _), (trodAll_cons_mk (Below.trod laidOut (by kernel_rfl) (of_decide_eq_true (by kernel_rfl)) k0 bel lt0) (trodAll_cons_mk (Below.trod laidOut (by kernel_rfl) (of_decide_eq_true (by kernel_rfl)) k1 bel lt1) trodAll_mk0)), rfl, bel.frame _, fun h => by cases h⟩

theorem over : Rows.rowsHeadsRow.holds Try.pinned (OpenSpec.ofChange Rows.rowsHeadsSpec) :=
  OpenClaim.holds_of_wide 10 Try.f10 rfl rfl rfl rfl rfl rfl rfl ⟨rfl, rfl, rfl, rfl, rfl⟩ rfl rfl rfl rfl rfl (by kernel_rfl) Try.func10 (by kernel_rfl)
    (of_decide_eq_true (by kernel_rfl)) (by unfold Func.isWrapper; first | (rw [if_pos (by decide +kernel)]; kernel_rfl) | (rw [if_neg (by decide +kernel)]; exact ⟨rfl, rfl⟩))
    (fun os started H enc _ => lifted os started H enc)

theorem proved : Rows.RowsHeadsSaid := over
#print axioms proved
end rowsHeads
end Go.Proofs.Ytecpccdmmaigiaa
