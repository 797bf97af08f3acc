/- Proved here: for every list of raw numbers and every number, of a beginning of what was packed exactly the batches that end within it are told (statement WalTorn). No condition. -/
import Derived.Test.YtbdbcffnjibjoaaWlKp
import Derived.Test.YtbdbcffnjibjoaaOpenI
import Derived.Test.YtbdbcffnjibjoaaRows
import Derived.ChangeSame
namespace Go.Proofs.Ytbdbcffnjibjoaa
set_option linter.unusedVariables false
set_option linter.unusedSimpArgs false
open Go.RowKit
def ToR (w : World) (bs : List (List (List UInt8))) (m K : Nat) (gk : Nat) (vi : Value) (wr : World) : Prop :=
  ∃ i : Nat, vi = .int .i64 i ∧ i ≤ m ∧ gk = m - i ∧ (packs (bs.take i)).length ≤ K ∧ w = wr
set_option maxRecDepth 100000 in
set_option maxHeartbeats 2000000 in
theorem walkWalTorn (A0 : Option Addr) (n0 c0 : Nat) (x1 : Int) (w : World) (hx0 : IntsAt w w.heap.size A0 n0 c0) (hx1 : -9223372036854775808 ≤ x1 ∧ x1 ≤ 9223372036854775807) :
    Calls Try.prog 5 #[.slice A0 n0 c0, .int .i64 x1] w fun e w' => e = .returned (.bool true) ∧ Below w.heap.size w w' := by
  have H0 := Lib.hid (batches_any A0 n0 c0 12 w hx0 (by decide))
  clear hx0 hx1
  obtain ⟨i0, hi0, hz0, hz1, hz2⟩ := info_parts info_u8
  obtain ⟨i1, hi1, hy0, hy1, hy2⟩ := info_parts info_rows
  go_enter Try.func5, Try.ntmps5
  go_wp2_with fail
  refine H0.out.mono ?_
  rintro e w1 ⟨v1, rfl, bs, hsm, hin1, hb1⟩
  have hin1' := hin1.low
  obtain ⟨A1, c1, rfl, hc1⟩ := hin1'.formA
  have Hin1 := Lib.hid hin1'
  have Hb1 := Lib.hid hb1
  have hs1 := hb1.size
  have H1 := Lib.hid (packed_any bs _ 12 w1.heap.size w1 hsm (by decide) hin1' (Nat.le_refl _))
  have Hbd := Lib.hid (hsm.bd (by decide))
  have Hok := Lib.hid (show ∀ b ∈ bs, okBatch b from fun b hb => (hsm.2 b hb).ok)
  have Hps := Lib.hid (packs_small bs hsm.2)
  obtain ⟨m, hm⟩ : ∃ m, bs.length = m := ⟨_, rfl⟩
  have hm12 : m ≤ 12 := by have := hsm.1; omega
  obtain ⟨L, hL⟩ : ∃ L, (packs bs).length = L := ⟨_, rfl⟩
  rw [hm] at hc1 ⊢
  have hL360 : L ≤ 360 := by have := Hps.out; omega
  rw [hm, hL] at H1
  have Hm := Lib.hid hm
  have HL := Lib.hid hL
  rw [hm] at Hin1
  clear hin1 hin1' hb1 hsm hm hL H0 Hps
  go_wp2_with fail
  refine H1.out.mono ?_
  rintro e w2 ⟨A2, c2, AE, cE, rfl, ho2, hE2, hb2⟩
  have Ho2 := Lib.hid ho2
  have HE2 := Lib.hid hE2
  have Hin2 := Lib.hid (Hin1.out.farL hb2)
  have Hb2 := Lib.hid (Hb1.out.trans (hb2.mono hs1))
  have hs12 := hb2.size
  have hs2 := Hb2.out.size
  clear ho2 hE2 hb2 H1 Hin1 Hb1
  have hK0 := Int.emod_nonneg x1 (show ((L : Int) + 1) ≠ 0 by omega)
  have hK1 := Int.emod_lt_of_pos x1 (show (0 : Int) < (L : Int) + 1 by omega)
  obtain ⟨K, hK⟩ : ∃ K : Nat, x1 % ((L : Int) + 1) = K := ⟨(x1 % ((L : Int) + 1)).toNat, by omega⟩
  have hKL : K ≤ L := by omega
  have HK := Lib.hid hK
  clear hK hK0 hK1
  go_wp2_with fail
  refine (picked_any x1 _ _ (by omega) (by omega)).mono ?_
  rintro e w3 ⟨rfl, rfl⟩
  rw [HK.out]
  obtain ⟨gE, cE', hvE, _, hcE, _, hcellE⟩ := own_place HE2.out (by omega)
  injection hvE with hvE1 _ hvE3
  subst hvE1 hvE3
  have HcE := Lib.hid hcellE
  clear hcellE
  go_wp2
  go_loopg [10] m (ToR w2 bs m K)
  case atStart => exact ⟨0, rfl, by omega, by omega, by simp [packs], rfl⟩
  case round =>
    obtain ⟨n, rfl, hn, hgn, hnK, rfl⟩ := hrel
    have Hgn := Lib.hid hgn
    have HnK := Lib.hid hnK
    clear hgn hnK
    by_cases hmore : n < m ∧ (packs (bs.take (n + 1))).length ≤ K
    · obtain ⟨hnm, hle⟩ := hmore
      have hce := HcE.out (n + 1) _ (endsV_at bs m (n + 1) (by omega))
      have Hle := Lib.hid hle
      obtain ⟨q, hq⟩ : ∃ q, (packs (bs.take (n + 1))).length = q := ⟨_, rfl⟩
      rw [hq] at hce hle
      clear hq
      go_wp2
      go_roundg (m - (n + 1))
      case measure => have := Hgn.out; omega
      case rel => exact ⟨n + 1, by go_num, by omega, rfl, Hle.out, rfl⟩
    · have hsc : scan ((packs bs).take K) = (bs.take n, (packs (bs.take n)).length) :=
        scan_torn bs Hok.out n K (by rw [Hm.out]; omega) HnK.out (fun h => by
          rcases Nat.lt_or_ge K (packs (bs.take (n + 1))).length with h1 | h1
          · exact h1
          · exact absurd ⟨by rw [← Hm.out]; exact h, h1⟩ hmore) (by rw [HL.out]; omega)
      have hlt : ((packs bs).take K).length = K := by rw [List.length_take, HL.out]; omega
      obtain ⟨D, hD⟩ : ∃ D, (packs bs).take K = D := ⟨_, rfl⟩
      have hh2 : Holds w2 w2.heap.size 1 A2 K (D.map bv) := by rw [← hD]; exact (Own.holdsN Ho2.out HL.out).first hKL
      have hcap2 : K ≤ c2 := by have := Ho2.out; unfold Own at this; rw [HL.out] at this; have := own_capN this; omega
      have hnil2 : A2 = none → c2 = 0 := by have := Ho2.out; unfold Own at this; rw [HL.out] at this; exact own_nilcap this
      rw [hD] at hsc hlt
      have hcn := HcE.out n _ (endsV_at bs m n hn)
      have hgE := (HE2.out.lt gE rfl).2
      obtain ⟨E, hE⟩ : ∃ E, (packs (bs.take n)).length = E := ⟨_, rfl⟩
      rw [hE] at hsc hcn
      have Hsc := Lib.hid hsc
      have Hlt := Lib.hid hlt
      have Hh2 := Lib.hid hh2
      have hcut := fun W => run_cut_h (P := Try.prog) W 23 5 i0 Try.underlying23 hi0 A2 L c2 .i64 (K : Int) K rfl hcap2
      have hcut2 := fun W => run_cut_h (P := Try.prog) W 29 22 i1 Try.underlying29 hi1 A1 m c1 .i64 (n : Int) n rfl (by omega)
      have hK1048 : K ≤ 1048576 := by omega
      have HnE := Lib.hid (show n < m → K < (packs (bs.take (n + 1))).length from fun h => by
        rcases Nat.lt_or_ge K (packs (bs.take (n + 1))).length with h1 | h1
        · exact h1
        · exact absurd ⟨h, h1⟩ hmore)
      clear hsc hlt hh2 hD hE hmore
      by_cases hnm : n < m
      · have hce := HcE.out (n + 1) _ (endsV_at bs m (n + 1) (by omega))
        have hgt := HnE.out hnm
        obtain ⟨q, hq⟩ : ∃ q, (packs (bs.take (n + 1))).length = q := ⟨_, rfl⟩
        rw [hq] at hce hgt
        clear hq
        go_wp2_with (at_builtin; refine wpList_copyB (by rfl) _ (by rfl) w2.heap.size A2 K c2 D Hh2.out Hlt.out.symm (by rfl) hnil2 hK1048 ?_; clear Hh2; intro A4 c4 w4 ho4 hc4 hb4; have Ho4 := Lib.hid ho4; have Hc4 := Lib.hid hc4; have Hb4 := Lib.hid hb4; clear ho4 hc4 hb4)
        have H5 := scanS_any A4 c4 D w4 (Holds.own Ho4.out) Hc4.out (by rw [Hlt.out]; omega)
        rw [Hlt.out, Hsc.out] at H5
        have H5' := Lib.hid H5
        have hs24 := Hb4.out.size
        have hcn4 := (Hb4.out.cell (p := ⟨gE, n, none⟩) hgE).trans hcn
        have Hin4 := Lib.hid ((Hin2.out.wideL hs12).farL Hb4.out)
        have Hb4' := Lib.hid (Hb2.out.trans (Hb4.out.mono hs2))
        clear H5 hcn Hin2
        refine H5'.out.mono ?_
        rintro e w5 ⟨v5, rfl, hi5, hb5⟩
        have hs45 := hb5.size
        have hcn5 := (hb5.cell (p := ⟨gE, n, none⟩) (by show gE < w4.heap.size; omega)).trans hcn4
        have Hin5 := Lib.hid (Hin4.out.farL (hb5.mono hs24))
        have Hi5 := Lib.hid hi5.low
        have Hb5 := Lib.hid (Hb4'.out.trans (hb5.mono Hb4'.out.size))
        have hs5 := Hb5.out.size
        clear hi5 hb5 H5' hcn4 Hin4 Hb4'
        go_wp2_with fail
        refine (packOne w5).mono ?_
        rintro e w6 ⟨A6, c6, rfl, hb6⟩
        have hcn6 := (hb6.cell (p := ⟨gE, n, none⟩) (by show gE < w5.heap.size; omega)).trans hcn5
        have hs56 := hb6.size
        have hin6 := (((Hin5.out.farL (hb6.mono (by omega))).wideL (show w2.heap.size ≤ w6.heap.size by omega)).first hn).1
        have hi6 := (Hi5.out.farL hb6).wideL hs56
        have H7 := Lib.hid (sbK_any (bs.take n) (bs.take n) v5 _ w6 _ _ hi6 hin6 (Nat.le_refl _) (Nat.le_refl _) (Hbd.out.take n) (Hbd.out.take n))
        have Hb6 := Lib.hid (Hb5.out.trans (hb6.mono hs5))
        clear hin6 hi6 hb6 Hin5 Hi5 Hb5 hcn5
        go_wp2_with fail
        refine H7.out.mono ?_
        rintro e w7 ⟨rfl, q7, rfl⟩
        go_wp2_with fail
        go_ret
        exact ⟨by simp, below_drewN Hb6.out q7⟩
      · have hnm' : n = m := by omega
        subst hnm'
        have hnm2 : ¬ (n : Int) + 1 < (n : Int) + 1 := by omega
        go_wp2_with (at_builtin; refine wpList_copyB (by rfl) _ (by rfl) w2.heap.size A2 K c2 D Hh2.out Hlt.out.symm (by rfl) hnil2 hK1048 ?_; clear Hh2; intro A4 c4 w4 ho4 hc4 hb4; have Ho4 := Lib.hid ho4; have Hc4 := Lib.hid hc4; have Hb4 := Lib.hid hb4; clear ho4 hc4 hb4)
        have H5 := scanS_any A4 c4 D w4 (Holds.own Ho4.out) Hc4.out (by rw [Hlt.out]; omega)
        rw [Hlt.out, Hsc.out] at H5
        have H5' := Lib.hid H5
        have hs24 := Hb4.out.size
        have hcn4 := (Hb4.out.cell (p := ⟨gE, n, none⟩) hgE).trans hcn
        have Hin4 := Lib.hid ((Hin2.out.wideL hs12).farL Hb4.out)
        have Hb4' := Lib.hid (Hb2.out.trans (Hb4.out.mono hs2))
        clear H5 hcn Hin2
        refine H5'.out.mono ?_
        rintro e w5 ⟨v5, rfl, hi5, hb5⟩
        have hs45 := hb5.size
        have hcn5 := (hb5.cell (p := ⟨gE, n, none⟩) (by show gE < w4.heap.size; omega)).trans hcn4
        have Hin5 := Lib.hid (Hin4.out.farL (hb5.mono hs24))
        have Hi5 := Lib.hid hi5.low
        have Hb5 := Lib.hid (Hb4'.out.trans (hb5.mono Hb4'.out.size))
        have hs5 := Hb5.out.size
        clear hi5 hb5 H5' hcn4 Hin4 Hb4'
        go_wp2_with fail
        refine (packOne w5).mono ?_
        rintro e w6 ⟨A6, c6, rfl, hb6⟩
        have hcn6 := (hb6.cell (p := ⟨gE, n, none⟩) (by show gE < w5.heap.size; omega)).trans hcn5
        have hs56 := hb6.size
        have hin6 := (((Hin5.out.farL (hb6.mono (by omega))).wideL (show w2.heap.size ≤ w6.heap.size by omega)).first hn).1
        have hi6 := (Hi5.out.farL hb6).wideL hs56
        have H7 := Lib.hid (sbK_any (bs.take n) (bs.take n) v5 _ w6 _ _ hi6 hin6 (Nat.le_refl _) (Nat.le_refl _) (Hbd.out.take n) (Hbd.out.take n))
        have Hb6 := Lib.hid (Hb5.out.trans (hb6.mono hs5))
        clear hin6 hi6 hb6 Hin5 Hi5 Hb5 hcn5
        go_wp2_with fail
        refine H7.out.mono ?_
        rintro e w7 ⟨rfl, q7, rfl⟩
        go_wp2_with fail
        go_ret
        exact ⟨by simp, below_drewN Hb6.out q7⟩
namespace walTorn
open Go.ChangeShapes Go.WideShapes Go.ChangeAt Go.RowKit
theorem own : ownKnob Try.prog.godebug = none := by kernel_rfl
theorem laidOut : laidOutB Try.prog = true := by kernel_rfl
set_option linter.unusedVariables false
set_option maxRecDepth 100000 in
theorem lifted (os : Os) (started : os.Started) (H : Type) (enc : TypeId × Value → H) :
    ReturnsInHanded {} Try.checked os 5 .any (Rows.walTornSpec.pre6 enc Try.prog Try.f5 Rows.walTornRow.domain false) (Rows.walTornSpec.post enc Try.prog Try.f5 false true false false) := by
  refine returnsInHanded_of_change (C := Try.checked) own started (by kernel_rfl) Try.func5
    (ChangeSpec.witness6 (enc := enc) (C := Try.checked) false ⟨#[], #[.slice none 0 0, .int .i64 0], []⟩ 8 (by kernel_rfl) (by kernel_rfl) (by kernel_rfl) (by kernel_rfl)) ?_
  intro W base args ds gs before hval0 hW hcnd _
  have hval : ∀ (j : Nat) t v, Try.f5.params[j]? = some t → args[j]? = some v → Value.okWide Try.prog W .any base t v := hval0
  have hW' := hW
  obtain ⟨p, q, hA0, hV, rfl, hfz, hnd⟩ := hW
  have hA : DataW.TrodAll enc Try.prog W 0 (fun _ => true) true Try.f5.params.toList args.toList ds p := hA0
  rw [Try.params5] at hA hval
  obtain ⟨v0, vs0, d0, ds0, p0, q0, hargs, rfl, rfl, h0, rr0⟩ := trodAll_cons hA
  obtain ⟨v1, vs1, d1, ds1, p1, q1, rfl, rfl, rfl, h1, rr1⟩ := trodAll_cons rr0
  obtain ⟨rfl, rfl, rfl⟩ := trodAll_nil rr1
  obtain rfl : args = #[v0, v1] := by cases args; simp_all
  obtain ⟨rfl, rfl⟩ := trodVars_none hV
  have k0 := h0
  have lt0 : ∀ x ∈ p0, x.block < W.heap.size := by obtain ⟨m, hm⟩ := k0; exact DataW.trod_lt m _ _ _ hm
  obtain ⟨A0, n0, c0, rfl, hx0⟩ := open_intsl Try.underlying34 Try.underlying3 (by kernel_rfl) (hval 0 34 v0 rfl rfl) h0
  have k1 := h1
  have lt1 : ∀ x ∈ p1, x.block < W.heap.size := by obtain ⟨m, hm⟩ := k1; exact DataW.trod_lt m _ _ _ hm
  obtain ⟨x1, rfl, hx1⟩ := open_i64 Try.underlying3 (hval 1 3 v1 rfl rfl) h1
  clear hA0 hval0
  refine (walkWalTorn A0 n0 c0 x1 W hx0 hx1).mono fun e W' ⟨he, bel⟩ => ?_
  subst he
  exact ⟨_, rfl, _, _, _, [], _, [], hW', trodAll_mk1 (shut_bool Try.underlying4 _), (trodAll_cons_mk (Below.trod laidOut (by kernel_rfl) (of_decide_eq_true (by kernel_rfl)) k0 bel lt0) (trodAll_cons_mk (Below.trod laidOut (by kernel_rfl) (of_decide_eq_true (by kernel_rfl)) k1 bel lt1) trodAll_mk0)), rfl, bel.frame _, fun h => by cases h⟩

theorem over : Rows.walTornRow.holds Try.pinned (OpenSpec.ofChange Rows.walTornSpec) :=
  OpenClaim.holds_of_wide 5 Try.f5 rfl rfl rfl rfl rfl rfl rfl ⟨rfl, rfl, rfl, rfl, rfl⟩ rfl rfl rfl rfl rfl (by kernel_rfl) Try.func5 (by kernel_rfl)
    (of_decide_eq_true (by kernel_rfl)) (by unfold Func.isWrapper; first | (rw [if_pos (by decide +kernel)]; kernel_rfl) | (rw [if_neg (by decide +kernel)]; exact ⟨rfl, rfl⟩))
    (fun os started H enc _ => lifted os started H enc)

theorem proved : Rows.WalTornSaid := over
#print axioms proved
end walTorn
end Go.Proofs.Ytbdbcffnjibjoaa
