/- Proved here: of any bytes (up to 200) the used ones tell the same batches and are all used; of a beginning no more is used (statement WalUsed). No condition. -/
import Derived.Test.YtbdbcffnjibjoaaWlCut
import Derived.Test.YtbdbcffnjibjoaaWlSbK
import Derived.Test.YtbdbcffnjibjoaaOpen
import Derived.Test.YtbdbcffnjibjoaaRows
import Derived.ChangeSame
namespace Go.Proofs.Ytbdbcffnjibjoaa
set_option linter.unusedVariables false
set_option linter.unusedSimpArgs false
open Go.RowKit
theorem In3.far {w w' : World} {S : Nat → Prop} {x : List (List (List UInt8))} {v : Value} {B : Nat} (h : In3 w S x v) (hb : Below B w w') (hS : ∀ b, S b → b < B) : In3 w' S x v :=
  stays3.1 _ w' _ _ _ h fun p hp => hb.cell (hS _ hp)
set_option maxRecDepth 100000 in
set_option maxHeartbeats 2000000 in
theorem walkWalUsed (A0 : Option Addr) (n0 c0 : Nat) (l0 : List UInt8) (x1 : Int) (w : World) (hx0 : BytesIn w A0 n0 c0 l0) (hx1 : -9223372036854775808 ≤ x1 ∧ x1 ≤ 9223372036854775807) :
    Calls Try.prog 9 #[.slice A0 n0 c0, .int .i64 x1] w fun e w' => e = .returned (.bool true) ∧ Below w.heap.size w w' := by
  obtain ⟨hr, hnc, _, hA⟩ := hx0
  clear hx1
  obtain ⟨i0, hi0, hz0, hz1, hz2⟩ := info_parts info_u8
  have HC := Lib.hid (wlCut_any A0 n0 c0 l0 w hr hnc hA)
  have hlen : (l0.take 200).length ≤ 200 := by rw [List.length_take]; omega
  clear hr hnc hA
  generalize l0.take 200 = C at *
  obtain ⟨hu1, hu2⟩ := scan_used C
  have hbd := scan_bd C (by omega)
  have hK0 := Int.emod_nonneg x1 (show ((C.length : Int) + 1) ≠ 0 by omega)
  have hK1 := Int.emod_lt_of_pos x1 (show (0 : Int) < (C.length : Int) + 1 by omega)
  obtain ⟨K, hK⟩ : ∃ K : Nat, x1 % ((C.length : Int) + 1) = K := ⟨(x1 % ((C.length : Int) + 1)).toNat, by omega⟩
  have hKC : K ≤ C.length := by omega
  have hless := scan_less C K
  have HK := Lib.hid hK
  clear hK hK0 hK1
  obtain ⟨X, hX⟩ : ∃ X, (scan C).1 = X := ⟨_, rfl⟩
  obtain ⟨U, hU⟩ : ∃ U, (scan C).2 = U := ⟨_, rfl⟩
  obtain ⟨U2, hU2⟩ : ∃ U2, (scan (C.take K)).2 = U2 := ⟨_, rfl⟩
  rw [hU] at hu1 hu2 hless
  rw [hU2] at hless
  rw [hX] at hbd
  have hXX : scan (C.take U) = (X, U) := by rw [hu2]; exact Prod.ext hX hU
  have hlU : (C.take U).length = U := by rw [List.length_take]; omega
  have hlK : (C.take K).length = K := by rw [List.length_take]; omega
  have HXX := Lib.hid hXX
  have HX := Lib.hid hX
  have HU := Lib.hid hU
  have HU2 := Lib.hid hU2
  have Hbd := Lib.hid hbd
  have HlU := Lib.hid hlU
  have HlK := Lib.hid hlK
  clear hXX hX hU hU2 hbd hlU hlK hu2
  go_enter Try.func9, Try.ntmps9
  go_wp2_with fail
  refine HC.out.mono ?_
  rintro e w1 ⟨A1, c1, rfl, ho1, hc1, hA1, hb1⟩
  have Ho1 := Lib.hid ho1
  have Hb1 := Lib.hid hb1
  have hs1 := hb1.size
  have H2 := Lib.hid (wlCut_own A1 c1 C w1 hlen (Holds.own ho1) hc1 hA1)
  clear ho1 hb1 HC
  go_wp2_with fail
  refine H2.out.mono ?_
  rintro e w2 ⟨A2, c2, rfl, ho2, hc2, hA2, hb2⟩
  have Ho1' := Lib.hid (wl_below Ho1.out hb2)
  have Hb2 := Lib.hid (Hb1.out.trans (hb2.mono hs1))
  have hs2 := Hb2.out.size
  have H3 := Lib.hid (scanS_any A2 c2 C w2 (Holds.own ho2) hc2 (by omega))
  clear ho2 hb2 H2 Ho1 Hb1
  go_wp2_with fail
  refine H3.out.mono ?_
  rintro e w3 ⟨v3, rfl, hi3, hb3⟩
  rw [HX.out] at hi3
  rw [HU.out]
  have Hi3 := Lib.hid hi3
  have Ho3 := Lib.hid (wl_below Ho1'.out hb3)
  have Hb3 := Lib.hid (Hb2.out.trans (hb3.mono hs2))
  have hs3 := Hb3.out.size
  clear hi3 hb3 H3 Ho1' Hb2
  have hcut := fun W => run_cut_h (P := Try.prog) W 23 5 i0 Try.underlying23 hi0 A1 C.length c1 .i64 (U : Int) U rfl (by omega)
  have hcutK := fun W => run_cut_h (P := Try.prog) W 23 5 i0 Try.underlying23 hi0 A1 C.length c1 .i64 (K : Int) K rfl (by omega)
  have hfirst : Holds w3 w3.heap.size 1 A1 U ((C.take U).map bv) := (Holds.own Ho3.out).first hu1
  have H4 := wlCut_own A1 c1 (C.take U) w3 (by rw [HlU.out]; omega) (by rw [HlU.out]; exact hfirst) (by rw [HlU.out]; omega) hA1
  rw [HlU.out] at H4
  have H4' := Lib.hid H4
  clear hfirst H4
  go_wp2_with fail
  refine H4'.out.mono ?_
  rintro e w4 ⟨A4, c4, rfl, ho4, hc4, hA4, hb4⟩
  have Ho4 := Lib.hid (wl_below Ho3.out hb4)
  have Hi4 := Lib.hid (Hi3.out.far hb4 fun b hb => hb.2)
  have Hb4 := Lib.hid (Hb3.out.trans (hb4.mono hs3))
  have hs34 := hb4.size
  have hs4 := Hb4.out.size
  have hh4 := Own.holdsN ho4 HlU.out
  have H5 := scanS_any A4 c4 (C.take U) w4 (by rw [HlU.out]; exact hh4) (by rw [HlU.out]; exact hc4) (by rw [HlU.out]; omega)
  rw [HXX.out, HlU.out] at H5
  have H5' := Lib.hid H5
  clear ho4 hb4 hh4 H5 H4' Hi3 Ho3 Hb3
  go_wp2_with fail
  refine H5'.out.mono ?_
  rintro e w5 ⟨v5, rfl, hi5, hb5⟩
  have Hi5 := Lib.hid hi5
  have Hj5 := Lib.hid (Hi4.out.far hb5 fun b hb => by have := hb.2; omega)
  have Ho5 := Lib.hid (wl_below Ho4.out hb5)
  have Hb5 := Lib.hid (Hb4.out.trans (hb5.mono hs4))
  have hs45 := hb5.size
  have hs5 := Hb5.out.size
  clear hi5 hb5 H5' Hi4 Ho4 Hb4
  go_wp2_with fail
  refine (picked_any x1 _ _ (by omega) (by omega)).mono ?_
  rintro e w6 ⟨rfl, rfl⟩
  rw [HK.out]
  have hfirst : Holds w5 w5.heap.size 1 A1 K ((C.take K).map bv) := (Holds.own Ho5.out).first hKC
  have H7 := wlCut_own A1 c1 (C.take K) w5 (by rw [HlK.out]; omega) (by rw [HlK.out]; exact hfirst) (by rw [HlK.out]; omega) hA1
  rw [HlK.out] at H7
  have H7' := Lib.hid H7
  clear hfirst H7
  go_wp2_with fail
  refine H7'.out.mono ?_
  rintro e w7 ⟨A7, c7, rfl, ho7, hc7, hA7, hb7⟩
  have Hi7 := Lib.hid (Hi5.out.far hb7 fun b hb => hb.2)
  have Hj7 := Lib.hid (Hj5.out.far hb7 fun b hb => by have := hb.2; omega)
  have Hb7 := Lib.hid (Hb5.out.trans (hb7.mono hs5))
  have hs57 := hb7.size
  have hs7 := Hb7.out.size
  have hh7 := Own.holdsN ho7 HlK.out
  have H8 := scanS_any A7 c7 (C.take K) w7 (by rw [HlK.out]; exact hh7) (by rw [HlK.out]; exact hc7) (by rw [HlK.out]; omega)
  rw [HlK.out, HU2.out] at H8
  have H8' := Lib.hid H8
  clear ho7 hb7 hh7 H8 H7' Hi5 Hj5 Ho5 Hb5
  go_wp2_with fail
  refine H8'.out.mono ?_
  rintro e w8 ⟨v8, rfl, _, hb8⟩
  have Hi8 := Lib.hid (Hi7.out.far hb8 fun b hb => by have := hb.2; omega)
  have Hj8 := Lib.hid (Hj7.out.far hb8 fun b hb => by have := hb.2; omega)
  have Hb8 := Lib.hid (Hb7.out.trans (hb8.mono hs7))
  have hs78 := hb8.size
  have hs8 := Hb8.out.size
  clear hb8 H8' Hi7 Hj7 Hb7
  go_wp2_with fail
  refine (packOne w8).mono ?_
  rintro e w9 ⟨A9, c9, rfl, hb9⟩
  have hi9 : In3 w9 (lowB w9.heap.size) X v3 := stays3.2 _ _ _ _ _ (Hj8.out.far hb9 fun b hb => by have := hb.2; omega) fun b hb => by have := hb.2; have := hb9.size; show b < _; omega
  have hj9 : In3 w9 (lowB w9.heap.size) X v5 := stays3.2 _ _ _ _ _ (Hi8.out.far hb9 fun b hb => by have := hb.2; omega) fun b hb => by have := hb.2; have := hb9.size; show b < _; omega
  have H9 := Lib.hid (sbK_any X X v3 v5 w9 _ _ hi9 hj9 (Nat.le_refl _) (Nat.le_refl _) Hbd.out Hbd.out)
  have Hb9 := Lib.hid (Hb8.out.trans (hb9.mono hs8))
  clear hi9 hj9 hb9 Hi8 Hj8 Hb8
  go_wp2_with fail
  refine H9.out.mono ?_
  rintro e w10 ⟨rfl, q, rfl⟩
  go_wp2_with fail
  go_ret
  exact ⟨by simp, below_drewN Hb9.out q⟩
namespace walUsed
open Go.ChangeShapes Go.WideShapes Go.ChangeAt Go.RowKit
theorem own : ownKnob Try.prog.godebug = none := by kernel_rfl
theorem laidOut : laidOutB Try.prog = true := by kernel_rfl
set_option linter.unusedVariables false
set_option maxRecDepth 100000 in
theorem lifted (os : Os) (started : os.Started) (H : Type) (enc : TypeId × Value → H) :
    ReturnsInHanded {} Try.checked os 9 .any (Rows.walUsedSpec.pre6 enc Try.prog Try.f9 Rows.walUsedRow.domain false) (Rows.walUsedSpec.post enc Try.prog Try.f9 false true false false) := by
  refine returnsInHanded_of_change (C := Try.checked) own started (by kernel_rfl) Try.func9
    (ChangeSpec.witness6 (enc := enc) (C := Try.checked) false ⟨#[], #[.slice none 0 0, .int .i64 0], []⟩ 8 (by kernel_rfl) (by kernel_rfl) (by kernel_rfl) (by kernel_rfl)) ?_
  intro W base args ds gs before hval0 hW hcnd _
  have hval : ∀ (j : Nat) t v, Try.f9.params[j]? = some t → args[j]? = some v → Value.okWide Try.prog W .any base t v := hval0
  have hW' := hW
  obtain ⟨p, q, hA0, hV, rfl, hfz, hnd⟩ := hW
  have hA : DataW.TrodAll enc Try.prog W 0 (fun _ => true) true Try.f9.params.toList args.toList ds p := hA0
  rw [Try.params9] at hA hval
  obtain ⟨v0, vs0, d0, ds0, p0, q0, hargs, rfl, rfl, h0, rr0⟩ := trodAll_cons hA
  obtain ⟨v1, vs1, d1, ds1, p1, q1, rfl, rfl, rfl, h1, rr1⟩ := trodAll_cons rr0
  obtain ⟨rfl, rfl, rfl⟩ := trodAll_nil rr1
  obtain rfl : args = #[v0, v1] := by cases args; simp_all
  obtain ⟨rfl, rfl⟩ := trodVars_none hV
  have k0 := h0
  have lt0 : ∀ x ∈ p0, x.block < W.heap.size := by obtain ⟨m, hm⟩ := k0; exact DataW.trod_lt m _ _ _ hm
  obtain ⟨A0, n0, c0, l0, rfl, hx0⟩ := open_bytes Try.underlying23 Try.underlying5 (by kernel_rfl) (hval 0 23 v0 rfl rfl) h0
  have k1 := h1
  have lt1 : ∀ x ∈ p1, x.block < W.heap.size := by obtain ⟨m, hm⟩ := k1; exact DataW.trod_lt m _ _ _ hm
  obtain ⟨x1, rfl, hx1⟩ := open_i64 Try.underlying3 (hval 1 3 v1 rfl rfl) h1
  clear hA0 hval0
  refine (walkWalUsed A0 n0 c0 l0 x1 W hx0 hx1).mono fun e W' ⟨he, bel⟩ => ?_
  subst he
  exact ⟨_, rfl, _, _, _, [], _, [], hW', trodAll_mk1 (shut_bool Try.underlying4 _), (trodAll_cons_mk (Below.trod laidOut (by kernel_rfl) (of_decide_eq_true (by kernel_rfl)) k0 bel lt0) (trodAll_cons_mk (Below.trod laidOut (by kernel_rfl) (of_decide_eq_true (by kernel_rfl)) k1 bel lt1) trodAll_mk0)), rfl, bel.frame _, fun h => by cases h⟩

theorem over : Rows.walUsedRow.holds Try.pinned (OpenSpec.ofChange Rows.walUsedSpec) :=
  OpenClaim.holds_of_wide 9 Try.f9 rfl rfl rfl rfl rfl rfl rfl ⟨rfl, rfl, rfl, rfl, rfl⟩ rfl rfl rfl rfl rfl (by kernel_rfl) Try.func9 (by kernel_rfl)
    (of_decide_eq_true (by kernel_rfl)) (by unfold Func.isWrapper; first | (rw [if_pos (by decide +kernel)]; kernel_rfl) | (rw [if_neg (by decide +kernel)]; exact ⟨rfl, rfl⟩))
    (fun os started H enc _ => lifted os started H enc)

theorem proved : Rows.WalUsedSaid := over
#print axioms proved
end walUsed
end Go.Proofs.Ytbdbcffnjibjoaa
