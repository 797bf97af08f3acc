/- Proved here: for every list of raw numbers and all bytes (up to 200), what stands behind whole batches is read as if it stood alone (statement WalMore). No condition. -/
import Derived.Test.YtbdbcffnjibjoaaWlKp
import Derived.Test.YtbdbcffnjibjoaaOpenI
import Derived.Test.YtbdbcffnjibjoaaUng
import Derived.Test.YtbdbcffnjibjoaaRows
import Derived.ChangeSame
namespace Go.Proofs.Ytbdbcffnjibjoaa
set_option linter.unusedVariables false
set_option linter.unusedSimpArgs false
open Go.RowKit
theorem Ats.ones {w : World} {S : Nat → Prop} {xs : List (List (List UInt8))} {cs : List Value} (h : Ats (In2 w S) xs cs) : ∀ u ∈ cs, u.oneCell' = true := by
  intro u hu
  obtain ⟨i, hi, rfl⟩ := List.getElem_of_mem hu
  have hx : i < xs.length := by have := h.1; omega
  obtain ⟨A, c, cs', e, _⟩ := h.2 i xs[i] cs[i] (List.getElem?_eq_getElem hx) (List.getElem?_eq_getElem hi)
  rw [e]; rfl
set_option maxRecDepth 100000 in
set_option maxHeartbeats 2000000 in
theorem walkWalMore (A0 : Option Addr) (n0 c0 : Nat) (A1 : Option Addr) (n1 c1 : Nat) (l1 : List UInt8) (w : World) (hx0 : IntsAt w w.heap.size A0 n0 c0) (hx1 : BytesIn w A1 n1 c1 l1) :
    Calls Try.prog 6 #[.slice A0 n0 c0, .slice A1 n1 c1] w fun e w' => e = .returned (.bool true) ∧ Below w.heap.size w w' := by
  have H0 := Lib.hid (batches_any A0 n0 c0 12 w hx0 (by decide))
  obtain ⟨hr, hnc, _, hA⟩ := hx1
  have Hr := Lib.hid hr
  clear hx0 hr
  obtain ⟨i0, hi0, hz0, hz1, hz2⟩ := info_parts info_u8
  obtain ⟨i1, hi1, hy0, hy1, hy2⟩ := info_parts info_rows
  have hlD : (l1.take 200).length ≤ 200 := by rw [List.length_take]; omega
  have HC := Lib.hid (fun W h => wlCut_any A1 n1 c1 l1 W h hnc hA)
  generalize l1.take 200 = D at *
  go_enter Try.func6, Try.ntmps6
  go_wp2_with fail
  refine H0.out.mono ?_
  rintro e w1 ⟨v1, rfl, bs, hsm, hin1, hb1⟩
  have hin1' := hin1.low
  obtain ⟨AB, cB, rfl, hcB⟩ := hin1'.formA
  have Hin1 := Lib.hid hin1'
  have Hb1 := Lib.hid hb1
  have hs1 := hb1.size
  have H1 := Lib.hid (packed_any bs _ 12 w1.heap.size w1 hsm (by decide) hin1' (Nat.le_refl _))
  have Hok := Lib.hid (show ∀ b ∈ bs, okBatch b from fun b hb => (hsm.2 b hb).ok)
  have Hps := Lib.hid (packs_small bs hsm.2)
  obtain ⟨m, hm⟩ : ∃ m, bs.length = m := ⟨_, rfl⟩
  have hm12 : m ≤ 12 := by have := hsm.1; omega
  obtain ⟨L, hL⟩ : ∃ L, (packs bs).length = L := ⟨_, rfl⟩
  rw [hm] at hcB ⊢
  have hL360 : L ≤ 360 := by have := Hps.out; omega
  rw [hm, hL] at H1
  have Hm := Lib.hid hm
  have HL := Lib.hid hL
  rw [hm] at Hin1
  have Hbd1 := Lib.hid (hsm.bd (by decide))
  clear hin1 hin1' hb1 hsm hm hL H0 Hps
  go_wp2_with fail
  refine H1.out.mono ?_
  rintro e w2 ⟨A2, c2, AE, cE, rfl, ho2, _, hb2⟩
  have Ho2 := Lib.hid ho2
  have Hin2 := Lib.hid (Hin1.out.farL hb2)
  have Hb2 := Lib.hid (Hb1.out.trans (hb2.mono hs1))
  have hs12 := hb2.size
  have hs2 := Hb2.out.size
  have Hr2 := Lib.hid ((Hr.out.below Hb2.out).wider hs2)
  clear ho2 hb2 H1 Hin1 Hb1 Hr
  go_wp2_with fail
  refine (HC.out w2 Hr2.out).mono ?_
  rintro e w3 ⟨A3, c3, rfl, ho3, hc3, hA3, hb3⟩
  have Ho3 := Lib.hid ho3
  have Ho2' := Lib.hid (wl_below Ho2.out hb3)
  have Hin3 := Lib.hid ((Hin2.out.wideL hs12).farL hb3)
  have Hb3 := Lib.hid (Hb2.out.trans (hb3.mono hs2))
  have hs23 := hb3.size
  have hs3 := Hb3.out.size
  clear ho3 hb3 HC Hr2 Ho2 Hin2 Hb2
  obtain ⟨d, hd⟩ : ∃ d, D.length = d := ⟨_, rfl⟩
  rw [hd] at hlD hc3 ⊢
  have Hd := Lib.hid hd
  have hrow2 : w3.ownsRow w1.heap.size 5 1 (.slice A2 L c2) L ((packs bs).map bv) := by have := Ho2'.out; rwa [HL.out] at this
  have hh2 := Holds.own hrow2
  have hnil2 := own_nilcap hrow2
  have hrow3 : w3.ownsRow w2.heap.size 5 1 (.slice A3 d c3) d (D.map bv) := by have := Ho3.out; unfold Own at this; rwa [hd] at this
  have Hh2 := Lib.hid hh2
  have Hrow3 := Lib.hid hrow3
  have hLm : L ≤ 1048576 := by omega
  have hLd : L + d ≤ 1048576 := by omega
  have hA3' : A3 = none → c3 = 0 := hA3
  clear hd hrow2 hh2 hrow3 Ho3 Ho2' hA3
  go_wp2_with (first
    | (at_builtin; refine wpList_copyB (by rfl) _ (by rfl) w3.heap.size A2 L c2 (packs bs) Hh2.out HL.out.symm (by rfl) hnil2 hLm ?_; clear Hh2; intro A4 c4 w4 ho4 _ hb4; have ho4' : w4.ownsRow w3.heap.size 5 1 (.slice A4 L c4) L ((packs bs).map bv) := (by unfold Own at ho4; rwa [HL.out] at ho4); have Ho4 := Lib.hid ho4'; have Hb4 := Lib.hid hb4; have hs4 := hb4.size; have Hr4 := Lib.hid (Holds.below (Holds.own Hrow3.out) hb4); clear ho4 ho4' hb4)
    | (at_builtin; refine wpList_append_all w4 (by rfl) _ _ 23 (by rfl) w3.heap.size 5 i0 _ 1 1 Try.underlying23 hi0 hz0 hz1 hz2 rfl (by decide) _ _ _ (by rfl) Ho4.out w3.heap.size A3 d c3 _ (by rfl) hA3' Hr4.out (bv_one _) hLd (by decide) hs4 ?_; clear Hr4; intro v5 w5 ho5 hg5 _; obtain ⟨A5, c5, rfl, _⟩ := own_form ho5; have Ho5 := Lib.hid ho5; have Hb5 := Lib.hid (Hb4.out.grown hg5 hs4 (fun k hk => (Ho4.out.lt k hk).1)); clear ho5 hg5))
  have hs35 := Hb5.out.size
  have hlen5 : (packs bs ++ D).length = L + d := by rw [List.length_append, HL.out, Hd.out]
  have hh5 : Holds w5 w5.heap.size 1 A5 (L + d) ((packs bs ++ D).map bv) := by rw [List.map_append]; exact Holds.own Ho5.out
  have H6 := scanS_any A5 c5 (packs bs ++ D) w5 (by rw [hlen5]; exact hh5) (by rw [hlen5]; exact own_capN Ho5.out) (by rw [hlen5]; omega)
  rw [scan_packs bs Hok.out D, hlen5, HL.out] at H6
  have hbdD := scan_bd D (by rw [Hd.out]; omega)
  obtain ⟨Y, hY⟩ : ∃ Y, (scan D).1 = Y := ⟨_, rfl⟩
  obtain ⟨U, hU⟩ : ∃ U, (scan D).2 = U := ⟨_, rfl⟩
  have hscD : scan D = (Y, U) := Prod.ext hY hU
  have huD := (scan_used D).1
  rw [Hd.out] at huD
  have hylen : Y.length ≤ d := by
    obtain ⟨h1, ⟨dd, h2⟩, h3⟩ := scan_reads D
    have h4 := (packs_ge _ h1).1
    rw [hY] at h4
    rw [hU] at huD h3
    rw [hY] at h3
    omega
  rw [hU] at huD
  rw [hY] at hbdD
  simp only [hY, hU] at H6
  have H6' := Lib.hid H6
  have HscD := Lib.hid hscD
  have HbdD := Lib.hid hbdD
  have Hin5 := Lib.hid (Hin3.out.farL (Hb5.out.mono hs23))
  have Hrow5 := Lib.hid (wl_below Hrow3.out Hb5.out)
  have Hb5' := Lib.hid (Hb3.out.trans (Hb5.out.mono hs3))
  have hs5 := Hb5'.out.size
  clear hY hU H6 hscD hbdD hh5 hlen5 Hin3 Hrow3 Hb3 Hb5
  refine H6'.out.mono ?_
  rintro e w6 ⟨v6, rfl, hi6, hb6⟩
  have Hi6 := Lib.hid hi6.low
  have Hin6 := Lib.hid (Hin5.out.farL (hb6.mono (by omega)))
  have hrow6 := wl_below Hrow5.out hb6
  have Hb6 := Lib.hid (Hb5'.out.trans (hb6.mono hs5))
  have hs56 := hb6.size
  have hs6 := Hb6.out.size
  have H7 := wlCut_own A3 c3 D w6 (by rw [Hd.out]; exact hlD) (by rw [Hd.out]; exact Holds.own hrow6) (by rw [Hd.out]; exact hc3) hA3'
  rw [Hd.out] at H7
  have H7' := Lib.hid H7
  clear hi6 hb6 H6' Hin5 Hrow5 hrow6 H7 Hb5'
  go_wp2_with fail
  refine H7'.out.mono ?_
  rintro e w7 ⟨A7, c7, rfl, ho7, hc7, hA7, hb7⟩
  have Hi7 := Lib.hid (Hi6.out.farL hb7)
  have Hin7 := Lib.hid (Hin6.out.farL (hb7.mono (by omega)))
  have Hb7 := Lib.hid (Hb6.out.trans (hb7.mono hs6))
  have hs67 := hb7.size
  have hs7 := Hb7.out.size
  have hh7 := Own.holdsN ho7 Hd.out
  have H8 := scanS_any A7 c7 D w7 (by rw [Hd.out]; exact hh7) (by rw [Hd.out]; exact hc7) (by rw [Hd.out]; omega)
  rw [Hd.out, HscD.out] at H8
  have H8' := Lib.hid H8
  clear ho7 hb7 hh7 H8 H7' Hi6 Hin6 Hb6
  go_wp2_with fail
  refine H8'.out.mono ?_
  rintro e w8 ⟨v8, rfl, hi8, hb8⟩
  have Hj8 := Lib.hid hi8.low
  have Hi8 := Lib.hid (Hi7.out.farL (hb8.mono (by omega)))
  have Hin8 := Lib.hid (Hin7.out.farL (hb8.mono (by omega)))
  have Hb8 := Lib.hid (Hb7.out.trans (hb8.mono hs7))
  have hs78 := hb8.size
  have hs8 := Hb8.out.size
  clear hi8 hb8 H8' Hi7 Hin7 Hb7
  go_wp2_with fail
  refine (packOne w8).mono ?_
  rintro e w9 ⟨A9, c9, rfl, hb9⟩
  have Hi9 := Lib.hid (Hi8.out.farL (hb9.mono (by omega)))
  have hin9 := Hin8.out.farL (hb9.mono (by omega))
  have hj9 := Hj8.out.farL (hb9.mono (by omega))
  have Hb9 := Lib.hid (Hb8.out.trans (hb9.mono hs8))
  have hs89 := hb9.size
  have hs9 := Hb9.out.size
  obtain ⟨AB', cB', csB, eB, _, hAB, hhB, haB⟩ := hin9
  injection eB with e1 e2 e3
  subst e1 e3
  rw [← e2] at hhB
  obtain ⟨AY, cY, csY, rfl, hcY, hAY, hhY, haY⟩ := hj9
  obtain ⟨my, hmy⟩ : ∃ my, Y.length = my := ⟨_, rfl⟩
  rw [hmy] at hhY hcY hylen ⊢
  have Hmy := Lib.hid hmy
  have HhB := Lib.hid (show Holds w9 w2.heap.size 1 AB m csB from hhB)
  have HaB := Lib.hid haB
  have HhY := Lib.hid (show Holds w9 w8.heap.size 1 AY my csY from hhY)
  have HaY := Lib.hid haY
  have hone1 := haB.ones
  have hone2 := haY.ones
  have Hone1 := Lib.hid hone1
  have Hone2 := Lib.hid hone2
  have hm1 : m ≤ 1048576 := by omega
  have hm2 : m + my ≤ 1048576 := by omega
  have hLU : ((L : Int) + (U : Int) == (L : Int) + (U : Int)) = true := by simp
  clear hb9 hhB haB hhY haY hone1 hone2 hmy Hi8 Hin8 Hj8 Hb8 e2
  go_wp2_with (first
    | (at_builtin; refine wpList_unguard (by kernel_rfl) ?_; refine wpList_append_nil w9 (by rfl) _ 29 (by rfl) 22 i1 _ 1 24 Try.underlying29 hi1 hy0 hy1 hy2 rfl (by decide) w2.heap.size AB m cB csB HhB.out (by rfl) hAB Hone1.out hm1 (by decide) ?_; clear HhB; intro A10 c10 w10 ho10 _ _ hb10; have Ho10 := Lib.hid ho10; have Hb10 := Lib.hid hb10; have hs10 := hb10.size; have HhY10 := Lib.hid (Holds.below HhY.out (hb10.mono hs89)); clear ho10 hb10)
    | (at_builtin; refine wpList_unguard (by kernel_rfl) ?_; refine wpList_append_all w10 (by rfl) _ _ 29 (by rfl) w9.heap.size 22 i1 _ 1 24 Try.underlying29 hi1 hy0 hy1 hy2 rfl (by decide) _ _ _ (by rfl) Ho10.out w8.heap.size AY my cY csY (by rfl) hAY HhY10.out Hone2.out hm2 (by decide) hs10 ?_; clear HhY10; intro v11 w11 ho11 hg11 _; obtain ⟨A11, c11, rfl, _⟩ := own_form ho11; have Ho11 := Lib.hid ho11; have Hb11 := Lib.hid (Hb10.out.grown hg11 hs10 (fun k hk => (Ho10.out.lt k hk).1)); clear ho11 hg11))
  have hs911 := Hb11.out.size
  have hl11 : (bs ++ Y).length = m + my := by rw [List.length_append, Hm.out, Hmy.out]
  have hin11 : In3 w11 (lowB w11.heap.size) (bs ++ Y) (.slice A11 (m + my) c11) := by
    refine ⟨A11, c11, csB ++ csY, by rw [hl11], by rw [hl11]; exact own_capN Ho11.out, own_nilcap Ho11.out, by rw [hl11]; exact Holds.own Ho11.out, ?_⟩
    refine Ats.app ?_ ?_
    · exact stays2.ats HaB.out (fun p hp => Hb11.out.cell (by have : p.block < w2.heap.size := hp; omega)) (fun b hb => by have : b < w2.heap.size := hb; show b < _; omega)
    · exact stays2.ats HaY.out (fun p hp => Hb11.out.cell (by have : p.block < w8.heap.size := hp; omega)) (fun b hb => by have : b < w8.heap.size := hb; show b < _; omega)
  have hbd11 : BdL (bs ++ Y) := ⟨by rw [hl11]; omega, fun b hb => by
    rcases List.mem_append.1 hb with h | h
    · exact Hbd1.out.2 b h
    · exact HbdD.out.2 b h⟩
  have hi11 := (Hi9.out.farL (Hb11.out.mono (by omega))).wideL (show w6.heap.size ≤ w11.heap.size by omega)
  have H12 := Lib.hid (sbK_any (bs ++ Y) (bs ++ Y) v6 _ w11 _ _ hi11 hin11 (Nat.le_refl _) (Nat.le_refl _) hbd11 hbd11)
  have Hb12 := Lib.hid (Hb9.out.trans (Hb11.out.mono hs9))
  clear hl11 hin11 hbd11 hi11
  refine H12.out.mono ?_
  rintro e w12 ⟨rfl, q, rfl⟩
  go_wp2_with fail
  go_ret
  exact ⟨by simp, below_drewN Hb12.out q⟩
namespace walMore
open Go.ChangeShapes Go.WideShapes Go.ChangeAt Go.RowKit
theorem own : ownKnob Try.prog.godebug = none := by kernel_rfl
theorem laidOut : laidOutB Try.prog = true := by kernel_rfl
set_option linter.unusedVariables false
set_option maxRecDepth 100000 in
theorem lifted (os : Os) (started : os.Started) (H : Type) (enc : TypeId × Value → H) :
    ReturnsInHanded {} Try.checked os 6 .any (Rows.walMoreSpec.pre6 enc Try.prog Try.f6 Rows.walMoreRow.domain false) (Rows.walMoreSpec.post enc Try.prog Try.f6 false true false false) := by
  refine returnsInHanded_of_change (C := Try.checked) own started (by kernel_rfl) Try.func6
    (ChangeSpec.witness6 (enc := enc) (C := Try.checked) false ⟨#[], #[.slice none 0 0, .slice none 0 0], []⟩ 8 (by kernel_rfl) (by kernel_rfl) (by kernel_rfl) (by kernel_rfl)) ?_
  intro W base args ds gs before hval0 hW hcnd _
  have hval : ∀ (j : Nat) t v, Try.f6.params[j]? = some t → args[j]? = some v → Value.okWide Try.prog W .any base t v := hval0
  have hW' := hW
  obtain ⟨p, q, hA0, hV, rfl, hfz, hnd⟩ := hW
  have hA : DataW.TrodAll enc Try.prog W 0 (fun _ => true) true Try.f6.params.toList args.toList ds p := hA0
  rw [Try.params6] at hA hval
  obtain ⟨v0, vs0, d0, ds0, p0, q0, hargs, rfl, rfl, h0, rr0⟩ := trodAll_cons hA
  obtain ⟨v1, vs1, d1, ds1, p1, q1, rfl, rfl, rfl, h1, rr1⟩ := trodAll_cons rr0
  obtain ⟨rfl, rfl, rfl⟩ := trodAll_nil rr1
  obtain rfl : args = #[v0, v1] := by cases args; simp_all
  obtain ⟨rfl, rfl⟩ := trodVars_none hV
  have k0 := h0
  have lt0 : ∀ x ∈ p0, x.block < W.heap.size := by obtain ⟨m, hm⟩ := k0; exact DataW.trod_lt m _ _ _ hm
  obtain ⟨A0, n0, c0, rfl, hx0⟩ := open_intsl Try.underlying34 Try.underlying3 (by kernel_rfl) (hval 0 34 v0 rfl rfl) h0
  have k1 := h1
  have lt1 : ∀ x ∈ p1, x.block < W.heap.size := by obtain ⟨m, hm⟩ := k1; exact DataW.trod_lt m _ _ _ hm
  obtain ⟨A1, n1, c1, l1, rfl, hx1⟩ := open_bytes Try.underlying23 Try.underlying5 (by kernel_rfl) (hval 1 23 v1 rfl rfl) h1
  clear hA0 hval0
  refine (walkWalMore A0 n0 c0 A1 n1 c1 l1 W hx0 hx1).mono fun e W' ⟨he, bel⟩ => ?_
  subst he
  exact ⟨_, rfl, _, _, _, [], _, [], hW', trodAll_mk1 (shut_bool Try.underlying4 _), (trodAll_cons_mk (Below.trod laidOut (by kernel_rfl) (of_decide_eq_true (by kernel_rfl)) k0 bel lt0) (trodAll_cons_mk (Below.trod laidOut (by kernel_rfl) (of_decide_eq_true (by kernel_rfl)) k1 bel lt1) trodAll_mk0)), rfl, bel.frame _, fun h => by cases h⟩

theorem over : Rows.walMoreRow.holds Try.pinned (OpenSpec.ofChange Rows.walMoreSpec) :=
  OpenClaim.holds_of_wide 6 Try.f6 rfl rfl rfl rfl rfl rfl rfl ⟨rfl, rfl, rfl, rfl, rfl⟩ rfl rfl rfl rfl rfl (by kernel_rfl) Try.func6 (by kernel_rfl)
    (of_decide_eq_true (by kernel_rfl)) (by unfold Func.isWrapper; first | (rw [if_pos (by decide +kernel)]; kernel_rfl) | (rw [if_neg (by decide +kernel)]; exact ⟨rfl, rfl⟩))
    (fun os started H enc _ => lifted os started H enc)

theorem proved : Rows.WalMoreSaid := over
#print axioms proved
end walMore
end Go.Proofs.Ytbdbcffnjibjoaa
