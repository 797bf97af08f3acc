/- Proved here: for every list of integers and all secrets and nonces, an object of the list's that is sealed, written, encoded, decoded and parsed again has a valid signature, unless its text is longer than 400 bytes (statement TopSealed). No condition. -/
import Derived.Test.YtgghncgefhanjaaGreatDoorBunU
import Derived.Test.YtgghncgefhanjaaGreatDoorOpenI
import Derived.Test.YtgghncgefhanjaaGreatDoorLaid
import Derived.Test.YtgghncgefhanjaaGreatDoorJObj
import Derived.Test.YtgghncgefhanjaaGreatDoorBaseDec
namespace Go.Proofs.YtgghncgefhanjaaGreatDoor
set_option linter.unusedVariables false
set_option linter.unusedSimpArgs false
open Go.RowKit
attribute [local go_sem high] str_mk
set_option maxRecDepth 100000 in
set_option maxHeartbeats 4000000 in
theorem walkTopSealed (A0 : Option Addr) (n0 c0 : Nat) (x1 : Int) (x2 : Int) (w : World) (hx0 : IntsAt w w.heap.size A0 n0 c0) (hx1 : -9223372036854775808 ≤ x1 ∧ x1 ≤ 9223372036854775807) (hx2 : -9223372036854775808 ≤ x2 ∧ x2 ≤ 9223372036854775807) (htab : Tab w.heap.size w) (hsh : w.ShapedOpen Tryz.prog) :
    Calls Tryz.prog 7 #[.slice A0 n0 c0, .int .i64 x1, .int .i64 x2] w fun e w' => e = .returned (.bool true) ∧ Below w.heap.size w w' := by
  have hgl := Gl.of hsh
  have Hctx := Lib.hid (fun W (hW : Below w.heap.size w W) => And.intro (htab.on hW).here (hgl.below hW))
  clear htab hgl hsh
  have hpub := pubk_nat (sec_of x1).one (sec_of x1).lt
  have hp2 : (2 : Int) ≤ ((pw 4 (secOf x1) % 7823 : Nat) : Int) := by unfold isPub at hpub; rw [Bool.and_eq_true, decide_eq_true_eq] at hpub; exact hpub.1.1
  have hpa := publicR_nat (sec_of x1).one (sec_of x1).lt
  have HPu := Lib.hid (fun W => show Calls Tryz.prog 18 #[.int .i64 (secOf x1 : Nat)] W fun e w' => e = .returned (.tuple #[.int .i64 (pw 4 (secOf x1) % 7823 : Nat), .int .i64 0]) ∧ W = w' from (public_any _ W).mono fun e w' h => ⟨by rw [h.1, hpa]; rfl, h.2⟩)
  obtain ⟨p, Hp⟩ : ∃ p, Hid (pw 4 (secOf x1) % 7823 = p) := ⟨_, Lib.hid rfl⟩
  rw [Hp.out] at HPu hp2
  have hp2b : ¬ ((p : Int) < 2) := by omega
  have Hsx := Lib.hid (secretOf_any x1)
  have Hsy := Lib.hid (secretOf_any x2)
  clear hpub hpa
  go_enter Tryz.func7, Tryz.ntmps7
  go_wp2_with fail
  refine (objectOf_any A0 n0 c0 w.heap.size w (Nat.le_refl _) hx0).mono ?_
  rintro e y1 ⟨v, cs, rfl, hv, hO, B⟩
  obtain ⟨k1, n1, t1, Ak1, nk1, ck1, Ap1, np1, cp1, rfl⟩ := hv.form
  have V1 := VBx.new hv
  have hA1 : Below y1.heap.size y1 (y1.alloc (.cells #[.int .i64 k1, .int .i64 n1, str t1, .slice Ak1 nk1 ck1, .slice Ap1 np1 cp1] 25)) := (Below.refl _ _).alloc (Nat.le_refl _) _
  replace B := B.trans (hA1.mono B.size)
  clear hA1
  clear hv
  go_wp2_with fail
  generalize y1.alloc (.cells #[.int .i64 k1, .int .i64 n1, str t1, .slice Ak1 nk1 ck1, .slice Ap1 np1 cp1] 25) = Y1 at *
  generalize y1.heap.size = g1 at *
  have hck := hO.check
  have HR := Lib.hid (show textR v = .tuple #[if checkN v = 0 then str (jtext v) else str [], .int .i64 (checkN v)] from rfl)
  refine (Text_any v _ Y1 g1 (Nat.le_of_lt V1.lt) V1.val (Hctx.out _ B).1 (by have := hO.count; omega)).mono ?_
  rintro e y2 ⟨rfl, hb⟩
  replace V1 := V1.below hb
  replace B := B.trans (hb.mono B.size)
  clear hb
  rw [HR.out, hck]
  clear HR hck
  by_cases h6 : 600 < (jtext v).length
  · rw [if_pos h6, if_neg (by omega)]
    clear h6 hO
    go_wp2_with fail
    refine (Hsx.out _).mono ?_
    rintro e w1 ⟨rfl, rfl⟩
    go_wp2_with fail
    refine (HPu.out _).mono ?_
    rintro e w1 ⟨rfl, rfl⟩
    go_wp2_with fail
    go_ret
    exact ⟨rfl, B⟩
  rw [if_neg h6, if_pos rfl]
  by_cases h4 : 400 < (jtext v).length
  · have h4I : (400 : Int) < ((jtext v).length : Int) := by omega
    clear hO h6 h4
    generalize jtext v = L at *
    go_wp2_with fail
    refine (Hsx.out _).mono ?_
    rintro e w1 ⟨rfl, rfl⟩
    go_wp2_with fail
    refine (HPu.out _).mono ?_
    rintro e w1 ⟨rfl, rfl⟩
    go_wp2_with fail
    go_ret
    exact ⟨rfl, B⟩
  have h0 := hO.obj (by omega)
  have hc1 := S1_ok (u := uA) (.inl rfl) (sigOf_is (secOf x1) (secOf x2) (jtext v))
  have P1 := put_one h0 (sec_of x1) (sec_of x2) (.inl rfl : uA = uA ∨ uA = uB)
  have K1 := Lib.hid (chk_in (u := uA) h0 hc1 (sec_of x1) (sec_of x2) (.inl rfl) (get_S1 _ _))
  rw [Hp.out] at K1
  have N0 := Lib.hid h0.count
  have N1 := Lib.hid (h0.sealed_count hc1)
  have C1 := Lib.hid (h0.sealed_check hc1)
  have T1 := Lib.hid (h0.sealed_text hc1)
  have h4I : ¬ ((400 : Int) < ((jtext v).length : Int)) := by omega
  have HPP := Lib.hid (fun (W : World) (hW : Below w.heap.size w W) (hg : g1 ≤ W.heap.size) (hv : VIn W g1 v [.int .i64 k1, .int .i64 n1, str t1, .slice Ak1 nk1 ck1, .slice Ap1 np1 cp1]) => sealPut_any v [.int .i64 k1, .int .i64 n1, str t1, .slice Ak1 nk1 ck1, .slice Ap1 np1 cp1] uA kE (secOf x1) (secOf x2) W g1 hg hv (Hctx.out W hW).1 (Hctx.out W hW).2 N0.out (by decide) (by decide))
  rw [P1.1, P1.2] at HPP
  clear P1 hc1 h0 hO h6 h4
  generalize insO sigK v (S1 uA (sigOf (secOf x1) (secOf x2) (jtext v))) = J at *
  generalize jtext v = L at *
  go_wp2_with fail
  refine (Hsx.out _).mono ?_
  rintro e w1 ⟨rfl, rfl⟩
  go_wp2_with fail
  refine (HPu.out _).mono ?_
  rintro e w1 ⟨rfl, rfl⟩
  generalize secOf x1 = a at *
  generalize secOf x2 = b at *
  go_wp2_with fail
  have HuA : uA = [64, 97, 58, 120] := rfl
  have HkE : kE = [101, 100, 58, 65] := rfl
  have hsz0 : g1 < y2.heap.size := V1.lt
  have HzA := Lib.hid (show Below y2.heap.size y2 y2.drew from (Below.refl _ _).drew)
  have HzB := Lib.hid (show Below y2.heap.size y2 (y2.alloc (.cells #[.int .i64 0, .int .i64 0, str [], .slice none 0 0, .slice none 0 0] 25)).drew from ((Below.refl _ _).alloc (Nat.le_refl _) _).drew)
  have HnB := Lib.hid (show Blk (y2.alloc (.cells #[.int .i64 0, .int .i64 0, str [], .slice none 0 0, .slice none 0 0] 25)).drew y2.heap.size 25 #[.int .i64 0, .int .i64 0, str [], .slice none 0 0, .slice none 0 0] from Blk.new y2 _ _)
  have HPA := Lib.hid (HPP.out _ (B.trans (HzA.out.mono B.size)) (Nat.le_trans (Nat.le_of_lt hsz0) HzA.out.size) (V1.below HzA.out).val)
  have HPB := Lib.hid (HPP.out _ (B.trans (HzB.out.mono B.size)) (Nat.le_trans (Nat.le_of_lt hsz0) HzB.out.size) (V1.below HzB.out).val)
  rw [HkE, HuA] at HPA HPB
  clear HkE HuA HPP HPu
  have H1 := Lib.hid V1
  have HB := Lib.hid B
  obtain ⟨v0, v1, v2, v3, v4⟩ := V1.cells
  clear V1 B
  go_cut [12, 13] (fun s12 s13 wx => ∃ (g : Nat) (k2 n2 : Int) (t2 : List UInt8) (Ak2 : Option Addr) (nk2 ck2 : Nat) (Ap2 : Option Addr) (np2 cp2 : Nat), s12 = .pointer (some ⟨g, 0, none⟩) ∧ s13 = .int .i64 0 ∧
    Blk wx g 25 #[.int .i64 k2, .int .i64 n2, str t2, .slice Ak2 nk2 ck2, .slice Ap2 np2 cp2] ∧ VIn wx wx.heap.size J [.int .i64 k2, .int .i64 n2, str t2, .slice Ak2 nk2 ck2, .slice Ap2 np2 cp2] ∧ Below y2.heap.size y2 wx)
  case first =>
    have hneW : g1 ≠ y2.heap.size := by omega
    obtain ⟨d0, d1, d2, d3, d4⟩ := (H1.out.below HzA.out).cells
    obtain ⟨e0, e1, e2, e3, e4⟩ := (H1.out.below HzB.out).cells
    go_region_held3 (fun w' => w'.cell? ⟨g1, 0, none⟩ = some (.int .i64 k1) ∧ w'.cell? ⟨g1, 1, none⟩ = some (.int .i64 n1) ∧ w'.cell? ⟨g1, 2, none⟩ = some (str t1) ∧ w'.cell? ⟨g1, 3, none⟩ = some (.slice Ak1 nk1 ck1) ∧ w'.cell? ⟨g1, 4, none⟩ = some (.slice Ap1 np1 cp1))
      (first | with_reducible exact ⟨d0, d1, d2, d3, d4⟩ | with_reducible exact ⟨e0, e1, e2, e3, e4⟩ | with_reducible exact ⟨f0, f1, f2, f3, f4⟩ | with_reducible exact ⟨(sl_cell5 hneW _ _ _ _ _).trans f0, (sl_cell5 hneW _ _ _ _ _).trans f1, (sl_cell5 hneW _ _ _ _ _).trans f2, (sl_cell5 hneW _ _ _ _ _).trans f3, (sl_cell5 hneW _ _ _ _ _).trans f4⟩ | go_keep)
      (first
        | (go_at_call 19; refine (Hsx.out _).mono ?_; rintro e w1 ⟨rfl, rfl⟩)
        | (go_at_call 19; refine (Hsy.out _).mono ?_; rintro e w1 ⟨rfl, rfl⟩)
        | (go_at_call 8; go_fit (HPA.out); rintro e w3 ⟨csb, rfl, hvb, hb3⟩; obtain ⟨kb, nb, tb, Akb, nkb, ckb, Apb, npb, cpb, rfl⟩ := hvb.form; have Hv3 := Lib.hid hvb; have Hb4 := Lib.hid (HzA.out.trans (hb3.mono HzA.out.size)); obtain ⟨f0, f1, f2, f3, f4⟩ := (H1.out.below Hb4.out).cells; have hs1 : g1 < w3.heap.size := Nat.lt_of_lt_of_le hsz0 Hb4.out.size; clear hb3 hvb)
        | (go_at_call 8; go_fit (HPB.out); rintro e w3 ⟨csb, rfl, hvb, hb3⟩; obtain ⟨kb, nb, tb, Akb, nkb, ckb, Apb, npb, cpb, rfl⟩ := hvb.form; have Hv3 := Lib.hid hvb; have Hb4 := Lib.hid (HzB.out.trans (hb3.mono HzB.out.size)); obtain ⟨f0, f1, f2, f3, f4⟩ := (H1.out.below Hb4.out).cells; have hs1 : g1 < w3.heap.size := Nat.lt_of_lt_of_le hsz0 Hb4.out.size; have HxB3 := Lib.hid (HnB.out.below hb3 HnB.out.lt); have HnB3 := Lib.hid (fun (b : Nat) (h : newS (y2.alloc (.cells #[.int .i64 0, .int .i64 0, str [], .slice none 0 0, .slice none 0 0] 25)).drew w3 b) => show b ≠ y2.heap.size from fun e => by subst e; exact absurd (Nat.lt_of_lt_of_le HnB.out.lt h.1) (Nat.lt_irrefl _)); obtain ⟨s0, s1, s2, s3, s4, z0, z1, z2, z3, z4⟩ := sl_box HxB3.out; clear hb3 hvb))
    all_goals
      go_wp2_with fail
      go_meet
      first
        | (have hB := HxB3.out; exact ⟨_, kb, nb, tb, Akb, nkb, ckb, Apb, npb, cpb, rfl, rfl, sl_set5 HxB3.out _ _ _ _ _, VOw.toV _ _ _ (vow_set5 Hv3.out HnB3.out _ _ _ _ _), sl_below5 Hb4.out (Nat.le_refl _) _ _ _ _ _⟩)
        | exact ⟨_, kb, nb, tb, Akb, nkb, ckb, Apb, npb, cpb, rfl, rfl, Blk.new _ _ _, VOw.toV _ _ _ (VOw.alloc Hv3.out (fun b h => h.2) _), Hb4.out.alloc Hb4.out.size _⟩
  case rest =>
    obtain ⟨g, k2, n2, t2, Ak2, nk2, ck2, Ap2, np2, cp2, rfl, rfl, hbx, hvx, hb9⟩ := hcut
    clear HPA HPB HnB HzA HzB Hsx Hsy v0 v1 v2 v3 v4
    have B := HB.out.trans (hb9.mono HB.out.size)
    obtain ⟨s0, s1, s2, s3, s4, -, -, -, -, -⟩ := sl_box hbx
    have Hvx := Lib.hid hvx
    clear hvx HB H1 hb9
    have HR := Lib.hid (show textR J = .tuple #[str (jtext J), .int .i64 0] by unfold textR; rw [C1.out, if_pos rfl])
    go_wp2_with fail
    refine (Text_any J _ wc wc.heap.size (Nat.le_refl _) Hvx.out (Hctx.out _ B).1 N1.out).mono ?_
    rintro e y4 ⟨rfl, hb⟩
    rw [HR.out]
    replace B := B.trans (hb.mono B.size)
    have Hrd := Lib.hid (readR_text J (fine_check C1.out))
    have Hpe := Lib.hid (show parseE (jtext J) = 0 by unfold parseE; rw [if_neg (by have := T1.out; omega), Hrd.out]; exact C1.out)
    clear HR hb hbx s0 s1 s2 s3 s4
    generalize jtext J = T at *
    have hT : T.length ≤ 600 := by have := T1.out; omega
    obtain ⟨cc, y5, hcv, hhv, hb5⟩ := conv_bytes y4 T y4.heap.size rfl
    replace B := B.trans (hb5.mono B.size)
    have Hhv := Lib.hid hhv
    clear hb5 hhv
    go_wp2_with fail
    go_fit (text_small (some ⟨y4.heap.size, 0, none⟩) T.length cc T y5 Hhv.out hT)
    rintro e y6 ⟨rfl, hb⟩
    replace B := B.trans (hb.mono B.size)
    clear hb hcv Hhv
    have hel : (enc T).length ≤ 1200 := by rw [enc_length]; omega
    have Hde := Lib.hid (show dec 0 0 (enc T) = some T from dec_enc T)
    have Hel := Lib.hid hel
    clear hel
    generalize enc T = E at *
    go_wp2_with fail
    refine (bytes_small E _ Hel.out).mono ?_
    rintro e y7 ⟨hb, ⟨hd, rfl⟩ | ⟨l, A, c, hd, rfl, hown, hl⟩⟩
    · rw [Hde.out] at hd; cases hd
    rw [Hde.out] at hd
    injection hd with hd
    subst hd
    replace B := B.trans (hb.mono B.size)
    obtain ⟨A', c', hAe, hA'⟩ := own_form hown
    injection hAe with hAe1 _ hAe2
    subst hAe1 hAe2
    have hcv := run_convert_bytes (P := Tryz.prog) (c := c) 46 9 5 Tryz.underlying46 Tryz.underlying5 Tryz.underlying9 (Holds.own hown) (fun h => (hA' h).1)
    clear hb hl hown hA' Hde Hel
    have HT := Lib.hid hT
    clear hT
    go_wp2_with fail
    refine (Parse_all T y7 (by have := HT.out; omega) (Hctx.out _ B).1).mono ?_
    rintro e y8 (⟨u, cs, _, hr, _, rfl, hvu, hb⟩ | ⟨hne, _⟩)
    rotate_left
    · exact absurd Hpe.out hne
    rw [Hrd.out] at hr
    injection hr with hr
    subst hr
    replace B := B.trans (hb.mono B.size)
    obtain ⟨k3, n3, t3, Ak3, nk3, ck3, Ap3, np3, cp3, rfl⟩ := hvu.form
    have hv := VInS.toB (B := y8.heap.size) (fun b hb => hb.2) _ _ hvu
    have V3 := VBx.new hv
    have hA3 : Below y8.heap.size y8 (y8.alloc (.cells #[.int .i64 k3, .int .i64 n3, str t3, .slice Ak3 nk3 ck3, .slice Ap3 np3 cp3] 25)) := (Below.refl _ _).alloc (Nat.le_refl _) _
    replace B := B.trans (hA3.mono B.size)
    clear hv hvu hb hA3 hcv
    go_wp2_with fail
    generalize y8.alloc (.cells #[.int .i64 k3, .int .i64 n3, str t3, .slice Ak3 nk3 ck3, .slice Ap3 np3 cp3] 25) = Y8 at *
    generalize y8.heap.size = g3 at *
    refine (sealCheck_any J _ uA kE _ Y8 g3 (Nat.le_of_lt V3.lt) V3.val (Hctx.out _ B).1 (Hctx.out _ B).2 N1.out (by decide) (by decide)).mono ?_
    rintro e y9 ⟨rfl, hb⟩
    rw [K1.out]
    go_wp2_with fail
    go_ret
    exact ⟨rfl, B.trans (hb.mono B.size)⟩
namespace topSealed
open Go.ChangeShapes Go.WideShapes Go.ChangeAt Go.RowKit
theorem own : ownKnob Tryz.prog.godebug = none := by kernel_rfl
theorem laidOut : laidOutB Tryz.prog = true := by kernel_rfl
set_option linter.unusedVariables false
theorem laid_met (os : Os) : laidMet Tryz.prog Rows.topSealedRow.laid ((laidWorld os).forCall (fun _ _ => 0) ⟨#[], #[.slice none 0 0, .int .i64 0, .int .i64 0], []⟩).memory :=
  laidMet_of_run' 8 (by kernel_rfl) (by kernel_rfl)
theorem reads (os : Os) {H : Type} (enc : TypeId × Value → H) : ∃ places, DataW.whole enc Tryz.prog ((laidWorld os).forCall (fun _ _ => 0) ⟨#[], #[.slice none 0 0, .int .i64 0, .int .i64 0], []⟩).memory Tryz.f7.params.toList Rows.topSealedSpec.vars false #[Value.slice none 0 0, Value.int .i64 0, Value.int .i64 0].toList 8 = some ([.nil, .lit (.int .i64 0), .lit (.int .i64 0)], [], places) :=
  ⟨[], by kernel_rfl⟩
set_option maxRecDepth 100000 in
theorem contract (H : Type) (enc : TypeId × Value → H) (W : World) (base : Nat) (args : Array Value) (ds gs : List (DataW H)) (before : List MemPlace)
    (hval0 : ∀ (j : Nat) t v, Tryz.f7.params[j]? = some t → args[j]? = some v → Value.okWide Tryz.prog W .any base t v)
    (hW : DataW.Whole enc Tryz.prog Tryz.f7.params.toList Rows.topSealedSpec.vars false W args.toList ds gs before) (hL : laidMetH Tryz.prog Rows.topSealedRow.laid W) (hsh : W.ShapedOpen Tryz.prog) :
    Calls Tryz.prog 7 args W fun e W' => ∃ v, e = .returned v ∧ Rows.topSealedSpec.post enc Tryz.prog Tryz.f7 false true false false W args v W' := by
  have hval : ∀ (j : Nat) t v, Tryz.f7.params[j]? = some t → args[j]? = some v → Value.okWide Tryz.prog W .any base t v := hval0
  have hW' := hW
  obtain ⟨p, q, hA0, hV, rfl, hfz, hnd⟩ := hW
  have hA : DataW.TrodAll enc Tryz.prog W 0 (fun _ => true) true Tryz.f7.params.toList args.toList ds p := hA0
  rw [Tryz.params7] at hA hval
  obtain ⟨v0, vs0, d0, ds0, p0, q0, hargs, rfl, rfl, h0, rr0⟩ := trodAll_cons hA
  obtain ⟨v1, vs1, d1, ds1, p1, q1, rfl, rfl, rfl, h1, rr1⟩ := trodAll_cons rr0
  obtain ⟨v2, vs2, d2, ds2, p2, q2, rfl, rfl, rfl, h2, rr2⟩ := trodAll_cons rr1
  obtain ⟨rfl, rfl, rfl⟩ := trodAll_nil rr2
  obtain rfl : args = #[v0, v1, v2] := by cases args; simp_all
  obtain ⟨rfl, rfl⟩ := trodVars_none hV
  have k0 := h0
  have lt0 : ∀ x ∈ p0, x.block < W.heap.size := by obtain ⟨m, hm⟩ := k0; exact DataW.trod_lt m _ _ _ hm
  obtain ⟨A0, n0, c0, rfl, hx0⟩ := open_intsl Tryz.underlying31 Tryz.underlying3 (by kernel_rfl) (hval 0 31 v0 rfl rfl) h0
  have k1 := h1
  have lt1 : ∀ x ∈ p1, x.block < W.heap.size := by obtain ⟨m, hm⟩ := k1; exact DataW.trod_lt m _ _ _ hm
  obtain ⟨x1, rfl, hx1⟩ := open_i64 Tryz.underlying3 (hval 1 3 v1 rfl rfl) h1
  have k2 := h2
  have lt2 : ∀ x ∈ p2, x.block < W.heap.size := by obtain ⟨m, hm⟩ := k2; exact DataW.trod_lt m _ _ _ hm
  obtain ⟨x2, rfl, hx2⟩ := open_i64 Tryz.underlying3 (hval 2 3 v2 rfl rfl) h2
  clear hA0 hval0
  refine (walkTopSealed A0 n0 c0 x1 x2 W hx0 hx1 hx2 (laidTab hL) hsh).mono fun e W' ⟨he, bel⟩ => ?_
  subst he
  exact ⟨_, rfl, _, _, _, [], _, [], hW', trodAll_mk1 (shut_bool Tryz.underlying4 _), (trodAll_cons_mk (Below.trod laidOut (by kernel_rfl) (of_decide_eq_true (by kernel_rfl)) k0 bel lt0) (trodAll_cons_mk (Below.trod laidOut (by kernel_rfl) (of_decide_eq_true (by kernel_rfl)) k1 bel lt1) (trodAll_cons_mk (Below.trod laidOut (by kernel_rfl) (of_decide_eq_true (by kernel_rfl)) k2 bel lt2) trodAll_mk0))), rfl, bel.frame _, fun h => by cases h⟩
set_option maxRecDepth 100000 in
theorem lifted (os : Os) (started : os.Started) (H : Type) (enc : TypeId × Value → H) (F : Stop.Interp) :
    ReturnsInHanded {} Tryz.checked os 7 .any ((OpenSpec.ofChange Rows.topSealedSpec).preRow enc Tryz.prog Tryz.f7 Rows.topSealedRow.domain false Rows.topSealedRow.laid) (((OpenSpec.ofChange Rows.topSealedSpec).at F).post enc Tryz.prog Tryz.f7 false true false false) := by
  obtain ⟨places, hx⟩ := reads os enc
  refine returnsInHanded_of_row (C := Tryz.checked) (s := OpenSpec.ofChange Rows.topSealedSpec) own started (by kernel_rfl) Tryz.func7
    (witness_row_at (enc := enc) (C := Tryz.checked) false (laidWorld os) #[.slice none 0 0, .int .i64 0, .int .i64 0] rfl (by kernel_rfl) (by kernel_rfl) (by kernel_rfl)
      (OpenSpec.preRow_of_cond 8 hx (by kernel_rfl) (fun k hk => by cases hk) (by kernel_rfl) (laid_met os))) ?_
  intro W base args ds gs before hval hW _ _ _ hL hsh _
  exact contract H enc W base args ds gs before hval hW hL hsh
theorem said : Rows.TopSealedSaid :=
  OpenClaim.holds_of_cond 7 Tryz.f7 rfl rfl rfl rfl rfl rfl rfl ⟨rfl, rfl, rfl, rfl, rfl⟩ rfl rfl rfl rfl rfl (by kernel_rfl) Tryz.func7 (by kernel_rfl)
    (of_decide_eq_true (by kernel_rfl)) (by unfold Func.isWrapper; first | (rw [if_pos (by decide +kernel)]; kernel_rfl) | (rw [if_neg (by decide +kernel)]; exact ⟨rfl, rfl⟩))
    (fun os started H enc _ F => by rw [OpenClaim.pre_eq_preRow]; exact lifted os started H enc F)
theorem plain (f : FuncId) (fn : Func) (hf : Tryz.pinned.checked.prog.funcNamed "bagnall/bagnalltop.TopSealed" = some f) (hfn : Tryz.pinned.checked.prog.funcs[f]? = some fn) :
    false = Tryz.pinned.checked.prog.looks [] ∧ ∀ (j : Nat) t, fn.params[j]? = some t → Tryz.pinned.checked.prog.wantsStandIn t = false := by
  obtain rfl : f = 7 := Option.some.inj ((show Tryz.prog.funcNamed "bagnall/bagnalltop.TopSealed" = some 7 by kernel_rfl).symm.trans hf) |>.symm
  obtain rfl : fn = Tryz.f7 := (Option.some.inj (Tryz.func7.symm.trans hfn)).symm
  refine ⟨by kernel_rfl, fun j t ht => ?_⟩
  rw [Tryz.params7] at ht
  have hm := Array.mem_of_getElem? ht
  have hm2 : t = 31 ∨ t = 3 ∨ t = 3 := by simpa using hm
  rcases hm2 with rfl | rfl | rfl
  · exact (show Tryz.prog.wantsStandIn 31 = false by kernel_rfl)
  · exact (show Tryz.prog.wantsStandIn 3 = false by kernel_rfl)
  · exact (show Tryz.prog.wantsStandIn 3 = false by kernel_rfl)
theorem proved : Rows.TopSealedCardSaid :=
  Claim7.holds_tied_plain_at .later [] _ _ _ _ said (fun _ h => by cases h) (by kernel_rfl) (fun _ h => by cases h) topSealed_row_tie rfl ⟨rfl, rfl⟩ (by kernel_rfl) rfl plain (by kernel_rfl)
#print axioms proved
end topSealed
end Go.Proofs.YtgghncgefhanjaaGreatDoor
