/- Proved here: for every list of integers and all secrets and nonces, an object of the list's that is sealed again by the same key has that key's new signature, which is valid, and keeps the other's (statement SealAgain). No condition. -/
import Derived.Test.YtgghncgefhanjaaGreatDoorBunU
import Derived.Test.YtgghncgefhanjaaGreatDoorOpenI
import Derived.Test.YtgghncgefhanjaaGreatDoorLaid
import Derived.Test.YtgghncgefhanjaaGreatDoorJSame
namespace Go.Proofs.YtgghncgefhanjaaGreatDoor
set_option linter.unusedVariables false
set_option linter.unusedSimpArgs false
open Go.RowKit
attribute [local go_sem high] str_mk
set_option maxRecDepth 100000 in
set_option maxHeartbeats 4000000 in
theorem walkSealAgain (A0 : Option Addr) (n0 c0 : Nat) (x1 : Int) (x2 : Int) (x3 : Int) (x4 : Int) (w : World) (hx0 : IntsAt w w.heap.size A0 n0 c0) (hx1 : -9223372036854775808 ≤ x1 ∧ x1 ≤ 9223372036854775807) (hx2 : -9223372036854775808 ≤ x2 ∧ x2 ≤ 9223372036854775807) (hx3 : -9223372036854775808 ≤ x3 ∧ x3 ≤ 9223372036854775807) (hx4 : -9223372036854775808 ≤ x4 ∧ x4 ≤ 9223372036854775807) (htab : Tab w.heap.size w) (hsh : w.ShapedOpen Tryz.prog) :
    Calls Tryz.prog 6 #[.slice A0 n0 c0, .int .i64 x1, .int .i64 x2, .int .i64 x3, .int .i64 x4] w fun e w' => e = .returned (.bool true) ∧ Below w.heap.size w w' := by
  have hgl := Gl.of hsh
  have Hctx := Lib.hid (fun W (hW : Below w.heap.size w W) => And.intro (htab.on hW).here (hgl.below hW))
  clear htab hgl hsh
  go_enter Tryz.func6, Tryz.ntmps6
  go_wp2_with fail
  refine (objectOf_any A0 n0 c0 w.heap.size w (Nat.le_refl _) hx0).mono ?_
  rintro e y1 ⟨v, cs, rfl, hv, hO, B⟩
  obtain ⟨k1, n1, t1, Ak1, nk1, ck1, Ap1, np1, cp1, rfl⟩ := hv.form
  have V1 := VBx.new hv
  have hA1 : Below y1.heap.size y1 (y1.alloc (.cells #[.int .i64 k1, .int .i64 n1, str t1, .slice Ak1 nk1 ck1, .slice Ap1 np1 cp1] 25)) := (Below.refl _ _).alloc (Nat.le_refl _) _
  replace B := B.trans (hA1.mono B.size)
  clear hA1
  clear hv
  go_wp2_with fail
  generalize y1.alloc (.cells #[.int .i64 k1, .int .i64 n1, str t1, .slice Ak1 nk1 ck1, .slice Ap1 np1 cp1] 25) = Y1 at *
  generalize y1.heap.size = g1 at *
  refine (fits_any v _ Y1 g1 (Nat.le_of_lt V1.lt) V1.val (Hctx.out _ B).1 hO).mono ?_
  rintro e y2 ⟨rfl, hb⟩
  replace V1 := V1.below hb
  replace B := B.trans (hb.mono B.size)
  clear hb
  by_cases hf : (jtext v).length < 400
  · rw [decide_eq_true hf]
    have h0 := hO.obj (by omega)
    have hc1 := S1_ok (u := uB) (.inr rfl) (sigOf_is (secOf x3) (secOf x4) (jtext v))
    have hc2 := S2_ok (sigOf_is (secOf x1) (secOf x2) (jtext v)) (sigOf_is (secOf x3) (secOf x4) (jtext v))
    have hc3 := S2_ok (sigOf_is (secOf x3) (secOf x2) (jtext v)) (sigOf_is (secOf x3) (secOf x4) (jtext v))
    have P1 := Lib.hid (put_one h0 (sec_of x3) (sec_of x4) (.inr rfl : uB = uA ∨ uB = uB))
    have P2 := Lib.hid (put_twoA h0 (sec_of x1) (sec_of x2) (sigOf_is (secOf x3) (secOf x4) (jtext v)))
    have P3 := Lib.hid (put_again h0 (sec_of x3) (sec_of x2) (sigOf_is (secOf x1) (secOf x2) (jtext v)) (sigOf_is (secOf x3) (secOf x4) (jtext v)))
    have P4 := Lib.hid (put_again h0 (sec_of x1) (sec_of x2) (sigOf_is (secOf x3) (secOf x2) (jtext v)) (sigOf_is (secOf x3) (secOf x4) (jtext v)))
    obtain ⟨p1, Hp1⟩ : ∃ p, Hid (pw 4 (secOf x1) % 7823 = p) := ⟨_, Lib.hid rfl⟩
    obtain ⟨p3, Hp3⟩ : ∃ p, Hid (pw 4 (secOf x3) % 7823 = p) := ⟨_, Lib.hid rfl⟩
    have K1 := Lib.hid (chk_in (u := uA) h0 hc3 (sec_of x3) (sec_of x2) (.inl rfl) (get_S2A _ _))
    have K2 := Lib.hid (chk_in (u := uA) h0 hc2 (sec_of x1) (sec_of x2) (.inl rfl) (get_S2A _ _))
    have K3 := Lib.hid (chk_in (u := uB) h0 hc2 (sec_of x3) (sec_of x4) (.inr rfl) (get_S2B _ _))
    rw [Hp3.out] at K1 K3
    rw [Hp1.out] at K2
    have N0 := Lib.hid h0.count
    have N1 := Lib.hid (h0.sealed_count hc1)
    have N2 := Lib.hid (h0.sealed_count hc2)
    have N3 := Lib.hid (h0.sealed_count hc3)
    have Hkl := Lib.hid (show (insO sigK v (S2 (sigOf (secOf x3) (secOf x2) (jtext v)) (sigOf (secOf x3) (secOf x4) (jtext v)))).keys.length = (insO sigK v (S2 (sigOf (secOf x1) (secOf x2) (jtext v)) (sigOf (secOf x3) (secOf x4) (jtext v)))).keys.length from rfl)
    clear hc1 hc2 hc3 hO h0 hf
    generalize insO sigK v (S1 uB (sigOf (secOf x3) (secOf x4) (jtext v))) = J1 at *
    generalize insO sigK v (S2 (sigOf (secOf x1) (secOf x2) (jtext v)) (sigOf (secOf x3) (secOf x4) (jtext v))) = J2 at *
    generalize insO sigK v (S2 (sigOf (secOf x3) (secOf x2) (jtext v)) (sigOf (secOf x3) (secOf x4) (jtext v))) = J3 at *
    obtain ⟨p10, p11, p12, p13, p14⟩ := V1.cells
    have lt1 := V1.lt
    go_wp2_with fail
    refine (sealedBy_ok P1.out _ _ g1 (Nat.le_of_lt V1.lt) V1.val (Hctx.out _ B).1 (Hctx.out _ B).2 N0.out (by decide)).mono ?_
    rintro e y3 ⟨k2, n2, t2, Ak2, nk2, ck2, Ap2, np2, cp2, rfl, hv, hb⟩
    rw [Hp3.out]
    clear p10 p11 p12 p13 p14 lt1
    replace V1 := V1.below hb
    replace B := B.trans (hb.mono B.size)
    clear hb
    replace hv := VOw.toV _ _ _ hv
    have V2 := VBx.new hv
    have hA2 : Below y3.heap.size y3 (y3.alloc (.cells #[.int .i64 k2, .int .i64 n2, str t2, .slice Ak2 nk2 ck2, .slice Ap2 np2 cp2] 25)) := (Below.refl _ _).alloc (Nat.le_refl _) _
    replace V1 := V1.below hA2
    replace B := B.trans (hA2.mono B.size)
    clear hA2
    clear hv
    go_wp2_with fail
    generalize y3.alloc (.cells #[.int .i64 k2, .int .i64 n2, str t2, .slice Ak2 nk2 ck2, .slice Ap2 np2 cp2] 25) = Y2 at *
    generalize y3.heap.size = g2 at *
    refine (sealedBy_ok P2.out _ _ g2 (Nat.le_of_lt V2.lt) V2.val (Hctx.out _ B).1 (Hctx.out _ B).2 N1.out (by decide)).mono ?_
    rintro e y4 ⟨k3, n3, t3, Ak3, nk3, ck3, Ap3, np3, cp3, rfl, hv, hb⟩
    rw [Hp1.out]
    replace V1 := V1.below hb
    replace V2 := V2.below hb
    replace B := B.trans (hb.mono B.size)
    clear hb
    replace hv := VOw.toV _ _ _ hv
    have V3 := VBx.new hv
    have hA3 : Below y4.heap.size y4 (y4.alloc (.cells #[.int .i64 k3, .int .i64 n3, str t3, .slice Ak3 nk3 ck3, .slice Ap3 np3 cp3] 25)) := (Below.refl _ _).alloc (Nat.le_refl _) _
    replace V1 := V1.below hA3
    replace V2 := V2.below hA3
    replace B := B.trans (hA3.mono B.size)
    clear hA3
    clear hv
    go_wp2_with fail
    generalize y4.alloc (.cells #[.int .i64 k3, .int .i64 n3, str t3, .slice Ak3 nk3 ck3, .slice Ap3 np3 cp3] 25) = Y3 at *
    generalize y4.heap.size = g3 at *
    refine (sealedBy_ok P3.out _ _ g3 (Nat.le_of_lt V3.lt) V3.val (Hctx.out _ B).1 (Hctx.out _ B).2 N2.out (by decide)).mono ?_
    rintro e y5 ⟨k4, n4, t4, Ak4, nk4, ck4, Ap4, np4, cp4, rfl, hv, hb⟩
    rw [Hp3.out]
    replace V1 := V1.below hb
    replace V2 := V2.below hb
    replace V3 := V3.below hb
    replace B := B.trans (hb.mono B.size)
    clear hb
    replace hv := VOw.toV _ _ _ hv
    have V4 := VBx.new hv
    have hA4 : Below y5.heap.size y5 (y5.alloc (.cells #[.int .i64 k4, .int .i64 n4, str t4, .slice Ak4 nk4 ck4, .slice Ap4 np4 cp4] 25)) := (Below.refl _ _).alloc (Nat.le_refl _) _
    replace V1 := V1.below hA4
    replace V2 := V2.below hA4
    replace V3 := V3.below hA4
    replace B := B.trans (hA4.mono B.size)
    clear hA4
    clear hv
    go_wp2_with fail
    generalize y5.alloc (.cells #[.int .i64 k4, .int .i64 n4, str t4, .slice Ak4 nk4 ck4, .slice Ap4 np4 cp4] 25) = Y4 at *
    generalize y5.heap.size = g4 at *
    refine (sealedBy_ok P4.out _ _ g4 (Nat.le_of_lt V4.lt) V4.val (Hctx.out _ B).1 (Hctx.out _ B).2 N3.out (by decide)).mono ?_
    rintro e y6 ⟨k5, n5, t5, Ak5, nk5, ck5, Ap5, np5, cp5, rfl, hv, hb⟩
    rw [Hp1.out]
    replace V1 := V1.below hb
    replace V2 := V2.below hb
    replace V3 := V3.below hb
    replace V4 := V4.below hb
    replace B := B.trans (hb.mono B.size)
    clear hb
    replace hv := VOw.toV _ _ _ hv
    have V5 := VBx.new hv
    have hA5 : Below y6.heap.size y6 (y6.alloc (.cells #[.int .i64 k5, .int .i64 n5, str t5, .slice Ak5 nk5 ck5, .slice Ap5 np5 cp5] 25)) := (Below.refl _ _).alloc (Nat.le_refl _) _
    replace V1 := V1.below hA5
    replace V2 := V2.below hA5
    replace V3 := V3.below hA5
    replace V4 := V4.below hA5
    replace B := B.trans (hA5.mono B.size)
    clear hA5
    clear hv
    go_wp2_with fail
    generalize y6.alloc (.cells #[.int .i64 k5, .int .i64 n5, str t5, .slice Ak5 nk5 ck5, .slice Ap5 np5 cp5] 25) = Y5 at *
    generalize y6.heap.size = g5 at *
    clear P1 P2 P3 P4
    have hk3 := V3.val.nkeys.1
    have hk4 := V4.val.nkeys.1
    have Hnk := Lib.hid (show nk4 = nk3 by rw [hk3, hk4, Hkl.out])
    clear hk3 hk4
    have Hcc := Lib.hid (fun (W : World) (g : Nat) (J : JV) (cs : List Value) (u : List UInt8) (pub : Int) (hg : g ≤ W.heap.size) (hW : Below w.heap.size w W) (hv : VIn W g J cs) (hn : count J ≤ 1073741824) (hu : u.length ≤ maxLen) => sealCheck_any J cs u kE pub W g hg hv (Hctx.out _ hW).1 (Hctx.out _ hW).2 hn hu (by decide))
    refine (signSure_any _).mono ?_
    rintro e y7 ⟨rfl, hb⟩
    replace V1 := V1.below hb
    replace V2 := V2.below hb
    replace V3 := V3.below hb
    replace V4 := V4.below hb
    replace V5 := V5.below hb
    replace B := B.trans (hb.mono B.size)
    clear hb
    obtain ⟨p10, p11, p12, p13, p14⟩ := V1.cells
    obtain ⟨p20, p21, p22, p23, p24⟩ := V2.cells
    obtain ⟨p30, p31, p32, p33, p34⟩ := V3.cells
    obtain ⟨p40, p41, p42, p43, p44⟩ := V4.cells
    obtain ⟨p50, p51, p52, p53, p54⟩ := V5.cells
    have lt1 := V1.lt
    have lt2 := V2.lt
    have lt3 := V3.lt
    have lt4 := V4.lt
    have lt5 := V5.lt
    go_wp2_with fail
    refine (same_any 1073741824 J2 J2 _ _ y7 y7.heap.size N2.out (Nat.le_refl _) (VIn.wider (Nat.le_of_lt V3.lt) _ _ V3.val) (VIn.wider (Nat.le_of_lt V5.lt) _ _ V5.val)).mono ?_
    rintro e y8 ⟨b, rfl, hbb, hb⟩
    have hbt : b = true := hbb.2 rfl
    subst hbt
    clear p10 p11 p12 p13 p14 lt1 p20 p21 p22 p23 p24 lt2 p30 p31 p32 p33 p34 lt3 p40 p41 p42 p43 p44 lt4 p50 p51 p52 p53 p54 lt5
    replace V1 := V1.below hb
    replace V2 := V2.below hb
    replace V3 := V3.below hb
    replace V4 := V4.below hb
    replace V5 := V5.below hb
    replace B := B.trans (hb.mono B.size)
    clear hb hbb
    obtain ⟨p10, p11, p12, p13, p14⟩ := V1.cells
    obtain ⟨p20, p21, p22, p23, p24⟩ := V2.cells
    obtain ⟨p30, p31, p32, p33, p34⟩ := V3.cells
    obtain ⟨p40, p41, p42, p43, p44⟩ := V4.cells
    obtain ⟨p50, p51, p52, p53, p54⟩ := V5.cells
    have lt1 := V1.lt
    have lt2 := V2.lt
    have lt3 := V3.lt
    have lt4 := V4.lt
    have lt5 := V5.lt
    go_wp2_with fail
    refine (Hcc.out _ g4 J3 _ uA _ (Nat.le_of_lt V4.lt) B V4.val N3.out (by decide)).mono ?_
    rintro e y9 ⟨rfl, hb⟩
    rw [K1.out]
    clear p10 p11 p12 p13 p14 lt1 p20 p21 p22 p23 p24 lt2 p30 p31 p32 p33 p34 lt3 p40 p41 p42 p43 p44 lt4 p50 p51 p52 p53 p54 lt5
    replace V1 := V1.below hb
    replace V2 := V2.below hb
    replace V3 := V3.below hb
    replace V4 := V4.below hb
    replace V5 := V5.below hb
    replace B := B.trans (hb.mono B.size)
    clear hb
    obtain ⟨p10, p11, p12, p13, p14⟩ := V1.cells
    obtain ⟨p20, p21, p22, p23, p24⟩ := V2.cells
    obtain ⟨p30, p31, p32, p33, p34⟩ := V3.cells
    obtain ⟨p40, p41, p42, p43, p44⟩ := V4.cells
    obtain ⟨p50, p51, p52, p53, p54⟩ := V5.cells
    have lt1 := V1.lt
    have lt2 := V2.lt
    have lt3 := V3.lt
    have lt4 := V4.lt
    have lt5 := V5.lt
    go_wp2_with fail
    refine (Hcc.out _ g5 J2 _ uA _ (Nat.le_of_lt V5.lt) B V5.val N2.out (by decide)).mono ?_
    rintro e y10 ⟨rfl, hb⟩
    rw [K2.out]
    clear p10 p11 p12 p13 p14 lt1 p20 p21 p22 p23 p24 lt2 p30 p31 p32 p33 p34 lt3 p40 p41 p42 p43 p44 lt4 p50 p51 p52 p53 p54 lt5
    replace V1 := V1.below hb
    replace V2 := V2.below hb
    replace V3 := V3.below hb
    replace V4 := V4.below hb
    replace V5 := V5.below hb
    replace B := B.trans (hb.mono B.size)
    clear hb
    obtain ⟨p10, p11, p12, p13, p14⟩ := V1.cells
    obtain ⟨p20, p21, p22, p23, p24⟩ := V2.cells
    obtain ⟨p30, p31, p32, p33, p34⟩ := V3.cells
    obtain ⟨p40, p41, p42, p43, p44⟩ := V4.cells
    obtain ⟨p50, p51, p52, p53, p54⟩ := V5.cells
    have lt1 := V1.lt
    have lt2 := V2.lt
    have lt3 := V3.lt
    have lt4 := V4.lt
    have lt5 := V5.lt
    go_wp2_with fail
    refine (Hcc.out _ g5 J2 _ uB _ (Nat.le_of_lt V5.lt) B V5.val N2.out (by decide)).mono ?_
    rintro e y11 ⟨rfl, hb⟩
    rw [K3.out]
    clear p10 p11 p12 p13 p14 lt1 p20 p21 p22 p23 p24 lt2 p30 p31 p32 p33 p34 lt3 p40 p41 p42 p43 p44 lt4 p50 p51 p52 p53 p54 lt5
    replace V1 := V1.below hb
    replace V2 := V2.below hb
    replace V3 := V3.below hb
    replace V4 := V4.below hb
    replace V5 := V5.below hb
    replace B := B.trans (hb.mono B.size)
    clear hb
    obtain ⟨p10, p11, p12, p13, p14⟩ := V1.cells
    obtain ⟨p20, p21, p22, p23, p24⟩ := V2.cells
    obtain ⟨p30, p31, p32, p33, p34⟩ := V3.cells
    obtain ⟨p40, p41, p42, p43, p44⟩ := V4.cells
    obtain ⟨p50, p51, p52, p53, p54⟩ := V5.cells
    have lt1 := V1.lt
    have lt2 := V2.lt
    have lt3 := V3.lt
    have lt4 := V4.lt
    have lt5 := V5.lt
    go_wp2_with fail
    go_ret
    refine ⟨?_, B⟩
    rw [Hnk.out]; simp
  · rw [decide_eq_false hf]
    go_wp2_with fail
    refine (signSure_any _).mono ?_
    rintro e y3 ⟨rfl, hb⟩
    go_wp2_with fail
    go_ret
    exact ⟨rfl, B.trans (hb.mono B.size)⟩
namespace sealAgain
open Go.ChangeShapes Go.WideShapes Go.ChangeAt Go.RowKit
theorem own : ownKnob Tryz.prog.godebug = none := by kernel_rfl
theorem laidOut : laidOutB Tryz.prog = true := by kernel_rfl
set_option linter.unusedVariables false
theorem laid_met (os : Os) : laidMet Tryz.prog Rows.sealAgainRow.laid ((laidWorld os).forCall (fun _ _ => 0) ⟨#[], #[.slice none 0 0, .int .i64 0, .int .i64 0, .int .i64 0, .int .i64 0], []⟩).memory :=
  laidMet_of_run' 8 (by kernel_rfl) (by kernel_rfl)
theorem reads (os : Os) {H : Type} (enc : TypeId × Value → H) : ∃ places, DataW.whole enc Tryz.prog ((laidWorld os).forCall (fun _ _ => 0) ⟨#[], #[.slice none 0 0, .int .i64 0, .int .i64 0, .int .i64 0, .int .i64 0], []⟩).memory Tryz.f6.params.toList Rows.sealAgainSpec.vars false #[Value.slice none 0 0, Value.int .i64 0, Value.int .i64 0, Value.int .i64 0, Value.int .i64 0].toList 8 = some ([.nil, .lit (.int .i64 0), .lit (.int .i64 0), .lit (.int .i64 0), .lit (.int .i64 0)], [], places) :=
  ⟨[], by kernel_rfl⟩
set_option maxRecDepth 100000 in
theorem contract (H : Type) (enc : TypeId × Value → H) (W : World) (base : Nat) (args : Array Value) (ds gs : List (DataW H)) (before : List MemPlace)
    (hval0 : ∀ (j : Nat) t v, Tryz.f6.params[j]? = some t → args[j]? = some v → Value.okWide Tryz.prog W .any base t v)
    (hW : DataW.Whole enc Tryz.prog Tryz.f6.params.toList Rows.sealAgainSpec.vars false W args.toList ds gs before) (hL : laidMetH Tryz.prog Rows.sealAgainRow.laid W) (hsh : W.ShapedOpen Tryz.prog) :
    Calls Tryz.prog 6 args W fun e W' => ∃ v, e = .returned v ∧ Rows.sealAgainSpec.post enc Tryz.prog Tryz.f6 false true false false W args v W' := by
  have hval : ∀ (j : Nat) t v, Tryz.f6.params[j]? = some t → args[j]? = some v → Value.okWide Tryz.prog W .any base t v := hval0
  have hW' := hW
  obtain ⟨p, q, hA0, hV, rfl, hfz, hnd⟩ := hW
  have hA : DataW.TrodAll enc Tryz.prog W 0 (fun _ => true) true Tryz.f6.params.toList args.toList ds p := hA0
  rw [Tryz.params6] at hA hval
  obtain ⟨v0, vs0, d0, ds0, p0, q0, hargs, rfl, rfl, h0, rr0⟩ := trodAll_cons hA
  obtain ⟨v1, vs1, d1, ds1, p1, q1, rfl, rfl, rfl, h1, rr1⟩ := trodAll_cons rr0
  obtain ⟨v2, vs2, d2, ds2, p2, q2, rfl, rfl, rfl, h2, rr2⟩ := trodAll_cons rr1
  obtain ⟨v3, vs3, d3, ds3, p3, q3, rfl, rfl, rfl, h3, rr3⟩ := trodAll_cons rr2
  obtain ⟨v4, vs4, d4, ds4, p4, q4, rfl, rfl, rfl, h4, rr4⟩ := trodAll_cons rr3
  obtain ⟨rfl, rfl, rfl⟩ := trodAll_nil rr4
  obtain rfl : args = #[v0, v1, v2, v3, v4] := by cases args; simp_all
  obtain ⟨rfl, rfl⟩ := trodVars_none hV
  have k0 := h0
  have lt0 : ∀ x ∈ p0, x.block < W.heap.size := by obtain ⟨m, hm⟩ := k0; exact DataW.trod_lt m _ _ _ hm
  obtain ⟨A0, n0, c0, rfl, hx0⟩ := open_intsl Tryz.underlying31 Tryz.underlying3 (by kernel_rfl) (hval 0 31 v0 rfl rfl) h0
  have k1 := h1
  have lt1 : ∀ x ∈ p1, x.block < W.heap.size := by obtain ⟨m, hm⟩ := k1; exact DataW.trod_lt m _ _ _ hm
  obtain ⟨x1, rfl, hx1⟩ := open_i64 Tryz.underlying3 (hval 1 3 v1 rfl rfl) h1
  have k2 := h2
  have lt2 : ∀ x ∈ p2, x.block < W.heap.size := by obtain ⟨m, hm⟩ := k2; exact DataW.trod_lt m _ _ _ hm
  obtain ⟨x2, rfl, hx2⟩ := open_i64 Tryz.underlying3 (hval 2 3 v2 rfl rfl) h2
  have k3 := h3
  have lt3 : ∀ x ∈ p3, x.block < W.heap.size := by obtain ⟨m, hm⟩ := k3; exact DataW.trod_lt m _ _ _ hm
  obtain ⟨x3, rfl, hx3⟩ := open_i64 Tryz.underlying3 (hval 3 3 v3 rfl rfl) h3
  have k4 := h4
  have lt4 : ∀ x ∈ p4, x.block < W.heap.size := by obtain ⟨m, hm⟩ := k4; exact DataW.trod_lt m _ _ _ hm
  obtain ⟨x4, rfl, hx4⟩ := open_i64 Tryz.underlying3 (hval 4 3 v4 rfl rfl) h4
  clear hA0 hval0
  refine (walkSealAgain A0 n0 c0 x1 x2 x3 x4 W hx0 hx1 hx2 hx3 hx4 (laidTab hL) hsh).mono fun e W' ⟨he, bel⟩ => ?_
  subst he
  exact ⟨_, rfl, _, _, _, [], _, [], hW', trodAll_mk1 (shut_bool Tryz.underlying4 _), (trodAll_cons_mk (Below.trod laidOut (by kernel_rfl) (of_decide_eq_true (by kernel_rfl)) k0 bel lt0) (trodAll_cons_mk (Below.trod laidOut (by kernel_rfl) (of_decide_eq_true (by kernel_rfl)) k1 bel lt1) (trodAll_cons_mk (Below.trod laidOut (by kernel_rfl) (of_decide_eq_true (by kernel_rfl)) k2 bel lt2) (trodAll_cons_mk (Below.trod laidOut (by kernel_rfl) (of_decide_eq_true (by kernel_rfl)) k3 bel lt3) (trodAll_cons_mk (Below.trod laidOut (by kernel_rfl) (of_decide_eq_true (by kernel_rfl)) k4 bel lt4) trodAll_mk0))))), rfl, bel.frame _, fun h => by cases h⟩
set_option maxRecDepth 100000 in
theorem lifted (os : Os) (started : os.Started) (H : Type) (enc : TypeId × Value → H) (F : Stop.Interp) :
    ReturnsInHanded {} Tryz.checked os 6 .any ((OpenSpec.ofChange Rows.sealAgainSpec).preRow enc Tryz.prog Tryz.f6 Rows.sealAgainRow.domain false Rows.sealAgainRow.laid) (((OpenSpec.ofChange Rows.sealAgainSpec).at F).post enc Tryz.prog Tryz.f6 false true false false) := by
  obtain ⟨places, hx⟩ := reads os enc
  refine returnsInHanded_of_row (C := Tryz.checked) (s := OpenSpec.ofChange Rows.sealAgainSpec) own started (by kernel_rfl) Tryz.func6
    (witness_row_at (enc := enc) (C := Tryz.checked) false (laidWorld os) #[.slice none 0 0, .int .i64 0, .int .i64 0, .int .i64 0, .int .i64 0] rfl (by kernel_rfl) (by kernel_rfl) (by kernel_rfl)
      (OpenSpec.preRow_of_cond 8 hx (by kernel_rfl) (fun k hk => by cases hk) (by kernel_rfl) (laid_met os))) ?_
  intro W base args ds gs before hval hW _ _ _ hL hsh _
  exact contract H enc W base args ds gs before hval hW hL hsh
theorem said : Rows.SealAgainSaid :=
  OpenClaim.holds_of_cond 6 Tryz.f6 rfl rfl rfl rfl rfl rfl rfl ⟨rfl, rfl, rfl, rfl, rfl⟩ rfl rfl rfl rfl rfl (by kernel_rfl) Tryz.func6 (by kernel_rfl)
    (of_decide_eq_true (by kernel_rfl)) (by unfold Func.isWrapper; first | (rw [if_pos (by decide +kernel)]; kernel_rfl) | (rw [if_neg (by decide +kernel)]; exact ⟨rfl, rfl⟩))
    (fun os started H enc _ F => by rw [OpenClaim.pre_eq_preRow]; exact lifted os started H enc F)
theorem plain (f : FuncId) (fn : Func) (hf : Tryz.pinned.checked.prog.funcNamed "bagnall/bagnallkeep.SealAgain" = some f) (hfn : Tryz.pinned.checked.prog.funcs[f]? = some fn) :
    false = Tryz.pinned.checked.prog.looks [] ∧ ∀ (j : Nat) t, fn.params[j]? = some t → Tryz.pinned.checked.prog.wantsStandIn t = false := by
  obtain rfl : f = 6 := Option.some.inj ((show Tryz.prog.funcNamed "bagnall/bagnallkeep.SealAgain" = some 6 by kernel_rfl).symm.trans hf) |>.symm
  obtain rfl : fn = Tryz.f6 := (Option.some.inj (Tryz.func6.symm.trans hfn)).symm
  refine ⟨by kernel_rfl, fun j t ht => ?_⟩
  rw [Tryz.params6] at ht
  have hm := Array.mem_of_getElem? ht
  have hm2 : t = 31 ∨ t = 3 ∨ t = 3 ∨ t = 3 ∨ t = 3 := by simpa using hm
  rcases hm2 with rfl | rfl | rfl | rfl | rfl
  · exact (show Tryz.prog.wantsStandIn 31 = false by kernel_rfl)
  · exact (show Tryz.prog.wantsStandIn 3 = false by kernel_rfl)
  · exact (show Tryz.prog.wantsStandIn 3 = false by kernel_rfl)
  · exact (show Tryz.prog.wantsStandIn 3 = false by kernel_rfl)
  · exact (show Tryz.prog.wantsStandIn 3 = false by kernel_rfl)
theorem proved : Rows.SealAgainCardSaid :=
  Claim7.holds_tied_plain_at .later [] _ _ _ _ said (fun _ h => by cases h) (by kernel_rfl) (fun _ h => by cases h) sealAgain_row_tie rfl ⟨rfl, rfl⟩ (by kernel_rfl) rfl plain (by kernel_rfl)
#print axioms proved
end sealAgain
end Go.Proofs.YtgghncgefhanjaaGreatDoor
