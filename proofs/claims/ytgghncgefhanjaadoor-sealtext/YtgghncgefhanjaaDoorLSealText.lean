/- Proved here: for every list of integers and every secret and nonce, the text of an object of the list's that is signed is the same before and after it is sealed, and it is the object's own text, unless it has no room (statement SealText). No condition. -/
import Derived.Test.YtgghncgefhanjaaDoorBunU
import Derived.Test.YtgghncgefhanjaaDoorOpenI
import Derived.Test.YtgghncgefhanjaaDoorLaid
namespace Go.Proofs.YtgghncgefhanjaaDoor
set_option linter.unusedVariables false
set_option linter.unusedSimpArgs false
open Go.RowKit
attribute [local go_sem high] str_mk
theorem VIn.klen {w : World} {B : Nat} {v : JV} {k n : Int} {t : List UInt8} {Ak : Option Addr} {nk ck : Nat} {Ap : Option Addr} {np cp : Nat} (h : VIn w B v [.int .i64 k, .int .i64 n, str t, .slice Ak nk ck, .slice Ap np cp]) : nk ≤ 1048576 := by
  have h1 := h.nkeys.1
  cases v with
  | mk k' n' t' ks ps =>
    unfold VIn at h
    obtain ⟨Ak', ck', Ap', cp', pc, hcs, _, _, _, hks, _⟩ := h
    rw [h1]; exact hks
set_option maxRecDepth 100000 in
set_option maxHeartbeats 4000000 in
theorem walkSealText (A0 : Option Addr) (n0 c0 : Nat) (x1 : Int) (x2 : Int) (w : World) (hx0 : IntsAt w w.heap.size A0 n0 c0) (hx1 : -9223372036854775808 ≤ x1 ∧ x1 ≤ 9223372036854775807) (hx2 : -9223372036854775808 ≤ x2 ∧ x2 ≤ 9223372036854775807) (htab : Tab w.heap.size w) (hsh : w.ShapedOpen Tryd.prog) :
    Calls Tryd.prog 4 #[.slice A0 n0 c0, .int .i64 x1, .int .i64 x2] w fun e w' => e = .returned (.bool true) ∧ Below w.heap.size w w' := by
  have hgl := Gl.of hsh
  have Hctx := Lib.hid (fun W (hW : Below w.heap.size w W) => And.intro (htab.on hW).here (hgl.below hW))
  clear htab hgl hsh
  go_enter Tryd.func4, Tryd.ntmps4
  go_wp2_with fail
  refine (objectOf_any A0 n0 c0 w.heap.size w (Nat.le_refl _) hx0).mono ?_
  rintro e y1 ⟨v, cs, rfl, hv, hO, B⟩
  obtain ⟨k1, n1, t1, Ak1, nk1, ck1, Ap1, np1, cp1, rfl⟩ := hv.form
  have V1 := VBx.new hv
  have hA1 : Below y1.heap.size y1 (y1.alloc (.cells #[.int .i64 k1, .int .i64 n1, str t1, .slice Ak1 nk1 ck1, .slice Ap1 np1 cp1] 25)) := (Below.refl _ _).alloc (Nat.le_refl _) _
  replace B := B.trans (hA1.mono B.size)
  clear hA1
  clear hv
  go_wp2_with fail
  generalize y1.alloc (.cells #[.int .i64 k1, .int .i64 n1, str t1, .slice Ak1 nk1 ck1, .slice Ap1 np1 cp1] 25) = Y1 at *
  generalize y1.heap.size = g1 at *
  refine (fits_any v _ Y1 g1 (Nat.le_of_lt V1.lt) V1.val (Hctx.out _ B).1 hO).mono ?_
  rintro e y2 ⟨rfl, hb⟩
  replace V1 := V1.below hb
  replace B := B.trans (hb.mono B.size)
  clear hb
  by_cases hf : (jtext v).length < 400
  · rw [decide_eq_true hf]
    have h0 := hO.obj (by omega)
    have hc1 := S1_ok (u := uA) (.inl rfl) (sigOf_is (secOf x1) (secOf x2) (jtext v))
    have P1 := Lib.hid (put_one h0 (sec_of x1) (sec_of x2) (.inl rfl : uA = uA ∨ uA = uB))
    have N0 := Lib.hid h0.count
    have N1 := Lib.hid (h0.sealed_count hc1)
    have Q1 := Lib.hid (show sTextR v = .tuple #[str (jtext v), .int .i64 0] by unfold sTextR; rw [h0.says.1, h0.says.2])
    have Q2 := Lib.hid (show sTextR (insO sigK v (S1 uA (sigOf (secOf x1) (secOf x2) (jtext v)))) = .tuple #[str (jtext v), .int .i64 0] by unfold sTextR; rw [(h0.sealed_says hc1).1, (h0.sealed_says hc1).2])
    have Q3 := Lib.hid (show textR v = .tuple #[str (jtext v), .int .i64 0] by unfold textR; rw [h0.check, if_pos rfl])
    have Hkl := Lib.hid (show (insO sigK v (S1 uA (sigOf (secOf x1) (secOf x2) (jtext v)))).keys.length = v.keys.length + 1 from ins_len _ _ _ (place_le _ _))
    obtain ⟨p, Hp⟩ : ∃ p, Hid (pw 4 (secOf x1) % 7823 = p) := ⟨_, Lib.hid rfl⟩
    clear hc1 hO h0 hf
    generalize insO sigK v (S1 uA (sigOf (secOf x1) (secOf x2) (jtext v))) = J at *
    generalize jtext v = L at *
    obtain ⟨p10, p11, p12, p13, p14⟩ := V1.cells
    have lt1 := V1.lt
    go_wp2_with fail
    refine (sealedBy_ok P1.out _ _ g1 (Nat.le_of_lt V1.lt) V1.val (Hctx.out _ B).1 (Hctx.out _ B).2 N0.out (by decide)).mono ?_
    rintro e y3 ⟨k2, n2, t2, Ak2, nk2, ck2, Ap2, np2, cp2, rfl, hv, hb⟩
    rw [Hp.out]
    clear p10 p11 p12 p13 p14 lt1
    replace V1 := V1.below hb
    replace B := B.trans (hb.mono B.size)
    clear hb
    replace hv := VOw.toV _ _ _ hv
    have V2 := VBx.new hv
    have hA2 : Below y3.heap.size y3 (y3.alloc (.cells #[.int .i64 k2, .int .i64 n2, str t2, .slice Ak2 nk2 ck2, .slice Ap2 np2 cp2] 25)) := (Below.refl _ _).alloc (Nat.le_refl _) _
    replace V1 := V1.below hA2
    replace B := B.trans (hA2.mono B.size)
    clear hA2
    clear hv
    obtain ⟨p10, p11, p12, p13, p14⟩ := V1.cells
    have lt1 := V1.lt
    go_wp2_with fail
    clear p10 p11 p12 p13 p14 lt1
    generalize y3.alloc (.cells #[.int .i64 k2, .int .i64 n2, str t2, .slice Ak2 nk2 ck2, .slice Ap2 np2 cp2] 25) = Y2 at *
    generalize y3.heap.size = g2 at *
    refine (sealText_any v _ Y2 g1 (Nat.le_of_lt V1.lt) V1.val (Hctx.out _ B).1 N0.out).mono ?_
    rintro e y4 ⟨rfl, hb⟩
    rw [Q1.out]
    replace V1 := V1.below hb
    replace V2 := V2.below hb
    replace B := B.trans (hb.mono B.size)
    clear hb
    obtain ⟨p10, p11, p12, p13, p14⟩ := V1.cells
    obtain ⟨p20, p21, p22, p23, p24⟩ := V2.cells
    have lt1 := V1.lt
    have lt2 := V2.lt
    go_wp2_with fail
    clear p10 p11 p12 p13 p14 lt1 p20 p21 p22 p23 p24 lt2
    refine (sealText_any J _ _ g2 (Nat.le_of_lt V2.lt) V2.val (Hctx.out _ B).1 N1.out).mono ?_
    rintro e y5 ⟨rfl, hb⟩
    rw [Q2.out]
    replace V1 := V1.below hb
    replace V2 := V2.below hb
    replace B := B.trans (hb.mono B.size)
    clear hb
    obtain ⟨p10, p11, p12, p13, p14⟩ := V1.cells
    obtain ⟨p20, p21, p22, p23, p24⟩ := V2.cells
    have lt1 := V1.lt
    have lt2 := V2.lt
    go_wp2_with fail
    clear p10 p11 p12 p13 p14 lt1 p20 p21 p22 p23 p24 lt2
    refine (Text_any v _ _ g1 (Nat.le_of_lt V1.lt) V1.val (Hctx.out _ B).1 N0.out).mono ?_
    rintro e y6 ⟨rfl, hb⟩
    rw [Q3.out]
    replace V1 := V1.below hb
    replace V2 := V2.below hb
    replace B := B.trans (hb.mono B.size)
    clear hb
    go_wp2_with fail
    refine (signSure_any _).mono ?_
    rintro e y7 ⟨rfl, hb⟩
    replace V1 := V1.below hb
    replace V2 := V2.below hb
    replace B := B.trans (hb.mono B.size)
    clear hb
    have hk1 := V1.val.nkeys.1
    have hk2 := V2.val.nkeys.1
    have Hnk := Lib.hid (show nk2 = nk1 + 1 by rw [hk1, hk2, Hkl.out])
    have HnkI := Lib.hid (show (nk2 : Int) = (nk1 : Int) + 1 by have := Hnk.out; omega)
    have Hle := Lib.hid (show nk1 ≤ 1048576 by have := V1.val.klen; omega)
    clear hk1 hk2
    obtain ⟨p10, p11, p12, p13, p14⟩ := V1.cells
    obtain ⟨p20, p21, p22, p23, p24⟩ := V2.cells
    have lt1 := V1.lt
    have lt2 := V2.lt
    have hn2 := Hnk.out
    subst hn2
    have hle := Hle.out
    clear Hnk HnkI Hle
    go_wp2_with fail
    go_ret
    refine ⟨?_, B⟩
    simp
  · rw [decide_eq_false hf]
    go_wp2_with fail
    refine (signSure_any _).mono ?_
    rintro e y3 ⟨rfl, hb⟩
    go_wp2_with fail
    go_ret
    exact ⟨rfl, B.trans (hb.mono B.size)⟩
namespace sealText
open Go.ChangeShapes Go.WideShapes Go.ChangeAt Go.RowKit
theorem own : ownKnob Tryd.prog.godebug = none := by kernel_rfl
theorem laidOut : laidOutB Tryd.prog = true := by kernel_rfl
set_option linter.unusedVariables false
theorem laid_met (os : Os) : laidMet Tryd.prog Rows.sealTextRow.laid ((laidWorld os).forCall (fun _ _ => 0) ⟨#[], #[.slice none 0 0, .int .i64 0, .int .i64 0], []⟩).memory :=
  laidMet_of_run' 8 (by kernel_rfl) (by kernel_rfl)
theorem reads (os : Os) {H : Type} (enc : TypeId × Value → H) : ∃ places, DataW.whole enc Tryd.prog ((laidWorld os).forCall (fun _ _ => 0) ⟨#[], #[.slice none 0 0, .int .i64 0, .int .i64 0], []⟩).memory Tryd.f4.params.toList Rows.sealTextSpec.vars false #[Value.slice none 0 0, Value.int .i64 0, Value.int .i64 0].toList 8 = some ([.nil, .lit (.int .i64 0), .lit (.int .i64 0)], [], places) :=
  ⟨[], by kernel_rfl⟩
set_option maxRecDepth 100000 in
theorem contract (H : Type) (enc : TypeId × Value → H) (W : World) (base : Nat) (args : Array Value) (ds gs : List (DataW H)) (before : List MemPlace)
    (hval0 : ∀ (j : Nat) t v, Tryd.f4.params[j]? = some t → args[j]? = some v → Value.okWide Tryd.prog W .any base t v)
    (hW : DataW.Whole enc Tryd.prog Tryd.f4.params.toList Rows.sealTextSpec.vars false W args.toList ds gs before) (hL : laidMetH Tryd.prog Rows.sealTextRow.laid W) (hsh : W.ShapedOpen Tryd.prog) :
    Calls Tryd.prog 4 args W fun e W' => ∃ v, e = .returned v ∧ Rows.sealTextSpec.post enc Tryd.prog Tryd.f4 false true false false W args v W' := by
  have hval : ∀ (j : Nat) t v, Tryd.f4.params[j]? = some t → args[j]? = some v → Value.okWide Tryd.prog W .any base t v := hval0
  have hW' := hW
  obtain ⟨p, q, hA0, hV, rfl, hfz, hnd⟩ := hW
  have hA : DataW.TrodAll enc Tryd.prog W 0 (fun _ => true) true Tryd.f4.params.toList args.toList ds p := hA0
  rw [Tryd.params4] at hA hval
  obtain ⟨v0, vs0, d0, ds0, p0, q0, hargs, rfl, rfl, h0, rr0⟩ := trodAll_cons hA
  obtain ⟨v1, vs1, d1, ds1, p1, q1, rfl, rfl, rfl, h1, rr1⟩ := trodAll_cons rr0
  obtain ⟨v2, vs2, d2, ds2, p2, q2, rfl, rfl, rfl, h2, rr2⟩ := trodAll_cons rr1
  obtain ⟨rfl, rfl, rfl⟩ := trodAll_nil rr2
  obtain rfl : args = #[v0, v1, v2] := by cases args; simp_all
  obtain ⟨rfl, rfl⟩ := trodVars_none hV
  have k0 := h0
  have lt0 : ∀ x ∈ p0, x.block < W.heap.size := by obtain ⟨m, hm⟩ := k0; exact DataW.trod_lt m _ _ _ hm
  obtain ⟨A0, n0, c0, rfl, hx0⟩ := open_intsl Tryd.underlying31 Tryd.underlying3 (by kernel_rfl) (hval 0 31 v0 rfl rfl) h0
  have k1 := h1
  have lt1 : ∀ x ∈ p1, x.block < W.heap.size := by obtain ⟨m, hm⟩ := k1; exact DataW.trod_lt m _ _ _ hm
  obtain ⟨x1, rfl, hx1⟩ := open_i64 Tryd.underlying3 (hval 1 3 v1 rfl rfl) h1
  have k2 := h2
  have lt2 : ∀ x ∈ p2, x.block < W.heap.size := by obtain ⟨m, hm⟩ := k2; exact DataW.trod_lt m _ _ _ hm
  obtain ⟨x2, rfl, hx2⟩ := open_i64 Tryd.underlying3 (hval 2 3 v2 rfl rfl) h2
  clear hA0 hval0
  refine (walkSealText A0 n0 c0 x1 x2 W hx0 hx1 hx2 (laidTab hL) hsh).mono fun e W' ⟨he, bel⟩ => ?_
  subst he
  exact ⟨_, rfl, _, _, _, [], _, [], hW', trodAll_mk1 (shut_bool Tryd.underlying4 _), (trodAll_cons_mk (Below.trod laidOut (by kernel_rfl) (of_decide_eq_true (by kernel_rfl)) k0 bel lt0) (trodAll_cons_mk (Below.trod laidOut (by kernel_rfl) (of_decide_eq_true (by kernel_rfl)) k1 bel lt1) (trodAll_cons_mk (Below.trod laidOut (by kernel_rfl) (of_decide_eq_true (by kernel_rfl)) k2 bel lt2) trodAll_mk0))), rfl, bel.frame _, fun h => by cases h⟩
set_option maxRecDepth 100000 in
theorem lifted (os : Os) (started : os.Started) (H : Type) (enc : TypeId × Value → H) (F : Stop.Interp) :
    ReturnsInHanded {} Tryd.checked os 4 .any ((OpenSpec.ofChange Rows.sealTextSpec).preRow enc Tryd.prog Tryd.f4 Rows.sealTextRow.domain false Rows.sealTextRow.laid) (((OpenSpec.ofChange Rows.sealTextSpec).at F).post enc Tryd.prog Tryd.f4 false true false false) := by
  obtain ⟨places, hx⟩ := reads os enc
  refine returnsInHanded_of_row (C := Tryd.checked) (s := OpenSpec.ofChange Rows.sealTextSpec) own started (by kernel_rfl) Tryd.func4
    (witness_row_at (enc := enc) (C := Tryd.checked) false (laidWorld os) #[.slice none 0 0, .int .i64 0, .int .i64 0] rfl (by kernel_rfl) (by kernel_rfl) (by kernel_rfl)
      (OpenSpec.preRow_of_cond 8 hx (by kernel_rfl) (fun k hk => by cases hk) (by kernel_rfl) (laid_met os))) ?_
  intro W base args ds gs before hval hW _ _ _ hL hsh _
  exact contract H enc W base args ds gs before hval hW hL hsh
theorem said : Rows.SealTextSaid :=
  OpenClaim.holds_of_cond 4 Tryd.f4 rfl rfl rfl rfl rfl rfl rfl ⟨rfl, rfl, rfl, rfl, rfl⟩ rfl rfl rfl rfl rfl (by kernel_rfl) Tryd.func4 (by kernel_rfl)
    (of_decide_eq_true (by kernel_rfl)) (by unfold Func.isWrapper; first | (rw [if_pos (by decide +kernel)]; kernel_rfl) | (rw [if_neg (by decide +kernel)]; exact ⟨rfl, rfl⟩))
    (fun os started H enc _ F => by rw [OpenClaim.pre_eq_preRow]; exact lifted os started H enc F)
theorem plain (f : FuncId) (fn : Func) (hf : Tryd.pinned.checked.prog.funcNamed "bagnall/bagnallkeep.SealText" = some f) (hfn : Tryd.pinned.checked.prog.funcs[f]? = some fn) :
    false = Tryd.pinned.checked.prog.looks [] ∧ ∀ (j : Nat) t, fn.params[j]? = some t → Tryd.pinned.checked.prog.wantsStandIn t = false := by
  obtain rfl : f = 4 := Option.some.inj ((show Tryd.prog.funcNamed "bagnall/bagnallkeep.SealText" = some 4 by kernel_rfl).symm.trans hf) |>.symm
  obtain rfl : fn = Tryd.f4 := (Option.some.inj (Tryd.func4.symm.trans hfn)).symm
  refine ⟨by kernel_rfl, fun j t ht => ?_⟩
  rw [Tryd.params4] at ht
  have hm := Array.mem_of_getElem? ht
  have hm2 : t = 31 ∨ t = 3 ∨ t = 3 := by simpa using hm
  rcases hm2 with rfl | rfl | rfl
  · exact (show Tryd.prog.wantsStandIn 31 = false by kernel_rfl)
  · exact (show Tryd.prog.wantsStandIn 3 = false by kernel_rfl)
  · exact (show Tryd.prog.wantsStandIn 3 = false by kernel_rfl)
theorem proved : Rows.SealTextCardSaid :=
  Claim7.holds_tied_plain_at .later [] _ _ _ _ said (fun _ h => by cases h) (by kernel_rfl) (fun _ h => by cases h) sealText_row_tie rfl ⟨rfl, rfl⟩ (by kernel_rfl) rfl plain (by kernel_rfl)
#print axioms proved
end sealText
end Go.Proofs.YtgghncgefhanjaaDoor
