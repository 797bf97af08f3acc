/- Proved here: for every value whose reading is of bulk at most 1048576, every user, key, secret and number, seal.Put answers what the reference says, the value and the error (statement SealPuts, in its form with the bulk bound). No other condition. -/
import Derived.Test.YtbdbcffnjibjoaaGreatDoorSlRefU
import Derived.Test.YtbdbcffnjibjoaaGreatDoorBunT
import Derived.Test.YtbdbcffnjibjoaaGreatDoorJRefSame
import Derived.Test.YtbdbcffnjibjoaaGreatDoorOpenV
import Derived.Test.YtbdbcffnjibjoaaGreatDoorLaid
namespace Go.Proofs.YtbdbcffnjibjoaaGreatDoor
set_option linter.unusedVariables false
set_option linter.unusedSimpArgs false
open Go.RowKit
attribute [local go_sem high] str_mk
set_option maxRecDepth 100000 in
set_option maxHeartbeats 2000000 in
theorem walkSealPuts (v0 : JV) (cs0 : List Value) (l1 : List UInt8) (l2 : List UInt8) (x3 : Int) (x4 : Int) (w : World) (hx0 : VIn w w.heap.size v0 cs0 ∧ count v0 ≤ 1048576) (hx1 : l1.length ≤ maxLen) (hx2 : l2.length ≤ maxLen) (hx3 : -9223372036854775808 ≤ x3 ∧ x3 ≤ 9223372036854775807) (hx4 : -9223372036854775808 ≤ x4 ∧ x4 ≤ 9223372036854775807) (htab : Tab w.heap.size w) (hsh : w.ShapedOpen Tryz.prog) :
    Calls Tryz.prog 3 #[.agg cs0.toArray, str l1, str l2, .int .i64 x3, .int .i64 x4] w fun e w' => e = .returned (.bool true) ∧ Below w.heap.size w w' := by
  obtain ⟨hv, hcnt⟩ := hx0
  obtain ⟨k, n, t, Ak, nk, ck, Ap, np, cp, rfl⟩ := hv.form
  have hgl := Gl.of hsh
  have hB1 : Below w.heap.size w (w.alloc (.cells #[.int .i64 k, .int .i64 n, str t, .slice Ak nk ck, .slice Ap np cp] 25)) := (Below.refl _ _).alloc (Nat.le_refl _) _
  have hbA := Blk.new w 25 #[.int .i64 k, .int .i64 n, str t, .slice Ak nk ck, .slice Ap np cp]
  have hct : count v0 ≤ 1073741824 := by omega
  have H1 := Lib.hid (sealPut_any v0 [.int .i64 k, .int .i64 n, str t, .slice Ak nk ck, .slice Ap np cp] l1 l2 x3 x4 _ w.heap.size hB1.size (hv.below hB1) (htab.on hB1).here (hgl.below hB1) hct hx1 hx2)
  have H2 := Lib.hid (show ∀ W, Below w.heap.size w W → Calls Tryz.prog 5 #[.agg #[.int .i64 k, .int .i64 n, str t, .slice Ak nk ck, .slice Ap np cp], str l1, str l2, .int .i64 x3, .int .i64 x4] W (RefPut v0 l1 l2 x3 x4 W) from
    fun W hW => refSealPut_any v0 [.int .i64 k, .int .i64 n, str t, .slice Ak nk ck, .slice Ap np cp] l1 l2 x3 x4 W w.heap.size hW.size (hv.below hW) hcnt hx1 hx2)
  clear hv htab hsh hgl hx1 hx2 hcnt hct
  go_enter Tryz.func3, Tryz.ntmps3
  go_wp2_with fail
  generalize (w.alloc (.cells #[.int .i64 k, .int .i64 n, str t, .slice Ak nk ck, .slice Ap np cp] 25)) = y1 at *
  refine H1.out.mono ?_
  rintro e y2 ⟨cs2, rfl, hw2, hb2⟩
  have hi2 := VOw.toV _ _ _ hw2
  clear hw2 H1
  obtain ⟨k2, n2, t2, Ak2, nk2, ck2, Ap2, np2, cp2, rfl⟩ := hi2.form
  obtain ⟨J, hJ⟩ : ∃ J, putV v0 l1 l2 x3 x4 = J := ⟨_, rfl⟩
  obtain ⟨N, hN⟩ : ∃ N, putN v0 l1 l2 x3 x4 = N := ⟨_, rfl⟩
  rw [hJ] at hi2
  rw [hN]
  have HJ := Lib.hid (And.intro hJ hN)
  clear hJ hN
  obtain ⟨y2a, hy2a⟩ : ∃ y2a, y2.alloc (.cells #[.int .i64 k2, .int .i64 n2, str t2, .slice Ak2 nk2 ck2, .slice Ap2 np2 cp2] 25) = y2a := ⟨_, rfl⟩
  have hbA2 : Below y2.heap.size y2 y2a := by rw [← hy2a]; exact (Below.refl _ _).alloc (Nat.le_refl _) _
  have b11 : Blk y2a y2.heap.size 25 #[.int .i64 k2, .int .i64 n2, str t2, .slice Ak2 nk2 ck2, .slice Ap2 np2 cp2] := by rw [← hy2a]; exact Blk.new y2 25 _
  have hB2 : Below w.heap.size w y2a := (hB1.trans (hb2.mono hB1.size)).trans (hbA2.mono (Nat.le_trans hB1.size hb2.size))
  have b5a := hbA.below hb2 hbA.lt
  have b5 := b5a.below hbA2 b5a.lt
  have hl5 : w.heap.size < y2.heap.size := b5a.lt
  have hi2a := hi2.below hbA2
  have H2' := Lib.hid (H2.out y2a hB2)
  have HB2 := Lib.hid hB2
  have Hb11 := Lib.hid b11
  have Hi2 := Lib.hid hi2a
  obtain ⟨c0, c1, c2, c3, c4, -, -, -, -, -⟩ := sl_box b5
  clear hbA hb2 hbA2 b11 hB2 b5a b5 hi2 hi2a H2 hB1
  go_wp2_with fail
  refine H2'.out.mono ?_
  rintro e y3 ⟨k3, n3, t3, Ak3, nk3, ck3, Ap3, np3, cp3, rfl, hi3, hb3⟩
  rw [HJ.out.1] at hi3
  rw [HJ.out.2]
  obtain ⟨y3a, hy3a⟩ : ∃ y3a, y3.alloc (.cells #[.int .i64 k3, .int .i64 n3, str t3, .slice Ak3 nk3 ck3, .slice Ap3 np3 cp3] 25) = y3a := ⟨_, rfl⟩
  have hbA3 : Below y3.heap.size y3 y3a := by rw [← hy3a]; exact (Below.refl _ _).alloc (Nat.le_refl _) _
  have b13 : Blk y3a y3.heap.size 25 #[.int .i64 k3, .int .i64 n3, str t3, .slice Ak3 nk3 ck3, .slice Ap3 np3 cp3] := by rw [← hy3a]; exact Blk.new y3 25 _
  have b11a := Hb11.out.below hb3 Hb11.out.lt
  have b11 := b11a.below hbA3 b11a.lt
  have hl11 : y2.heap.size < y3.heap.size := b11a.lt
  have hb3a : Below y2a.heap.size y2a y3a := hb3.trans (hbA3.mono hb3.size)
  have hs := (HB2.out.trans (hb3a.mono HB2.out.size))
  have hs2 : y2.heap.size ≤ y3.heap.size := Nat.le_of_lt hl11
  have hlt : y2.heap.size < y2a.heap.size := Hb11.out.lt
  have j2 : VIn y3a y3.heap.size J [.int .i64 k2, .int .i64 n2, str t2, .slice Ak2 nk2 ck2, .slice Ap2 np2 cp2] := VIn.wider hs2 _ _ (Hi2.out.below (hb3a.mono (Nat.le_of_lt hlt)))
  have j3 : VIn y3a y3.heap.size J [.int .i64 k3, .int .i64 n3, str t3, .slice Ak3 nk3 ck3, .slice Ap3 np3 cp3] := hi3.below hbA3
  have H3 := Lib.hid (refSame_any (count J) J J _ _ y3a y3.heap.size (Nat.le_refl _) hbA3.size j2 j3)
  have HS := Lib.hid hs
  obtain ⟨c0, c1, c2, c3, c4, -, -, -, -, -⟩ := sl_box b11
  obtain ⟨d0, d1, d2, d3, d4, -, -, -, -, -⟩ := sl_box b13
  clear hi3 hb3 hbA3 b13 b11a b11 hb3a hs j2 j3 H2' Hb11 Hi2 hs2
  go_wp2_with fail
  refine H3.out.mono ?_
  rintro e y4 ⟨b, rfl, hb, hb4⟩
  obtain rfl : b = true := hb.2 rfl
  clear hb
  go_wp2_with fail
  go_ret
  exact ⟨by simp, HS.out.trans (hb4.mono HS.out.size)⟩
namespace sealPuts
open Go.ChangeShapes Go.WideShapes Go.ChangeAt Go.RowKit
theorem own : ownKnob Tryz.prog.godebug = none := by kernel_rfl
theorem laidOut : laidOutB Tryz.prog = true := by kernel_rfl
set_option linter.unusedVariables false
theorem laid_met (os : Os) : laidMet Tryz.prog Rows.sealPutsUptoRow.laid ((laidWorld os).forCall (fun _ _ => 0) ⟨#[], #[.agg #[.int .i64 0, .int .i64 0, .string ByteArray.empty, .slice none 0 0, .slice none 0 0], .string ByteArray.empty, .string ByteArray.empty, .int .i64 0, .int .i64 0], []⟩).memory :=
  laidMet_of_run' 8 (by kernel_rfl) (by kernel_rfl)
theorem reads (os : Os) {H : Type} (enc : TypeId × Value → H) : ∃ places, DataW.whole enc Tryz.prog ((laidWorld os).forCall (fun _ _ => 0) ⟨#[], #[.agg #[.int .i64 0, .int .i64 0, .string ByteArray.empty, .slice none 0 0, .slice none 0 0], .string ByteArray.empty, .string ByteArray.empty, .int .i64 0, .int .i64 0], []⟩).memory Tryz.f3.params.toList Rows.sealPutsSpec.vars false #[Value.agg #[Value.int .i64 0, Value.int .i64 0, Value.string ByteArray.empty, Value.slice none 0 0, Value.slice none 0 0], Value.string ByteArray.empty, Value.string ByteArray.empty, Value.int .i64 0, Value.int .i64 0].toList 8 = some ([.agg [.lit (.int .i64 0), .lit (.int .i64 0), .lit (.string []), .nil, .nil], .lit (.string []), .lit (.string []), .lit (.int .i64 0), .lit (.int .i64 0)], [], places) :=
  ⟨[], by kernel_rfl⟩
set_option maxRecDepth 100000 in
theorem contract (H : Type) (enc : TypeId × Value → H) (W : World) (base : Nat) (args : Array Value) (ds gs : List (DataW H)) (before : List MemPlace)
    (hval0 : ∀ (j : Nat) t v, Tryz.f3.params[j]? = some t → args[j]? = some v → Value.okWide Tryz.prog W .any base t v)
    (hW : DataW.Whole enc Tryz.prog Tryz.f3.params.toList Rows.sealPutsSpec.vars false W args.toList ds gs before) (hL : laidMetH Tryz.prog Rows.sealPutsUptoRow.laid W) (hsh : W.ShapedOpen Tryz.prog) (hk : Rows.uptoSmall H (ds ++ gs) = true) :
    Calls Tryz.prog 3 args W fun e W' => ∃ v, e = .returned v ∧ Rows.sealPutsSpec.post enc Tryz.prog Tryz.f3 false true false false W args v W' := by
  have hval : ∀ (j : Nat) t v, Tryz.f3.params[j]? = some t → args[j]? = some v → Value.okWide Tryz.prog W .any base t v := hval0
  have hW' := hW
  obtain ⟨p, q, hA0, hV, rfl, hfz, hnd⟩ := hW
  have hA : DataW.TrodAll enc Tryz.prog W 0 (fun _ => true) true Tryz.f3.params.toList args.toList ds p := hA0
  rw [Tryz.params3] at hA hval
  obtain ⟨v0, vs0, d0, ds0, p0, q0, hargs, rfl, rfl, h0, rr0⟩ := trodAll_cons hA
  obtain ⟨v1, vs1, d1, ds1, p1, q1, rfl, rfl, rfl, h1, rr1⟩ := trodAll_cons rr0
  obtain ⟨v2, vs2, d2, ds2, p2, q2, rfl, rfl, rfl, h2, rr2⟩ := trodAll_cons rr1
  obtain ⟨v3, vs3, d3, ds3, p3, q3, rfl, rfl, rfl, h3, rr3⟩ := trodAll_cons rr2
  obtain ⟨v4, vs4, d4, ds4, p4, q4, rfl, rfl, rfl, h4, rr4⟩ := trodAll_cons rr3
  obtain ⟨rfl, rfl, rfl⟩ := trodAll_nil rr4
  obtain rfl : args = #[v0, v1, v2, v3, v4] := by cases args; simp_all
  obtain ⟨rfl, rfl⟩ := trodVars_none hV
  have k0 := h0
  have lt0 : ∀ x ∈ p0, x.block < W.heap.size := by obtain ⟨m, hm⟩ := k0; exact DataW.trod_lt m _ _ _ hm
  obtain ⟨u0, cs0, rfl, hx0⟩ := open_value (hval 0 25 v0 rfl rfl) h0 (bulk_of_small hk (by simp))
  have k1 := h1
  have lt1 : ∀ x ∈ p1, x.block < W.heap.size := by obtain ⟨m, hm⟩ := k1; exact DataW.trod_lt m _ _ _ hm
  obtain ⟨l1, rfl, hx1⟩ := open_str Tryz.underlying9 (hval 1 9 v1 rfl rfl) h1
  have k2 := h2
  have lt2 : ∀ x ∈ p2, x.block < W.heap.size := by obtain ⟨m, hm⟩ := k2; exact DataW.trod_lt m _ _ _ hm
  obtain ⟨l2, rfl, hx2⟩ := open_str Tryz.underlying9 (hval 2 9 v2 rfl rfl) h2
  have k3 := h3
  have lt3 : ∀ x ∈ p3, x.block < W.heap.size := by obtain ⟨m, hm⟩ := k3; exact DataW.trod_lt m _ _ _ hm
  obtain ⟨x3, rfl, hx3⟩ := open_i64 Tryz.underlying3 (hval 3 3 v3 rfl rfl) h3
  have k4 := h4
  have lt4 : ∀ x ∈ p4, x.block < W.heap.size := by obtain ⟨m, hm⟩ := k4; exact DataW.trod_lt m _ _ _ hm
  obtain ⟨x4, rfl, hx4⟩ := open_i64 Tryz.underlying3 (hval 4 3 v4 rfl rfl) h4
  clear hA0 hval0
  refine (walkSealPuts u0 cs0 l1 l2 x3 x4 W hx0 hx1 hx2 hx3 hx4 (laidTab hL) hsh).mono fun e W' ⟨he, bel⟩ => ?_
  subst he
  exact ⟨_, rfl, _, _, _, [], _, [], hW', trodAll_mk1 (shut_bool Tryz.underlying4 _), (trodAll_cons_mk (Below.trod laidOut (by kernel_rfl) (of_decide_eq_true (by kernel_rfl)) k0 bel lt0) (trodAll_cons_mk (Below.trod laidOut (by kernel_rfl) (of_decide_eq_true (by kernel_rfl)) k1 bel lt1) (trodAll_cons_mk (Below.trod laidOut (by kernel_rfl) (of_decide_eq_true (by kernel_rfl)) k2 bel lt2) (trodAll_cons_mk (Below.trod laidOut (by kernel_rfl) (of_decide_eq_true (by kernel_rfl)) k3 bel lt3) (trodAll_cons_mk (Below.trod laidOut (by kernel_rfl) (of_decide_eq_true (by kernel_rfl)) k4 bel lt4) trodAll_mk0))))), rfl, bel.frame _, fun h => by cases h⟩
set_option maxRecDepth 100000 in
theorem lifted (os : Os) (started : os.Started) (H : Type) (enc : TypeId × Value → H) (F : Stop.Interp) :
    ReturnsInHanded {} Tryz.checked os 3 .any ((Rows.OpenSpec.upto Rows.sealPutsSpec).preRow enc Tryz.prog Tryz.f3 Rows.sealPutsUptoRow.domain false Rows.sealPutsUptoRow.laid) (((Rows.OpenSpec.upto Rows.sealPutsSpec).at F).post enc Tryz.prog Tryz.f3 false true false false) := by
  obtain ⟨places, hx⟩ := reads os enc
  refine returnsInHanded_of_row (C := Tryz.checked) (s := Rows.OpenSpec.upto Rows.sealPutsSpec) own started (by kernel_rfl) Tryz.func3
    (witness_row_at (enc := enc) (C := Tryz.checked) false (laidWorld os) #[.agg #[.int .i64 0, .int .i64 0, .string ByteArray.empty, .slice none 0 0, .slice none 0 0], .string ByteArray.empty, .string ByteArray.empty, .int .i64 0, .int .i64 0] rfl (by kernel_rfl) (by kernel_rfl) (by kernel_rfl)
      (OpenSpec.preRow_of_cond 8 hx (by kernel_rfl) (fun k hk => by cases hk; kernel_rfl) (by kernel_rfl) (laid_met os))) ?_
  intro W base args ds gs before hval hW _ hcond _ hL hsh _
  exact contract H enc W base args ds gs before hval hW hL hsh (hcond _ rfl)
theorem said : Rows.SealPutsUptoSaid :=
  OpenClaim.holds_of_cond 3 Tryz.f3 rfl rfl rfl rfl rfl rfl rfl ⟨rfl, rfl, rfl, rfl, rfl⟩ rfl rfl rfl rfl rfl (by kernel_rfl) Tryz.func3 (by kernel_rfl)
    (of_decide_eq_true (by kernel_rfl)) (by unfold Func.isWrapper; first | (rw [if_pos (by decide +kernel)]; kernel_rfl) | (rw [if_neg (by decide +kernel)]; exact ⟨rfl, rfl⟩))
    (fun os started H enc _ F => by rw [OpenClaim.pre_eq_preRow]; exact lifted os started H enc F)
theorem plain (f : FuncId) (fn : Func) (hf : Tryz.pinned.checked.prog.funcNamed "bagnall/bagnalllaw.SealPuts" = some f) (hfn : Tryz.pinned.checked.prog.funcs[f]? = some fn) :
    false = Tryz.pinned.checked.prog.looks [] ∧ ∀ (j : Nat) t, fn.params[j]? = some t → Tryz.pinned.checked.prog.wantsStandIn t = false := by
  obtain rfl : f = 3 := Option.some.inj ((show Tryz.prog.funcNamed "bagnall/bagnalllaw.SealPuts" = some 3 by kernel_rfl).symm.trans hf) |>.symm
  obtain rfl : fn = Tryz.f3 := (Option.some.inj (Tryz.func3.symm.trans hfn)).symm
  refine ⟨by kernel_rfl, fun j t ht => ?_⟩
  rw [Tryz.params3] at ht
  have hm := Array.mem_of_getElem? ht
  have hm2 : t = 25 ∨ t = 9 ∨ t = 9 ∨ t = 3 ∨ t = 3 := by simpa using hm
  rcases hm2 with rfl | rfl | rfl | rfl | rfl
  · exact (show Tryz.prog.wantsStandIn 25 = false by kernel_rfl)
  · exact (show Tryz.prog.wantsStandIn 9 = false by kernel_rfl)
  · exact (show Tryz.prog.wantsStandIn 9 = false by kernel_rfl)
  · exact (show Tryz.prog.wantsStandIn 3 = false by kernel_rfl)
  · exact (show Tryz.prog.wantsStandIn 3 = false by kernel_rfl)
theorem proved : Rows.SealPutsUptoCardSaid :=
  Claim7.holds_tied_plain_at .later [] _ _ _ _ said (fun _ h => by cases h) (by kernel_rfl) (fun _ h => by cases h) sealPutsUpto_row_tie rfl ⟨rfl, rfl⟩ (by kernel_rfl) rfl plain (by kernel_rfl)
#print axioms proved
end sealPuts
end Go.Proofs.YtbdbcffnjibjoaaGreatDoor
