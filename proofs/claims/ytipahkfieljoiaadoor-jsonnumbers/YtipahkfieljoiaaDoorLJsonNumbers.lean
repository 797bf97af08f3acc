/- Proved here: for all integers, a number within the limits is parsed as it is written, and with a zero or two minus signs ahead of it it is no JSON text (statement JsonNumbers). No condition. -/
import Derived.Test.YtipahkfieljoiaaDoorJParse
import Derived.Test.YtipahkfieljoiaaDoorJBackN
import Derived.Test.YtipahkfieljoiaaDoorJSure
import Derived.Test.YtipahkfieljoiaaDoorLaid
import Derived.Test.YtipahkfieljoiaaDoorOpen
import Derived.Test.YtipahkfieljoiaaDoorPicked
namespace Go.Proofs.YtipahkfieljoiaaDoor
open Go.RowKit

theorem itoa_plain (n : Int) : ∀ c ∈ Lib.itoa n, c = 45 ∨ isDig c = true := by
  unfold Lib.itoa
  split
  · intro c hc
    rcases List.mem_cons.1 hc with rfl | hc
    · exact .inl rfl
    · exact .inr (dec_all _ c hc)
  · exact fun c hc => .inr (dec_all _ c hc)
theorem no_brace {s : List UInt8} (h : ∀ c ∈ s, c = 45 ∨ isDig c = true) : (123 : UInt8) ∉ s := by
  intro hm
  rcases h 123 hm with h | h <;> revert h <;> decide
/-- A number with a zero ahead, or with two signs. -/
theorem num_bad0 (n : Int) : readR (48 :: Lib.itoa n) = none := by
  obtain ⟨c, q, hc, hd⟩ := itoa_head n
  have hws : isWs c = false := by
    rcases hd with rfl | hd
    · decide
    · exact start_ws c (by simp [startC, hd])
  have hsk : skip (48 :: Lib.itoa n) = 48 :: Lib.itoa n := skip_non (by decide)
  have hpv : pv ((48 :: Lib.itoa n).length + 1) (skip (48 :: Lib.itoa n)) = some (.mk 4 0 [] [] [], Lib.itoa n) := by
    rw [hsk, pv_num (pre_head (by decide)) (pre_head (by decide)) (pre_head (by decide)) (pre_head (by decide)) (by rw [hsk]; simp) (by rw [hsk]; simp), hsk]
    rfl
  rw [readR_some hpv, if_neg]
  rw [hc, skip_non hws]; simp
theorem num_bad2 (n : Int) : readR (45 :: 45 :: Lib.itoa n) = none := by
  have hsk : skip (45 :: 45 :: Lib.itoa n) = 45 :: 45 :: Lib.itoa n := skip_non (by decide)
  apply readR_none
  rw [hsk, pv_num (pre_head (by decide)) (pre_head (by decide)) (pre_head (by decide)) (pre_head (by decide)) (by rw [hsk]; simp) (by rw [hsk]; simp), hsk,
    numR_eq (by simp) true (by simp) (45 :: Lib.itoa n) (by simp)]
  rfl
theorem num_read (n : Int) (h0 : -9007199254740992 < n) (h1 : n < 9007199254740992) : readR (Lib.itoa n) = some (.mk 4 n [] [] []) := by
  rw [← numV_text]
  exact readR_text _ (fine_of 0 _ (numV_fault n h0 h1))

attribute [local go_sem high] str_mk
set_option maxRecDepth 100000 in
set_option maxHeartbeats 4000000 in
theorem walkJsonNumbers (x0 : Int) (x1 : Int) (w : World) (hx0 : -9223372036854775808 ≤ x0 ∧ x0 ≤ 9223372036854775807) (hx1 : -9223372036854775808 ≤ x1 ∧ x1 ≤ 9223372036854775807) (htab : Tab w.heap.size w) :
    Calls Tryd.prog 12 #[.int .i64 x0, .int .i64 x1] w fun e w' => e = .returned (.bool true) ∧ Below w.heap.size w w' := by
  obtain ⟨_, _, t3, t4⟩ := tmod_pick x0 9007199254740992 (by omega)
  obtain ⟨k, hk⟩ : ∃ k, x0.tmod 9007199254740992 = k := ⟨_, rfl⟩
  rw [hk] at t3 t4
  have hil := Lib.itoa_length_le k (by omega) (by omega)
  have HT := Lib.hid (numV_TextR k (by omega) (by omega))
  have Hpe := Lib.hid (show parseE (Lib.itoa k) = 0 by unfold parseE; rw [if_neg (by omega), num_read k (by omega) (by omega)]; exact numV_check k (by omega) (by omega))
  have Hrd := Lib.hid (num_read k (by omega) (by omega))
  have Hpl := Lib.hid (itoa_plain k)
  have Hb0 := Lib.hid (show parseE (48 :: Lib.itoa k) = 4 by unfold parseE; rw [if_neg (by simp; omega), num_bad0])
  have Hb2 := Lib.hid (show parseE (45 :: 45 :: Lib.itoa k) = 4 by unfold parseE; rw [if_neg (by simp; omega), num_bad2])
  have hp2 := Int.emod_nonneg x1 (show (2 : Int) ≠ 0 by omega)
  go_enter Tryd.func12, Tryd.ntmps12
  go_wp2_with fail
  refine (Text_any (.mk 4 k [] [] []) _ w 0 (Nat.zero_le _) (numV_in k w (by omega)) htab (by simp [count, counts])).mono ?_
  rintro e y1 ⟨rfl, hb1⟩
  rw [HT.out]
  generalize hu : Lib.itoa k = u at *
  clear hu hk
  have htab1 := (htab.on hb1).here
  go_wp2_with fail
  refine (Parse_any u y1 (fun _ => valAt_of (valOk_plain _) (no_brace Hpl.out) (by omega)) (by omega) htab1).mono ?_
  intro e y2 ho
  rcases ho with ⟨v, cs, _, hrd, _, rfl, hv, hbl⟩ | ⟨hne, _⟩
  · rw [Hrd.out] at hrd
    injection hrd with hrd
    subst hrd
    unfold VInS at hv
    obtain ⟨Ak, ck, Ap, cp, pc, rfl, _⟩ := hv
    clear Hrd Hpe HT
    have hbb := (hb1.trans (hbl.mono hb1.size)).alloc (Nat.le_trans hb1.size hbl.size) (.cells #[.int .i64 4, .int .i64 k, str [], .slice Ak 0 ck, .slice Ap 0 cp] 25)
    have htab2 := (htab.on hbb).here
    go_wp2_with fail
    refine (picked_any x1 2 _ (by omega) (by omega)).mono ?_
    rintro e y3 ⟨rfl, rfl⟩
    by_cases hz : x1 % 2 = 0
    · rw [hz]
      have hadd := fun W => run_str_add (P := Tryd.prog) W 9 [45, 45] u (by simp; omega)
      go_wp2_with fail
      refine (Parse_any (45 :: 45 :: u) _ (fun _ => valAt_of (valOk_plain _) (no_brace (fun c hc => by simp at hc; rcases hc with rfl | h; exact .inl rfl; exact Hpl.out c h)) (by simp; omega)) (by simp; omega) htab2).mono ?_
      intro e y4 ho
      rcases ho with ⟨v, cs, hle, hrd, hck, _⟩ | ⟨hne, rfl, hbl4⟩
      · have h4 := Hb2.out
        unfold parseE at h4
        rw [if_neg (by omega), hrd] at h4
        simp only at h4
        rw [hck] at h4; cases h4
      · rw [Hb2.out]
        unfold zeroV
        go_wp2_with fail
        go_ret
        exact ⟨rfl, (hbb.trans (hbl4.mono hbb.size)).alloc (Nat.le_trans hbb.size hbl4.size) _⟩
    · have hz1 : (x1 % 2 == 0) = false := by simpa using hz
      have hadd := fun W => run_str_add (P := Tryd.prog) W 9 [48] u (by simp; omega)
      go_wp2_with fail
      refine (Parse_any (48 :: u) _ (fun _ => valAt_of (valOk_plain _) (no_brace (fun c hc => by rcases List.mem_cons.1 hc with rfl | h; exact .inr (by decide); exact Hpl.out c h)) (by simp; omega)) (by simp; omega) htab2).mono ?_
      intro e y4 ho
      rcases ho with ⟨v, cs, hle, hrd, hck, _⟩ | ⟨hne, rfl, hbl4⟩
      · have h4 := Hb0.out
        unfold parseE at h4
        rw [if_neg (by omega), hrd] at h4
        simp only at h4
        rw [hck] at h4; cases h4
      · rw [Hb0.out]
        unfold zeroV
        go_wp2_with fail
        go_ret
        exact ⟨rfl, (hbb.trans (hbl4.mono hbb.size)).alloc (Nat.le_trans hbb.size hbl4.size) _⟩
  · exact absurd Hpe.out hne
namespace jsonNumbers
open Go.ChangeShapes Go.WideShapes Go.ChangeAt Go.RowKit
theorem own : ownKnob Tryd.prog.godebug = none := by kernel_rfl
theorem laidOut : laidOutB Tryd.prog = true := by kernel_rfl
set_option linter.unusedVariables false
theorem laid_met (os : Os) : laidMet Tryd.prog Rows.jsonNumbersRow.laid ((laidWorld os).forCall (fun _ _ => 0) ⟨#[], #[.int .i64 0, .int .i64 0], []⟩).memory :=
  laidMet_of_run' 8 (by kernel_rfl) (by kernel_rfl)
theorem reads (os : Os) {H : Type} (enc : TypeId × Value → H) : ∃ places, DataW.whole enc Tryd.prog ((laidWorld os).forCall (fun _ _ => 0) ⟨#[], #[.int .i64 0, .int .i64 0], []⟩).memory Tryd.f12.params.toList Rows.jsonNumbersSpec.vars false #[Value.int .i64 0, Value.int .i64 0].toList 8 = some ([.lit (.int .i64 0), .lit (.int .i64 0)], [], places) :=
  ⟨[], by kernel_rfl⟩
set_option maxRecDepth 100000 in
theorem contract (H : Type) (enc : TypeId × Value → H) (W : World) (base : Nat) (args : Array Value) (ds gs : List (DataW H)) (before : List MemPlace)
    (hval0 : ∀ (j : Nat) t v, Tryd.f12.params[j]? = some t → args[j]? = some v → Value.okWide Tryd.prog W .any base t v)
    (hW : DataW.Whole enc Tryd.prog Tryd.f12.params.toList Rows.jsonNumbersSpec.vars false W args.toList ds gs before) (hL : laidMetH Tryd.prog Rows.jsonNumbersRow.laid W) :
    Calls Tryd.prog 12 args W fun e W' => ∃ v, e = .returned v ∧ Rows.jsonNumbersSpec.post enc Tryd.prog Tryd.f12 false true false false W args v W' := by
  have hval : ∀ (j : Nat) t v, Tryd.f12.params[j]? = some t → args[j]? = some v → Value.okWide Tryd.prog W .any base t v := hval0
  have hW' := hW
  obtain ⟨p, q, hA0, hV, rfl, hfz, hnd⟩ := hW
  have hA : DataW.TrodAll enc Tryd.prog W 0 (fun _ => true) true Tryd.f12.params.toList args.toList ds p := hA0
  rw [Tryd.params12] at hA hval
  obtain ⟨v0, vs0, d0, ds0, p0, q0, hargs, rfl, rfl, h0, r0⟩ := trodAll_cons hA
  obtain ⟨v1, vs1, d1, ds1, p1, q1, rfl, rfl, rfl, h1, r1⟩ := trodAll_cons r0
  obtain ⟨rfl, rfl, rfl⟩ := trodAll_nil r1
  obtain rfl : args = #[v0, v1] := by cases args; simp_all
  obtain ⟨rfl, rfl⟩ := trodVars_none hV
  have k0 := h0
  have lt0 : ∀ x ∈ p0, x.block < W.heap.size := by obtain ⟨m, hm⟩ := k0; exact DataW.trod_lt m _ _ _ hm
  obtain ⟨x0, rfl, hx0⟩ := open_i64 Tryd.underlying3 (hval 0 3 v0 rfl rfl) h0
  have k1 := h1
  have lt1 : ∀ x ∈ p1, x.block < W.heap.size := by obtain ⟨m, hm⟩ := k1; exact DataW.trod_lt m _ _ _ hm
  obtain ⟨x1, rfl, hx1⟩ := open_i64 Tryd.underlying3 (hval 1 3 v1 rfl rfl) h1
  clear hA0 hval0
  refine (walkJsonNumbers x0 x1 W hx0 hx1 (laidTab hL)).mono fun e W' ⟨he, bel⟩ => ?_
  subst he
  exact ⟨_, rfl, _, _, _, [], _, [], hW', trodAll_mk1 (shut_bool Tryd.underlying4 _), (trodAll_cons_mk (Below.trod laidOut (by kernel_rfl) (of_decide_eq_true (by kernel_rfl)) k0 bel lt0) (trodAll_cons_mk (Below.trod laidOut (by kernel_rfl) (of_decide_eq_true (by kernel_rfl)) k1 bel lt1) trodAll_mk0)), rfl, bel.frame _, fun h => by cases h⟩
set_option maxRecDepth 100000 in
theorem lifted (os : Os) (started : os.Started) (H : Type) (enc : TypeId × Value → H) (F : Stop.Interp) :
    ReturnsInHanded {} Tryd.checked os 12 .any ((OpenSpec.ofChange Rows.jsonNumbersSpec).preRow enc Tryd.prog Tryd.f12 Rows.jsonNumbersRow.domain false Rows.jsonNumbersRow.laid) (((OpenSpec.ofChange Rows.jsonNumbersSpec).at F).post enc Tryd.prog Tryd.f12 false true false false) := by
  obtain ⟨places, hx⟩ := reads os enc
  refine returnsInHanded_of_row (C := Tryd.checked) (s := OpenSpec.ofChange Rows.jsonNumbersSpec) own started (by kernel_rfl) Tryd.func12
    (witness_row_at (enc := enc) (C := Tryd.checked) false (laidWorld os) #[.int .i64 0, .int .i64 0] rfl (by kernel_rfl) (by kernel_rfl) (by kernel_rfl)
      (OpenSpec.preRow_of_cond 8 hx (by kernel_rfl) (fun k hk => by cases hk) (by kernel_rfl) (laid_met os))) ?_
  intro W base args ds gs before hval hW _ _ _ hL _ _
  exact contract H enc W base args ds gs before hval hW hL
theorem said : Rows.JsonNumbersSaid :=
  OpenClaim.holds_of_cond 12 Tryd.f12 rfl rfl rfl rfl rfl rfl rfl ⟨rfl, rfl, rfl, rfl, rfl⟩ rfl rfl rfl rfl rfl (by kernel_rfl) Tryd.func12 (by kernel_rfl)
    (of_decide_eq_true (by kernel_rfl)) (by unfold Func.isWrapper; first | (rw [if_pos (by decide +kernel)]; kernel_rfl) | (rw [if_neg (by decide +kernel)]; exact ⟨rfl, rfl⟩))
    (fun os started H enc _ F => by rw [OpenClaim.pre_eq_preRow]; exact lifted os started H enc F)
theorem plain (f : FuncId) (fn : Func) (hf : Tryd.pinned.checked.prog.funcNamed "bagnall/bagnallkeep.JsonNumbers" = some f) (hfn : Tryd.pinned.checked.prog.funcs[f]? = some fn) :
    false = Tryd.pinned.checked.prog.looks [] ∧ ∀ (j : Nat) t, fn.params[j]? = some t → Tryd.pinned.checked.prog.wantsStandIn t = false := by
  obtain rfl : f = 12 := Option.some.inj ((show Tryd.prog.funcNamed "bagnall/bagnallkeep.JsonNumbers" = some 12 by kernel_rfl).symm.trans hf) |>.symm
  obtain rfl : fn = Tryd.f12 := (Option.some.inj (Tryd.func12.symm.trans hfn)).symm
  refine ⟨by kernel_rfl, fun j t ht => ?_⟩
  rw [Tryd.params12] at ht
  have hm := Array.mem_of_getElem? ht
  obtain rfl : t = 3 := by simpa using hm
  exact (show Tryd.prog.wantsStandIn 3 = false by kernel_rfl)
theorem proved : Rows.JsonNumbersCardSaid :=
  Claim7.holds_tied_plain_at .later [] _ _ _ _ said (fun _ h => by cases h) (by kernel_rfl) (fun _ h => by cases h) jsonNumbers_row_tie rfl ⟨rfl, rfl⟩ (by kernel_rfl) rfl plain (by kernel_rfl)
#print axioms proved
end jsonNumbers
end Go.Proofs.YtipahkfieljoiaaDoor
