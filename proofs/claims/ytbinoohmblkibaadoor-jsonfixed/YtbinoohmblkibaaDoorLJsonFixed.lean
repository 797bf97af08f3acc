/- Proved here: for every string, the canonical text of what it parses to is parsed back to the same value, whose canonical text it is, and is no longer than the string; and where it does not parse, the value beside the error is the zero value (statement JsonFixed). No condition. -/
import Derived.Test.YtbinoohmblkibaaDoorJSure
import Derived.Test.YtbinoohmblkibaaDoorJOk
import Derived.Test.YtbinoohmblkibaaDoorJObj
import Derived.Test.YtbinoohmblkibaaDoorJSame
import Derived.Test.YtbinoohmblkibaaDoorJShort
import Derived.Test.YtbinoohmblkibaaDoorOpen
import Derived.Test.YtbinoohmblkibaaDoorLaid
namespace Go.Proofs.YtbinoohmblkibaaDoor
set_option linter.unusedVariables false
set_option linter.unusedSimpArgs false
open Go.RowKit

theorem check_fault {v : JV} (h : checkN v = 0) : fault 0 v = 0 := by
  unfold checkN at h
  by_cases h1 : fault 0 v ≠ 0
  · rw [if_pos h1] at h; exact absurd h h1
  · exact Decidable.not_not.1 h1
theorem vin_zero (w : World) : VIn w 0 (.mk 0 0 [] [] []) [.int .i64 0, .int .i64 0, str [], .slice none 0 0, .slice none 0 0] := by
  unfold VIn
  exact ⟨none, 0, none, 0, [], rfl, by omega, by omega, by simp, by simp, by simp, by simp, by simp, by simp, Holds.empty, Holds.empty, by unfold PIn; rfl⟩

attribute [local go_sem high] str_mk
set_option maxRecDepth 100000 in
set_option maxHeartbeats 2000000 in
theorem walkJsonFixed (l0 : List UInt8) (w : World) (hx0 : l0.length ≤ maxLen) (htab : Tab w.heap.size w) :
    Calls Tryd.prog 8 #[str l0] w fun e w' => e = .returned (.bool true) ∧ Below w.heap.size w w' := by
  unfold maxLen at hx0
  have hsure := fun y (hb : Below w.heap.size w y) => jsure_any y (htab.on hb).here
  have Htab := Lib.hid htab
  go_enter Tryd.func8, Tryd.ntmps8
  go_wp2_with fail
  refine (Parse_all l0 w (by omega) htab).mono ?_
  clear htab
  intro e y1 ho
  rcases ho with ⟨v, cs, hsl, hrd, hck, rfl, hv, hb1⟩ | ⟨hne, rfl, hb1⟩
  · obtain ⟨k1, m1, t1, Ak1, nk1, ck1, Ap1, np1, cp1, rfl⟩ := hv.form
    have hcnt := readR_count hrd
    have hlen := readR_short hrd
    have hrt := readR_text v (fine_of 0 v (check_fault hck))
    have hl6 := check_len hck
    have HT := Lib.hid (show textR v = .tuple #[str (jtext v), .int .i64 0] by unfold textR; rw [hck, if_pos rfl])
    have Hrt := Lib.hid hrt
    have Hck := Lib.hid hck
    clear hrd hck hrt
    generalize jtext v = T at *
    have hv1 := VInS.toB (B := y1.heap.size) (fun b hb => hb.2) _ _ hv
    have hv2 : VIn (y1.alloc (.cells #[.int .i64 k1, .int .i64 m1, str t1, .slice Ak1 nk1 ck1, .slice Ap1 np1 cp1] 25)) y1.heap.size v [.int .i64 k1, .int .i64 m1, str t1, .slice Ak1 nk1 ck1, .slice Ap1 np1 cp1] :=
      VIn.kept (fun p hp => World.cell?_alloc_lt _ _ p hp) _ _ hv1
    have hB2 := hb1.alloc hb1.size (.cells #[.int .i64 k1, .int .i64 m1, str t1, .slice Ak1 nk1 ck1, .slice Ap1 np1 cp1] 25)
    have hba2 := Blk.new y1 25 #[.int .i64 k1, .int .i64 m1, str t1, .slice Ak1 nk1 ck1, .slice Ap1 np1 cp1]
    have hsz2 : (y1.alloc (.cells #[.int .i64 k1, .int .i64 m1, str t1, .slice Ak1 nk1 ck1, .slice Ap1 np1 cp1] 25)).heap.size = y1.heap.size + 1 := by simp
    clear hv hv1
    go_wp2_with fail
    generalize (y1.alloc (.cells #[.int .i64 k1, .int .i64 m1, str t1, .slice Ak1 nk1 ck1, .slice Ap1 np1 cp1] 25)) = y2 at *
    refine (Text_any v _ y2 y1.heap.size (by omega) hv2 (Htab.out.on hB2).here (by omega)).mono ?_
    rintro e y3 ⟨rfl, hb3⟩
    rw [HT.out]
    have hz3 := hb3.size
    have hB3 := hB2.trans (hb3.mono hB2.size)
    have hba3 := hba2.below hb3 (by omega)
    have hv3 := hv2.below (hb3.mono (by omega))
    clear hv2 hba2 hb3
    go_wp2_with fail
    refine (Parse_all T y3 (by omega) (Htab.out.on hB3).here).mono ?_
    intro e y4 ho
    rcases ho with ⟨v', cs, _, hrd, _, rfl, hv4, hb4⟩ | ⟨hne, _⟩
    rotate_left
    · exfalso
      apply hne
      unfold parseE
      rw [if_neg (by omega), Hrt.out]
      exact Hck.out
    rw [Hrt.out] at hrd
    injection hrd with hrd
    subst hrd
    obtain ⟨k2, m2, t2, Ak2, nk2, ck2, Ap2, np2, cp2, rfl⟩ := hv4.form
    have hw4 := VInS.toB (B := y4.heap.size) (fun b hb => hb.2) _ _ hv4
    have hw5 : VIn (y4.alloc (.cells #[.int .i64 k2, .int .i64 m2, str t2, .slice Ak2 nk2 ck2, .slice Ap2 np2 cp2] 25)) y4.heap.size v [.int .i64 k2, .int .i64 m2, str t2, .slice Ak2 nk2 ck2, .slice Ap2 np2 cp2] :=
      VIn.kept (fun p hp => World.cell?_alloc_lt _ _ p hp) _ _ hw4
    have hB4 := hB3.trans (hb4.mono hB3.size)
    have hB5 := hB4.alloc hB4.size (.cells #[.int .i64 k2, .int .i64 m2, str t2, .slice Ak2 nk2 ck2, .slice Ap2 np2 cp2] 25)
    have hbb5 := Blk.new y4 25 #[.int .i64 k2, .int .i64 m2, str t2, .slice Ak2 nk2 ck2, .slice Ap2 np2 cp2]
    have hz4 := hb4.size
    have hba5 := (hba3.below hb4 (by omega)).alloc (.cells #[.int .i64 k2, .int .i64 m2, str t2, .slice Ak2 nk2 ck2, .slice Ap2 np2 cp2] 25)
    have hv5 : VIn (y4.alloc (.cells #[.int .i64 k2, .int .i64 m2, str t2, .slice Ak2 nk2 ck2, .slice Ap2 np2 cp2] 25)) y1.heap.size v _ := hv3.below ((hb4.alloc hb4.size (.cells #[.int .i64 k2, .int .i64 m2, str t2, .slice Ak2 nk2 ck2, .slice Ap2 np2 cp2] 25)).mono (by omega))
    have hsz5 : (y4.alloc (.cells #[.int .i64 k2, .int .i64 m2, str t2, .slice Ak2 nk2 ck2, .slice Ap2 np2 cp2] 25)).heap.size = y4.heap.size + 1 := by simp
    clear hv4 hw4 hb4 hba3 hv3 hB4 Hrt
    go_wp2_with fail
    generalize (y4.alloc (.cells #[.int .i64 k2, .int .i64 m2, str t2, .slice Ak2 nk2 ck2, .slice Ap2 np2 cp2] 25)) = y5 at *
    refine (Text_any v _ y5 y4.heap.size (by omega) hw5 (Htab.out.on hB5).here (by omega)).mono ?_
    rintro e y6 ⟨rfl, hb6⟩
    rw [HT.out]
    have hz6 := hb6.size
    have hB6 := hB5.trans (hb6.mono hB5.size)
    have hba6 := hba5.below hb6 (by omega)
    have hbb6 := hbb5.below hb6 (by omega)
    have hv6 := hv5.below (hb6.mono (by omega))
    have hw6 := hw5.below (hb6.mono (by omega))
    clear hv5 hw5 hba5 hbb5 hb6
    go_wp2_with fail
    refine (hsure _ hB6).mono ?_
    rintro e y7 ⟨rfl, hb7⟩
    have hz7 := hb7.size
    have hB7 := hB6.trans (hb7.mono hB6.size)
    have hba7 := hba6.below hb7 (by omega)
    have hbb7 := hbb6.below hb7 (by omega)
    have hv7 := hv6.below (hb7.mono (by omega))
    have hw7 := hw6.below (hb7.mono (by omega))
    clear hv6 hw6 hba6 hbb6 hb7
    obtain ⟨p0, p1, p2, p3, p4, _, _, _, _, _⟩ := box_facts hba7
    obtain ⟨q0, q1, q2, q3, q4, _, _, _, _, _⟩ := box_facts hbb7
    have hTT : (T == T) = true := by simp
    go_wp2_with fail
    refine (same_any (count v) v v _ _ y7 y4.heap.size (Nat.le_refl _) (by omega) hw7 (VIn.wider (by omega) _ _ hv7)).mono ?_
    rintro e y8 ⟨bb, rfl, hbb, hb8⟩
    obtain rfl := hbb.2 rfl
    have hle : (T.length : Int) ≤ (l0.length : Int) := by omega
    go_wp2_with fail
    go_ret
    exact ⟨by simp, hB7.trans (hb8.mono hB7.size)⟩
  · generalize parseE l0 = a at *
    have hab : (a != 0) = true := by simpa using hne
    unfold zeroV
    have hba := Blk.new y1 25 #[.int .i64 0, .int .i64 0, str [], .slice none 0 0, .slice none 0 0]
    have hB2 := hb1.alloc hb1.size (.cells #[.int .i64 0, .int .i64 0, str [], .slice none 0 0, .slice none 0 0] 25)
    obtain ⟨p0, p1, p2, p3, p4, _, _, _, _, _⟩ := box_facts hba
    go_wp2_with fail
    refine (same_any 1 (.mk 0 0 [] [] []) (.mk 0 0 [] [] []) [.int .i64 0, .int .i64 0, str [], .slice none 0 0, .slice none 0 0] [.int .i64 0, .int .i64 0, str [], .slice none 0 0, .slice none 0 0] _ 0 (by simp [count, counts]) (Nat.zero_le _) (vin_zero _) (vin_zero _)).mono ?_
    rintro e y8 ⟨bb, rfl, hbb, hb8⟩
    obtain rfl := hbb.2 rfl
    have hB8 := hB2.trans (hb8.mono hB2.size)
    go_wp2_with fail
    refine (hsure _ hB8).mono ?_
    rintro e y9 ⟨rfl, hb9⟩
    go_wp2_with fail
    go_ret
    exact ⟨by simp, hB8.trans (hb9.mono hB8.size)⟩
namespace jsonFixed
open Go.ChangeShapes Go.WideShapes Go.ChangeAt Go.RowKit
theorem own : ownKnob Tryd.prog.godebug = none := by kernel_rfl
theorem laidOut : laidOutB Tryd.prog = true := by kernel_rfl
set_option linter.unusedVariables false
theorem laid_met (os : Os) : laidMet Tryd.prog Rows.jsonFixedRow.laid ((laidWorld os).forCall (fun _ _ => 0) ⟨#[], #[.string ByteArray.empty], []⟩).memory :=
  laidMet_of_run' 8 (by kernel_rfl) (by kernel_rfl)
theorem reads (os : Os) {H : Type} (enc : TypeId × Value → H) : ∃ places, DataW.whole enc Tryd.prog ((laidWorld os).forCall (fun _ _ => 0) ⟨#[], #[.string ByteArray.empty], []⟩).memory Tryd.f8.params.toList Rows.jsonFixedSpec.vars false #[Value.string ByteArray.empty].toList 8 = some ([.lit (.string [])], [], places) :=
  ⟨[], by kernel_rfl⟩
set_option maxRecDepth 100000 in
theorem contract (H : Type) (enc : TypeId × Value → H) (W : World) (base : Nat) (args : Array Value) (ds gs : List (DataW H)) (before : List MemPlace)
    (hval0 : ∀ (j : Nat) t v, Tryd.f8.params[j]? = some t → args[j]? = some v → Value.okWide Tryd.prog W .any base t v)
    (hW : DataW.Whole enc Tryd.prog Tryd.f8.params.toList Rows.jsonFixedSpec.vars false W args.toList ds gs before) (hL : laidMetH Tryd.prog Rows.jsonFixedRow.laid W) :
    Calls Tryd.prog 8 args W fun e W' => ∃ v, e = .returned v ∧ Rows.jsonFixedSpec.post enc Tryd.prog Tryd.f8 false true false false W args v W' := by
  have hval : ∀ (j : Nat) t v, Tryd.f8.params[j]? = some t → args[j]? = some v → Value.okWide Tryd.prog W .any base t v := hval0
  have hW' := hW
  obtain ⟨p, q, hA0, hV, rfl, hfz, hnd⟩ := hW
  have hA : DataW.TrodAll enc Tryd.prog W 0 (fun _ => true) true Tryd.f8.params.toList args.toList ds p := hA0
  rw [Tryd.params8] at hA hval
  obtain ⟨v0, vs0, d0, ds0, p0, q0, hargs, rfl, rfl, h0, r0⟩ := trodAll_cons hA
  obtain ⟨rfl, rfl, rfl⟩ := trodAll_nil r0
  obtain rfl : args = #[v0] := by cases args; simp_all
  obtain ⟨rfl, rfl⟩ := trodVars_none hV
  have k0 := h0
  have lt0 : ∀ x ∈ p0, x.block < W.heap.size := by obtain ⟨m, hm⟩ := k0; exact DataW.trod_lt m _ _ _ hm
  obtain ⟨l0, rfl, hx0⟩ := open_str Tryd.underlying9 (hval 0 9 v0 rfl rfl) h0
  clear hA0 hval0
  refine (walkJsonFixed l0 W hx0 (laidTab hL)).mono fun e W' ⟨he, bel⟩ => ?_
  subst he
  exact ⟨_, rfl, _, _, _, [], _, [], hW', trodAll_mk1 (shut_bool Tryd.underlying4 _), (trodAll_cons_mk (Below.trod laidOut (by kernel_rfl) (of_decide_eq_true (by kernel_rfl)) k0 bel lt0) trodAll_mk0), rfl, bel.frame _, fun h => by cases h⟩
set_option maxRecDepth 100000 in
theorem lifted (os : Os) (started : os.Started) (H : Type) (enc : TypeId × Value → H) (F : Stop.Interp) :
    ReturnsInHanded {} Tryd.checked os 8 .any ((OpenSpec.ofChange Rows.jsonFixedSpec).preRow enc Tryd.prog Tryd.f8 Rows.jsonFixedRow.domain false Rows.jsonFixedRow.laid) (((OpenSpec.ofChange Rows.jsonFixedSpec).at F).post enc Tryd.prog Tryd.f8 false true false false) := by
  obtain ⟨places, hx⟩ := reads os enc
  refine returnsInHanded_of_row (C := Tryd.checked) (s := OpenSpec.ofChange Rows.jsonFixedSpec) own started (by kernel_rfl) Tryd.func8
    (witness_row_at (enc := enc) (C := Tryd.checked) false (laidWorld os) #[.string ByteArray.empty] rfl (by kernel_rfl) (by kernel_rfl) (by kernel_rfl)
      (OpenSpec.preRow_of_cond 8 hx (by kernel_rfl) (fun k hk => by cases hk) (by kernel_rfl) (laid_met os))) ?_
  intro W base args ds gs before hval hW _ _ _ hL _ _
  exact contract H enc W base args ds gs before hval hW hL
theorem said : Rows.JsonFixedSaid :=
  OpenClaim.holds_of_cond 8 Tryd.f8 rfl rfl rfl rfl rfl rfl rfl ⟨rfl, rfl, rfl, rfl, rfl⟩ rfl rfl rfl rfl rfl (by kernel_rfl) Tryd.func8 (by kernel_rfl)
    (of_decide_eq_true (by kernel_rfl)) (by unfold Func.isWrapper; first | (rw [if_pos (by decide +kernel)]; kernel_rfl) | (rw [if_neg (by decide +kernel)]; exact ⟨rfl, rfl⟩))
    (fun os started H enc _ F => by rw [OpenClaim.pre_eq_preRow]; exact lifted os started H enc F)
theorem plain (f : FuncId) (fn : Func) (hf : Tryd.pinned.checked.prog.funcNamed "bagnall/bagnallkeep.JsonFixed" = some f) (hfn : Tryd.pinned.checked.prog.funcs[f]? = some fn) :
    false = Tryd.pinned.checked.prog.looks [] ∧ ∀ (j : Nat) t, fn.params[j]? = some t → Tryd.pinned.checked.prog.wantsStandIn t = false := by
  obtain rfl : f = 8 := Option.some.inj ((show Tryd.prog.funcNamed "bagnall/bagnallkeep.JsonFixed" = some 8 by kernel_rfl).symm.trans hf) |>.symm
  obtain rfl : fn = Tryd.f8 := (Option.some.inj (Tryd.func8.symm.trans hfn)).symm
  refine ⟨by kernel_rfl, fun j t ht => ?_⟩
  rw [Tryd.params8] at ht
  have hm := Array.mem_of_getElem? ht
  obtain rfl : t = 9 := by simpa using hm
  exact (show Tryd.prog.wantsStandIn 9 = false by kernel_rfl)
theorem proved : Rows.JsonFixedCardSaid :=
  Claim7.holds_tied_plain_at .later [] _ _ _ _ said (fun _ h => by cases h) (by kernel_rfl) (fun _ h => by cases h) jsonFixed_row_tie rfl ⟨rfl, rfl⟩ (by kernel_rfl) rfl plain (by kernel_rfl)
#print axioms proved
end jsonFixed
end Go.Proofs.YtbinoohmblkibaaDoor
