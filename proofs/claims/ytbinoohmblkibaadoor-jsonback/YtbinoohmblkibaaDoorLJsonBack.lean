/- Proved here: for every two lists of integers, the text of the value that the first stands for is parsed back to it, and the two values' texts are equal exactly if the values are, unless one of the texts is too large (statement JsonBack). No condition. -/
import Derived.Test.YtbinoohmblkibaaDoorJGenW
import Derived.Test.YtbinoohmblkibaaDoorJSure
import Derived.Test.YtbinoohmblkibaaDoorJOk
import Derived.Test.YtbinoohmblkibaaDoorJObj
import Derived.Test.YtbinoohmblkibaaDoorJSame
import Derived.Test.YtbinoohmblkibaaDoorJBackN
import Derived.Test.YtbinoohmblkibaaDoorOpenI
import Derived.Test.YtbinoohmblkibaaDoorLaid
namespace Go.Proofs.YtbinoohmblkibaaDoor
set_option linter.unusedVariables false
set_option linter.unusedSimpArgs false
open Go.RowKit

theorem str_inj {a b : List UInt8} (h : str a = str b) : a = b := by
  unfold str at h
  injection h with h
  injection h with h
  exact List.toArray_inj h
attribute [local go_sem high] str_mk
set_option maxRecDepth 100000 in
set_option maxHeartbeats 2000000 in
theorem walkJsonBack (A0 : Option Addr) (n0 c0 : Nat) (A1 : Option Addr) (n1 c1 : Nat) (w : World) (hx0 : IntsAt w w.heap.size A0 n0 c0) (hx1 : IntsAt w w.heap.size A1 n1 c1) (htab : Tab w.heap.size w) :
    Calls Tryd.prog 6 #[.slice A0 n0 c0, .slice A1 n1 c1] w fun e w' => e = .returned (.bool true) ∧ Below w.heap.size w w' := by
  have hg : GenOk 4 := genOk 4 (by omega) (by omega)
  go_enter Tryd.func6, Tryd.ntmps6
  go_wp2_with fail
  refine (hg A0 n0 c0 w.heap.size w (Nat.le_refl _) hx0).mono ?_
  rintro e y1 ⟨va, ca, Aa, na, cca, rfl, hva, hoka, hcta, _, hb1⟩
  obtain ⟨k1, m1, t1, Ak1, nk1, ck1, Ap1, np1, cp1, rfl⟩ := hva.form
  have hva1 := VInS.toB (B := y1.heap.size) (fun b hb => hb.2) _ _ hva
  go_wp2_with fail
  have hB1 := hb1.alloc hb1.size (.cells #[.int .i64 k1, .int .i64 m1, str t1, .slice Ak1 nk1 ck1, .slice Ap1 np1 cp1] 25)
  have hba := Blk.new y1 25 #[.int .i64 k1, .int .i64 m1, str t1, .slice Ak1 nk1 ck1, .slice Ap1 np1 cp1]
  refine (hg A1 n1 c1 w.heap.size _ hB1.size (hx1.below hB1)).mono ?_
  rintro e y2 ⟨vb, cb, Ab, nb, ccb, rfl, hvb, hokb, hctb, _, hb2⟩
  obtain ⟨k2, m2, t2, Ak2, nk2, ck2, Ap2, np2, cp2, rfl⟩ := hvb.form
  have hvb1 := VInS.toB (B := y2.heap.size) (fun b hb => hb.2) _ _ hvb
  have hz1 : y1.heap.size + 1 ≤ y2.heap.size := by have := hb2.size; simpa using this
  have hva2 : VIn y2 y1.heap.size va _ := (hva1.kept (fun p hp => World.cell?_alloc_lt _ _ p hp) _ _).below (hb2.mono (by simp))
  have hba2 := hba.below hb2 (by simp)
  have hB2 := hB1.trans (hb2.mono hB1.size)
  clear hva hvb hva1 hba hb2 hB1
  have hbb := Blk.new y2 25 #[.int .i64 k2, .int .i64 m2, str t2, .slice Ak2 nk2 ck2, .slice Ap2 np2 cp2]
  have hba3 := hba2.alloc (.cells #[.int .i64 k2, .int .i64 m2, str t2, .slice Ak2 nk2 ck2, .slice Ap2 np2 cp2] 25)
  have hB3 := hB2.alloc hB2.size (.cells #[.int .i64 k2, .int .i64 m2, str t2, .slice Ak2 nk2 ck2, .slice Ap2 np2 cp2] 25)
  obtain ⟨p0, p1, p2, p3, p4, f0, f1, f2, f3, f4⟩ := box_facts hba3
  go_wp2_with fail
  have hcva : count va ≤ 256 := hcta
  have hcvb : count vb ≤ 256 := hctb
  have hva3 : VIn (y2.alloc (.cells #[.int .i64 k2, .int .i64 m2, str t2, .slice Ak2 nk2 ck2, .slice Ap2 np2 cp2] 25)) y1.heap.size va [.int .i64 k1, .int .i64 m1, str t1, .slice Ak1 nk1 ck1, .slice Ap1 np1 cp1] :=
    VIn.kept (fun p hp => World.cell?_alloc_lt _ _ p (by omega)) _ _ hva2
  have hvb3 : VIn (y2.alloc (.cells #[.int .i64 k2, .int .i64 m2, str t2, .slice Ak2 nk2 ck2, .slice Ap2 np2 cp2] 25)) y2.heap.size vb [.int .i64 k2, .int .i64 m2, str t2, .slice Ak2 nk2 ck2, .slice Ap2 np2 cp2] :=
    VIn.kept (fun p hp => World.cell?_alloc_lt _ _ p hp) _ _ hvb1
  generalize hy3 : (y2.alloc (.cells #[.int .i64 k2, .int .i64 m2, str t2, .slice Ak2 nk2 ck2, .slice Ap2 np2 cp2] 25)) = y3 at *
  have hz3 : y3.heap.size = y2.heap.size + 1 := by rw [← hy3]; simp
  clear hy3 hva2 hvb1 hba2 hB2 p0 p1 p2 p3 p4 f0 f1 f2 f3 f4
  refine (Text_any va _ _ y1.heap.size (by omega) hva3 (htab.on hB3).here (by omega)).mono ?_
  rintro e y4 ⟨rfl, hb4⟩
  have hba4 := hba3.below hb4 (by omega)
  have hbb4 := hbb.below hb4 (by omega)
  have hva4 := hva3.below (hb4.mono (by omega))
  have hvb4 := hvb3.below (hb4.mono (by omega))
  have hB4 := hB3.trans (hb4.mono hB3.size)
  have hz4 := hb4.size
  clear hba3 hbb hva3 hvb3 hb4
  obtain ⟨p0, p1, p2, p3, p4, f0, f1, f2, f3, f4⟩ := box_facts hbb4
  rw [show textR va = .tuple #[if checkN va = 0 then str (jtext va) else str [], .int .i64 (checkN va)] from rfl]
  obtain ⟨sa, hsa⟩ : ∃ sa, (if checkN va = 0 then str (jtext va) else str []) = str sa := by split <;> exact ⟨_, rfl⟩
  have Hsa := Lib.hid hsa
  rw [hsa]
  clear hsa
  go_wp2_with fail
  refine (Text_any vb _ _ y2.heap.size (by omega) hvb4 (htab.on hB4).here (by omega)).mono ?_
  rintro e y5 ⟨rfl, hb5⟩
  have hba5 := hba4.below hb5 (by omega)
  have hbb5 := hbb4.below hb5 (by omega)
  have hva5 := hva4.below (hb5.mono (by omega))
  have hvb5 := hvb4.below (hb5.mono (by omega))
  have hB5 := hB4.trans (hb5.mono hB4.size)
  have hz5 := hb5.size
  clear hba4 hbb4 hva4 hvb4 hb5 p0 p1 p2 p3 p4 f0 f1 f2 f3 f4
  obtain ⟨p0, p1, p2, p3, p4, f0, f1, f2, f3, f4⟩ := box_facts hbb5
  obtain ⟨q0, q1, q2, q3, q4, g0, g1, g2, g3, g4⟩ := box_facts hba5
  rw [show textR vb = .tuple #[if checkN vb = 0 then str (jtext vb) else str [], .int .i64 (checkN vb)] from rfl]
  obtain ⟨sb, hsb⟩ : ∃ sb, (if checkN vb = 0 then str (jtext vb) else str []) = str sb := by split <;> exact ⟨_, rfl⟩
  have Hsb := Lib.hid hsb
  rw [hsb]
  clear hsb
  have hsure := fun y (hb : Below w.heap.size w y) => jsure_any y (htab.on hb).here
  have Htab := Lib.hid htab
  clear htab hx0 hx1 hg hb1 hB3 hB4
  by_cases h1 : checkN va = 0
  rotate_left
  · have h1' : checkN va = 1 := by rcases okAt_check hoka (by omega) with h | h; exact absurd h h1; exact h
    rw [h1']
    clear h1 h1'
    rcases okAt_check hokb (by omega) with h2 | h2 <;> rw [h2]
    all_goals
      go_wp2_with fail
      refine (hsure _ hB5).mono ?_
      rintro e y8 ⟨rfl, hb8⟩
      go_wp2_with fail
      go_ret
      exact ⟨rfl, hB5.trans (hb8.mono hB5.size)⟩
  by_cases h2 : checkN vb = 0
  rotate_left
  · have h2' : checkN vb = 1 := by rcases okAt_check hokb (by omega) with h | h; exact absurd h h2; exact h
    rw [h1, h2']
    clear h1 h2 h2'
    go_wp2_with fail
    refine (hsure _ hB5).mono ?_
    rintro e y8 ⟨rfl, hb8⟩
    go_wp2_with fail
    go_ret
    exact ⟨rfl, hB5.trans (hb8.mono hB5.size)⟩
  have e1 : sa = jtext va := by have := Hsa.out; rw [if_pos h1] at this; exact (str_inj this).symm
  have e2 : sb = jtext vb := by have := Hsb.out; rw [if_pos h2] at this; exact (str_inj this).symm
  have l1 := check_len h1
  have hra := readR_text va (fine_of 0 va (hoka 0 (by omega)))
  have hrb := readR_text vb (fine_of 0 vb (hokb 0 (by omega)))
  have Hiff := Lib.hid (show (sa == sb) = true ↔ va = vb by
    rw [beq_iff_eq, e1, e2]
    refine ⟨fun h => ?_, fun h => by rw [h]⟩
    rw [h, hrb] at hra
    injection hra with hra
    exact hra.symm)
  have hls : sa.length ≤ 600 := by rw [e1]; exact l1
  have Hra := Lib.hid (show readR sa = some va by rw [e1]; exact hra)
  have H1 := Lib.hid h1
  rw [h1, h2]
  clear e1 e2 l1 hra hrb h1 h2 Hsa Hsb
  go_wp2_with fail
  refine (Parse_all sa y5 (by omega) (Htab.out.on hB5).here).mono ?_
  intro e y6 ho
  rcases ho with ⟨v, cs, _, hrd, _, rfl, hv, hb6⟩ | ⟨hne, _⟩
  rotate_left
  · exfalso
    apply hne
    unfold parseE
    rw [if_neg (by omega), Hra.out]
    exact H1.out
  rw [Hra.out] at hrd
  injection hrd with hrd
  subst hrd
  clear Hra H1
  obtain ⟨k3, m3, t3, Ak3, nk3, ck3, Ap3, np3, cp3, rfl⟩ := hv.form
  have hv6 := VInS.toB (B := y6.heap.size) (fun b hb => hb.2) _ _ hv
  have hv7 : VIn (y6.alloc (.cells #[.int .i64 k3, .int .i64 m3, str t3, .slice Ak3 nk3 ck3, .slice Ap3 np3 cp3] 25)) y6.heap.size va [.int .i64 k3, .int .i64 m3, str t3, .slice Ak3 nk3 ck3, .slice Ap3 np3 cp3] :=
    VIn.kept (fun p hp => World.cell?_alloc_lt _ _ p hp) _ _ hv6
  have hB6 := hB5.trans (hb6.mono hB5.size)
  have hB7 := hB6.alloc hB6.size (.cells #[.int .i64 k3, .int .i64 m3, str t3, .slice Ak3 nk3 ck3, .slice Ap3 np3 cp3] 25)
  have hbc7 := Blk.new y6 25 #[.int .i64 k3, .int .i64 m3, str t3, .slice Ak3 nk3 ck3, .slice Ap3 np3 cp3]
  have hz6 := hb6.size
  have hbl7 : Below y5.heap.size y5 (y6.alloc (.cells #[.int .i64 k3, .int .i64 m3, str t3, .slice Ak3 nk3 ck3, .slice Ap3 np3 cp3] 25)) := hb6.alloc hb6.size _
  have hba7 := hba5.below hbl7 (by omega)
  have hbb7 := hbb5.below hbl7 (by omega)
  have hva7 := hva5.below (hbl7.mono (by omega))
  have hvb7 := hvb5.below (hbl7.mono (by omega))
  have hsz7 : (y6.alloc (.cells #[.int .i64 k3, .int .i64 m3, str t3, .slice Ak3 nk3 ck3, .slice Ap3 np3 cp3] 25)).heap.size = y6.heap.size + 1 := by simp
  clear hv hv6 hb6 hbl7 hba5 hbb5 hva5 hvb5 hB5 p0 p1 p2 p3 p4 f0 f1 f2 f3 f4 q0 q1 q2 q3 q4 g0 g1 g2 g3 g4
  go_wp2_with fail
  generalize (y6.alloc (.cells #[.int .i64 k3, .int .i64 m3, str t3, .slice Ak3 nk3 ck3, .slice Ap3 np3 cp3] 25)) = y7 at *
  refine (hsure _ hB7).mono ?_
  rintro e y8 ⟨rfl, hb8⟩
  have hz8 := hb8.size
  have hB8 := hB7.trans (hb8.mono hB7.size)
  have hba8 := hba7.below hb8 (by omega)
  have hbb8 := hbb7.below hb8 (by omega)
  have hbc8 := hbc7.below hb8 (by omega)
  have hva8 := hva7.below (hb8.mono (by omega))
  have hvb8 := hvb7.below (hb8.mono (by omega))
  have hv8 := hv7.below (hb8.mono (by omega))
  obtain ⟨p0, p1, p2, p3, p4, _, _, _, _, _⟩ := box_facts hba8
  obtain ⟨q0, q1, q2, q3, q4, _, _, _, _, _⟩ := box_facts hbb8
  obtain ⟨r0, r1, r2, r3, r4, _, _, _, _, _⟩ := box_facts hbc8
  clear hba7 hbb7 hbc7 hva7 hvb7 hv7 hb8
  go_wp2_with fail
  refine (same_any 256 va va _ _ y8 y6.heap.size hcva (by omega) hv8 (VIn.wider (by omega) _ _ hva8)).mono ?_
  rintro e y9 ⟨bb, rfl, hbb, hb9⟩
  obtain rfl := hbb.2 rfl
  clear hbb
  have hz9 := hb9.size
  have hB9 := hB8.trans (hb9.mono hB8.size)
  have hba9 := hba8.below hb9 (by omega)
  have hbb9 := hbb8.below hb9 (by omega)
  have hva9 := hva8.below (hb9.mono (by omega))
  have hvb9 := hvb8.below (hb9.mono (by omega))
  clear p0 p1 p2 p3 p4 q0 q1 q2 q3 q4 r0 r1 r2 r3 r4 hba8 hbb8 hbc8 hva8 hvb8 hv8 hb9
  obtain ⟨p0, p1, p2, p3, p4, _, _, _, _, _⟩ := box_facts hba9
  obtain ⟨q0, q1, q2, q3, q4, _, _, _, _, _⟩ := box_facts hbb9
  go_wp2_with fail
  refine (same_any 256 va vb _ _ y9 y2.heap.size hcva (by omega) (VIn.wider (by omega) _ _ hva9) hvb9).mono ?_
  rintro e y10 ⟨bb, rfl, hbb, hb10⟩
  have Heq := Lib.hid (show (sa == sb) = bb by
    cases bb
    · rw [Bool.eq_false_iff]
      intro h
      exact absurd (hbb.2 (Hiff.out.1 h)) (by simp)
    · exact Hiff.out.2 (hbb.1 rfl))
  go_wp2_with fail
  go_ret
  exact ⟨by rw [Heq.out]; simp, hB9.trans (hb10.mono hB9.size)⟩
namespace jsonBack
open Go.ChangeShapes Go.WideShapes Go.ChangeAt Go.RowKit
theorem own : ownKnob Tryd.prog.godebug = none := by kernel_rfl
theorem laidOut : laidOutB Tryd.prog = true := by kernel_rfl
set_option linter.unusedVariables false
theorem laid_met (os : Os) : laidMet Tryd.prog Rows.jsonBackRow.laid ((laidWorld os).forCall (fun _ _ => 0) ⟨#[], #[.slice none 0 0, .slice none 0 0], []⟩).memory :=
  laidMet_of_run' 8 (by kernel_rfl) (by kernel_rfl)
theorem reads (os : Os) {H : Type} (enc : TypeId × Value → H) : ∃ places, DataW.whole enc Tryd.prog ((laidWorld os).forCall (fun _ _ => 0) ⟨#[], #[.slice none 0 0, .slice none 0 0], []⟩).memory Tryd.f6.params.toList Rows.jsonBackSpec.vars false #[Value.slice none 0 0, Value.slice none 0 0].toList 8 = some ([.nil, .nil], [], places) :=
  ⟨[], by kernel_rfl⟩
set_option maxRecDepth 100000 in
theorem contract (H : Type) (enc : TypeId × Value → H) (W : World) (base : Nat) (args : Array Value) (ds gs : List (DataW H)) (before : List MemPlace)
    (hval0 : ∀ (j : Nat) t v, Tryd.f6.params[j]? = some t → args[j]? = some v → Value.okWide Tryd.prog W .any base t v)
    (hW : DataW.Whole enc Tryd.prog Tryd.f6.params.toList Rows.jsonBackSpec.vars false W args.toList ds gs before) (hL : laidMetH Tryd.prog Rows.jsonBackRow.laid W) :
    Calls Tryd.prog 6 args W fun e W' => ∃ v, e = .returned v ∧ Rows.jsonBackSpec.post enc Tryd.prog Tryd.f6 false true false false W args v W' := by
  have hval : ∀ (j : Nat) t v, Tryd.f6.params[j]? = some t → args[j]? = some v → Value.okWide Tryd.prog W .any base t v := hval0
  have hW' := hW
  obtain ⟨p, q, hA0, hV, rfl, hfz, hnd⟩ := hW
  have hA : DataW.TrodAll enc Tryd.prog W 0 (fun _ => true) true Tryd.f6.params.toList args.toList ds p := hA0
  rw [Tryd.params6] at hA hval
  obtain ⟨v0, vs0, d0, ds0, p0, q0, hargs, rfl, rfl, h0, r0⟩ := trodAll_cons hA
  obtain ⟨v1, vs1, d1, ds1, p1, q1, rfl, rfl, rfl, h1, r1⟩ := trodAll_cons r0
  obtain ⟨rfl, rfl, rfl⟩ := trodAll_nil r1
  obtain rfl : args = #[v0, v1] := by cases args; simp_all
  obtain ⟨rfl, rfl⟩ := trodVars_none hV
  have k0 := h0
  have lt0 : ∀ x ∈ p0, x.block < W.heap.size := by obtain ⟨m, hm⟩ := k0; exact DataW.trod_lt m _ _ _ hm
  obtain ⟨A0, n0, c0, rfl, hx0⟩ := open_intsl Tryd.underlying35 Tryd.underlying3 (by kernel_rfl) (hval 0 35 v0 rfl rfl) h0
  have k1 := h1
  have lt1 : ∀ x ∈ p1, x.block < W.heap.size := by obtain ⟨m, hm⟩ := k1; exact DataW.trod_lt m _ _ _ hm
  obtain ⟨A1, n1, c1, rfl, hx1⟩ := open_intsl Tryd.underlying35 Tryd.underlying3 (by kernel_rfl) (hval 1 35 v1 rfl rfl) h1
  clear hA0 hval0
  refine (walkJsonBack A0 n0 c0 A1 n1 c1 W hx0 hx1 (laidTab hL)).mono fun e W' ⟨he, bel⟩ => ?_
  subst he
  exact ⟨_, rfl, _, _, _, [], _, [], hW', trodAll_mk1 (shut_bool Tryd.underlying4 _), (trodAll_cons_mk (Below.trod laidOut (by kernel_rfl) (of_decide_eq_true (by kernel_rfl)) k0 bel lt0) (trodAll_cons_mk (Below.trod laidOut (by kernel_rfl) (of_decide_eq_true (by kernel_rfl)) k1 bel lt1) trodAll_mk0)), rfl, bel.frame _, fun h => by cases h⟩
set_option maxRecDepth 100000 in
theorem lifted (os : Os) (started : os.Started) (H : Type) (enc : TypeId × Value → H) (F : Stop.Interp) :
    ReturnsInHanded {} Tryd.checked os 6 .any ((OpenSpec.ofChange Rows.jsonBackSpec).preRow enc Tryd.prog Tryd.f6 Rows.jsonBackRow.domain false Rows.jsonBackRow.laid) (((OpenSpec.ofChange Rows.jsonBackSpec).at F).post enc Tryd.prog Tryd.f6 false true false false) := by
  obtain ⟨places, hx⟩ := reads os enc
  refine returnsInHanded_of_row (C := Tryd.checked) (s := OpenSpec.ofChange Rows.jsonBackSpec) own started (by kernel_rfl) Tryd.func6
    (witness_row_at (enc := enc) (C := Tryd.checked) false (laidWorld os) #[.slice none 0 0, .slice none 0 0] rfl (by kernel_rfl) (by kernel_rfl) (by kernel_rfl)
      (OpenSpec.preRow_of_cond 8 hx (by kernel_rfl) (fun k hk => by cases hk) (by kernel_rfl) (laid_met os))) ?_
  intro W base args ds gs before hval hW _ _ _ hL _ _
  exact contract H enc W base args ds gs before hval hW hL
theorem said : Rows.JsonBackSaid :=
  OpenClaim.holds_of_cond 6 Tryd.f6 rfl rfl rfl rfl rfl rfl rfl ⟨rfl, rfl, rfl, rfl, rfl⟩ rfl rfl rfl rfl rfl (by kernel_rfl) Tryd.func6 (by kernel_rfl)
    (of_decide_eq_true (by kernel_rfl)) (by unfold Func.isWrapper; first | (rw [if_pos (by decide +kernel)]; kernel_rfl) | (rw [if_neg (by decide +kernel)]; exact ⟨rfl, rfl⟩))
    (fun os started H enc _ F => by rw [OpenClaim.pre_eq_preRow]; exact lifted os started H enc F)
theorem plain (f : FuncId) (fn : Func) (hf : Tryd.pinned.checked.prog.funcNamed "bagnall/bagnallkeep.JsonBack" = some f) (hfn : Tryd.pinned.checked.prog.funcs[f]? = some fn) :
    false = Tryd.pinned.checked.prog.looks [] ∧ ∀ (j : Nat) t, fn.params[j]? = some t → Tryd.pinned.checked.prog.wantsStandIn t = false := by
  obtain rfl : f = 6 := Option.some.inj ((show Tryd.prog.funcNamed "bagnall/bagnallkeep.JsonBack" = some 6 by kernel_rfl).symm.trans hf) |>.symm
  obtain rfl : fn = Tryd.f6 := (Option.some.inj (Tryd.func6.symm.trans hfn)).symm
  refine ⟨by kernel_rfl, fun j t ht => ?_⟩
  rw [Tryd.params6] at ht
  have hm := Array.mem_of_getElem? ht
  obtain rfl : t = 35 := by simpa using hm
  exact (show Tryd.prog.wantsStandIn 35 = false by kernel_rfl)
theorem proved : Rows.JsonBackCardSaid :=
  Claim7.holds_tied_plain_at .later [] _ _ _ _ said (fun _ h => by cases h) (by kernel_rfl) (fun _ h => by cases h) jsonBack_row_tie rfl ⟨rfl, rfl⟩ (by kernel_rfl) rfl plain (by kernel_rfl)
#print axioms proved
end jsonBack
end Go.Proofs.YtbinoohmblkibaaDoor
