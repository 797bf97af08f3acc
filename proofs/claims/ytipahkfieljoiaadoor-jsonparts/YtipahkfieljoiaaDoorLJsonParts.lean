/- Proved here: for every two lists of integers, the text of the array of the two values that they stand for is '[', the first one's text, a comma, the second one's text and ']', unless one of the three is too large (statement JsonParts). No condition. -/
import Derived.Test.YtipahkfieljoiaaDoorJGenW
import Derived.Test.YtipahkfieljoiaaDoorJSure
import Derived.Test.YtipahkfieljoiaaDoorOpenI
import Derived.Test.YtipahkfieljoiaaDoorLaid
namespace Go.Proofs.YtipahkfieljoiaaDoor
set_option linter.unusedVariables false
set_option linter.unusedSimpArgs false
open Go.RowKit

theorem pair_text (a b : JV) : jtext (.mk 6 0 [] [] [a, b]) = [91] ++ jtext a ++ [44] ++ jtext b ++ [93] := by
  rw [jtext]
  show 91 :: (jarr true [a, b] ++ [93]) = _
  simp [jarr, sep]
theorem okAt_check {deep : Nat} {v : JV} (h : OkAt deep v) (hd : deep ≤ 6) : checkN v = 0 ∨ checkN v = 1 := by
  unfold checkN
  rw [h 0 (by omega), if_neg (by simp)]
  split
  · exact .inr rfl
  · exact .inl rfl
theorem check_len {v : JV} (h : checkN v = 0) : (jtext v).length ≤ 600 := by
  unfold checkN at h
  by_cases h1 : fault 0 v ≠ 0
  · rw [if_pos h1] at h; exact absurd h h1
  · rw [if_neg h1] at h
    by_cases h2 : 100 < count v ∨ 600 < (jtext v).length
    · rw [if_pos h2] at h; cases h
    · omega
theorem okAt_pair {a b : JV} (ha : OkAt 3 a) (hb : OkAt 3 b) : OkAt 4 (.mk 6 0 [] [] [a, b]) :=
  okAt_of (by omega) (alone_arr _) fun d hd => faults_of fun p hp => by
    rcases List.mem_cons.1 hp with rfl | hp
    · exact ha (d + 1) (by omega)
    · rw [List.mem_singleton] at hp; subst hp; exact hb (d + 1) (by omega)

attribute [local go_sem high] str_mk
set_option maxRecDepth 100000 in
set_option maxHeartbeats 2000000 in
theorem walkJsonParts (A0 : Option Addr) (n0 c0 : Nat) (A1 : Option Addr) (n1 c1 : Nat) (w : World) (hx0 : IntsAt w w.heap.size A0 n0 c0) (hx1 : IntsAt w w.heap.size A1 n1 c1) (htab : Tab w.heap.size w) :
    Calls Tryd.prog 11 #[.slice A0 n0 c0, .slice A1 n1 c1] w fun e w' => e = .returned (.bool true) ∧ Below w.heap.size w w' := by
  have hg : GenOk 3 := genOk 3 (by omega) (by omega)
  go_enter Tryd.func11, Tryd.ntmps11
  go_wp2_with fail
  refine (hg A0 n0 c0 w.heap.size w (Nat.le_refl _) hx0).mono ?_
  rintro e y1 ⟨va, ca, Aa, na, cca, rfl, hva, hoka, hcta, _, hb1⟩
  obtain ⟨k1, m1, t1, Ak1, nk1, ck1, Ap1, np1, cp1, rfl⟩ := hva.form
  have hva1 := VInS.toB (B := y1.heap.size) (fun b hb => hb.2) _ _ hva
  go_wp2_with fail
  have hB1 := hb1.alloc hb1.size (.cells #[.int .i64 k1, .int .i64 m1, str t1, .slice Ak1 nk1 ck1, .slice Ap1 np1 cp1] 25)
  have hba := Blk.new y1 25 #[.int .i64 k1, .int .i64 m1, str t1, .slice Ak1 nk1 ck1, .slice Ap1 np1 cp1]
  refine (hg A1 n1 c1 w.heap.size _ hB1.size (hx1.below hB1)).mono ?_
  rintro e y2 ⟨vb, cb, Ab, nb, ccb, rfl, hvb, hokb, hctb, _, hb2⟩
  obtain ⟨k2, m2, t2, Ak2, nk2, ck2, Ap2, np2, cp2, rfl⟩ := hvb.form
  have hvb1 := VInS.toB (B := y2.heap.size) (fun b hb => hb.2) _ _ hvb
  have hz1 : y1.heap.size + 1 ≤ y2.heap.size := by have := hb2.size; simpa using this
  have hva2 : VIn y2 y1.heap.size va _ := (hva1.kept (fun p hp => World.cell?_alloc_lt _ _ p hp) _ _).below (hb2.mono (by simp))
  have hba2 := hba.below hb2 (by simp)
  have hB2 := hB1.trans (hb2.mono hB1.size)
  clear hva hvb hva1 hba hb2 hB1
  have hbb := Blk.new y2 25 #[.int .i64 k2, .int .i64 m2, str t2, .slice Ak2 nk2 ck2, .slice Ap2 np2 cp2]
  have hba3 := hba2.alloc (.cells #[.int .i64 k2, .int .i64 m2, str t2, .slice Ak2 nk2 ck2, .slice Ap2 np2 cp2] 25)
  have hB3 := hB2.alloc hB2.size (.cells #[.int .i64 k2, .int .i64 m2, str t2, .slice Ak2 nk2 ck2, .slice Ap2 np2 cp2] 25)
  obtain ⟨p0, p1, p2, p3, p4, f0, f1, f2, f3, f4⟩ := box_facts hba3
  go_wp2_with fail
  have hcva : count va ≤ 64 := hcta
  have hcvb : count vb ≤ 64 := hctb
  have hva3 : VIn (y2.alloc (.cells #[.int .i64 k2, .int .i64 m2, str t2, .slice Ak2 nk2 ck2, .slice Ap2 np2 cp2] 25)) y1.heap.size va [.int .i64 k1, .int .i64 m1, str t1, .slice Ak1 nk1 ck1, .slice Ap1 np1 cp1] :=
    VIn.kept (fun p hp => World.cell?_alloc_lt _ _ p (by omega)) _ _ hva2
  have hvb3 : VIn (y2.alloc (.cells #[.int .i64 k2, .int .i64 m2, str t2, .slice Ak2 nk2 ck2, .slice Ap2 np2 cp2] 25)) y2.heap.size vb [.int .i64 k2, .int .i64 m2, str t2, .slice Ak2 nk2 ck2, .slice Ap2 np2 cp2] :=
    VIn.kept (fun p hp => World.cell?_alloc_lt _ _ p hp) _ _ hvb1
  generalize hy3 : (y2.alloc (.cells #[.int .i64 k2, .int .i64 m2, str t2, .slice Ak2 nk2 ck2, .slice Ap2 np2 cp2] 25)) = y3 at *
  have hz3 : y3.heap.size = y2.heap.size + 1 := by rw [← hy3]; simp
  clear hy3 hva2 hvb1 hba2 hB2 p0 p1 p2 p3 p4 f0 f1 f2 f3 f4
  refine (Text_any va _ _ y1.heap.size (by omega) hva3 (htab.on hB3).here (by omega)).mono ?_
  rintro e y4 ⟨rfl, hb4⟩
  have hba4 := hba3.below hb4 (by omega)
  have hbb4 := hbb.below hb4 (by omega)
  have hva4 := hva3.below (hb4.mono (by omega))
  have hvb4 := hvb3.below (hb4.mono (by omega))
  have hB4 := hB3.trans (hb4.mono hB3.size)
  have hz4 := hb4.size
  clear hba3 hbb hva3 hvb3 hb4
  obtain ⟨p0, p1, p2, p3, p4, f0, f1, f2, f3, f4⟩ := box_facts hbb4
  rw [show textR va = .tuple #[if checkN va = 0 then str (jtext va) else str [], .int .i64 (checkN va)] from rfl]
  obtain ⟨sa, hsa⟩ : ∃ sa, (if checkN va = 0 then str (jtext va) else str []) = str sa := by split <;> exact ⟨_, rfl⟩
  have Hsa := Lib.hid hsa
  rw [hsa]
  clear hsa
  go_wp2_with fail
  refine (Text_any vb _ _ y2.heap.size (by omega) hvb4 (htab.on hB4).here (by omega)).mono ?_
  rintro e y5 ⟨rfl, hb5⟩
  have hba5 := hba4.below hb5 (by omega)
  have hbb5 := hbb4.below hb5 (by omega)
  have hva5 := hva4.below (hb5.mono (by omega))
  have hvb5 := hvb4.below (hb5.mono (by omega))
  have hB5 := hB4.trans (hb5.mono hB4.size)
  have hz5 := hb5.size
  clear hba4 hbb4 hva4 hvb4 hb5 p0 p1 p2 p3 p4 f0 f1 f2 f3 f4
  obtain ⟨p0, p1, p2, p3, p4, f0, f1, f2, f3, f4⟩ := box_facts hbb5
  obtain ⟨q0, q1, q2, q3, q4, g0, g1, g2, g3, g4⟩ := box_facts hba5
  rw [show textR vb = .tuple #[if checkN vb = 0 then str (jtext vb) else str [], .int .i64 (checkN vb)] from rfl]
  obtain ⟨sb, hsb⟩ : ∃ sb, (if checkN vb = 0 then str (jtext vb) else str []) = str sb := by split <;> exact ⟨_, rfl⟩
  have Hsb := Lib.hid hsb
  rw [hsb]
  clear hsb
  go_wp2_with fail
  -- the array of both
  have hv6 : VIn (y5.alloc (.cells #[.int .i64 k1, .int .i64 m1, str t1, .slice Ak1 nk1 ck1, .slice Ap1 np1 cp1, .int .i64 k2, .int .i64 m2, str t2, .slice Ak2 nk2 ck2, .slice Ap2 np2 cp2] 25)) (y5.heap.size + 1) (.mk 6 0 [] [] [va, vb])
      [.int .i64 6, .int .i64 0, str [], .slice none 0 0, .slice (some ⟨y5.heap.size, 0, none⟩) 2 2] := by
    unfold VIn
    refine ⟨none, 0, some ⟨y5.heap.size, 0, none⟩, 2, [.int .i64 k1, .int .i64 m1, str t1, .slice Ak1 nk1 ck1, .slice Ap1 np1 cp1, .int .i64 k2, .int .i64 m2, str t2, .slice Ak2 nk2 ck2, .slice Ap2 np2 cp2], rfl, by omega, by omega, by simp, by simp, by simp, by simp, by simp, by simp, Holds.empty, ⟨rfl, fun _ => ⟨y5.heap.size, 0, rfl, by omega, fun j u hu => ?_⟩⟩, ?_⟩
    · rw [Nat.zero_add, (Blk.new y5 25 _).cell j]
      simpa using hu
    · unfold PIn
      refine ⟨[.int .i64 k1, .int .i64 m1, str t1, .slice Ak1 nk1 ck1, .slice Ap1 np1 cp1], _, rfl, VIn.wider (by omega) _ _ (VIn.kept (fun p hp => World.cell?_alloc_lt _ _ p (by omega)) _ _ hva5), ?_⟩
      unfold PIn
      refine ⟨[.int .i64 k2, .int .i64 m2, str t2, .slice Ak2 nk2 ck2, .slice Ap2 np2 cp2], [], rfl, VIn.wider (by omega) _ _ (VIn.kept (fun p hp => World.cell?_alloc_lt _ _ p (by omega)) _ _ hvb5), ?_⟩
      unfold PIn
      rfl
  have hB6 := hB5.alloc hB5.size (.cells #[.int .i64 k1, .int .i64 m1, str t1, .slice Ak1 nk1 ck1, .slice Ap1 np1 cp1, .int .i64 k2, .int .i64 m2, str t2, .slice Ak2 nk2 ck2, .slice Ap2 np2 cp2] 25)
  have hcp : count (.mk 6 0 [] [] [va, vb]) ≤ 200 := by simp [count, counts]; omega
  refine (Text_any (.mk 6 0 [] [] [va, vb]) _ _ (y5.heap.size + 1) (by simp) hv6 (htab.on hB6).here (by omega)).mono ?_
  rintro e y7 ⟨rfl, hb7⟩
  have hB7 := hB6.trans (hb7.mono hB6.size)
  have hsure := jsure_any y7 (htab.on hB7).here
  have hoc := okAt_check (okAt_pair hoka hokb) (by omega)
  have hpt := pair_text va vb
  rw [show textR (.mk 6 0 [] [] [va, vb]) = .tuple #[if checkN (.mk 6 0 [] [] [va, vb]) = 0 then str (jtext (.mk 6 0 [] [] [va, vb])) else str [], .int .i64 (checkN (.mk 6 0 [] [] [va, vb]))] from rfl]
  clear hv6 hB6 hb7 hba5 hbb5 hva5 hvb5 hB5 hB4 hB3 p0 p1 p2 p3 p4 f0 f1 f2 f3 f4 q0 q1 q2 q3 q4 g0 g1 g2 g3 g4 hcp hx0 hx1 hg hb1
  generalize (JV.mk 6 0 [] [] [va, vb]) = vp at *
  rcases okAt_check hoka (by omega) with h1 | h1 <;> rcases okAt_check hokb (by omega) with h2 | h2 <;> rcases hoc with h3 | h3
  · rw [h1, h2, h3, if_pos rfl]
    have e1 := Hsa.out
    have e2 := Hsb.out
    rw [if_pos h1] at e1
    rw [if_pos h2] at e2
    rw [← e1, ← e2]
    have l1 := check_len h1
    have l2 := check_len h2
    generalize jtext va = la at *
    generalize jtext vb = lb at *
    rw [hpt]
    clear hpt e1 e2 Hsa Hsb h1 h2 h3
    have ha1 := fun W => run_str_add (P := Tryd.prog) W 9 [91] la (by simp; omega)
    have ha2 := fun W => run_str_add (P := Tryd.prog) W 9 ([91] ++ la) [44] (by simp; omega)
    have ha3 := fun W => run_str_add (P := Tryd.prog) W 9 ([91] ++ la ++ [44]) lb (by simp; omega)
    have ha4 := fun W => run_str_add (P := Tryd.prog) W 9 ([91] ++ la ++ [44] ++ lb) [93] (by simp; omega)
    generalize [91] ++ la ++ [44] ++ lb ++ [93] = x4 at *
    generalize [91] ++ la ++ [44] ++ lb = x3 at *
    generalize [91] ++ la ++ [44] = x2 at *
    generalize [91] ++ la = x1 at *
    go_wp2_with fail
    refine hsure.mono ?_
    rintro e y8 ⟨rfl, hb8⟩
    go_wp2_with fail
    go_ret
    exact ⟨by simp, hB7.trans (hb8.mono hB7.size)⟩
  all_goals
    rw [h1, h2, h3]
    go_wp2_with fail
    refine hsure.mono ?_
    rintro e y8 ⟨rfl, hb8⟩
    go_wp2_with fail
    go_ret
    exact ⟨rfl, hB7.trans (hb8.mono hB7.size)⟩
namespace jsonParts
open Go.ChangeShapes Go.WideShapes Go.ChangeAt Go.RowKit
theorem own : ownKnob Tryd.prog.godebug = none := by kernel_rfl
theorem laidOut : laidOutB Tryd.prog = true := by kernel_rfl
set_option linter.unusedVariables false
theorem laid_met (os : Os) : laidMet Tryd.prog Rows.jsonPartsRow.laid ((laidWorld os).forCall (fun _ _ => 0) ⟨#[], #[.slice none 0 0, .slice none 0 0], []⟩).memory :=
  laidMet_of_run' 8 (by kernel_rfl) (by kernel_rfl)
theorem reads (os : Os) {H : Type} (enc : TypeId × Value → H) : ∃ places, DataW.whole enc Tryd.prog ((laidWorld os).forCall (fun _ _ => 0) ⟨#[], #[.slice none 0 0, .slice none 0 0], []⟩).memory Tryd.f11.params.toList Rows.jsonPartsSpec.vars false #[Value.slice none 0 0, Value.slice none 0 0].toList 8 = some ([.nil, .nil], [], places) :=
  ⟨[], by kernel_rfl⟩
set_option maxRecDepth 100000 in
theorem contract (H : Type) (enc : TypeId × Value → H) (W : World) (base : Nat) (args : Array Value) (ds gs : List (DataW H)) (before : List MemPlace)
    (hval0 : ∀ (j : Nat) t v, Tryd.f11.params[j]? = some t → args[j]? = some v → Value.okWide Tryd.prog W .any base t v)
    (hW : DataW.Whole enc Tryd.prog Tryd.f11.params.toList Rows.jsonPartsSpec.vars false W args.toList ds gs before) (hL : laidMetH Tryd.prog Rows.jsonPartsRow.laid W) :
    Calls Tryd.prog 11 args W fun e W' => ∃ v, e = .returned v ∧ Rows.jsonPartsSpec.post enc Tryd.prog Tryd.f11 false true false false W args v W' := by
  have hval : ∀ (j : Nat) t v, Tryd.f11.params[j]? = some t → args[j]? = some v → Value.okWide Tryd.prog W .any base t v := hval0
  have hW' := hW
  obtain ⟨p, q, hA0, hV, rfl, hfz, hnd⟩ := hW
  have hA : DataW.TrodAll enc Tryd.prog W 0 (fun _ => true) true Tryd.f11.params.toList args.toList ds p := hA0
  rw [Tryd.params11] at hA hval
  obtain ⟨v0, vs0, d0, ds0, p0, q0, hargs, rfl, rfl, h0, r0⟩ := trodAll_cons hA
  obtain ⟨v1, vs1, d1, ds1, p1, q1, rfl, rfl, rfl, h1, r1⟩ := trodAll_cons r0
  obtain ⟨rfl, rfl, rfl⟩ := trodAll_nil r1
  obtain rfl : args = #[v0, v1] := by cases args; simp_all
  obtain ⟨rfl, rfl⟩ := trodVars_none hV
  have k0 := h0
  have lt0 : ∀ x ∈ p0, x.block < W.heap.size := by obtain ⟨m, hm⟩ := k0; exact DataW.trod_lt m _ _ _ hm
  obtain ⟨A0, n0, c0, rfl, hx0⟩ := open_intsl Tryd.underlying35 Tryd.underlying3 (by kernel_rfl) (hval 0 35 v0 rfl rfl) h0
  have k1 := h1
  have lt1 : ∀ x ∈ p1, x.block < W.heap.size := by obtain ⟨m, hm⟩ := k1; exact DataW.trod_lt m _ _ _ hm
  obtain ⟨A1, n1, c1, rfl, hx1⟩ := open_intsl Tryd.underlying35 Tryd.underlying3 (by kernel_rfl) (hval 1 35 v1 rfl rfl) h1
  clear hA0 hval0
  refine (walkJsonParts A0 n0 c0 A1 n1 c1 W hx0 hx1 (laidTab hL)).mono fun e W' ⟨he, bel⟩ => ?_
  subst he
  exact ⟨_, rfl, _, _, _, [], _, [], hW', trodAll_mk1 (shut_bool Tryd.underlying4 _), (trodAll_cons_mk (Below.trod laidOut (by kernel_rfl) (of_decide_eq_true (by kernel_rfl)) k0 bel lt0) (trodAll_cons_mk (Below.trod laidOut (by kernel_rfl) (of_decide_eq_true (by kernel_rfl)) k1 bel lt1) trodAll_mk0)), rfl, bel.frame _, fun h => by cases h⟩
set_option maxRecDepth 100000 in
theorem lifted (os : Os) (started : os.Started) (H : Type) (enc : TypeId × Value → H) (F : Stop.Interp) :
    ReturnsInHanded {} Tryd.checked os 11 .any ((OpenSpec.ofChange Rows.jsonPartsSpec).preRow enc Tryd.prog Tryd.f11 Rows.jsonPartsRow.domain false Rows.jsonPartsRow.laid) (((OpenSpec.ofChange Rows.jsonPartsSpec).at F).post enc Tryd.prog Tryd.f11 false true false false) := by
  obtain ⟨places, hx⟩ := reads os enc
  refine returnsInHanded_of_row (C := Tryd.checked) (s := OpenSpec.ofChange Rows.jsonPartsSpec) own started (by kernel_rfl) Tryd.func11
    (witness_row_at (enc := enc) (C := Tryd.checked) false (laidWorld os) #[.slice none 0 0, .slice none 0 0] rfl (by kernel_rfl) (by kernel_rfl) (by kernel_rfl)
      (OpenSpec.preRow_of_cond 8 hx (by kernel_rfl) (fun k hk => by cases hk) (by kernel_rfl) (laid_met os))) ?_
  intro W base args ds gs before hval hW _ _ _ hL _ _
  exact contract H enc W base args ds gs before hval hW hL
theorem said : Rows.JsonPartsSaid :=
  OpenClaim.holds_of_cond 11 Tryd.f11 rfl rfl rfl rfl rfl rfl rfl ⟨rfl, rfl, rfl, rfl, rfl⟩ rfl rfl rfl rfl rfl (by kernel_rfl) Tryd.func11 (by kernel_rfl)
    (of_decide_eq_true (by kernel_rfl)) (by unfold Func.isWrapper; first | (rw [if_pos (by decide +kernel)]; kernel_rfl) | (rw [if_neg (by decide +kernel)]; exact ⟨rfl, rfl⟩))
    (fun os started H enc _ F => by rw [OpenClaim.pre_eq_preRow]; exact lifted os started H enc F)
theorem plain (f : FuncId) (fn : Func) (hf : Tryd.pinned.checked.prog.funcNamed "bagnall/bagnallkeep.JsonParts" = some f) (hfn : Tryd.pinned.checked.prog.funcs[f]? = some fn) :
    false = Tryd.pinned.checked.prog.looks [] ∧ ∀ (j : Nat) t, fn.params[j]? = some t → Tryd.pinned.checked.prog.wantsStandIn t = false := by
  obtain rfl : f = 11 := Option.some.inj ((show Tryd.prog.funcNamed "bagnall/bagnallkeep.JsonParts" = some 11 by kernel_rfl).symm.trans hf) |>.symm
  obtain rfl : fn = Tryd.f11 := (Option.some.inj (Tryd.func11.symm.trans hfn)).symm
  refine ⟨by kernel_rfl, fun j t ht => ?_⟩
  rw [Tryd.params11] at ht
  have hm := Array.mem_of_getElem? ht
  obtain rfl : t = 35 := by simpa using hm
  exact (show Tryd.prog.wantsStandIn 35 = false by kernel_rfl)
theorem proved : Rows.JsonPartsCardSaid :=
  Claim7.holds_tied_plain_at .later [] _ _ _ _ said (fun _ h => by cases h) (by kernel_rfl) (fun _ h => by cases h) jsonParts_row_tie rfl ⟨rfl, rfl⟩ (by kernel_rfl) rfl plain (by kernel_rfl)
#print axioms proved
end jsonParts
end Go.Proofs.YtipahkfieljoiaaDoor
