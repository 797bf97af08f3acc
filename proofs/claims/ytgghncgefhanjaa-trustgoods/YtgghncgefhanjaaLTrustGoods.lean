/- Proved here: for every certificate, trust.Good answers as the document's own function does (statement TrustGoods). No condition. -/
import Derived.Test.YtgghncgefhanjaaTrGood
import Derived.Test.YtgghncgefhanjaaOpenC
import Derived.Deep.RegionHeld3
namespace Go.Proofs.Ytgghncgefhanjaa
set_option linter.unusedVariables false
set_option linter.unusedSimpArgs false
open Go.RowKit
theorem walkTrustGoods (f0 t0 r0 s0 : Int) (w : World)  :
    Calls Try.prog 3 #[.agg #[.int .i64 f0, .int .i64 t0, .int .i64 r0, .int .i64 s0]] w fun e w' => e = .returned (.bool true) ∧ Below w.heap.size w w' := by
  have HK := Lib.hid (fun W => trustGood_any f0 r0 s0 t0 W)
  have HR := Lib.hid (fun W => refTrustGood_any f0 r0 s0 t0 W)
  have hb := Blk.new w 25 #[.int .i64 f0, .int .i64 t0, .int .i64 r0, .int .i64 s0]
  have hW := (Below.refl w.heap.size w).alloc (Nat.le_refl _) (.cells #[.int .i64 f0, .int .i64 t0, .int .i64 r0, .int .i64 s0] 25)
  generalize goodN f0 t0 r0 s0 = N at *
  go_enter Try.func3, Try.ntmps3
  go_wp2_with fail
  generalize (w.alloc (.cells #[.int .i64 f0, .int .i64 t0, .int .i64 r0, .int .i64 s0] 25)) = y1 at *
  have Hb := Lib.hid (show Blk y1.drew w.heap.size 25 #[.int .i64 f0, .int .i64 t0, .int .i64 r0, .int .i64 s0] from hb)
  have HW := Lib.hid (show Below w.heap.size w y1.drew from below_drewN hW 1)
  have c0 : y1.drew.cell? ⟨w.heap.size, 0, none⟩ = some (.int .i64 f0) := Hb.out.cell 0
  have c1 : y1.drew.cell? ⟨w.heap.size, 1, none⟩ = some (.int .i64 t0) := Hb.out.cell 1
  have c2 : y1.drew.cell? ⟨w.heap.size, 2, none⟩ = some (.int .i64 r0) := Hb.out.cell 2
  have c3 : y1.drew.cell? ⟨w.heap.size, 3, none⟩ = some (.int .i64 s0) := Hb.out.cell 3
  have hlt : w.heap.size < y1.heap.size := hb.lt
  clear hb hW
  go_region_held3 (fun w' => w'.cell? ⟨w.heap.size, 0, none⟩ = some (.int .i64 f0) ∧ w'.cell? ⟨w.heap.size, 1, none⟩ = some (.int .i64 t0) ∧ w'.cell? ⟨w.heap.size, 2, none⟩ = some (.int .i64 r0) ∧ w'.cell? ⟨w.heap.size, 3, none⟩ = some (.int .i64 s0))
    (first | with_reducible exact ⟨c0, c1, c2, c3⟩ | with_reducible exact ⟨g0, g1, g2, g3⟩ | with_reducible exact ⟨h0, h1, h2, h3⟩ | go_keep)
    (first
      | (go_at_call 8; go_fit (HK.out _); rintro e y2 ⟨rfl, hb2⟩; have HB2 := Lib.hid (HW.out.trans (hb2.mono HW.out.size)); have Hx2 := Lib.hid (Hb.out.below hb2 Hb.out.lt); have g0 := Hx2.out.cell 0; have g1 := Hx2.out.cell 1; have g2 := Hx2.out.cell 2; have g3 := Hx2.out.cell 3; clear hb2)
      | (go_at_call 9; go_fit (HR.out _); rintro e y3 ⟨rfl, hb3⟩; have HB3 := Lib.hid (HB2.out.trans (hb3.mono HB2.out.size)); have Hx3 := Lib.hid (Hx2.out.below hb3 Hx2.out.lt); have h0 := Hx3.out.cell 0; have h1 := Hx3.out.cell 1; have h2 := Hx3.out.cell 2; have h3 := Hx3.out.cell 3; clear hb3))
  all_goals
    go_wp2_with fail
    go_ret
    exact ⟨by simp, HB3.out⟩
namespace trustGoods
open Go.ChangeShapes Go.WideShapes Go.ChangeAt Go.RowKit
theorem own : ownKnob Try.prog.godebug = none := by kernel_rfl
theorem laidOut : laidOutB Try.prog = true := by kernel_rfl
set_option linter.unusedVariables false
set_option maxRecDepth 100000 in
theorem lifted (os : Os) (started : os.Started) (H : Type) (enc : TypeId × Value → H) :
    ReturnsInHanded {} Try.checked os 3 .any (Rows.trustGoodsSpec.pre6 enc Try.prog Try.f3 Rows.trustGoodsRow.domain false) (Rows.trustGoodsSpec.post enc Try.prog Try.f3 false true false false) := by
  refine returnsInHanded_of_change (C := Try.checked) own started (by kernel_rfl) Try.func3
    (ChangeSpec.witness6 (enc := enc) (C := Try.checked) false ⟨#[], #[.agg #[.int .i64 0, .int .i64 0, .int .i64 0, .int .i64 0]], []⟩ 8 (by kernel_rfl) (by kernel_rfl) (by kernel_rfl) (by kernel_rfl)) ?_
  intro W base args ds gs before hval0 hW hcnd _
  have hval : ∀ (j : Nat) t v, Try.f3.params[j]? = some t → args[j]? = some v → Value.okWide Try.prog W .any base t v := hval0
  have hW' := hW
  obtain ⟨p, q, hA0, hV, rfl, hfz, hnd⟩ := hW
  have hA : DataW.TrodAll enc Try.prog W 0 (fun _ => true) true Try.f3.params.toList args.toList ds p := hA0
  rw [Try.params3] at hA hval
  obtain ⟨v0, vs0, d0, ds0, p0, q0, hargs, rfl, rfl, h0, rr0⟩ := trodAll_cons hA
  obtain ⟨rfl, rfl, rfl⟩ := trodAll_nil rr0
  obtain rfl : args = #[v0] := by cases args; simp_all
  obtain ⟨rfl, rfl⟩ := trodVars_none hV
  have k0 := h0
  have lt0 : ∀ x ∈ p0, x.block < W.heap.size := by obtain ⟨m, hm⟩ := k0; exact DataW.trod_lt m _ _ _ hm
  obtain ⟨f0, t0, r0, s0, rfl⟩ := open_cert h0
  clear hA0 hval0
  refine (walkTrustGoods f0 t0 r0 s0 W ).mono fun e W' ⟨he, bel⟩ => ?_
  subst he
  exact ⟨_, rfl, _, _, _, [], _, [], hW', trodAll_mk1 (shut_bool Try.underlying4 _), (trodAll_cons_mk (Below.trod laidOut (by kernel_rfl) (of_decide_eq_true (by kernel_rfl)) k0 bel lt0) trodAll_mk0), rfl, bel.frame _, fun h => by cases h⟩

theorem over : Rows.trustGoodsRow.holds Try.pinned (OpenSpec.ofChange Rows.trustGoodsSpec) :=
  OpenClaim.holds_of_wide 3 Try.f3 rfl rfl rfl rfl rfl rfl rfl ⟨rfl, rfl, rfl, rfl, rfl⟩ rfl rfl rfl rfl rfl (by kernel_rfl) Try.func3 (by kernel_rfl)
    (of_decide_eq_true (by kernel_rfl)) (by unfold Func.isWrapper; first | (rw [if_pos (by decide +kernel)]; kernel_rfl) | (rw [if_neg (by decide +kernel)]; exact ⟨rfl, rfl⟩))
    (fun os started H enc _ => lifted os started H enc)

theorem proved : Rows.TrustGoodsSaid := over
#print axioms proved
end trustGoods
end Go.Proofs.Ytgghncgefhanjaa
