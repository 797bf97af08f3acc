/- Proved here: for every string, base.Bytes answers as the document's own decoder does (statement BaseByteses). No condition. -/
import Derived.Test.YtgjpbgmlmjkmcaaBaseRefB
import Derived.Test.YtgjpbgmlmjkmcaaSameLaw
import Derived.Test.YtgjpbgmlmjkmcaaOpen
namespace Go.Proofs.Ytgjpbgmlmjkmcaa
open Go.RowKit
set_option linter.unusedVariables false
set_option maxHeartbeats 1000000 in
theorem walkBaseByteses (l0 : List UInt8) (w : World) (hx0 : l0.length ≤ maxLen) :
    Calls Try.prog 4 #[str l0] w fun e w' => e = .returned (.bool true) ∧ Below w.heap.size w w' := by
  by_cases hs : l0.length ≤ 1200
  · go_enter Try.func4, Try.ntmps4
    go_wp2_with fail
    refine (bytes_small l0 _ hs).mono ?_
    rintro e w1 ⟨hb1, ⟨hd, rfl⟩ | ⟨l, A, c, hd, rfl, hown, hl⟩⟩
    · go_wp2_with fail
      refine (refBytes_small l0 _ hs).mono ?_
      rintro e w2 ⟨hb2, ⟨hd2, rfl⟩ | ⟨l2, A2, c2, hd2, rfl, hh2, hl2⟩⟩
      · clear hd hd2
        go_wp2_with fail
        refine (samelaw_any none none 0 0 0 0 [] [] _ Holds.empty Holds.empty (by omega) (by omega)).mono ?_
        rintro e w3 ⟨rfl, q, rfl⟩
        go_wp2_with fail
        go_ret
        exact ⟨rfl, below_drewN (hb1.trans (hb2.mono hb1.size)) q⟩
      · rw [hd] at hd2; cases hd2
    · go_wp2_with fail
      refine (refBytes_small l0 _ hs).mono ?_
      rintro e w2 ⟨hb2, ⟨hd2, rfl⟩ | ⟨l2, A2, c2, hd2, rfl, hh2, hl2⟩⟩
      · rw [hd] at hd2; cases hd2
      · obtain rfl : l = l2 := by rw [hd] at hd2; injection hd2
        clear hd hd2
        have hh1 := ((Holds.own hown).below hb2).wider hb2.size
        go_wp2_with fail
        refine (samelaw_any A A2 l.length l.length c c2 l l _ hh1 hh2 (by omega) (by omega)).mono ?_
        rintro e w3 ⟨rfl, q, rfl⟩
        have hll : (l == l) = true := by simp
        rw [hll]
        go_wp2_with fail
        go_ret
        exact ⟨rfl, below_drewN (hb1.trans (hb2.mono hb1.size)) q⟩
  · go_enter Try.func4, Try.ntmps4
    go_wp2_with fail
    refine (bytes_big l0 _ (by omega)).mono ?_
    rintro e w1 ⟨rfl, rfl⟩
    go_wp2_with fail
    refine (refBytes_big l0 _ (by omega)).mono ?_
    rintro e w2 ⟨rfl, rfl⟩
    go_wp2_with fail
    refine (samelaw_any none none 0 0 0 0 [] [] _ Holds.empty Holds.empty (by omega) (by omega)).mono ?_
    rintro e w3 ⟨rfl, q, rfl⟩
    go_wp2_with fail
    go_ret
    exact ⟨rfl, below_drewN (Below.refl _ _) q⟩
namespace baseByteses
open Go.ChangeShapes Go.WideShapes Go.ChangeAt Go.RowKit
theorem own : ownKnob Try.prog.godebug = none := by kernel_rfl
theorem laidOut : laidOutB Try.prog = true := by kernel_rfl
set_option linter.unusedVariables false
set_option maxRecDepth 100000 in
theorem lifted (os : Os) (started : os.Started) (H : Type) (enc : TypeId × Value → H) :
    ReturnsInHanded {} Try.checked os 4 .any (Rows.baseBytesesSpec.pre6 enc Try.prog Try.f4 Rows.baseBytesesRow.domain false) (Rows.baseBytesesSpec.post enc Try.prog Try.f4 false true false false) := by
  refine returnsInHanded_of_change (C := Try.checked) own started (by kernel_rfl) Try.func4
    (ChangeSpec.witness6 (enc := enc) (C := Try.checked) false ⟨#[], #[.string ByteArray.empty], []⟩ 8 (by kernel_rfl) (by kernel_rfl) (by kernel_rfl) (by kernel_rfl)) ?_
  intro W base args ds gs before hval0 hW hcnd _
  have hval : ∀ (j : Nat) t v, Try.f4.params[j]? = some t → args[j]? = some v → Value.okWide Try.prog W .any base t v := hval0
  have hW' := hW
  obtain ⟨p, q, hA0, hV, rfl, hfz, hnd⟩ := hW
  have hA : DataW.TrodAll enc Try.prog W 0 (fun _ => true) true Try.f4.params.toList args.toList ds p := hA0
  rw [Try.params4] at hA hval
  obtain ⟨v0, vs0, d0, ds0, p0, q0, hargs, rfl, rfl, h0, r0⟩ := trodAll_cons hA
  obtain ⟨rfl, rfl, rfl⟩ := trodAll_nil r0
  obtain rfl : args = #[v0] := by cases args; simp_all
  obtain ⟨rfl, rfl⟩ := trodVars_none hV
  have k0 := h0
  have lt0 : ∀ x ∈ p0, x.block < W.heap.size := by obtain ⟨m, hm⟩ := k0; exact DataW.trod_lt m _ _ _ hm
  obtain ⟨l0, rfl, hx0⟩ := open_str Try.underlying9 (hval 0 9 v0 rfl rfl) h0
  clear hA0 hval0
  refine (walkBaseByteses l0 W hx0).mono fun e W' ⟨he, bel⟩ => ?_
  subst he
  exact ⟨_, rfl, _, _, _, [], _, [], hW', trodAll_mk1 (shut_bool Try.underlying4 _), (trodAll_cons_mk (Below.trod laidOut (by kernel_rfl) (of_decide_eq_true (by kernel_rfl)) k0 bel lt0) trodAll_mk0), rfl, bel.frame _, fun h => by cases h⟩

theorem over : Rows.baseBytesesRow.holds Try.pinned (OpenSpec.ofChange Rows.baseBytesesSpec) :=
  OpenClaim.holds_of_wide 4 Try.f4 rfl rfl rfl rfl rfl rfl rfl ⟨rfl, rfl, rfl, rfl, rfl⟩ rfl rfl rfl rfl rfl (by kernel_rfl) Try.func4 (by kernel_rfl)
    (of_decide_eq_true (by kernel_rfl)) (by unfold Func.isWrapper; first | (rw [if_pos (by decide +kernel)]; kernel_rfl) | (rw [if_neg (by decide +kernel)]; exact ⟨rfl, rfl⟩))
    (fun os started H enc _ => lifted os started H enc)

theorem proved : Rows.BaseBytesesSaid := over
#print axioms proved
end baseByteses
end Go.Proofs.Ytgjpbgmlmjkmcaa
