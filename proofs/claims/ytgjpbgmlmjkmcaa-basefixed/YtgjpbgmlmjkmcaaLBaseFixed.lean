/- Proved here: for every string, base.Bytes gives ErrSize or ErrForm and nothing beside it, or bytes whose encoding is the string (statement BaseFixed). No condition. -/
import Derived.Test.YtgjpbgmlmjkmcaaBaseKeep
import Derived.Test.YtgjpbgmlmjkmcaaBaseDec
import Derived.Test.YtgjpbgmlmjkmcaaOpen
namespace Go.Proofs.Ytgjpbgmlmjkmcaa
open Go.RowKit
set_option linter.unusedVariables false
set_option maxHeartbeats 1000000 in
theorem walkBaseFixed (l0 : List UInt8) (w : World) (hx0 : l0.length ≤ maxLen) :
    Calls Try.prog 7 #[str l0] w fun e w' => e = .returned (.bool true) ∧ Below w.heap.size w w' := by
  obtain ⟨i0, hi0, hz0, hz1, hz2⟩ := info_parts info_byte
  unfold maxLen at hx0
  by_cases hs : l0.length ≤ 1200
  · go_enter Try.func7, Try.ntmps7
    go_wp2_with fail
    refine (bytes_small l0 _ hs).mono ?_
    rintro e w1 ⟨hb1, ⟨hd, rfl⟩ | ⟨l, A, c, hd, rfl, hown, hl⟩⟩
    · clear hd
      go_wp2_with fail
      refine (sure_any _).mono ?_
      rintro e w2 ⟨rfl, hb2⟩
      go_wp2_with fail
      go_ret
      exact ⟨rfl, hb1.trans (hb2.mono hb1.size)⟩
    · have He := Lib.hid ((dec_iff l0 l).1 hd)
      clear hd
      by_cases h6 : l.length ≤ 600
      · have hA : A = none → c = 0 := by
          intro hA
          subst hA
          obtain ⟨A', c', hv, hA'⟩ := own_form hown
          injection hv with e1 e2 e3
          rw [e3]
          exact (hA' e1.symm).2
        have hh := Holds.own hown
        go_wp2_with (at_builtin
                     refine wpList_append_nil w1 rfl _ _ rfl 5 i0 _ 1 1 Try.underlying22 hi0 hz0 hz1 hz2 rfl (by decide) w1.heap.size A l.length c (l.map bv) hh (by rfl) hA (bv_one l) (by omega) (by decide) ?_
                     intro B0 d0 w2 hown2 hh2 hB0 hb2)
        refine (text_small B0 l.length d0 l _ hh2 h6).mono ?_
        rintro e w3 ⟨rfl, hb3⟩
        rw [He.out]
        have hb03 := (hb1.trans (hb2.mono hb1.size)).trans (hb3.mono (Nat.le_trans hb1.size hb2.size))
        go_wp2_with fail
        refine (sure_any _).mono ?_
        rintro e w4 ⟨rfl, hb4⟩
        go_wp2_with fail
        go_ret
        exact ⟨rfl, hb03.trans (hb4.mono hb03.size)⟩
      · go_wp2_with fail
        refine (sure_any _).mono ?_
        rintro e w2 ⟨rfl, hb2⟩
        go_wp2_with fail
        go_ret
        exact ⟨rfl, hb1.trans (hb2.mono hb1.size)⟩
  · go_enter Try.func7, Try.ntmps7
    go_wp2_with fail
    refine (bytes_big l0 _ (by omega)).mono ?_
    rintro e w1 ⟨rfl, rfl⟩
    go_wp2_with fail
    refine (sure_any _).mono ?_
    rintro e w2 ⟨rfl, hb2⟩
    go_wp2_with fail
    go_ret
    exact ⟨rfl, hb2⟩
namespace baseFixed
open Go.ChangeShapes Go.WideShapes Go.ChangeAt Go.RowKit
theorem own : ownKnob Try.prog.godebug = none := by kernel_rfl
theorem laidOut : laidOutB Try.prog = true := by kernel_rfl
set_option linter.unusedVariables false
set_option maxRecDepth 100000 in
theorem lifted (os : Os) (started : os.Started) (H : Type) (enc : TypeId × Value → H) :
    ReturnsInHanded {} Try.checked os 7 .any (Rows.baseFixedSpec.pre6 enc Try.prog Try.f7 Rows.baseFixedRow.domain false) (Rows.baseFixedSpec.post enc Try.prog Try.f7 false true false false) := by
  refine returnsInHanded_of_change (C := Try.checked) own started (by kernel_rfl) Try.func7
    (ChangeSpec.witness6 (enc := enc) (C := Try.checked) false ⟨#[], #[.string ByteArray.empty], []⟩ 8 (by kernel_rfl) (by kernel_rfl) (by kernel_rfl) (by kernel_rfl)) ?_
  intro W base args ds gs before hval0 hW hcnd _
  have hval : ∀ (j : Nat) t v, Try.f7.params[j]? = some t → args[j]? = some v → Value.okWide Try.prog W .any base t v := hval0
  have hW' := hW
  obtain ⟨p, q, hA0, hV, rfl, hfz, hnd⟩ := hW
  have hA : DataW.TrodAll enc Try.prog W 0 (fun _ => true) true Try.f7.params.toList args.toList ds p := hA0
  rw [Try.params7] at hA hval
  obtain ⟨v0, vs0, d0, ds0, p0, q0, hargs, rfl, rfl, h0, r0⟩ := trodAll_cons hA
  obtain ⟨rfl, rfl, rfl⟩ := trodAll_nil r0
  obtain rfl : args = #[v0] := by cases args; simp_all
  obtain ⟨rfl, rfl⟩ := trodVars_none hV
  have k0 := h0
  have lt0 : ∀ x ∈ p0, x.block < W.heap.size := by obtain ⟨m, hm⟩ := k0; exact DataW.trod_lt m _ _ _ hm
  obtain ⟨l0, rfl, hx0⟩ := open_str Try.underlying9 (hval 0 9 v0 rfl rfl) h0
  clear hA0 hval0
  refine (walkBaseFixed l0 W hx0).mono fun e W' ⟨he, bel⟩ => ?_
  subst he
  exact ⟨_, rfl, _, _, _, [], _, [], hW', trodAll_mk1 (shut_bool Try.underlying4 _), (trodAll_cons_mk (Below.trod laidOut (by kernel_rfl) (of_decide_eq_true (by kernel_rfl)) k0 bel lt0) trodAll_mk0), rfl, bel.frame _, fun h => by cases h⟩

theorem over : Rows.baseFixedRow.holds Try.pinned (OpenSpec.ofChange Rows.baseFixedSpec) :=
  OpenClaim.holds_of_wide 7 Try.f7 rfl rfl rfl rfl rfl rfl rfl ⟨rfl, rfl, rfl, rfl, rfl⟩ rfl rfl rfl rfl rfl (by kernel_rfl) Try.func7 (by kernel_rfl)
    (of_decide_eq_true (by kernel_rfl)) (by unfold Func.isWrapper; first | (rw [if_pos (by decide +kernel)]; kernel_rfl) | (rw [if_neg (by decide +kernel)]; exact ⟨rfl, rfl⟩))
    (fun os started H enc _ => lifted os started H enc)

theorem proved : Rows.BaseFixedSaid := over
#print axioms proved
end baseFixed
end Go.Proofs.Ytgjpbgmlmjkmcaa
