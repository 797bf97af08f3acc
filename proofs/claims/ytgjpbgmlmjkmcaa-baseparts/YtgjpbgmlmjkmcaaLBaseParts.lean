/- Proved here: for all slices of bytes, the encodings of two parts, the first of which has a multiple of three bytes, stand one behind the other in the encoding of the whole (statement BaseParts). No condition. -/
import Derived.Test.YtgjpbgmlmjkmcaaBaseKeep
import Derived.Test.YtgjpbgmlmjkmcaaOpen
namespace Go.Proofs.Ytgjpbgmlmjkmcaa
open Go.RowKit
set_option linter.unusedVariables false
set_option maxHeartbeats 1000000 in
theorem walkBaseParts (A0 : Option Addr) (n0 c0 : Nat) (l0 : List UInt8) (A1 : Option Addr) (n1 c1 : Nat) (l1 : List UInt8) (w : World) (hx0 : BytesIn w A0 n0 c0 l0) (hx1 : BytesIn w A1 n1 c1 l1) :
    Calls Try.prog 6 #[.slice A0 n0 c0, .slice A1 n1 c1] w fun e w' => e = .returned (.bool true) ∧ Below w.heap.size w w' := by
  obtain ⟨hr0, hn0, hm0, hA0⟩ := hx0
  obtain ⟨hr1, hn1, hm1, hA1⟩ := hx1
  unfold maxLen at hm0 hm1
  obtain ⟨i0, hi0, hz0, hz1, hz2⟩ := info_parts info_byte
  obtain ⟨m0, hm0'⟩ : ∃ m0 : Nat, m0 = min n0 200 := ⟨_, rfl⟩
  obtain ⟨m1, hm1'⟩ : ∃ m1 : Nat, m1 = min n1 200 := ⟨_, rfl⟩
  have hmin0 : (if (200 : Int) < (n0 : Int) then (200 : Int) else (n0 : Int)) = (m0 : Int) := by split <;> omega
  have hmin1 : (if (200 : Int) < (n1 : Int) then (200 : Int) else (n1 : Int)) = (m1 : Int) := by split <;> omega
  have hle0 : m0 ≤ 200 := by omega
  have hle1 : m1 ≤ 200 := by omega
  have hln0 : m0 ≤ n0 := by omega
  have hln1 : m1 ≤ n1 := by omega
  clear hm0' hm1'
  obtain ⟨k0, hk0⟩ : ∃ k0 : Nat, k0 = m0 / 3 * 3 := ⟨_, rfl⟩
  have hk0i : (m0 : Int) / 3 * 3 = (k0 : Int) := by omega
  have hk3 : k0 % 3 = 0 := by omega
  have hk200 : k0 ≤ 200 := by omega
  have hkn : k0 ≤ n0 := by omega
  have Hk3 := Lib.hid hk3
  clear hk0 hk3
  have hx := hr0.first hkn
  have hy := hr1.first hln1
  have hL0 := hr0.len
  have hL1 := hr1.len
  have hxl : (l0.take k0).length = k0 := by rw [List.length_take]; omega
  have hyl : (l1.take m1).length = m1 := by rw [List.length_take]; omega
  generalize l0.take k0 = x at *
  generalize l1.take m1 = y at *
  have Hxl := Lib.hid hxl
  have Hyl := Lib.hid hyl
  clear hxl hyl hL0 hL1 hr0 hr1
  have hs0 := fun W => run_cut_h (P := Try.prog) W 22 5 i0 Try.underlying22 hi0 A0 n0 c0 .i64 (k0 : Int) k0 rfl (by omega)
  have hs1 := fun W => run_cut_h (P := Try.prog) W 22 5 i0 Try.underlying22 hi0 A1 n1 c1 .i64 (m1 : Int) m1 rfl (by omega)
  go_enter Try.func6, Try.ntmps6
  go_wp2_with (at_builtin
               refine wpList_append_nil w rfl _ _ rfl 5 i0 _ 1 1 Try.underlying22 hi0 hz0 hz1 hz2 rfl (by decide) w.heap.size A0 k0 c0 (x.map bv) hx (by rfl) hA0 (bv_one x) (by omega) (by decide) ?_
               intro B0 d0 w1 hown1 hh1 hB0 hb1)
  refine (text_small B0 k0 d0 x _ hh1 (by omega)).mono ?_
  rintro e w2 ⟨rfl, hb2⟩
  have hb02 := hb1.trans (hb2.mono hb1.size)
  have hy2 := hy.below hb02
  go_wp2_with (at_builtin
               refine wpList_append_nil w2 rfl _ _ rfl 5 i0 _ 1 1 Try.underlying22 hi0 hz0 hz1 hz2 rfl (by decide) w.heap.size A1 m1 c1 (y.map bv) hy2 (by rfl) hA1 (bv_one y) (by omega) (by decide) ?_
               intro B1 d1 w3 hown3 hh3 hB1 hb3)
  refine (text_small B1 m1 d1 y _ hh3 (by omega)).mono ?_
  rintro e w4 ⟨rfl, hb4⟩
  have hb04 := (hb02.trans (hb3.mono hb02.size)).trans (hb4.mono (Nat.le_trans hb02.size hb3.size))
  have hx4 := hx.below hb04
  have hy4 := hy.below hb04
  have tok : True := trivial
  go_wp2_with (first
    | (at_builtin
       have _t := tok
       refine wpList_append_nil w4 rfl _ _ rfl 5 i0 _ 1 1 Try.underlying22 hi0 hz0 hz1 hz2 rfl (by decide) w.heap.size A0 k0 c0 (x.map bv) hx4 (by rfl) hA0 (bv_one x) (by omega) (by decide) ?_
       intro B2 d2 w5 hown5 hh5 hB2 hb5
       clear tok)
    | (at_builtin
       refine wpList_append_all w5 rfl _ _ _ rfl w4.heap.size 5 i0 _ 1 1 Try.underlying22 hi0 hz0 hz1 hz2 rfl (by decide) (.slice B2 k0 d2) k0 (x.map bv) (by rfl) hown5 w.heap.size A1 m1 c1 (y.map bv) (by rfl) hA1 (hy4.below (hb5.mono hb04.size)) (bv_one y) (by omega) (by decide) hb5.size ?_
       intro v6 w6 hown6 hg6 _
       obtain ⟨B3, d3, rfl, hB3⟩ := own_form hown6))
  have hb46 : Below w4.heap.size w4 w6 := hb5.grown hg6 hb5.size (fun k hk => (hown5.lt k hk).1)
  have hh6 : Holds w6 w6.heap.size 1 B3 (k0 + m1) ((x ++ y).map bv) := by have := Holds.own hown6; simpa using this
  refine (text_small B3 (k0 + m1) d3 (x ++ y) _ hh6 (by omega)).mono ?_
  rintro e w7 ⟨rfl, hb7⟩
  have hb07 := (hb04.trans (hb46.mono hb04.size)).trans (hb7.mono (Nat.le_trans hb04.size hb46.size))
  have Henc := Lib.hid (enc_append x y (by rw [Hxl.out]; exact Hk3.out))
  have hlen : (enc x).length + (enc y).length ≤ 1048576 := by rw [enc_length, enc_length, Hxl.out, Hyl.out]; omega
  rw [Henc.out]
  generalize enc x = ex at *
  generalize enc y = ey at *
  have hadd := fun W => run_str_add (P := Try.prog) W 9 ex ey hlen
  go_wp2_with fail
  refine (sure_any _).mono ?_
  rintro e w8 ⟨rfl, hb8⟩
  go_wp2_with fail
  go_ret
  exact ⟨by simp, hb07.trans (hb8.mono hb07.size)⟩
namespace baseParts
open Go.ChangeShapes Go.WideShapes Go.ChangeAt Go.RowKit
theorem own : ownKnob Try.prog.godebug = none := by kernel_rfl
theorem laidOut : laidOutB Try.prog = true := by kernel_rfl
set_option linter.unusedVariables false
set_option maxRecDepth 100000 in
theorem lifted (os : Os) (started : os.Started) (H : Type) (enc : TypeId × Value → H) :
    ReturnsInHanded {} Try.checked os 6 .any (Rows.basePartsSpec.pre6 enc Try.prog Try.f6 Rows.basePartsRow.domain false) (Rows.basePartsSpec.post enc Try.prog Try.f6 false true false false) := by
  refine returnsInHanded_of_change (C := Try.checked) own started (by kernel_rfl) Try.func6
    (ChangeSpec.witness6 (enc := enc) (C := Try.checked) false ⟨#[], #[.slice none 0 0, .slice none 0 0], []⟩ 8 (by kernel_rfl) (by kernel_rfl) (by kernel_rfl) (by kernel_rfl)) ?_
  intro W base args ds gs before hval0 hW hcnd _
  have hval : ∀ (j : Nat) t v, Try.f6.params[j]? = some t → args[j]? = some v → Value.okWide Try.prog W .any base t v := hval0
  have hW' := hW
  obtain ⟨p, q, hA0, hV, rfl, hfz, hnd⟩ := hW
  have hA : DataW.TrodAll enc Try.prog W 0 (fun _ => true) true Try.f6.params.toList args.toList ds p := hA0
  rw [Try.params6] at hA hval
  obtain ⟨v0, vs0, d0, ds0, p0, q0, hargs, rfl, rfl, h0, r0⟩ := trodAll_cons hA
  obtain ⟨v1, vs1, d1, ds1, p1, q1, rfl, rfl, rfl, h1, r1⟩ := trodAll_cons r0
  obtain ⟨rfl, rfl, rfl⟩ := trodAll_nil r1
  obtain rfl : args = #[v0, v1] := by cases args; simp_all
  obtain ⟨rfl, rfl⟩ := trodVars_none hV
  have k0 := h0
  have lt0 : ∀ x ∈ p0, x.block < W.heap.size := by obtain ⟨m, hm⟩ := k0; exact DataW.trod_lt m _ _ _ hm
  obtain ⟨A0, n0, c0, l0, rfl, hx0⟩ := open_bytes Try.underlying22 Try.underlying5 (by kernel_rfl) (hval 0 22 v0 rfl rfl) h0
  have k1 := h1
  have lt1 : ∀ x ∈ p1, x.block < W.heap.size := by obtain ⟨m, hm⟩ := k1; exact DataW.trod_lt m _ _ _ hm
  obtain ⟨A1, n1, c1, l1, rfl, hx1⟩ := open_bytes Try.underlying22 Try.underlying5 (by kernel_rfl) (hval 1 22 v1 rfl rfl) h1
  clear hA0 hval0
  refine (walkBaseParts A0 n0 c0 l0 A1 n1 c1 l1 W hx0 hx1).mono fun e W' ⟨he, bel⟩ => ?_
  subst he
  exact ⟨_, rfl, _, _, _, [], _, [], hW', trodAll_mk1 (shut_bool Try.underlying4 _), (trodAll_cons_mk (Below.trod laidOut (by kernel_rfl) (of_decide_eq_true (by kernel_rfl)) k0 bel lt0) (trodAll_cons_mk (Below.trod laidOut (by kernel_rfl) (of_decide_eq_true (by kernel_rfl)) k1 bel lt1) trodAll_mk0)), rfl, bel.frame _, fun h => by cases h⟩

theorem over : Rows.basePartsRow.holds Try.pinned (OpenSpec.ofChange Rows.basePartsSpec) :=
  OpenClaim.holds_of_wide 6 Try.f6 rfl rfl rfl rfl rfl rfl rfl ⟨rfl, rfl, rfl, rfl, rfl⟩ rfl rfl rfl rfl rfl (by kernel_rfl) Try.func6 (by kernel_rfl)
    (of_decide_eq_true (by kernel_rfl)) (by unfold Func.isWrapper; first | (rw [if_pos (by decide +kernel)]; kernel_rfl) | (rw [if_neg (by decide +kernel)]; exact ⟨rfl, rfl⟩))
    (fun os started H enc _ => lifted os started H enc)

theorem proved : Rows.BasePartsSaid := over
#print axioms proved
end baseParts
end Go.Proofs.Ytgjpbgmlmjkmcaa
