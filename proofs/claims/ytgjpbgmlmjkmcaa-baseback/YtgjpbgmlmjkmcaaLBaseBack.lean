/- Proved here: for all slices of bytes, what base.Text encodes (up to 300 bytes of it) base.Bytes decodes, two encodings are equal exactly if the bytes are, and the encoding is a third longer (statement BaseBack). No condition. -/
import Derived.Test.YtgjpbgmlmjkmcaaBaseKeep
import Derived.Test.YtgjpbgmlmjkmcaaSameKeep
import Derived.Test.YtgjpbgmlmjkmcaaBaseDec
import Derived.Test.YtgjpbgmlmjkmcaaOpen
namespace Go.Proofs.Ytgjpbgmlmjkmcaa
open Go.RowKit
set_option linter.unusedVariables false
set_option maxHeartbeats 2000000 in
theorem walkBaseBack (A0 : Option Addr) (n0 c0 : Nat) (l0 : List UInt8) (A1 : Option Addr) (n1 c1 : Nat) (l1 : List UInt8) (w : World) (hx0 : BytesIn w A0 n0 c0 l0) (hx1 : BytesIn w A1 n1 c1 l1) :
    Calls Try.prog 5 #[.slice A0 n0 c0, .slice A1 n1 c1] w fun e w' => e = .returned (.bool true) ∧ Below w.heap.size w w' := by
  obtain ⟨hr0, hn0, hm0, hA0⟩ := hx0
  obtain ⟨hr1, hn1, hm1, hA1⟩ := hx1
  unfold maxLen at hm0 hm1
  obtain ⟨i0, hi0, hz0, hz1, hz2⟩ := info_parts info_byte
  obtain ⟨m0, hm0'⟩ : ∃ m0 : Nat, m0 = min n0 300 := ⟨_, rfl⟩
  obtain ⟨m1, hm1'⟩ : ∃ m1 : Nat, m1 = min n1 300 := ⟨_, rfl⟩
  have hmin0 : (if (300 : Int) < (n0 : Int) then (300 : Int) else (n0 : Int)) = (m0 : Int) := by split <;> omega
  have hmin1 : (if (300 : Int) < (n1 : Int) then (300 : Int) else (n1 : Int)) = (m1 : Int) := by split <;> omega
  have hle0 : m0 ≤ 300 := by omega
  have hle1 : m1 ≤ 300 := by omega
  have hln0 : m0 ≤ n0 := by omega
  have hln1 : m1 ≤ n1 := by omega
  clear hm0' hm1'
  have hx := hr0.first hln0
  have hy := hr1.first hln1
  have hL0 := hr0.len
  have hL1 := hr1.len
  have hxl : (l0.take m0).length = m0 := by rw [List.length_take]; omega
  have hyl : (l1.take m1).length = m1 := by rw [List.length_take]; omega
  generalize l0.take m0 = x at *
  generalize l1.take m1 = y at *
  have Hxl := Lib.hid hxl
  have Hyl := Lib.hid hyl
  clear hxl hyl hL0 hL1 hr0 hr1
  have hs0 := fun W => run_cut_h (P := Try.prog) W 22 5 i0 Try.underlying22 hi0 A0 n0 c0 .i64 (m0 : Int) m0 rfl (by omega)
  have hs1 := fun W => run_cut_h (P := Try.prog) W 22 5 i0 Try.underlying22 hi0 A1 n1 c1 .i64 (m1 : Int) m1 rfl (by omega)
  go_enter Try.func5, Try.ntmps5
  go_wp2_with (at_builtin
               refine wpList_append_nil w rfl _ _ rfl 5 i0 _ 1 1 Try.underlying22 hi0 hz0 hz1 hz2 rfl (by decide) w.heap.size A0 m0 c0 (x.map bv) hx (by rfl) hA0 (bv_one x) (by omega) (by decide) ?_
               intro B0 d0 w1 hown1 hh1 hB0 hb1)
  refine (text_small B0 m0 d0 x _ hh1 (by omega)).mono ?_
  rintro e w2 ⟨rfl, hb2⟩
  have hb02 := hb1.trans (hb2.mono hb1.size)
  have hy2 := hy.below hb02
  clear hs0 hs1
  go_wp2_with (at_builtin
               refine wpList_append_nil w2 rfl _ _ rfl 5 i0 _ 1 1 Try.underlying22 hi0 hz0 hz1 hz2 rfl (by decide) w.heap.size A1 m1 c1 (y.map bv) hy2 (by rfl) hA1 (bv_one y) (by omega) (by decide) ?_
               intro B1 d1 w3 hown3 hh3 hB1 hb3)
  refine (text_small B1 m1 d1 y _ hh3 (by omega)).mono ?_
  rintro e w4 ⟨rfl, hb4⟩
  have hb04 := (hb02.trans (hb3.mono hb02.size)).trans (hb4.mono (Nat.le_trans hb02.size hb3.size))
  have hex : (enc x).length = (4 * m0 + 2) / 3 := by rw [enc_length, Hxl.out]
  have Hex := Lib.hid hex
  have hexl : (enc x).length ≤ 1200 := by omega
  clear hex
  go_wp2_with fail
  refine (bytes_small (enc x) _ hexl).mono ?_
  rintro e w5 ⟨hb5, ⟨hd, rfl⟩ | ⟨l, A, c, hd, rfl, hown, hl⟩⟩
  · have := dec_enc x
    unfold enc at hd
    rw [this] at hd
    cases hd
  · obtain rfl : x = l := by
      have := dec_enc x
      unfold enc at hd
      rw [this] at hd
      injection hd
    have hb05 := hb04.trans (hb5.mono hb04.size)
    have Hq := Lib.hid (show (enc x == enc y) = (x == y) by
      by_cases h : x = y
      · subst h; simp
      · have h2 : enc x ≠ enc y := fun hh => h (enc_inj _ _ hh)
        rw [beq_eq_false_iff_ne.2 h, beq_eq_false_iff_ne.2 h2])
    have hlq : (((enc x).length : Int) == (4 * (m0 : Int) + 2) / 3) = true := by rw [beq_iff_eq]; have := Hex.out; omega
    have hback := Holds.own hown
    have Hxl2 := Hxl
    clear hd
    rw [Hxl.out] at hback
    have hxm : x.length ≤ 300 := by have := Hxl.out; omega
    have hq := Hq.out
    generalize enc x = ex at *
    generalize enc y = ey at *
    go_wp2_with fail
    refine (sure_any _).mono ?_
    rintro e w6 ⟨rfl, hb6⟩
    have hb06 := hb05.trans (hb6.mono hb05.size)
    go_wp2_with fail
    refine (samekeep_any A A0 x.length m0 c c0 x x _ (by rw [Hxl.out]; exact (hback.below hb6).wider hb6.size) ((hx.below hb06).wider hb06.size) (by omega) (by omega)).mono ?_
    rintro e w7 ⟨rfl, q7, rfl⟩
    have hxx : (x == x) = true := by simp
    rw [hxx]
    have hb07 := below_drewN hb06 q7
    generalize w6.drewN q7 = w7 at *
    go_wp2_with fail
    refine (samekeep_any A0 A1 m0 m1 c0 c1 x y _ ((hx.below hb07).wider hb07.size) ((hy.below hb07).wider hb07.size) (by omega) (by omega)).mono ?_
    rintro e w8 ⟨rfl, q8, rfl⟩
    generalize (x == y) = qq at *
    have hqq : (qq == qq) = true := by simp
    go_wp2_with fail
    go_ret
    exact ⟨rfl, below_drewN hb07 q8⟩
namespace baseBack
open Go.ChangeShapes Go.WideShapes Go.ChangeAt Go.RowKit
theorem own : ownKnob Try.prog.godebug = none := by kernel_rfl
theorem laidOut : laidOutB Try.prog = true := by kernel_rfl
set_option linter.unusedVariables false
set_option maxRecDepth 100000 in
theorem lifted (os : Os) (started : os.Started) (H : Type) (enc : TypeId × Value → H) :
    ReturnsInHanded {} Try.checked os 5 .any (Rows.baseBackSpec.pre6 enc Try.prog Try.f5 Rows.baseBackRow.domain false) (Rows.baseBackSpec.post enc Try.prog Try.f5 false true false false) := by
  refine returnsInHanded_of_change (C := Try.checked) own started (by kernel_rfl) Try.func5
    (ChangeSpec.witness6 (enc := enc) (C := Try.checked) false ⟨#[], #[.slice none 0 0, .slice none 0 0], []⟩ 8 (by kernel_rfl) (by kernel_rfl) (by kernel_rfl) (by kernel_rfl)) ?_
  intro W base args ds gs before hval0 hW hcnd _
  have hval : ∀ (j : Nat) t v, Try.f5.params[j]? = some t → args[j]? = some v → Value.okWide Try.prog W .any base t v := hval0
  have hW' := hW
  obtain ⟨p, q, hA0, hV, rfl, hfz, hnd⟩ := hW
  have hA : DataW.TrodAll enc Try.prog W 0 (fun _ => true) true Try.f5.params.toList args.toList ds p := hA0
  rw [Try.params5] at hA hval
  obtain ⟨v0, vs0, d0, ds0, p0, q0, hargs, rfl, rfl, h0, r0⟩ := trodAll_cons hA
  obtain ⟨v1, vs1, d1, ds1, p1, q1, rfl, rfl, rfl, h1, r1⟩ := trodAll_cons r0
  obtain ⟨rfl, rfl, rfl⟩ := trodAll_nil r1
  obtain rfl : args = #[v0, v1] := by cases args; simp_all
  obtain ⟨rfl, rfl⟩ := trodVars_none hV
  have k0 := h0
  have lt0 : ∀ x ∈ p0, x.block < W.heap.size := by obtain ⟨m, hm⟩ := k0; exact DataW.trod_lt m _ _ _ hm
  obtain ⟨A0, n0, c0, l0, rfl, hx0⟩ := open_bytes Try.underlying22 Try.underlying5 (by kernel_rfl) (hval 0 22 v0 rfl rfl) h0
  have k1 := h1
  have lt1 : ∀ x ∈ p1, x.block < W.heap.size := by obtain ⟨m, hm⟩ := k1; exact DataW.trod_lt m _ _ _ hm
  obtain ⟨A1, n1, c1, l1, rfl, hx1⟩ := open_bytes Try.underlying22 Try.underlying5 (by kernel_rfl) (hval 1 22 v1 rfl rfl) h1
  clear hA0 hval0
  refine (walkBaseBack A0 n0 c0 l0 A1 n1 c1 l1 W hx0 hx1).mono fun e W' ⟨he, bel⟩ => ?_
  subst he
  exact ⟨_, rfl, _, _, _, [], _, [], hW', trodAll_mk1 (shut_bool Try.underlying4 _), (trodAll_cons_mk (Below.trod laidOut (by kernel_rfl) (of_decide_eq_true (by kernel_rfl)) k0 bel lt0) (trodAll_cons_mk (Below.trod laidOut (by kernel_rfl) (of_decide_eq_true (by kernel_rfl)) k1 bel lt1) trodAll_mk0)), rfl, bel.frame _, fun h => by cases h⟩

theorem over : Rows.baseBackRow.holds Try.pinned (OpenSpec.ofChange Rows.baseBackSpec) :=
  OpenClaim.holds_of_wide 5 Try.f5 rfl rfl rfl rfl rfl rfl rfl ⟨rfl, rfl, rfl, rfl, rfl⟩ rfl rfl rfl rfl rfl (by kernel_rfl) Try.func5 (by kernel_rfl)
    (of_decide_eq_true (by kernel_rfl)) (by unfold Func.isWrapper; first | (rw [if_pos (by decide +kernel)]; kernel_rfl) | (rw [if_neg (by decide +kernel)]; exact ⟨rfl, rfl⟩))
    (fun os started H enc _ => lifted os started H enc)

theorem proved : Rows.BaseBackSaid := over
#print axioms proved
end baseBack
end Go.Proofs.Ytgjpbgmlmjkmcaa
