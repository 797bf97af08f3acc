/- Proved here: for every slice of bytes and every number, the encoding holds only the 64 digits, and its first 4k digits are the encoding of the first 3k bytes (statement BaseSigns). No condition. -/
import Derived.Test.YtgjpbgmlmjkmcaaBaseKeep
import Derived.Test.YtgjpbgmlmjkmcaaPicked
import Derived.Test.YtgjpbgmlmjkmcaaOpen
namespace Go.Proofs.Ytgjpbgmlmjkmcaa
open Go.RowKit
set_option linter.unusedVariables false
theorem sign_class (d : Nat) (h : d < 64) : (65 ≤ (dgt d).toNat ∧ (dgt d).toNat ≤ 90) ∨ (97 ≤ (dgt d).toNat ∧ (dgt d).toNat ≤ 122) ∨ (48 ≤ (dgt d).toNat ∧ (dgt d).toNat ≤ 57) ∨ (dgt d).toNat = 43 ∨ (dgt d).toNat = 47 := by
  have : ∀ d : Fin 64, (65 ≤ (dgt d.val).toNat ∧ (dgt d.val).toNat ≤ 90) ∨ (97 ≤ (dgt d.val).toNat ∧ (dgt d.val).toNat ≤ 122) ∨ (48 ≤ (dgt d.val).toNat ∧ (dgt d.val).toNat ≤ 57) ∨ (dgt d.val).toNat = 43 ∨ (dgt d.val).toNat = 47 := by decide +kernel
  exact this ⟨d, h⟩
theorem enc_sign (l : List UInt8) (i : Nat) (h : i < (enc l).length) : (65 ≤ (enc l)[i].toNat ∧ (enc l)[i].toNat ≤ 90) ∨ (97 ≤ (enc l)[i].toNat ∧ (enc l)[i].toNat ≤ 122) ∨ (48 ≤ (enc l)[i].toNat ∧ (enc l)[i].toNat ≤ 57) ∨ (enc l)[i].toNat = 43 ∨ (enc l)[i].toNat = 47 := by
  have h2 : i < (b64 l).length := by simpa [enc] using h
  have e : (enc l)[i] = dgt (b64 l)[i] := by simp [enc]
  rw [e]
  exact sign_class _ (b64_lt l _ (List.getElem_mem h2))
def SignRel (s : List UInt8) (w : World) (gk : Nat) (i : Value) (wr : World) : Prop := ∃ k : Nat, i = .int .i64 k ∧ k ≤ s.length ∧ gk = s.length - k ∧ w = wr

set_option maxHeartbeats 2000000 in
theorem walkBaseSigns (A0 : Option Addr) (n0 c0 : Nat) (l0 : List UInt8) (x1 : Int) (w : World) (hx0 : BytesIn w A0 n0 c0 l0) (hx1 : -9223372036854775808 ≤ x1 ∧ x1 ≤ 9223372036854775807) :
    Calls Try.prog 8 #[.slice A0 n0 c0, .int .i64 x1] w fun e w' => e = .returned (.bool true) ∧ Below w.heap.size w w' := by
  obtain ⟨hr0, hn0, hm0, hA0⟩ := hx0
  unfold maxLen at hm0
  obtain ⟨i0, hi0, hz0, hz1, hz2⟩ := info_parts info_byte
  obtain ⟨m0, hm0'⟩ : ∃ m0 : Nat, m0 = min n0 200 := ⟨_, rfl⟩
  have hmin0 : (if (200 : Int) < (n0 : Int) then (200 : Int) else (n0 : Int)) = (m0 : Int) := by split <;> omega
  have hle0 : m0 ≤ 200 := by omega
  have hln0 : m0 ≤ n0 := by omega
  clear hm0'
  have hx := hr0.first hln0
  have hL0 := hr0.len
  have hxl : (l0.take m0).length = m0 := by rw [List.length_take]; omega
  generalize l0.take m0 = x at *
  have Hxl := Lib.hid hxl
  clear hxl hL0 hr0
  have hs0 := fun W => run_cut_h (P := Try.prog) W 22 5 i0 Try.underlying22 hi0 A0 n0 c0 .i64 (m0 : Int) m0 rfl (by omega)
  go_enter Try.func8, Try.ntmps8
  go_wp2_with (at_builtin
               refine wpList_append_nil w rfl _ _ rfl 5 i0 _ 1 1 Try.underlying22 hi0 hz0 hz1 hz2 rfl (by decide) w.heap.size A0 m0 c0 (x.map bv) hx (by rfl) hA0 (bv_one x) (by omega) (by decide) ?_
               intro B0 d0 w1 hown1 hh1 hB0 hb1)
  refine (text_small B0 m0 d0 x _ hh1 (by omega)).mono ?_
  rintro e w2 ⟨rfl, hb2⟩
  have hb02 := hb1.trans (hb2.mono hb1.size)
  clear hs0
  have hsl := enc_length x
  have hsg := fun i h => enc_sign x i h
  have Hsg := Lib.hid hsg
  have Hspl := Lib.hid (fun (k : Nat) (hk : 3 * k ≤ x.length) => show (enc x).take (4 * k) = enc (x.take (3 * k)) by
    have h3 : (x.take (3 * k)).length = 3 * k := by rw [List.length_take]; omega
    have e := enc_append (x.take (3 * k)) (x.drop (3 * k)) (by rw [h3]; omega)
    rw [List.take_append_drop] at e
    have h4 : (enc (x.take (3 * k))).length = 4 * k := by rw [enc_length, h3]; omega
    rw [e, ← h4, List.take_left])
  rw [Hxl.out] at hsl
  have hsl1 : (enc x).length ≤ 300 := by omega
  have hsl2 : 4 * (m0 / 3) ≤ (enc x).length := by omega
  clear hsl hsg
  generalize enc x = s at *
  go_wp2_with fail
  refine (sure_any _).mono ?_
  rintro e w3 ⟨rfl, hb3⟩
  have hb03 := hb02.trans (hb3.mono hb02.size)
  go_wp2_with fail
  go_loopg [8] s.length (SignRel s w3)
  case atStart => exact ⟨0, rfl, by omega, by omega, rfl⟩
  case round =>
    obtain ⟨k, rfl, hk, hg, rfl⟩ := hrel
    have Hg := Lib.hid hg
    clear hg
    by_cases hlt : k < s.length
    · have hcl := Hsg.out k hlt
      have hix := fun W => run_index_str (P := Try.prog) W 9 s .i64 k Try.underlying9 hlt
      generalize s[k].toNat = v at *
      have hv : (v : Int) ≤ 255 := by omega
      rcases hcl with ⟨g1, g2⟩ | ⟨g1, g2⟩ | ⟨g1, g2⟩ | g1 | g1
      all_goals
        go_wp2_with fail
        go_roundg (s.length - (k + 1))
        case measure => have := Hg.out; omega
        case rel => exact ⟨k + 1, by go_num, by omega, rfl, rfl⟩
    · go_wp2_with fail
      refine (picked_any x1 _ _ (by omega) (by omega)).mono ?_
      rintro e w4 ⟨rfl, rfl⟩
      obtain ⟨q, hq⟩ : ∃ q : Nat, x1 % ((m0 : Int) / 3 + 1) = (q : Int) := ⟨(x1 % ((m0 : Int) / 3 + 1)).toNat, by
        have := Int.emod_nonneg x1 (show (m0 : Int) / 3 + 1 ≠ 0 by omega)
        omega⟩
      have hq3 : q ≤ m0 / 3 := by
        have := Int.emod_lt_of_pos x1 (show (0 : Int) < (m0 : Int) / 3 + 1 by omega)
        omega
      rw [hq]
      clear hq
      have hq4 : 3 * q ≤ m0 := by omega
      have hspl := Hspl.out q (by rw [Hxl.out]; exact hq4)
      have hx3 := (hx.first hq4).below hb03
      have hxl3 : (x.take (3 * q)).length = 3 * q := by rw [List.length_take, Hxl.out]; omega
      have Hx3 := Lib.hid hxl3
      clear hxl3
      generalize x.take (3 * q) = y at *
      have Hy := Lib.hid hspl
      clear hspl
      have hs1 := fun W => run_cut_h (P := Try.prog) W 22 5 i0 Try.underlying22 hi0 A0 m0 c0 .i64 (3 * (q : Int)) (3 * q) (by omega) (by omega)
      go_wp2_with (at_builtin
                   refine wpList_append_nil w3 rfl _ _ rfl 5 i0 _ 1 1 Try.underlying22 hi0 hz0 hz1 hz2 rfl (by decide) w.heap.size A0 (3 * q) c0 (y.map bv) hx3 (by rfl) hA0 (bv_one y) (by omega) (by decide) ?_
                   intro B5 d5 w5 hown5 hh5 hB5 hb5)
      refine (text_small B5 (3 * q) d5 y _ hh5 (by omega)).mono ?_
      rintro e w6 ⟨rfl, hb6⟩
      rw [← Hy.out]
      have hs2 := fun W => run_str_h (P := Try.prog) W 9 Try.underlying9 s .i64 (4 * (q : Int)) (4 * q) (by omega) (by omega)
      generalize s.take (4 * q) = s4 at *
      go_wp2_with fail
      go_ret
      exact ⟨by simp, (hb03.trans (hb5.mono hb03.size)).trans (hb6.mono (Nat.le_trans hb03.size hb5.size))⟩
namespace baseSigns
open Go.ChangeShapes Go.WideShapes Go.ChangeAt Go.RowKit
theorem own : ownKnob Try.prog.godebug = none := by kernel_rfl
theorem laidOut : laidOutB Try.prog = true := by kernel_rfl
set_option linter.unusedVariables false
set_option maxRecDepth 100000 in
theorem lifted (os : Os) (started : os.Started) (H : Type) (enc : TypeId × Value → H) :
    ReturnsInHanded {} Try.checked os 8 .any (Rows.baseSignsSpec.pre6 enc Try.prog Try.f8 Rows.baseSignsRow.domain false) (Rows.baseSignsSpec.post enc Try.prog Try.f8 false true false false) := by
  refine returnsInHanded_of_change (C := Try.checked) own started (by kernel_rfl) Try.func8
    (ChangeSpec.witness6 (enc := enc) (C := Try.checked) false ⟨#[], #[.slice none 0 0, .int .i64 0], []⟩ 8 (by kernel_rfl) (by kernel_rfl) (by kernel_rfl) (by kernel_rfl)) ?_
  intro W base args ds gs before hval0 hW hcnd _
  have hval : ∀ (j : Nat) t v, Try.f8.params[j]? = some t → args[j]? = some v → Value.okWide Try.prog W .any base t v := hval0
  have hW' := hW
  obtain ⟨p, q, hA0, hV, rfl, hfz, hnd⟩ := hW
  have hA : DataW.TrodAll enc Try.prog W 0 (fun _ => true) true Try.f8.params.toList args.toList ds p := hA0
  rw [Try.params8] at hA hval
  obtain ⟨v0, vs0, d0, ds0, p0, q0, hargs, rfl, rfl, h0, r0⟩ := trodAll_cons hA
  obtain ⟨v1, vs1, d1, ds1, p1, q1, rfl, rfl, rfl, h1, r1⟩ := trodAll_cons r0
  obtain ⟨rfl, rfl, rfl⟩ := trodAll_nil r1
  obtain rfl : args = #[v0, v1] := by cases args; simp_all
  obtain ⟨rfl, rfl⟩ := trodVars_none hV
  have k0 := h0
  have lt0 : ∀ x ∈ p0, x.block < W.heap.size := by obtain ⟨m, hm⟩ := k0; exact DataW.trod_lt m _ _ _ hm
  obtain ⟨A0, n0, c0, l0, rfl, hx0⟩ := open_bytes Try.underlying22 Try.underlying5 (by kernel_rfl) (hval 0 22 v0 rfl rfl) h0
  have k1 := h1
  have lt1 : ∀ x ∈ p1, x.block < W.heap.size := by obtain ⟨m, hm⟩ := k1; exact DataW.trod_lt m _ _ _ hm
  obtain ⟨x1, rfl, hx1⟩ := open_i64 Try.underlying3 (hval 1 3 v1 rfl rfl) h1
  clear hA0 hval0
  refine (walkBaseSigns A0 n0 c0 l0 x1 W hx0 hx1).mono fun e W' ⟨he, bel⟩ => ?_
  subst he
  exact ⟨_, rfl, _, _, _, [], _, [], hW', trodAll_mk1 (shut_bool Try.underlying4 _), (trodAll_cons_mk (Below.trod laidOut (by kernel_rfl) (of_decide_eq_true (by kernel_rfl)) k0 bel lt0) (trodAll_cons_mk (Below.trod laidOut (by kernel_rfl) (of_decide_eq_true (by kernel_rfl)) k1 bel lt1) trodAll_mk0)), rfl, bel.frame _, fun h => by cases h⟩

theorem over : Rows.baseSignsRow.holds Try.pinned (OpenSpec.ofChange Rows.baseSignsSpec) :=
  OpenClaim.holds_of_wide 8 Try.f8 rfl rfl rfl rfl rfl rfl rfl ⟨rfl, rfl, rfl, rfl, rfl⟩ rfl rfl rfl rfl rfl (by kernel_rfl) Try.func8 (by kernel_rfl)
    (of_decide_eq_true (by kernel_rfl)) (by unfold Func.isWrapper; first | (rw [if_pos (by decide +kernel)]; kernel_rfl) | (rw [if_neg (by decide +kernel)]; exact ⟨rfl, rfl⟩))
    (fun os started H enc _ => lifted os started H enc)

theorem proved : Rows.BaseSignsSaid := over
#print axioms proved
end baseSigns
end Go.Proofs.Ytgjpbgmlmjkmcaa
