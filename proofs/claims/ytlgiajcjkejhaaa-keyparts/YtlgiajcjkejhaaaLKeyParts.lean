/- Proved here: for all lists of numbers, the two names that are made of them make a key identifier with a colon between them, whose two parts they are; it is no user identifier, and with an @ ahead it is no key identifier (statement KeyParts). No condition. -/
import Derived.Test.YtlgiajcjkejhaaaNKeep
import Derived.Test.YtlgiajcjkejhaaaOpenI
import Derived.HandedShaped
namespace Go.Proofs.Ytlgiajcjkejhaaa
set_option linter.unusedVariables false
set_option linter.unusedSimpArgs false
open Go.RowKit
attribute [local go_sem high] str_mk
set_option maxRecDepth 100000 in
set_option maxHeartbeats 2000000 in
theorem walkKeyParts (A0 : Option Addr) (n0 c0 : Nat) (A1 : Option Addr) (n1 c1 : Nat) (w : World) (hx0 : IntsAt w w.heap.size A0 n0 c0) (hx1 : IntsAt w w.heap.size A1 n1 c1) (hsh : w.ShapedOpen Try.prog) :
    Calls Try.prog 9 #[.slice A0 n0 c0, .slice A1 n1 c1] w fun e w' => e = .returned (.bool true) ∧ Below w.heap.size w w' := by
  have hg := Gl.of hsh
  clear hsh
  go_enter Try.func9, Try.ntmps9
  go_wp2_with fail
  refine (nameOfK A0 n0 c0 20 _ _ hx0 (by decide) (by decide)).mono ?_
  rintro e w1 ⟨a, rfl, ha, q1, rfl⟩
  go_wp2_with fail
  refine (nameOfK A1 n1 c1 20 _ _ (show IntsAt (w.drewN q1) _ A1 n1 c1 from hx1) (by decide) (by decide)).mono ?_
  rintro e w2 ⟨b, rfl, hb, q2, rfl⟩
  have hla := ha.2.1
  have hlb := hb.2.1
  have add := fun (x y : List UInt8) (h : x.length + y.length ≤ 1048576) W => run_str_add (P := Try.prog) W 9 x y h
  have a1 := add a [58] (by simp; omega)
  have a2 := add (a ++ [58]) b (by simp; omega)
  have a3 := add [64] a (by simp; omega)
  have a4 := add ([64] ++ a) [58] (by simp; omega)
  have a5 := add ([64] ++ a ++ [58]) b (by simp; omega)
  have s1 : key (a ++ [58] ++ b) = some (a, b) := by simpa using key_mk ha hb
  have s2 : user (a ++ [58] ++ b) = none := by rw [List.append_assoc]; exact user_not ha
  have s3 : key ([64] ++ a ++ [58] ++ b) = none := by simpa using key_not (b := b) ha
  have l1 : (a ++ [58] ++ b).length ≤ maxLen := by unfold maxLen; simp; omega
  have l2 : ([64] ++ a ++ [58] ++ b).length ≤ maxLen := by unfold maxLen; simp; omega
  clear add hla hlb
  generalize a ++ [58] ++ b = x1 at *
  generalize [64] ++ a ++ [58] ++ b = x2 at *
  generalize [64] ++ a ++ [58] = y1 at *
  generalize [64] ++ a = y2 at *
  generalize a ++ [58] = y3 at *
  have S1 := Lib.hid s1
  have S2 := Lib.hid s2
  have S3 := Lib.hid s3
  have L1 := Lib.hid l1
  have L2 := Lib.hid l2
  clear s1 s2 s3 l1 l2
  have hb0 : Below w.heap.size w (w.drewN (q1 + q2)) := below_drewN (Below.refl _ _) _
  go_wp2_with fail
  refine (key_any x1 _ L1.out (hg.drewN _)).mono ?_
  rintro e w3 ⟨rfl, hb3⟩
  have hg3 := (hg.drewN _).below hb3
  rw [S1.out]
  simp only [pairV]
  go_wp2_with fail
  refine (user_any x1 _ L1.out hg3).mono ?_
  rintro e w4 ⟨rfl, hb4⟩
  have hg4 := hg3.below hb4
  rw [S2.out]
  simp only [pairV]
  go_wp2_with fail
  refine (key_any x2 _ L2.out hg4).mono ?_
  rintro e w5 ⟨rfl, hb5⟩
  rw [S3.out]
  simp only [pairV]
  go_wp2_with fail
  go_ret
  have h3 := hb0.trans hb3
  have h4 := h3.trans (hb4.mono h3.size)
  exact ⟨by simp, h4.trans (hb5.mono h4.size)⟩
namespace keyParts
open Go.ChangeShapes Go.WideShapes Go.ChangeAt Go.RowKit
theorem own : ownKnob Try.prog.godebug = none := by kernel_rfl
theorem laidOut : laidOutB Try.prog = true := by kernel_rfl
set_option linter.unusedVariables false
set_option maxRecDepth 100000 in
theorem lifted (os : Os) (started : os.Started) (H : Type) (enc : TypeId × Value → H) :
    ReturnsInHanded {} Try.checked os 9 .any (Rows.keyPartsSpec.pre6 enc Try.prog Try.f9 Rows.keyPartsRow.domain false) (Rows.keyPartsSpec.post enc Try.prog Try.f9 false true false false) := by
  refine returnsInHanded_of_change_shaped (C := Try.checked) own started (by kernel_rfl) Try.func9
    (ChangeSpec.witness6 (enc := enc) (C := Try.checked) false ⟨#[], #[.slice none 0 0, .slice none 0 0], []⟩ 8 (by kernel_rfl) (by kernel_rfl) (by kernel_rfl) (by kernel_rfl)) ?_
  intro W base args ds gs before hval0 hW hcnd _ hsh0 _
  have hsh : W.ShapedOpen Try.prog := hsh0
  have hval : ∀ (j : Nat) t v, Try.f9.params[j]? = some t → args[j]? = some v → Value.okWide Try.prog W .any base t v := hval0
  have hW' := hW
  obtain ⟨p, q, hA0, hV, rfl, hfz, hnd⟩ := hW
  have hA : DataW.TrodAll enc Try.prog W 0 (fun _ => true) true Try.f9.params.toList args.toList ds p := hA0
  rw [Try.params9] at hA hval
  obtain ⟨v0, vs0, d0, ds0, p0, q0, hargs, rfl, rfl, h0, r0⟩ := trodAll_cons hA
  obtain ⟨v1, vs1, d1, ds1, p1, q1, rfl, rfl, rfl, h1, r1⟩ := trodAll_cons r0
  obtain ⟨rfl, rfl, rfl⟩ := trodAll_nil r1
  obtain rfl : args = #[v0, v1] := by cases args; simp_all
  obtain ⟨rfl, rfl⟩ := trodVars_none hV
  have k0 := h0
  have lt0 : ∀ x ∈ p0, x.block < W.heap.size := by obtain ⟨m, hm⟩ := k0; exact DataW.trod_lt m _ _ _ hm
  obtain ⟨A0, n0, c0, rfl, hx0⟩ := open_intsl Try.underlying26 Try.underlying3 (by kernel_rfl) (hval 0 26 v0 rfl rfl) h0
  have k1 := h1
  have lt1 : ∀ x ∈ p1, x.block < W.heap.size := by obtain ⟨m, hm⟩ := k1; exact DataW.trod_lt m _ _ _ hm
  obtain ⟨A1, n1, c1, rfl, hx1⟩ := open_intsl Try.underlying26 Try.underlying3 (by kernel_rfl) (hval 1 26 v1 rfl rfl) h1
  clear hA0 hval0
  refine (walkKeyParts A0 n0 c0 A1 n1 c1 W hx0 hx1 hsh).mono fun e W' ⟨he, bel⟩ => ?_
  subst he
  exact ⟨_, rfl, _, _, _, [], _, [], hW', trodAll_mk1 (shut_bool Try.underlying4 _), (trodAll_cons_mk (Below.trod laidOut (by kernel_rfl) (of_decide_eq_true (by kernel_rfl)) k0 bel lt0) (trodAll_cons_mk (Below.trod laidOut (by kernel_rfl) (of_decide_eq_true (by kernel_rfl)) k1 bel lt1) trodAll_mk0)), rfl, bel.frame _, fun h => by cases h⟩

theorem over : Rows.keyPartsRow.holds Try.pinned (OpenSpec.ofChange Rows.keyPartsSpec) :=
  OpenClaim.holds_of_wide 9 Try.f9 rfl rfl rfl rfl rfl rfl rfl ⟨rfl, rfl, rfl, rfl, rfl⟩ rfl rfl rfl rfl rfl (by kernel_rfl) Try.func9 (by kernel_rfl)
    (of_decide_eq_true (by kernel_rfl)) (by unfold Func.isWrapper; first | (rw [if_pos (by decide +kernel)]; kernel_rfl) | (rw [if_neg (by decide +kernel)]; exact ⟨rfl, rfl⟩))
    (fun os started H enc _ => lifted os started H enc)

theorem proved : Rows.KeyPartsSaid := over
#print axioms proved
end keyParts
end Go.Proofs.Ytlgiajcjkejhaaa
