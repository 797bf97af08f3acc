/- Proved here: for all lists of numbers, the two server names that are made of them make a server name with a dot or a dash between them, and none of the forms with '..', '-.', a dot ahead or a dash behind is one (statement ServerParts). No condition. -/
import Derived.Test.YtlgiajcjkejhaaaNKeep
import Derived.Test.YtlgiajcjkejhaaaOpenI
import Derived.HandedShaped
namespace Go.Proofs.Ytlgiajcjkejhaaa
set_option linter.unusedVariables false
set_option linter.unusedSimpArgs false
open Go.RowKit
attribute [local go_sem high] str_mk
set_option maxRecDepth 100000 in
set_option maxHeartbeats 2000000 in
theorem walkServerParts (A0 : Option Addr) (n0 c0 : Nat) (A1 : Option Addr) (n1 c1 : Nat) (w : World) (hx0 : IntsAt w w.heap.size A0 n0 c0) (hx1 : IntsAt w w.heap.size A1 n1 c1) (hsh : w.ShapedOpen Try.prog) :
    Calls Try.prog 8 #[.slice A0 n0 c0, .slice A1 n1 c1] w fun e w' => e = .returned (.bool true) ∧ Below w.heap.size w w' := by
  have hg := Gl.of hsh
  clear hsh
  go_enter Try.func8, Try.ntmps8
  go_wp2_with fail
  refine (nameOfK A0 n0 c0 9 _ _ hx0 (by decide) (by decide)).mono ?_
  rintro e w1 ⟨a, rfl, ha, q1, rfl⟩
  go_wp2_with fail
  refine (nameOfK A1 n1 c1 9 _ _ (show IntsAt (w.drewN q1) _ A1 n1 c1 from hx1) (by decide) (by decide)).mono ?_
  rintro e w2 ⟨b, rfl, hb, q2, rfl⟩
  have hla := ha.2.1
  have hlb := hb.2.1
  have add := fun (x y : List UInt8) (h : x.length + y.length ≤ 1048576) W => run_str_add (P := Try.prog) W 9 x y h
  have a1 := add a [46] (by simp; omega)
  have a2 := add (a ++ [46]) b (by simp; omega)
  have a3 := add a [46, 46] (by simp; omega)
  have a4 := add (a ++ [46, 46]) b (by simp; omega)
  have a5 := add [46] a (by simp; omega)
  have a6 := add b [45] (by simp; omega)
  have a7 := add a [45] (by simp; omega)
  have a8 := add (a ++ [45]) b (by simp; omega)
  have a9 := add a [45, 46] (by simp; omega)
  have a10 := add (a ++ [45, 46]) b (by simp; omega)
  have s1 : srv (a ++ [46] ++ b) = true := by simpa using srv_mid ha hb 46 (.inl rfl)
  have s2 : srv (a ++ [46, 46] ++ b) = false := by simpa using srv_bad a b 46 (.inl rfl)
  have s3 : srv ([46] ++ a) = false := srv_head a
  have s4 : srv (b ++ [45]) = false := srv_last b
  have s5 : srv (a ++ [45] ++ b) = true := by simpa using srv_mid ha hb 45 (.inr rfl)
  have s6 : srv (a ++ [45, 46] ++ b) = false := by simpa using srv_bad a b 45 (.inr rfl)
  clear add hla hlb
  generalize a ++ [46] ++ b = x1 at *
  generalize a ++ [46, 46] ++ b = x2 at *
  generalize [46] ++ a = x3 at *
  generalize b ++ [45] = x4 at *
  generalize a ++ [45] ++ b = x5 at *
  generalize a ++ [45, 46] ++ b = x6 at *
  generalize a ++ [46] = y1 at *
  generalize a ++ [46, 46] = y2 at *
  generalize a ++ [45] = y3 at *
  generalize a ++ [45, 46] = y4 at *
  have S1 := Lib.hid s1
  have S2 := Lib.hid s2
  have S3 := Lib.hid s3
  have S4 := Lib.hid s4
  have S5 := Lib.hid s5
  have S6 := Lib.hid s6
  clear s1 s2 s3 s4 s5 s6
  go_wp2_with fail
  refine (server_any x1 _ (hg.drewN _)).mono ?_
  rintro e w2 ⟨rfl, rfl⟩
  rw [S1.out]
  go_wp2_with fail
  refine (server_any x2 _ (hg.drewN _)).mono ?_
  rintro e w2 ⟨rfl, rfl⟩
  rw [S2.out]
  go_wp2_with fail
  refine (server_any x3 _ (hg.drewN _)).mono ?_
  rintro e w2 ⟨rfl, rfl⟩
  rw [S3.out]
  go_wp2_with fail
  refine (server_any x4 _ (hg.drewN _)).mono ?_
  rintro e w2 ⟨rfl, rfl⟩
  rw [S4.out]
  go_wp2_with fail
  refine (server_any x5 _ (hg.drewN _)).mono ?_
  rintro e w2 ⟨rfl, rfl⟩
  rw [S5.out]
  go_wp2_with fail
  refine (server_any x6 _ (hg.drewN _)).mono ?_
  rintro e w2 ⟨rfl, rfl⟩
  rw [S6.out]
  go_wp2_with fail
  go_ret
  exact ⟨rfl, below_drewN (Below.refl _ _) _⟩
namespace serverParts
open Go.ChangeShapes Go.WideShapes Go.ChangeAt Go.RowKit
theorem own : ownKnob Try.prog.godebug = none := by kernel_rfl
theorem laidOut : laidOutB Try.prog = true := by kernel_rfl
set_option linter.unusedVariables false
set_option maxRecDepth 100000 in
theorem lifted (os : Os) (started : os.Started) (H : Type) (enc : TypeId × Value → H) :
    ReturnsInHanded {} Try.checked os 8 .any (Rows.serverPartsSpec.pre6 enc Try.prog Try.f8 Rows.serverPartsRow.domain false) (Rows.serverPartsSpec.post enc Try.prog Try.f8 false true false false) := by
  refine returnsInHanded_of_change_shaped (C := Try.checked) own started (by kernel_rfl) Try.func8
    (ChangeSpec.witness6 (enc := enc) (C := Try.checked) false ⟨#[], #[.slice none 0 0, .slice none 0 0], []⟩ 8 (by kernel_rfl) (by kernel_rfl) (by kernel_rfl) (by kernel_rfl)) ?_
  intro W base args ds gs before hval0 hW hcnd _ hsh0 _
  have hsh : W.ShapedOpen Try.prog := hsh0
  have hval : ∀ (j : Nat) t v, Try.f8.params[j]? = some t → args[j]? = some v → Value.okWide Try.prog W .any base t v := hval0
  have hW' := hW
  obtain ⟨p, q, hA0, hV, rfl, hfz, hnd⟩ := hW
  have hA : DataW.TrodAll enc Try.prog W 0 (fun _ => true) true Try.f8.params.toList args.toList ds p := hA0
  rw [Try.params8] at hA hval
  obtain ⟨v0, vs0, d0, ds0, p0, q0, hargs, rfl, rfl, h0, r0⟩ := trodAll_cons hA
  obtain ⟨v1, vs1, d1, ds1, p1, q1, rfl, rfl, rfl, h1, r1⟩ := trodAll_cons r0
  obtain ⟨rfl, rfl, rfl⟩ := trodAll_nil r1
  obtain rfl : args = #[v0, v1] := by cases args; simp_all
  obtain ⟨rfl, rfl⟩ := trodVars_none hV
  have k0 := h0
  have lt0 : ∀ x ∈ p0, x.block < W.heap.size := by obtain ⟨m, hm⟩ := k0; exact DataW.trod_lt m _ _ _ hm
  obtain ⟨A0, n0, c0, rfl, hx0⟩ := open_intsl Try.underlying26 Try.underlying3 (by kernel_rfl) (hval 0 26 v0 rfl rfl) h0
  have k1 := h1
  have lt1 : ∀ x ∈ p1, x.block < W.heap.size := by obtain ⟨m, hm⟩ := k1; exact DataW.trod_lt m _ _ _ hm
  obtain ⟨A1, n1, c1, rfl, hx1⟩ := open_intsl Try.underlying26 Try.underlying3 (by kernel_rfl) (hval 1 26 v1 rfl rfl) h1
  clear hA0 hval0
  refine (walkServerParts A0 n0 c0 A1 n1 c1 W hx0 hx1 hsh).mono fun e W' ⟨he, bel⟩ => ?_
  subst he
  exact ⟨_, rfl, _, _, _, [], _, [], hW', trodAll_mk1 (shut_bool Try.underlying4 _), (trodAll_cons_mk (Below.trod laidOut (by kernel_rfl) (of_decide_eq_true (by kernel_rfl)) k0 bel lt0) (trodAll_cons_mk (Below.trod laidOut (by kernel_rfl) (of_decide_eq_true (by kernel_rfl)) k1 bel lt1) trodAll_mk0)), rfl, bel.frame _, fun h => by cases h⟩

theorem over : Rows.serverPartsRow.holds Try.pinned (OpenSpec.ofChange Rows.serverPartsSpec) :=
  OpenClaim.holds_of_wide 8 Try.f8 rfl rfl rfl rfl rfl rfl rfl ⟨rfl, rfl, rfl, rfl, rfl⟩ rfl rfl rfl rfl rfl (by kernel_rfl) Try.func8 (by kernel_rfl)
    (of_decide_eq_true (by kernel_rfl)) (by unfold Func.isWrapper; first | (rw [if_pos (by decide +kernel)]; kernel_rfl) | (rw [if_neg (by decide +kernel)]; exact ⟨rfl, rfl⟩))
    (fun os started H enc _ => lifted os started H enc)

theorem proved : Rows.ServerPartsSaid := over
#print axioms proved
end serverParts
end Go.Proofs.Ytlgiajcjkejhaaa
