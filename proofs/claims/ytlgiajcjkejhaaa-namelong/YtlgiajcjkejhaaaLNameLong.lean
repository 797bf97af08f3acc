/- Proved here: for every number n, with k = n mod 40, the string of k letters a is a local name and a server name, and a user identifier can be made of it, exactly if k is from 1 to MaxName (statement NameLong). No condition. -/
import Derived.Test.YtlgiajcjkejhaaaNKeep
import Derived.Test.YtlgiajcjkejhaaaOpenI
import Derived.HandedShaped
namespace Go.Proofs.Ytlgiajcjkejhaaa
set_option linter.unusedVariables false
set_option linter.unusedSimpArgs false
open Go.RowKit
attribute [local go_sem high] str_mk
def LongR (k : Nat) (w : World) (gk : Nat) (s i : Value) (wr : World) : Prop :=
  ∃ (j : Nat) (l : List UInt8), s = str l ∧ i = .int .i64 j ∧ j ≤ k ∧ gk = k - j ∧ l = List.replicate j 97 ∧ wr = w
set_option maxRecDepth 100000 in
set_option maxHeartbeats 2000000 in
theorem walkNameLong (x0 : Int) (w : World) (hx0 : -9223372036854775808 ≤ x0 ∧ x0 ≤ 9223372036854775807) (hsh : w.ShapedOpen Try.prog) :
    Calls Try.prog 10 #[.int .i64 x0] w fun e w' => e = .returned (.bool true) ∧ Below w.heap.size w w' := by
  have hg := Gl.of hsh
  clear hsh
  have h0 := Int.emod_nonneg x0 (show (40 : Int) ≠ 0 by decide)
  have h40 := Int.emod_lt_of_pos x0 (show (0 : Int) < 40 by decide)
  obtain ⟨k, hk⟩ : ∃ k : Nat, x0 % 40 = k := ⟨(x0 % 40).toNat, by omega⟩
  have hk40 : k < 40 := by omega
  go_enter Try.func10, Try.ntmps10
  go_wp2_with fail
  refine (picked_any x0 40 _ (by decide) (by decide)).mono ?_
  rintro e w1 ⟨rfl, rfl⟩
  rw [hk]
  clear hk h0 h40
  go_wp2_with fail
  go_loopg [4, 5] k (LongR k w)
  case atStart => exact ⟨0, [], rfl, rfl, by omega, by omega, rfl, rfl⟩
  case round =>
    obtain ⟨j, l, rfl, rfl, hj, hgj, hl, rfl⟩ := hrel
    have Hgj := Lib.hid hgj
    have Hl := Lib.hid hl
    have hll : l.length ≤ 40 := by rw [hl]; simp; omega
    clear hgj hl
    by_cases hlt : j < k
    · have a1 := fun W => run_str_add (P := Try.prog) W 9 l [97] (by simp; omega)
      go_wp2_with fail
      go_roundg (k - (j + 1))
      case measure => have := Hgj.out; omega
      case rel => exact ⟨j + 1, l ++ [97], rfl, by go_num, by omega, rfl, by rw [Hl.out, List.replicate_succ'], rfl⟩
    · have hjk : j = k := by omega
      subst hjk
      have add := fun (x y : List UInt8) (h : x.length + y.length ≤ 1048576) W => run_str_add (P := Try.prog) W 9 x y h
      have a3 := add [64] l (by simp; omega)
      have a4 := add ([64] ++ l) [58] (by simp; omega)
      have a5 := add ([64] ++ l ++ [58]) l (by simp; omega)
      have s1 : user ([64] ++ l ++ [58] ++ l) = if 1 ≤ j ∧ j ≤ 20 then some (l, l) else none := by
        have := rep_user j
        rw [← Hl.out] at this
        simpa using this
      have s2 : loc l = decide (1 ≤ j ∧ j ≤ 20) := by rw [Hl.out]; exact rep_loc j
      have s3 : srv l = decide (1 ≤ j ∧ j ≤ 20) := by rw [Hl.out]; exact rep_srv j
      have l1 : ([64] ++ l ++ [58] ++ l).length ≤ maxLen := by unfold maxLen; simp; omega
      have L1 := Lib.hid l1
      clear add l1
      generalize [64] ++ l ++ [58] ++ l = x1 at *
      generalize [64] ++ l ++ [58] = y1 at *
      generalize [64] ++ l = y2 at *
      by_cases h1 : 1 ≤ j
      · by_cases h2 : j ≤ 20
        · rw [if_pos ⟨h1, h2⟩] at s1
          rw [decide_eq_true ⟨h1, h2⟩] at s2 s3
          have S1 := Lib.hid s1
          have S2 := Lib.hid s2
          have S3 := Lib.hid s3
          clear s1 s2 s3
          go_wp2_with fail
          refine (user_any x1 _ L1.out hg).mono ?_
          rintro e w3 ⟨rfl, hb3⟩
          rw [S1.out]
          simp only [pairV]
          have hg3 := hg.below hb3
          go_wp2_with fail
          refine (local_any l _).mono ?_
          rintro e w4 ⟨rfl, rfl⟩
          rw [S2.out]
          go_wp2_with fail
          refine (server_any l _ hg3).mono ?_
          rintro e w4 ⟨rfl, rfl⟩
          rw [S3.out]
          go_wp2_with fail
          go_ret
          exact ⟨by first | (simp; done) | (simp; omega), hb3⟩
        · rw [if_neg (fun h => h2 h.2)] at s1
          rw [decide_eq_false (fun h => h2 h.2)] at s2 s3
          have S1 := Lib.hid s1
          have S2 := Lib.hid s2
          have S3 := Lib.hid s3
          clear s1 s2 s3
          go_wp2_with fail
          refine (user_any x1 _ L1.out hg).mono ?_
          rintro e w3 ⟨rfl, hb3⟩
          rw [S1.out]
          simp only [pairV]
          have hg3 := hg.below hb3
          go_wp2_with fail
          refine (local_any l _).mono ?_
          rintro e w4 ⟨rfl, rfl⟩
          rw [S2.out]
          go_wp2_with fail
          refine (server_any l _ hg3).mono ?_
          rintro e w4 ⟨rfl, rfl⟩
          rw [S3.out]
          go_wp2_with fail
          go_ret
          exact ⟨by first | (simp; done) | (simp; omega), hb3⟩
      · rw [if_neg (fun h => h1 h.1)] at s1
        rw [decide_eq_false (fun h => h1 h.1)] at s2 s3
        have S1 := Lib.hid s1
        have S2 := Lib.hid s2
        have S3 := Lib.hid s3
        clear s1 s2 s3
        go_wp2_with fail
        refine (user_any x1 _ L1.out hg).mono ?_
        rintro e w3 ⟨rfl, hb3⟩
        rw [S1.out]
        simp only [pairV]
        have hg3 := hg.below hb3
        go_wp2_with fail
        refine (local_any l _).mono ?_
        rintro e w4 ⟨rfl, rfl⟩
        rw [S2.out]
        go_wp2_with fail
        refine (server_any l _ hg3).mono ?_
        rintro e w4 ⟨rfl, rfl⟩
        rw [S3.out]
        go_wp2_with fail
        go_ret
        exact ⟨by first | (simp; done) | (simp; omega), hb3⟩
namespace nameLong
open Go.ChangeShapes Go.WideShapes Go.ChangeAt Go.RowKit
theorem own : ownKnob Try.prog.godebug = none := by kernel_rfl
theorem laidOut : laidOutB Try.prog = true := by kernel_rfl
set_option linter.unusedVariables false
set_option maxRecDepth 100000 in
theorem lifted (os : Os) (started : os.Started) (H : Type) (enc : TypeId × Value → H) :
    ReturnsInHanded {} Try.checked os 10 .any (Rows.nameLongSpec.pre6 enc Try.prog Try.f10 Rows.nameLongRow.domain false) (Rows.nameLongSpec.post enc Try.prog Try.f10 false true false false) := by
  refine returnsInHanded_of_change_shaped (C := Try.checked) own started (by kernel_rfl) Try.func10
    (ChangeSpec.witness6 (enc := enc) (C := Try.checked) false ⟨#[], #[.int .i64 0], []⟩ 8 (by kernel_rfl) (by kernel_rfl) (by kernel_rfl) (by kernel_rfl)) ?_
  intro W base args ds gs before hval0 hW hcnd _ hsh0 _
  have hsh : W.ShapedOpen Try.prog := hsh0
  have hval : ∀ (j : Nat) t v, Try.f10.params[j]? = some t → args[j]? = some v → Value.okWide Try.prog W .any base t v := hval0
  have hW' := hW
  obtain ⟨p, q, hA0, hV, rfl, hfz, hnd⟩ := hW
  have hA : DataW.TrodAll enc Try.prog W 0 (fun _ => true) true Try.f10.params.toList args.toList ds p := hA0
  rw [Try.params10] at hA hval
  obtain ⟨v0, vs0, d0, ds0, p0, q0, hargs, rfl, rfl, h0, r0⟩ := trodAll_cons hA
  obtain ⟨rfl, rfl, rfl⟩ := trodAll_nil r0
  obtain rfl : args = #[v0] := by cases args; simp_all
  obtain ⟨rfl, rfl⟩ := trodVars_none hV
  have k0 := h0
  have lt0 : ∀ x ∈ p0, x.block < W.heap.size := by obtain ⟨m, hm⟩ := k0; exact DataW.trod_lt m _ _ _ hm
  obtain ⟨x0, rfl, hx0⟩ := open_i64 Try.underlying3 (hval 0 3 v0 rfl rfl) h0
  clear hA0 hval0
  refine (walkNameLong x0 W hx0 hsh).mono fun e W' ⟨he, bel⟩ => ?_
  subst he
  exact ⟨_, rfl, _, _, _, [], _, [], hW', trodAll_mk1 (shut_bool Try.underlying4 _), (trodAll_cons_mk (Below.trod laidOut (by kernel_rfl) (of_decide_eq_true (by kernel_rfl)) k0 bel lt0) trodAll_mk0), rfl, bel.frame _, fun h => by cases h⟩

theorem over : Rows.nameLongRow.holds Try.pinned (OpenSpec.ofChange Rows.nameLongSpec) :=
  OpenClaim.holds_of_wide 10 Try.f10 rfl rfl rfl rfl rfl rfl rfl ⟨rfl, rfl, rfl, rfl, rfl⟩ rfl rfl rfl rfl rfl (by kernel_rfl) Try.func10 (by kernel_rfl)
    (of_decide_eq_true (by kernel_rfl)) (by unfold Func.isWrapper; first | (rw [if_pos (by decide +kernel)]; kernel_rfl) | (rw [if_neg (by decide +kernel)]; exact ⟨rfl, rfl⟩))
    (fun os started H enc _ => lifted os started H enc)

theorem proved : Rows.NameLongSaid := over
#print axioms proved
end nameLong
end Go.Proofs.Ytlgiajcjkejhaaa
