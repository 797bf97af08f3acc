/- Proved here: for every list of raw numbers and every number, a disk that is trimmed has a first part of what it had, all of it synced; a trim that is refused leaves it (statement DiskTrim). No condition. -/
import Derived.Test.YthkbeliplibiaaaDkFar
import Derived.Test.YthkbeliplibiaaaRows
import Derived.ChangeSame
namespace Go.Proofs.Ythkbeliplibiaaa
set_option linter.unusedVariables false
set_option linter.unusedSimpArgs false
open Go.RowKit
theorem dk_trim (ms : List Mv) (k : Nat) (h : k ≤ (plays0 ms).2.1.length) : (plays0 (ms ++ [Mv.mk 3 [] (k : Int)])).2 = ((plays0 ms).2.1.take k, k) := by
  rw [plays0_snoc, mv_trim (k := k) rfl rfl h]
theorem dk_trim_no (ms : List Mv) (k : Nat) (h : ¬ k ≤ (plays0 ms).2.1.length) : (plays0 (ms ++ [Mv.mk 3 [] (k : Int)])).2 = (plays0 ms).2 := by
  rw [plays0_snoc, mv_trim_bad rfl (.inr (by show ((plays0 ms).2.1.length : Int) < (k : Int); omega))]
set_option maxRecDepth 100000 in
set_option maxHeartbeats 2000000 in
theorem walkDiskTrim (A0 : Option Addr) (n0 c0 : Nat) (x1 : Int) (w : World) (hx0 : IntsAt w w.heap.size A0 n0 c0) (hx1 : -9223372036854775808 ≤ x1 ∧ x1 ≤ 9223372036854775807) :
    Calls Try.prog 8 #[.slice A0 n0 c0, .int .i64 x1] w fun e w' => e = .returned (.bool true) ∧ Below w.heap.size w w' := by
  have H0 := Lib.hid (moves_any A0 n0 c0 w.heap.size 60 w hx0 (Nat.le_refl _) (by decide))
  clear hx0 hx1
  obtain ⟨i0, hi0, hz0, hz1, hz2⟩ := info_parts info_u8
  go_enter Try.func8, Try.ntmps8
  go_wp2_with fail
  refine H0.out.mono ?_
  rintro e w1 ⟨ms, Am, cm, rfl, hml, _, hown, hbe1⟩
  obtain ⟨hin1, _⟩ := hown.far.inn
  have Hin1 := Lib.hid hin1
  have Hbe1 := Lib.hid hbe1
  have hs1 := hbe1.size
  clear hown hin1 hbe1 H0
  have H1 := Lib.hid (moved_any Am ms.length cm _ ms w1 Hin1.out (Nat.le_refl _) (by omega))
  go_wp2_with fail
  refine H1.out.mono ?_
  rintro e w2 ⟨Aa, ca, rfl, hoa, hbe2⟩
  have Hoa := Lib.hid hoa
  have Hbe2 := Lib.hid hbe2
  have hs2 := hbe2.size
  have Hin2 := Lib.hid (Hin1.out.below hbe2)
  clear hoa hbe2 H1 Hin1
  have hok := (plays0_ok ms).2
  obtain ⟨L, hL⟩ : ∃ L, (plays0 ms).2.1.length = L := ⟨_, rfl⟩
  rw [hL] at hok Hoa ⊢
  have HL := Lib.hid hL
  clear hL
  have hk0 := Int.emod_nonneg x1 (show ((L : Int) + 3) ≠ 0 by omega)
  have hk1 := Int.emod_lt_of_pos x1 (show (0 : Int) < (L : Int) + 3 by omega)
  obtain ⟨k, hk⟩ : ∃ k : Nat, x1 % ((L : Int) + 3) = (k : Int) := ⟨(x1 % ((L : Int) + 3)).toNat, by omega⟩
  have Hk := Lib.hid hk
  have hkL : k < L + 3 := by omega
  clear hk0 hk1 hk
  go_wp2_with fail
  refine (picked_any x1 ((L : Int) + 3) _ (by omega) (by omega)).mono ?_
  rintro e w3 ⟨rfl, rfl⟩
  rw [Hk.out]
  have hl2 : ms.length ≤ 1048576 := by omega
  have hl3 : ms.length + 1 ≤ 1048576 := by omega
  go_wp2_with (first
    | (at_builtin; refine wpList_farCopy (by rfl) _ (by rfl) _ Am ms.length cm ms Hin2.out (by rfl) hs2 hl2 ?_; clear Hin2; intro A4 c4 w4 hf4 hbe4; have Hf4 := Lib.hid hf4; have hm4 : MIn w4 (fun b => b < w4.heap.size ∧ some b ≠ (Value.slice A4 ms.length c4).ownBlock) (Mv.mk 3 [] (k : Int)) [.int .i64 3, .slice none 0 0, .int .i64 (k : Int)] := min_nil _ _ _ _ (by decide) (by omega); have Hm4 := Lib.hid hm4; have Hbe4 := Lib.hid hbe4; have hs4 := hbe4.size; clear hf4 hm4 hbe4)
    | (at_builtin; refine wpList_farPut (by rfl) _ _ (by rfl) w2.heap.size _ ms (Mv.mk 3 [] (k : Int)) _ (by rfl) Hf4.out Hm4.out _ (by rfl) _ (by rfl) (by rfl) hl3 hs4 ?_; clear Hf4 Hm4; intro v5 w5 hf5 hbe5 _; obtain ⟨M, hM⟩ : ∃ M, ms ++ [Mv.mk 3 [] (k : Int)] = M := ⟨_, rfl⟩; rw [hM] at hf5; obtain ⟨A5, c5, rfl⟩ := hf5.form; have Hf5 := Lib.hid hf5; have Hbe5 := Lib.hid hbe5; have HM := Lib.hid hM; clear hf5 hbe5 hM))
  have hMl : M.length ≤ 61 := by rw [← HM.out]; simp; omega
  have hb5 : Below w2.heap.size w2 w5 := Hbe4.out.trans Hbe5.out
  have hs5 := hb5.size
  have Hoa5 := Lib.hid (own_belowS Hoa.out hb5)
  have Hin5 := Lib.hid Hf5.out.inn.1
  have Hw5 := Lib.hid (Hbe1.out.trans ((Hbe2.out.mono hs1).trans (hb5.mono (Nat.le_trans hs1 hs2))))
  have H5 := Lib.hid (moved_any A5 M.length c5 _ M w5 Hin5.out (Nat.le_refl _) (by omega))
  clear Hbe4 Hbe5 Hoa hb5 Hf5 Hbe1 Hbe2
  refine H5.out.mono ?_
  rintro e w6 ⟨Ab, cb, rfl, hob, hbe6⟩
  have hs6 := hbe6.size
  have H6 := Lib.hid (held_any A5 M.length c5 _ M w6 (Hin5.out.below hbe6) hs6 (by omega))
  have Hoa6 := Lib.hid (own_belowS Hoa5.out hbe6)
  have Hob := Lib.hid hob
  have Hw6 := Lib.hid (Hw5.out.trans (hbe6.mono Hw5.out.size))
  clear hob hbe6 Hoa5 Hin5 H5 Hw5
  by_cases hkl : k ≤ L
  · have hpl := dk_trim ms k (by rw [HL.out]; exact hkl)
    rw [HM.out] at hpl
    have hlen : ((plays0 ms).2.1.take k).length = k := by rw [List.length_take, HL.out]; omega
    rw [hpl] at Hob H6 ⊢
    simp only [hlen] at Hob H6 ⊢
    clear hpl hlen
    have hkb : ¬ ((L : Int) < (k : Int)) := by omega
    go_wp2_with fail
    refine H6.out.mono ?_
    rintro e w7 ⟨rfl, hbe7⟩
    have hob7 := own_belowS Hob.out hbe7
    have hoa7 := own_belowS Hoa6.out hbe7
    have hcap : k ≤ ca := by
      rcases hoa7.2 with ⟨hv, hn⟩ | ⟨g, cap, cur, hv, _, _, hnc, _⟩
      · omega
      · injection hv with _ _ hc; omega
    have hs0 := fun W => run_cut_h (P := Try.prog) W 24 5 i0 Try.underlying24 hi0 Aa L ca .i64 (k : Int) k rfl hcap
    have HS := Lib.hid (samekeep_any Ab Aa k k cb ca ((plays0 ms).2.1.take k) ((plays0 ms).2.1.take k) w7 (Holds.own hob7) ((Holds.own hoa7).first hkl) (by omega) (by omega))
    have Hw7 := Lib.hid (Hw6.out.trans (hbe7.mono Hw6.out.size))
    clear hbe7 hob7 hoa7 Hob Hoa6 H6
    go_wp2_with fail
    refine HS.out.mono ?_
    rintro e w8 ⟨rfl, kk, rfl⟩
    rw [beq_self_eq_true]
    go_wp2_with fail
    go_ret
    exact ⟨by simp, below_drewN Hw7.out _⟩
  · have hpl := dk_trim_no ms k (by rw [HL.out]; exact hkl)
    rw [HM.out] at hpl
    rw [hpl] at Hob H6 ⊢
    rw [HL.out] at Hob H6 ⊢
    clear hpl
    have hkb : (L : Int) < (k : Int) := by omega
    go_wp2_with fail
    refine H6.out.mono ?_
    rintro e w7 ⟨rfl, hbe7⟩
    have hob7 := own_belowS Hob.out hbe7
    have hoa7 := own_belowS Hoa6.out hbe7
    have HS := Lib.hid (samekeep_any Aa Ab L L ca cb (plays0 ms).2.1 (plays0 ms).2.1 w7 (Holds.own hoa7) (Holds.own hob7) (by omega) (by omega))
    have Hw7 := Lib.hid (Hw6.out.trans (hbe7.mono Hw6.out.size))
    clear hbe7 hob7 hoa7 Hob Hoa6 H6
    go_wp2_with fail
    refine HS.out.mono ?_
    rintro e w8 ⟨rfl, kk, rfl⟩
    go_wp2_with fail
    go_ret
    exact ⟨by simp, below_drewN Hw7.out _⟩
namespace diskTrim
open Go.ChangeShapes Go.WideShapes Go.ChangeAt Go.RowKit
theorem own : ownKnob Try.prog.godebug = none := by kernel_rfl
theorem laidOut : laidOutB Try.prog = true := by kernel_rfl
set_option linter.unusedVariables false
set_option maxRecDepth 100000 in
theorem lifted (os : Os) (started : os.Started) (H : Type) (enc : TypeId × Value → H) :
    ReturnsInHanded {} Try.checked os 8 .any (Rows.diskTrimSpec.pre6 enc Try.prog Try.f8 Rows.diskTrimRow.domain false) (Rows.diskTrimSpec.post enc Try.prog Try.f8 false true false false) := by
  refine returnsInHanded_of_change (C := Try.checked) own started (by kernel_rfl) Try.func8
    (ChangeSpec.witness6 (enc := enc) (C := Try.checked) false ⟨#[], #[.slice none 0 0, .int .i64 0], []⟩ 8 (by kernel_rfl) (by kernel_rfl) (by kernel_rfl) (by kernel_rfl)) ?_
  intro W base args ds gs before hval0 hW hcnd _
  have hval : ∀ (j : Nat) t v, Try.f8.params[j]? = some t → args[j]? = some v → Value.okWide Try.prog W .any base t v := hval0
  have hW' := hW
  obtain ⟨p, q, hA0, hV, rfl, hfz, hnd⟩ := hW
  have hA : DataW.TrodAll enc Try.prog W 0 (fun _ => true) true Try.f8.params.toList args.toList ds p := hA0
  rw [Try.params8] at hA hval
  obtain ⟨v0, vs0, d0, ds0, p0, q0, hargs, rfl, rfl, h0, rr0⟩ := trodAll_cons hA
  obtain ⟨v1, vs1, d1, ds1, p1, q1, rfl, rfl, rfl, h1, rr1⟩ := trodAll_cons rr0
  obtain ⟨rfl, rfl, rfl⟩ := trodAll_nil rr1
  obtain rfl : args = #[v0, v1] := by cases args; simp_all
  obtain ⟨rfl, rfl⟩ := trodVars_none hV
  have k0 := h0
  have lt0 : ∀ x ∈ p0, x.block < W.heap.size := by obtain ⟨m, hm⟩ := k0; exact DataW.trod_lt m _ _ _ hm
  obtain ⟨A0, n0, c0, rfl, hx0⟩ := open_intsl Try.underlying34 Try.underlying3 (by kernel_rfl) (hval 0 34 v0 rfl rfl) h0
  have k1 := h1
  have lt1 : ∀ x ∈ p1, x.block < W.heap.size := by obtain ⟨m, hm⟩ := k1; exact DataW.trod_lt m _ _ _ hm
  obtain ⟨x1, rfl, hx1⟩ := open_i64 Try.underlying3 (hval 1 3 v1 rfl rfl) h1
  clear hA0 hval0
  refine (walkDiskTrim A0 n0 c0 x1 W hx0 hx1).mono fun e W' ⟨he, bel⟩ => ?_
  subst he
  exact ⟨_, rfl, _, _, _, [], _, [], hW', trodAll_mk1 (shut_bool Try.underlying4 _), (trodAll_cons_mk (Below.trod laidOut (by kernel_rfl) (of_decide_eq_true (by kernel_rfl)) k0 bel lt0) (trodAll_cons_mk (Below.trod laidOut (by kernel_rfl) (of_decide_eq_true (by kernel_rfl)) k1 bel lt1) trodAll_mk0)), rfl, bel.frame _, fun h => by cases h⟩

theorem over : Rows.diskTrimRow.holds Try.pinned (OpenSpec.ofChange Rows.diskTrimSpec) :=
  OpenClaim.holds_of_wide 8 Try.f8 rfl rfl rfl rfl rfl rfl rfl ⟨rfl, rfl, rfl, rfl, rfl⟩ rfl rfl rfl rfl rfl (by kernel_rfl) Try.func8 (by kernel_rfl)
    (of_decide_eq_true (by kernel_rfl)) (by unfold Func.isWrapper; first | (rw [if_pos (by decide +kernel)]; kernel_rfl) | (rw [if_neg (by decide +kernel)]; exact ⟨rfl, rfl⟩))
    (fun os started H enc _ => lifted os started H enc)

theorem proved : Rows.DiskTrimSaid := over
#print axioms proved
end diskTrim
end Go.Proofs.Ythkbeliplibiaaa
