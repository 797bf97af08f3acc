/- Proved here: for every list of moves (all together of bulk at most 1048576), disk.Held answers as the document's own function does (statement DiskHelds, its Upto form). -/
import Derived.Test.YthkbeliplibiaaaDkRef
import Derived.Test.YthkbeliplibiaaaOpenM
import Derived.Test.YthkbeliplibiaaaRows
import Derived.Deep.DeepHandedRow
namespace Go.Proofs.Ythkbeliplibiaaa
set_option linter.unusedVariables false
set_option linter.unusedSimpArgs false
open Go.RowKit
set_option maxRecDepth 100000 in
set_option maxHeartbeats 2000000 in
theorem walkDiskHelds (A0 : Option Addr) (n0 c0 : Nat) (m0 : List Mv) (w : World) (hx0 : MvsIn w w.heap.size A0 n0 c0 m0 ∧ n0 ≤ 1048576) :
    Calls Try.prog 4 #[.slice A0 n0 c0] w fun e w' => e = .returned (.bool true) ∧ Below w.heap.size w w' := by
  obtain ⟨hl, hn⟩ := hx0
  by_cases h100 : n0 ≤ 100
  · have H1 := Lib.hid (held_any A0 n0 c0 w.heap.size m0 w hl (Nat.le_refl _) h100)
    have Hl := Lib.hid hl
    have hok := plays0_ok m0
    have hsl := safe_len hok
    have hol := open_len (plays0 m0).2
    obtain ⟨L, hL⟩ : ∃ L, (plays0 m0).2.1.length = L := ⟨_, rfl⟩
    obtain ⟨Y, hY⟩ : ∃ Y, (plays0 m0).2.2 = Y := ⟨_, rfl⟩
    obtain ⟨hok1, hok2⟩ := hok
    rw [hL] at hol hok1 hok2 H1
    rw [hY] at hsl hol hok1 H1
    have Hsl := Lib.hid hsl
    have Hol := Lib.hid hol
    clear hl hL hY hsl hol
    go_enter Try.func4, Try.ntmps4
    go_wp2_with fail
    refine H1.out.mono ?_
    rintro e w1 ⟨rfl, hbe1⟩
    have H2 := Lib.hid (ref_any A0 n0 c0 w.heap.size m0 w1 (Hl.out.below hbe1) hbe1.size h100)
    have Hbe1 := Lib.hid hbe1
    have hs1 := hbe1.size
    clear hbe1 H1
    go_wp2_with fail
    refine H2.out.mono ?_
    rintro e w2 ⟨A, c, As, cs, Ao, co, rfl, _, _, _, hbe2⟩
    have Hw := Lib.hid (Hbe1.out.trans (hbe2.mono hs1))
    clear hbe2 H2 Hbe1
    rw [Hsl.out, Hol.out]
    obtain ⟨M, hM⟩ : ∃ M : Nat, L - Y = M := ⟨_, rfl⟩
    rw [hM]
    have hLe : L = Y + M := by omega
    subst hLe
    clear hM
    go_wp2_with fail
    go_ret
    exact ⟨by simp, Hw.out⟩
  · have H1 := Lib.hid (fun W => held_long A0 n0 c0 W h100)
    have H2 := Lib.hid (fun W => ref_long A0 n0 c0 W h100)
    clear hl
    go_enter Try.func4, Try.ntmps4
    go_wp2_with fail
    refine (H1.out _).mono ?_
    rintro e w1 ⟨rfl, rfl⟩
    go_wp2_with fail
    refine (H2.out _).mono ?_
    rintro e w1 ⟨rfl, rfl⟩
    go_wp2_with fail
    go_ret
    exact ⟨by simp, Below.refl _ _⟩
namespace diskHelds
open Go.ChangeShapes Go.WideShapes Go.ChangeAt Go.RowKit
theorem own : ownKnob Try.prog.godebug = none := by kernel_rfl
theorem laidOut : laidOutB Try.prog = true := by kernel_rfl
set_option linter.unusedVariables false
theorem laid_met (os : Os) : laidMet Try.prog Rows.diskHeldsUptoRow.laid ((World.holding Try.prog os ⟨#[], #[], []⟩).forCall (fun _ _ => 0) ⟨#[], #[.slice none 0 0], []⟩).memory :=
  laidMet_of_run' 8 (by kernel_rfl) (by kernel_rfl)
theorem reads (os : Os) {H : Type} (enc : TypeId × Value → H) : ∃ places, DataW.whole enc Try.prog ((World.holding Try.prog os ⟨#[], #[], []⟩).forCall (fun _ _ => 0) ⟨#[], #[.slice none 0 0], []⟩).memory Try.f4.params.toList Rows.diskHeldsSpec.vars false #[Value.slice none 0 0].toList 8 = some ([.nil], [], places) :=
  ⟨[], by kernel_rfl⟩
set_option maxRecDepth 100000 in
theorem contract (H : Type) (enc : TypeId × Value → H) (W : World) (base : Nat) (args : Array Value) (ds gs : List (DataW H)) (before : List MemPlace)
    (hval0 : ∀ (j : Nat) t v, Try.f4.params[j]? = some t → args[j]? = some v → Value.okWide Try.prog W .any base t v)
    (hW : DataW.Whole enc Try.prog Try.f4.params.toList Rows.diskHeldsSpec.vars false W args.toList ds gs before) (hL : laidMetH Try.prog Rows.diskHeldsUptoRow.laid W) (hk : Rows.uptoSmall H (ds ++ gs) = true) :
    Calls Try.prog 4 args W fun e W' => ∃ v, e = .returned v ∧ Rows.diskHeldsSpec.post enc Try.prog Try.f4 false true false false W args v W' := by
  have hval : ∀ (j : Nat) t v, Try.f4.params[j]? = some t → args[j]? = some v → Value.okWide Try.prog W .any base t v := hval0
  have hW' := hW
  obtain ⟨p, q, hA0, hV, rfl, hfz, hnd⟩ := hW
  have hA : DataW.TrodAll enc Try.prog W 0 (fun _ => true) true Try.f4.params.toList args.toList ds p := hA0
  rw [Try.params4] at hA hval
  obtain ⟨v0, vs0, d0, ds0, p0, q0, hargs, rfl, rfl, h0, rr0⟩ := trodAll_cons hA
  obtain ⟨rfl, rfl, rfl⟩ := trodAll_nil rr0
  obtain rfl : args = #[v0] := by cases args; simp_all
  obtain ⟨rfl, rfl⟩ := trodVars_none hV
  have k0 := h0
  have lt0 : ∀ x ∈ p0, x.block < W.heap.size := by obtain ⟨m, hm⟩ := k0; exact DataW.trod_lt m _ _ _ hm
  obtain ⟨A0, n0, c0, m0, rfl, hx0⟩ := open_moves (hval 0 22 v0 rfl rfl) h0 (bulk_of_small hk (by simp))
  clear hA0 hval0
  refine (walkDiskHelds A0 n0 c0 m0 W hx0).mono fun e W' ⟨he, bel⟩ => ?_
  subst he
  exact ⟨_, rfl, _, _, _, [], _, [], hW', trodAll_mk1 (shut_bool Try.underlying4 _), (trodAll_cons_mk (Below.trod laidOut (by kernel_rfl) (of_decide_eq_true (by kernel_rfl)) k0 bel lt0) trodAll_mk0), rfl, bel.frame _, fun h => by cases h⟩
set_option maxRecDepth 100000 in
theorem lifted (os : Os) (started : os.Started) (H : Type) (enc : TypeId × Value → H) (F : Stop.Interp) :
    ReturnsInHanded {} Try.checked os 4 .any ((Rows.OpenSpec.upto Rows.diskHeldsSpec).preRow enc Try.prog Try.f4 Rows.diskHeldsUptoRow.domain false Rows.diskHeldsUptoRow.laid) (((Rows.OpenSpec.upto Rows.diskHeldsSpec).at F).post enc Try.prog Try.f4 false true false false) := by
  obtain ⟨places, hx⟩ := reads os enc
  refine returnsInHanded_of_row (C := Try.checked) (s := Rows.OpenSpec.upto Rows.diskHeldsSpec) own started (by kernel_rfl) Try.func4
    (witness_row_at (enc := enc) (C := Try.checked) false (World.holding Try.prog os ⟨#[], #[], []⟩) #[.slice none 0 0] rfl (by kernel_rfl) (by kernel_rfl) (by kernel_rfl)
      (OpenSpec.preRow_of_cond 8 hx (by kernel_rfl) (fun k hk => by cases hk; kernel_rfl) (by kernel_rfl) (laid_met os))) ?_
  intro W base args ds gs before hval hW _ hcond _ hL hsh _
  exact contract H enc W base args ds gs before hval hW hL (hcond _ rfl)
theorem said : Rows.DiskHeldsUptoSaid :=
  OpenClaim.holds_of_cond 4 Try.f4 rfl rfl rfl rfl rfl rfl rfl ⟨rfl, rfl, rfl, rfl, rfl⟩ rfl rfl rfl rfl rfl (by kernel_rfl) Try.func4 (by kernel_rfl)
    (of_decide_eq_true (by kernel_rfl)) (by unfold Func.isWrapper; first | (rw [if_pos (by decide +kernel)]; kernel_rfl) | (rw [if_neg (by decide +kernel)]; exact ⟨rfl, rfl⟩))
    (fun os started H enc _ F => by rw [OpenClaim.pre_eq_preRow]; exact lifted os started H enc F)
theorem proved : Rows.DiskHeldsUptoSaid := said
#print axioms proved
end diskHelds
end Go.Proofs.Ythkbeliplibiaaa
