/- Proved here: for every list of moves (all together of bulk at most 1048576), disk.Play answers as the document's own function does (statement DiskPlays, its Upto form). -/
import Derived.Test.YthkbeliplibiaaaDkRef
import Derived.Test.YthkbeliplibiaaaOpenM
import Derived.Test.YthkbeliplibiaaaSameLaw
import Derived.Test.YthkbeliplibiaaaUng
import Derived.Test.YthkbeliplibiaaaRows
import Derived.Deep.DeepHandedRow
import Derived.BigQuiet
namespace Go.Proofs.Ythkbeliplibiaaa
set_option linter.unusedVariables false
set_option linter.unusedSimpArgs false
open Go.RowKit
set_option maxRecDepth 100000 in
set_option maxHeartbeats 2000000 in
theorem walkDiskPlays (A0 : Option Addr) (n0 c0 : Nat) (m0 : List Mv) (w : World) (hx0 : MvsIn w w.heap.size A0 n0 c0 m0 ∧ n0 ≤ 1048576) :
    Calls Try.prog 3 #[.slice A0 n0 c0] w fun e w' => e = .returned (.bool true) ∧ Below w.heap.size w w' := by
  obtain ⟨hl, hn⟩ := hx0
  obtain ⟨i0, hi0, hz0, hz1, hz2⟩ := info_parts info_u8
  by_cases h100 : n0 ≤ 100
  · have H1 := Lib.hid (play_any A0 n0 c0 w.heap.size m0 w hl (Nat.le_refl _) h100)
    have Hl := Lib.hid hl
    have hml : m0.length = n0 := hl.1
    have hok := plays0_ok m0
    have hsl := safe_len hok
    have hol := open_len (plays0 m0).2
    have hso := safe_open (plays0 m0).2
    have hcl := plays0_len m0
    have hl12 := hok.2
    have hs12 := hok.1
    clear hl
    go_enter Try.func3, Try.ntmps3
    go_wp2_with fail
    refine H1.out.mono ?_
    rintro e w1 ⟨Ax, cx, Ab, cb, rfl, hox, hob, hbe1⟩
    have H2 := Lib.hid (ref_any A0 n0 c0 w.heap.size m0 w1 (Hl.out.below hbe1) hbe1.size h100)
    have Hbe1 := Lib.hid hbe1
    have hs1 := hbe1.size
    have Hox := Lib.hid hox
    have Hob := Lib.hid hob
    clear hbe1 H1 hox hob
    go_wp2_with fail
    refine H2.out.mono ?_
    rintro e w2 ⟨Ay, cy, As, cs, Ao, co, rfl, hoy, hos, hoo, hbe2⟩
    have Hw := Lib.hid (Hbe1.out.trans (hbe2.mono hs1))
    have hsw := Hw.out.size
    have hhx := Holds.own (own_belowS Hox.out hbe2)
    have hhy := Holds.own hoy
    have Hhb := Lib.hid (own_belowS Hob.out hbe2)
    generalize plays0 m0 = pl at *
    obtain ⟨cds, st⟩ := pl
    simp only at hok hsl hol hso hcl hl12 hs12 hhx hhy Hhb hos hoo ⊢
    generalize safeOf st = S at *
    generalize openOf st = O at *
    have HhS := Lib.hid (Holds.own hos)
    have HhO := Lib.hid (Holds.own hoo)
    obtain ⟨Aq, cq, he, hAs⟩ := own_form hos
    injection he with e1 _ e3
    subst e1 e3
    obtain ⟨Aq, cq, he, hAo⟩ := own_form hoo
    injection he with e1 _ e3
    subst e1 e3
    have hAs' : As = none → cs = 0 := fun h => (hAs h).2
    have hAo' : Ao = none → co = 0 := fun h => (hAo h).2
    have hL1 : S.length ≤ 1048576 := by omega
    have hL2 : S.length + O.length ≤ 1048576 := by omega
    have hSO : S.length + O.length = st.1.length := by rw [← hso, List.length_append]
    have HSO := Lib.hid hSO
    have Hso := Lib.hid hso
    have Hhx := Lib.hid hhx
    have Hhy := Lib.hid hhy
    have Hcl := Lib.hid hcl
    clear hbe2 H2 Hbe1 Hox Hob hoy hos hoo hok hsl hol hso hcl hAs hAo hSO hhx hhy hs12
    go_wp2_with (first
      | (at_builtin; refine wpList_unguard (by kernel_rfl) ?_; refine wpList_append_nil w2 rfl _ _ rfl 5 i0 _ 1 1 Try.underlying24 hi0 hz0 hz1 hz2 rfl (by decide) _ As S.length cs (S.map bv) HhS.out (by rfl) hAs' (bv_one S) hL1 (by decide) ?_; clear HhS; intro A8 c8 w8 ho8 _ _ hbe8; have Ho8 := Lib.hid ho8; have Hbe8 := Lib.hid hbe8; have hs8 := hbe8.size; have HhO8 := Lib.hid (HhO.out.below hbe8); clear ho8 hbe8)
      | (at_builtin; refine wpList_unguard (by kernel_rfl) ?_; refine wpList_append_all w8 rfl _ _ _ rfl w2.heap.size 5 i0 _ 1 1 Try.underlying24 hi0 hz0 hz1 hz2 rfl (by decide) _ _ _ (by rfl) Ho8.out w2.heap.size Ao O.length co (O.map bv) (by rfl) hAo' HhO8.out (bv_one O) hL2 (by decide) hs8 ?_; intro v9 w9 ho9 hg9 _; obtain ⟨A9, c9, rfl, _⟩ := own_form ho9; have Ho9 := Lib.hid ho9; have Hbe9 := Lib.hid (Hbe8.out.grown hg9 hs8 fun j hj => (World.ownsRow.lt Ho8.out j hj).1); clear Ho8 Hbe8 ho9 hg9))
    have hS := samelaw_any Ab A9 st.1.length (S.length + O.length) cb c9 st.1 st.1 w9 (Holds.own (own_belowS Hhb.out Hbe9.out)) (by have := Holds.own Ho9.out; rw [← List.map_append, Hso.out] at this; exact this) (by omega) hL2
    refine hS.mono ?_
    rintro e w10 ⟨rfl, kk, rfl⟩
    rw [beq_self_eq_true]
    have Hx9 := Lib.hid (show Holds (w9.drewN kk) (w9.drewN kk).heap.size 1 Ax m0.length (cds.map (Value.int .i64)) from ((Hhx.out.below Hbe9.out).wider Hbe9.out.size).below (below_drewN (Below.refl _ _) kk))
    have Hy9 := Lib.hid (show Holds (w9.drewN kk) (w9.drewN kk).heap.size 1 Ay m0.length (cds.map (Value.int .i64)) from ((Hhy.out.below Hbe9.out).wider Hbe9.out.size).below (below_drewN (Below.refl _ _) kk))
    have Hw9 := Lib.hid (below_drewN (Hw.out.trans (Hbe9.out.mono hsw)) kk)
    clear Hhx Hhy Hw Hbe9 Ho9 hS Hhb HhO
    generalize w9.drewN kk = wz at *
    go_wp2_with fail
    go_loopg [10] m0.length (fun gk i wr => ∃ k : Nat, i = .int .i64 (k : Int) ∧ k ≤ m0.length ∧ gk = m0.length - k ∧ Below wz.heap.size wz wr)
    case atStart => exact ⟨0, rfl, by omega, by omega, Below.refl _ _⟩
    case round =>
      obtain ⟨k, rfl, hk, hgk, hbz⟩ := hrel
      have Hbz := Lib.hid hbz
      have Hgk := Lib.hid hgk
      clear hgk
      by_cases hlt : k < m0.length
      · have hlt' : (k : Int) < (m0.length : Int) := by omega
        obtain ⟨bx, ox, ux, rfl, hbx, hux, qx⟩ := (Hx9.out.below hbz).at1 hlt
        obtain ⟨by_, oy, uy, rfl, hby, huy, qy⟩ := (Hy9.out.below hbz).at1 hlt
        have huu : ux = uy := by rw [hux] at huy; injection huy
        subst huu
        obtain ⟨z, hz⟩ : ∃ z : Int, ux = .int .i64 z := by
          rw [List.getElem?_map] at hux
          obtain ⟨z, _, hz⟩ := Option.map_eq_some_iff.1 hux
          exact ⟨z, hz.symm⟩
        subst hz
        clear hux huy hbz
        go_wp2_with fail
        go_quiet (fail)
        go_wp2_with fail
        go_roundg (m0.length - (k + 1))
        case measure => have := Hgk.out; omega
        case rel => exact ⟨k + 1, by go_num, by omega, by omega, below_drewN Hbz.out _⟩
      · have hlt' : ¬ (k : Int) < (m0.length : Int) := by omega
        clear hbz
        go_wp2_with fail
        go_ret
        exact ⟨rfl, Hw9.out.trans (Hbz.out.mono Hw9.out.size)⟩
  · have H1 := Lib.hid (fun W => play_long A0 n0 c0 W h100)
    have H2 := Lib.hid (fun W => ref_long A0 n0 c0 W h100)
    clear hl
    go_enter Try.func3, Try.ntmps3
    go_wp2_with fail
    refine (H1.out _).mono ?_
    rintro e w1 ⟨rfl, rfl⟩
    go_wp2_with fail
    refine (H2.out _).mono ?_
    rintro e w1 ⟨rfl, rfl⟩
    go_wp2_with fail
    refine (samelaw_any none none 0 0 0 0 [] [] _ Holds.empty Holds.empty (by decide) (by decide)).mono ?_
    rintro e w10 ⟨rfl, kk, rfl⟩
    rw [beq_self_eq_true]
    obtain ⟨wz, hwz⟩ : ∃ wz, w1.drewN kk = wz := ⟨_, rfl⟩
    have Hb := Lib.hid (show Below w1.heap.size w1 wz by rw [← hwz]; exact below_drewN (Below.refl _ _) kk)
    rw [hwz]
    clear hwz
    go_wp2_with fail
    go_loopg [10] 0 (fun gk i wr => gk = 0 ∧ i = .int .i64 0 ∧ wz = wr)
    case atStart => exact ⟨rfl, rfl, rfl⟩
    case round =>
      obtain ⟨hgk, rfl, rfl⟩ := hrel
      go_wp2_with fail
      go_ret
      exact ⟨rfl, Hb.out⟩
namespace diskPlays
open Go.ChangeShapes Go.WideShapes Go.ChangeAt Go.RowKit
theorem own : ownKnob Try.prog.godebug = none := by kernel_rfl
theorem laidOut : laidOutB Try.prog = true := by kernel_rfl
set_option linter.unusedVariables false
theorem laid_met (os : Os) : laidMet Try.prog Rows.diskPlaysUptoRow.laid ((World.holding Try.prog os ⟨#[], #[], []⟩).forCall (fun _ _ => 0) ⟨#[], #[.slice none 0 0], []⟩).memory :=
  laidMet_of_run' 8 (by kernel_rfl) (by kernel_rfl)
theorem reads (os : Os) {H : Type} (enc : TypeId × Value → H) : ∃ places, DataW.whole enc Try.prog ((World.holding Try.prog os ⟨#[], #[], []⟩).forCall (fun _ _ => 0) ⟨#[], #[.slice none 0 0], []⟩).memory Try.f3.params.toList Rows.diskPlaysSpec.vars false #[Value.slice none 0 0].toList 8 = some ([.nil], [], places) :=
  ⟨[], by kernel_rfl⟩
set_option maxRecDepth 100000 in
theorem contract (H : Type) (enc : TypeId × Value → H) (W : World) (base : Nat) (args : Array Value) (ds gs : List (DataW H)) (before : List MemPlace)
    (hval0 : ∀ (j : Nat) t v, Try.f3.params[j]? = some t → args[j]? = some v → Value.okWide Try.prog W .any base t v)
    (hW : DataW.Whole enc Try.prog Try.f3.params.toList Rows.diskPlaysSpec.vars false W args.toList ds gs before) (hL : laidMetH Try.prog Rows.diskPlaysUptoRow.laid W) (hk : Rows.uptoSmall H (ds ++ gs) = true) :
    Calls Try.prog 3 args W fun e W' => ∃ v, e = .returned v ∧ Rows.diskPlaysSpec.post enc Try.prog Try.f3 false true false false W args v W' := by
  have hval : ∀ (j : Nat) t v, Try.f3.params[j]? = some t → args[j]? = some v → Value.okWide Try.prog W .any base t v := hval0
  have hW' := hW
  obtain ⟨p, q, hA0, hV, rfl, hfz, hnd⟩ := hW
  have hA : DataW.TrodAll enc Try.prog W 0 (fun _ => true) true Try.f3.params.toList args.toList ds p := hA0
  rw [Try.params3] at hA hval
  obtain ⟨v0, vs0, d0, ds0, p0, q0, hargs, rfl, rfl, h0, rr0⟩ := trodAll_cons hA
  obtain ⟨rfl, rfl, rfl⟩ := trodAll_nil rr0
  obtain rfl : args = #[v0] := by cases args; simp_all
  obtain ⟨rfl, rfl⟩ := trodVars_none hV
  have k0 := h0
  have lt0 : ∀ x ∈ p0, x.block < W.heap.size := by obtain ⟨m, hm⟩ := k0; exact DataW.trod_lt m _ _ _ hm
  obtain ⟨A0, n0, c0, m0, rfl, hx0⟩ := open_moves (hval 0 22 v0 rfl rfl) h0 (bulk_of_small hk (by simp))
  clear hA0 hval0
  refine (walkDiskPlays A0 n0 c0 m0 W hx0).mono fun e W' ⟨he, bel⟩ => ?_
  subst he
  exact ⟨_, rfl, _, _, _, [], _, [], hW', trodAll_mk1 (shut_bool Try.underlying4 _), (trodAll_cons_mk (Below.trod laidOut (by kernel_rfl) (of_decide_eq_true (by kernel_rfl)) k0 bel lt0) trodAll_mk0), rfl, bel.frame _, fun h => by cases h⟩
set_option maxRecDepth 100000 in
theorem lifted (os : Os) (started : os.Started) (H : Type) (enc : TypeId × Value → H) (F : Stop.Interp) :
    ReturnsInHanded {} Try.checked os 3 .any ((Rows.OpenSpec.upto Rows.diskPlaysSpec).preRow enc Try.prog Try.f3 Rows.diskPlaysUptoRow.domain false Rows.diskPlaysUptoRow.laid) (((Rows.OpenSpec.upto Rows.diskPlaysSpec).at F).post enc Try.prog Try.f3 false true false false) := by
  obtain ⟨places, hx⟩ := reads os enc
  refine returnsInHanded_of_row (C := Try.checked) (s := Rows.OpenSpec.upto Rows.diskPlaysSpec) own started (by kernel_rfl) Try.func3
    (witness_row_at (enc := enc) (C := Try.checked) false (World.holding Try.prog os ⟨#[], #[], []⟩) #[.slice none 0 0] rfl (by kernel_rfl) (by kernel_rfl) (by kernel_rfl)
      (OpenSpec.preRow_of_cond 8 hx (by kernel_rfl) (fun k hk => by cases hk; kernel_rfl) (by kernel_rfl) (laid_met os))) ?_
  intro W base args ds gs before hval hW _ hcond _ hL hsh _
  exact contract H enc W base args ds gs before hval hW hL (hcond _ rfl)
theorem said : Rows.DiskPlaysUptoSaid :=
  OpenClaim.holds_of_cond 3 Try.f3 rfl rfl rfl rfl rfl rfl rfl ⟨rfl, rfl, rfl, rfl, rfl⟩ rfl rfl rfl rfl rfl (by kernel_rfl) Try.func3 (by kernel_rfl)
    (of_decide_eq_true (by kernel_rfl)) (by unfold Func.isWrapper; first | (rw [if_pos (by decide +kernel)]; kernel_rfl) | (rw [if_neg (by decide +kernel)]; exact ⟨rfl, rfl⟩))
    (fun os started H enc _ F => by rw [OpenClaim.pre_eq_preRow]; exact lifted os started H enc F)
theorem proved : Rows.DiskPlaysUptoSaid := said
#print axioms proved
end diskPlays
end Go.Proofs.Ythkbeliplibiaaa
