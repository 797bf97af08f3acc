/- Proved here: rows.Next returns the smallest string that is greater than all strings with the prefix (statement NextBehind), for strings of bulk at most 1048576 together. -/
import Derived.Test.YtecpccdmmaigiaaRwNext
import Derived.Test.YtecpccdmmaigiaaRwPre
import Derived.Test.YtecpccdmmaigiaaOpenU
import Derived.HandedShaped
import Derived.Deep.DeepHandedRow
namespace Go.Proofs.Ytecpccdmmaigiaa
set_option linter.unusedVariables false
set_option linter.unusedSimpArgs false
open Go.RowKit
set_option maxHeartbeats 1000000 in
set_option maxRecDepth 100000 in
theorem walkNextBehind (l0 : List UInt8) (l1 : List UInt8) (l2 : List UInt8) (w : World) (hx0 : l0.length ≤ 1048576) (hx1 : l1.length ≤ 1048576) (hx2 : l2.length ≤ 1048576) :
    Calls Try.prog 11 #[str l0, str l1, str l2] w fun e w' => e = .returned (.bool true) ∧ Below w.heap.size w w' := by
  have H1 := Lib.hid (next_any l0 w (by omega))
  have H2 := Lib.hid (fun W => next_any [97] W (by simp))
  have hadd := rw_addL (P := Try.prog) 9 l0 l1 (by omega)
  have HB := Lib.hid (next_begins l0 l2)
  have HN := Lib.hid (fun h => nextF_none (h := l0) h)
  have HA := Lib.hid (fun h => next_above (h := l0) l1 h)
  generalize nextF l0 = N at *
  have HR : ∃ b : Bool, l0.isPrefixOf l2 = b ∧ ((l0.length ≤ l2.length ∧ (l2.take l0.length == l0) = b) ∨ (¬ l0.length ≤ l2.length ∧ b = false)) := by
    by_cases hl : l0.length ≤ l2.length
    · exact ⟨_, rfl, .inl ⟨hl, pre_take l0 l2⟩⟩
    · exact ⟨_, rfl, .inr ⟨hl, pre_short hl⟩⟩
  obtain ⟨b, hb, hR⟩ := HR
  rw [hb] at HB
  clear hb
  go_enter Try.func11, Try.ntmps11
  go_wp2_with fail
  refine H1.out.mono ?_
  rintro e w1 ⟨rfl, hb1⟩
  have Hb1 := Lib.hid hb1
  clear hb1 H1
  have hc97 : nextF [97] = [98] := by decide
  rw [hc97] at H2
  rcases hR with ⟨hle, htk⟩ | ⟨hle, rfl⟩
  all_goals
    have hlei : (l0.length ≤ l2.length) ↔ ((l0.length : Int) ≤ (l2.length : Int)) := by omega
    rw [hlei] at hle
    have hcutS : ∀ W, (l0.length ≤ l2.length) → (Instr.slice 9 (str l2) none (some (.int .i64 (l0.length : Int))) none).run Try.prog W = .ok (str (l2.take l0.length)) W := fun W h => run_str_h (P := Try.prog) (s := l2) W 9 Try.underlying9 .i64 _ l0.length rfl h
    have hcut2 := fun W h => hcutS W (hlei.2 h)
    clear hcutS hlei
    go_wp2_with fail
    refine (H2.out w1).mono ?_
    rintro e w2 ⟨rfl, hb2⟩
    have Hb2 := Lib.hid (Hb1.out.trans (hb2.mono Hb1.out.size))
    clear hb2
    have hg98 : ∀ o t x y, eqGuard o t x y (str [98]) (.string ⟨#[98]⟩) = pure () := fun o t x y => eqGuard_str o t x y [98] [98]
    have hn98 : ∀ W, (binOp BinOp.neq 9 (str [98]) (.string ⟨#[98]⟩)).run Try.prog W = .ok (.bool false) W := fun W => by
      have : (binOp BinOp.neq 9 (str [98]) (str [98])).run Try.prog W = .ok (.bool (!([98] == ([98] : List UInt8)))) W := by simp [str, go_sem]
      exact this
    by_cases hN : N = []
    · have hNb : N.isEmpty = true := by rw [hN]; rfl
      have HNN := Lib.hid (HN.out hN)
      clear hN HA HB HN hadd
      go_wp2_with fail
      go_loopg [9] l0.length (fun gk v wr => ∃ k : Nat, v = .int .i64 (k : Int) ∧ k ≤ l0.length ∧ gk = l0.length - k ∧ wr = w2)
      case atStart => exact ⟨0, rfl, by omega, by omega, rfl⟩
      case round =>
        obtain ⟨k, rfl, hk, hgk, rfl⟩ := hrel
        have Hgk := Lib.hid hgk
        clear hgk
        by_cases hkn : k < l0.length
        · have hidx := fun W => run_index_str (P := Try.prog) W 9 l0 .i64 k Try.underlying9 hkn
          rw [HNN.out l0[k] (List.getElem_mem _)] at hidx
          have hki : (k : Int) < (l0.length : Int) := by omega
          have h255 : (((255 : UInt8).toNat : Nat) : Int) = 255 := rfl
          rw [h255] at hidx
          go_wp2
          go_roundg (l0.length - (k + 1))
          case measure => have := Hgk.out; omega
          case rel => exact ⟨k + 1, rfl, by omega, rfl, rfl⟩
        · have hki : ¬ (k : Int) < (l0.length : Int) := by omega
          go_wp2
          go_ret
          exact ⟨rfl, Hb2.out⟩
    · have hNb : N.isEmpty = false := by cases N <;> simp_all
      have hlt := HA.out hN
      rw [hNb] at HB
      clear hN HA HN
      cases hx : Op.bytesLess l2 l0 <;> cases hy : Op.bytesLess l2 N
      all_goals
        rw [hx, hy] at HB
        have hb := HB.out
        simp only [Bool.not_true, Bool.not_false, Bool.true_and, Bool.false_and, Bool.or_self, Bool.or_true, Bool.or_false, Bool.false_or] at hb
        first
        | (exfalso; cases hb; done)
        | (try subst hb
           clear HB
           go_wp2
           go_ret
           exact ⟨rfl, Hb2.out⟩)
namespace nextBehind
open Go.ChangeShapes Go.WideShapes Go.ChangeAt Go.RowKit
theorem own : ownKnob Try.prog.godebug = none := by kernel_rfl
theorem laidOut : laidOutB Try.prog = true := by kernel_rfl
set_option linter.unusedVariables false
theorem laid_met (os : Os) : laidMet Try.prog Rows.nextBehindUptoRow.laid ((World.holding Try.prog os ⟨#[], #[], []⟩).forCall (fun _ _ => 0) ⟨#[], #[.string ByteArray.empty, .string ByteArray.empty, .string ByteArray.empty], []⟩).memory :=
  laidMet_of_run' 8 (by kernel_rfl) (by kernel_rfl)
theorem reads (os : Os) {H : Type} (enc : TypeId × Value → H) : ∃ places, DataW.whole enc Try.prog ((World.holding Try.prog os ⟨#[], #[], []⟩).forCall (fun _ _ => 0) ⟨#[], #[.string ByteArray.empty, .string ByteArray.empty, .string ByteArray.empty], []⟩).memory Try.f11.params.toList Rows.nextBehindSpec.vars false #[Value.string ByteArray.empty, Value.string ByteArray.empty, Value.string ByteArray.empty].toList 8 = some ([.lit (.string []), .lit (.string []), .lit (.string [])], [], places) :=
  ⟨[], by kernel_rfl⟩
set_option maxRecDepth 100000 in
theorem contract (H : Type) (enc : TypeId × Value → H) (W : World) (base : Nat) (args : Array Value) (ds gs : List (DataW H)) (before : List MemPlace)
    (hval0 : ∀ (j : Nat) t v, Try.f11.params[j]? = some t → args[j]? = some v → Value.okWide Try.prog W .any base t v)
    (hW : DataW.Whole enc Try.prog Try.f11.params.toList Rows.nextBehindSpec.vars false W args.toList ds gs before) (hL : laidMetH Try.prog Rows.nextBehindUptoRow.laid W) (hk : Rows.uptoSmall H (ds ++ gs) = true) :
    Calls Try.prog 11 args W fun e W' => ∃ v, e = .returned v ∧ Rows.nextBehindSpec.post enc Try.prog Try.f11 false true false false W args v W' := by
  have hval : ∀ (j : Nat) t v, Try.f11.params[j]? = some t → args[j]? = some v → Value.okWide Try.prog W .any base t v := hval0
  have hW' := hW
  obtain ⟨p, q, hA0, hV, rfl, hfz, hnd⟩ := hW
  have hA : DataW.TrodAll enc Try.prog W 0 (fun _ => true) true Try.f11.params.toList args.toList ds p := hA0
  rw [Try.params11] at hA hval
  obtain ⟨v0, vs0, d0, ds0, p0, q0, hargs, rfl, rfl, h0, rr0⟩ := trodAll_cons hA
  obtain ⟨v1, vs1, d1, ds1, p1, q1, rfl, rfl, rfl, h1, rr1⟩ := trodAll_cons rr0
  obtain ⟨v2, vs2, d2, ds2, p2, q2, rfl, rfl, rfl, h2, rr2⟩ := trodAll_cons rr1
  obtain ⟨rfl, rfl, rfl⟩ := trodAll_nil rr2
  obtain rfl : args = #[v0, v1, v2] := by cases args; simp_all
  obtain ⟨rfl, rfl⟩ := trodVars_none hV
  have k0 := h0
  have lt0 : ∀ x ∈ p0, x.block < W.heap.size := by obtain ⟨m, hm⟩ := k0; exact DataW.trod_lt m _ _ _ hm
  obtain ⟨l0, rfl, hx0⟩ := open_strU Try.underlying9 (hval 0 9 v0 rfl rfl) h0 (bulk_of_small hk (by simp))
  have k1 := h1
  have lt1 : ∀ x ∈ p1, x.block < W.heap.size := by obtain ⟨m, hm⟩ := k1; exact DataW.trod_lt m _ _ _ hm
  obtain ⟨l1, rfl, hx1⟩ := open_strU Try.underlying9 (hval 1 9 v1 rfl rfl) h1 (bulk_of_small hk (by simp))
  have k2 := h2
  have lt2 : ∀ x ∈ p2, x.block < W.heap.size := by obtain ⟨m, hm⟩ := k2; exact DataW.trod_lt m _ _ _ hm
  obtain ⟨l2, rfl, hx2⟩ := open_strU Try.underlying9 (hval 2 9 v2 rfl rfl) h2 (bulk_of_small hk (by simp))
  clear hA0 hval0
  refine (walkNextBehind l0 l1 l2 W hx0 hx1 hx2).mono fun e W' ⟨he, bel⟩ => ?_
  subst he
  exact ⟨_, rfl, _, _, _, [], _, [], hW', trodAll_mk1 (shut_bool Try.underlying4 _), (trodAll_cons_mk (Below.trod laidOut (by kernel_rfl) (of_decide_eq_true (by kernel_rfl)) k0 bel lt0) (trodAll_cons_mk (Below.trod laidOut (by kernel_rfl) (of_decide_eq_true (by kernel_rfl)) k1 bel lt1) (trodAll_cons_mk (Below.trod laidOut (by kernel_rfl) (of_decide_eq_true (by kernel_rfl)) k2 bel lt2) trodAll_mk0))), rfl, bel.frame _, fun h => by cases h⟩
set_option maxRecDepth 100000 in
theorem lifted (os : Os) (started : os.Started) (H : Type) (enc : TypeId × Value → H) (F : Stop.Interp) :
    ReturnsInHanded {} Try.checked os 11 .any ((Rows.OpenSpec.upto Rows.nextBehindSpec).preRow enc Try.prog Try.f11 Rows.nextBehindUptoRow.domain false Rows.nextBehindUptoRow.laid) (((Rows.OpenSpec.upto Rows.nextBehindSpec).at F).post enc Try.prog Try.f11 false true false false) := by
  obtain ⟨places, hx⟩ := reads os enc
  refine returnsInHanded_of_row (C := Try.checked) (s := Rows.OpenSpec.upto Rows.nextBehindSpec) own started (by kernel_rfl) Try.func11
    (witness_row_at (enc := enc) (C := Try.checked) false (World.holding Try.prog os ⟨#[], #[], []⟩) #[.string ByteArray.empty, .string ByteArray.empty, .string ByteArray.empty] rfl (by kernel_rfl) (by kernel_rfl) (by kernel_rfl)
      (OpenSpec.preRow_of_cond 8 hx (by kernel_rfl) (fun k hk => by cases hk; kernel_rfl) (by kernel_rfl) (laid_met os))) ?_
  intro W base args ds gs before hval hW _ hcond _ hL hsh _
  exact contract H enc W base args ds gs before hval hW hL (hcond _ rfl)
theorem said : Rows.NextBehindUptoSaid :=
  OpenClaim.holds_of_cond 11 Try.f11 rfl rfl rfl rfl rfl rfl rfl ⟨rfl, rfl, rfl, rfl, rfl⟩ rfl rfl rfl rfl rfl (by kernel_rfl) Try.func11 (by kernel_rfl)
    (of_decide_eq_true (by kernel_rfl)) (by unfold Func.isWrapper; first | (rw [if_pos (by decide +kernel)]; kernel_rfl) | (rw [if_neg (by decide +kernel)]; exact ⟨rfl, rfl⟩))
    (fun os started H enc _ F => by rw [OpenClaim.pre_eq_preRow]; exact lifted os started H enc F)
theorem proved : Rows.NextBehindUptoSaid := said
#print axioms proved
end nextBehind
end Go.Proofs.Ytecpccdmmaigiaa
