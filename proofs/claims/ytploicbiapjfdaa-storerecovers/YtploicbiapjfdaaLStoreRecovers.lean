/- Proved here: for every slice of bytes, store.Recover answers as the document's own function does (statement StoreRecovers). No condition. -/
import Derived.Test.YtploicbiapjfdaaStRcvR
import Derived.Test.YtploicbiapjfdaaRwSameL
import Derived.Test.YtploicbiapjfdaaOpen
import Derived.Test.YtploicbiapjfdaaRows
import Derived.ChangeSame
namespace Go.Proofs.Ytploicbiapjfdaa
set_option linter.unusedVariables false
set_option linter.unusedSimpArgs false
open Go.RowKit
theorem recoverR_len (l : List UInt8) : (recoverR l).1.length ≤ 40 := by
  unfold recoverR
  split
  · simp
  · cases h : recGo [] (scan l).1 with
    | none => simp
    | some t => exact (recGo_fit fit_nil h).len
theorem walkStoreRecovers (A0 : Option Addr) (n0 c0 : Nat) (l0 : List UInt8) (w : World) (hx0 : BytesIn w A0 n0 c0 l0) :
    Calls Try.prog 4 #[.slice A0 n0 c0] w fun e w' => e = .returned (.bool true) ∧ Below w.heap.size w w' := by
  obtain ⟨hr, hnc, hcm, _⟩ := hx0
  have hn2 : n0 ≤ 9223372036854775807 := by unfold maxLen at hcm; omega
  have H1 := Lib.hid (recover_any A0 n0 c0 l0 w hr hnc hn2)
  have H2 := Lib.hid (show ∀ W, Below w.heap.size w W → _ from fun W hb => refRecover_any A0 n0 c0 l0 W ((hr.below hb).wider hb.size) hnc hn2)
  have hle := recoverR_len l0
  clear hr
  generalize recoverR l0 = X at *
  obtain ⟨t, u, x⟩ := X
  simp only at hle
  go_enter Try.func4, Try.ntmps4
  go_wp2_with fail
  refine H1.out.mono ?_
  rintro e w1 ⟨A1, c1, rfl, hin1, hb1⟩
  have Hin1 := Lib.hid hin1
  have Hb1 := Lib.hid hb1
  have H2' := Lib.hid (H2.out w1 hb1)
  clear hin1 hb1 H1 H2
  go_wp2_with fail
  refine H2'.out.mono ?_
  rintro e w2 ⟨A2, c2, rfl, hin2, hb2⟩
  have H3 := Lib.hid (sameRowsL_any A1 A2 t.length c1 c2 w1.heap.size w2.heap.size t w2 (Hin1.out.below hb2) hin2 (by omega))
  have Hb2 := Lib.hid (Hb1.out.trans (hb2.mono Hb1.out.size))
  clear hb2 hin2 H2' Hin1
  go_wp2_with fail
  refine H3.out.mono ?_
  rintro e w3 ⟨rfl, q, rfl⟩
  go_wp2_with fail
  go_ret
  exact ⟨by simp, below_drewN Hb2.out q⟩
namespace storeRecovers
open Go.ChangeShapes Go.WideShapes Go.ChangeAt Go.RowKit
theorem own : ownKnob Try.prog.godebug = none := by kernel_rfl
theorem laidOut : laidOutB Try.prog = true := by kernel_rfl
set_option linter.unusedVariables false
set_option maxRecDepth 100000 in
theorem lifted (os : Os) (started : os.Started) (H : Type) (enc : TypeId × Value → H) :
    ReturnsInHanded {} Try.checked os 4 .any (Rows.storeRecoversSpec.pre6 enc Try.prog Try.f4 Rows.storeRecoversRow.domain false) (Rows.storeRecoversSpec.post enc Try.prog Try.f4 false true false false) := by
  refine returnsInHanded_of_change (C := Try.checked) own started (by kernel_rfl) Try.func4
    (ChangeSpec.witness6 (enc := enc) (C := Try.checked) false ⟨#[], #[.slice none 0 0], []⟩ 8 (by kernel_rfl) (by kernel_rfl) (by kernel_rfl) (by kernel_rfl)) ?_
  intro W base args ds gs before hval0 hW hcnd _
  have hval : ∀ (j : Nat) t v, Try.f4.params[j]? = some t → args[j]? = some v → Value.okWide Try.prog W .any base t v := hval0
  have hW' := hW
  obtain ⟨p, q, hA0, hV, rfl, hfz, hnd⟩ := hW
  have hA : DataW.TrodAll enc Try.prog W 0 (fun _ => true) true Try.f4.params.toList args.toList ds p := hA0
  rw [Try.params4] at hA hval
  obtain ⟨v0, vs0, d0, ds0, p0, q0, hargs, rfl, rfl, h0, rr0⟩ := trodAll_cons hA
  obtain ⟨rfl, rfl, rfl⟩ := trodAll_nil rr0
  obtain rfl : args = #[v0] := by cases args; simp_all
  obtain ⟨rfl, rfl⟩ := trodVars_none hV
  have k0 := h0
  have lt0 : ∀ x ∈ p0, x.block < W.heap.size := by obtain ⟨m, hm⟩ := k0; exact DataW.trod_lt m _ _ _ hm
  obtain ⟨A0, n0, c0, l0, rfl, hx0⟩ := open_bytes Try.underlying24 Try.underlying5 (by kernel_rfl) (hval 0 24 v0 rfl rfl) h0
  clear hA0 hval0
  refine (walkStoreRecovers A0 n0 c0 l0 W hx0).mono fun e W' ⟨he, bel⟩ => ?_
  subst he
  exact ⟨_, rfl, _, _, _, [], _, [], hW', trodAll_mk1 (shut_bool Try.underlying4 _), (trodAll_cons_mk (Below.trod laidOut (by kernel_rfl) (of_decide_eq_true (by kernel_rfl)) k0 bel lt0) trodAll_mk0), rfl, bel.frame _, fun h => by cases h⟩

theorem over : Rows.storeRecoversRow.holds Try.pinned (OpenSpec.ofChange Rows.storeRecoversSpec) :=
  OpenClaim.holds_of_wide 4 Try.f4 rfl rfl rfl rfl rfl rfl rfl ⟨rfl, rfl, rfl, rfl, rfl⟩ rfl rfl rfl rfl rfl (by kernel_rfl) Try.func4 (by kernel_rfl)
    (of_decide_eq_true (by kernel_rfl)) (by unfold Func.isWrapper; first | (rw [if_pos (by decide +kernel)]; kernel_rfl) | (rw [if_neg (by decide +kernel)]; exact ⟨rfl, rfl⟩))
    (fun os started H enc _ => lifted os started H enc)

theorem proved : Rows.StoreRecoversSaid := over
#print axioms proved
end storeRecovers
end Go.Proofs.Ytploicbiapjfdaa
