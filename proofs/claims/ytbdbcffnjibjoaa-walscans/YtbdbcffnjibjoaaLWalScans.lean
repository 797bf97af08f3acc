/- Proved here: for every slice of bytes, wal.Scan answers as the document's own function does (statement WalScans). No condition. -/
import Derived.Test.YtbdbcffnjibjoaaWlRefS
import Derived.Test.YtbdbcffnjibjoaaWlSbR
import Derived.Test.YtbdbcffnjibjoaaWlBd
import Derived.Test.YtbdbcffnjibjoaaOpen
import Derived.Test.YtbdbcffnjibjoaaRows
import Derived.ChangeSame
namespace Go.Proofs.Ytbdbcffnjibjoaa
set_option linter.unusedVariables false
set_option linter.unusedSimpArgs false
open Go.RowKit
theorem walkWalScans (A0 : Option Addr) (n0 c0 : Nat) (l0 : List UInt8) (w : World) (hx0 : BytesIn w A0 n0 c0 l0) :
    Calls Try.prog 4 #[.slice A0 n0 c0] w fun e w' => e = .returned (.bool true) ∧ Below w.heap.size w w' := by
  obtain ⟨hr, hnc, hcm, _⟩ := hx0
  have hn2 : n0 ≤ 9223372036854775807 := by unfold maxLen at hcm; omega
  have H1 := Lib.hid (wlScan_any A0 n0 c0 l0 w hr hnc hn2)
  have Hr := Lib.hid hr
  have hbd := Lib.hid (scanR_bd l0)
  obtain ⟨x, hx⟩ : ∃ x, (scanR l0).1 = x := ⟨_, rfl⟩
  obtain ⟨u, hu⟩ : ∃ u, (scanR l0).2.1 = u := ⟨_, rfl⟩
  obtain ⟨ev, hev⟩ : ∃ ev, (scanR l0).2.2 = ev := ⟨_, rfl⟩
  have H2' : ∀ W, Holds W W.heap.size 1 A0 n0 (l0.map bv) → _ := fun W h => refScan_any A0 n0 c0 l0 W h hnc hn2
  rw [hx] at hbd
  rw [hx, hu, hev] at H1
  simp only [hx, hu, hev] at H2'
  have H2 := Lib.hid H2'
  clear hr H2' hx hu hev
  go_enter Try.func4, Try.ntmps4
  go_wp2_with fail
  refine H1.out.mono ?_
  rintro e w1 ⟨v1, rfl, hi1, hb1⟩
  have H3 := Lib.hid (H2.out w1 ((Hr.out.below hb1).wider hb1.size))
  have Hi1 := Lib.hid hi1
  have Hb1 := Lib.hid hb1
  clear hi1 hb1 H1 H2 Hr
  go_wp2_with fail
  refine H3.out.mono ?_
  rintro e w2 ⟨v2, rfl, hi2, hb2⟩
  have h1 : In3 w2 (lowB w2.heap.size) x v1 := stays3.2 _ _ _ _ _ (stays3.1 _ w2 _ _ _ Hi1.out fun p hp => hb2.cell hp.2) fun b hb => Nat.lt_of_lt_of_le hb.2 hb2.size
  have h2 : In3 w2 (lowB w2.heap.size) x v2 := stays3.2 _ _ _ _ _ hi2 fun b hb => hb.2
  have H4 := Lib.hid (sbR_any x x v1 v2 w2 w2.heap.size w2.heap.size h1 h2 (Nat.le_refl _) (Nat.le_refl _) hbd.out hbd.out)
  have Hb2 := Lib.hid (Hb1.out.trans (hb2.mono Hb1.out.size))
  clear h1 h2 hi2 hb2 H3 Hi1 Hb1
  go_wp2_with fail
  refine H4.out.mono ?_
  rintro e w3 ⟨rfl, q, rfl⟩
  go_wp2_with fail
  go_ret
  exact ⟨by simp, below_drewN Hb2.out q⟩
namespace walScans
open Go.ChangeShapes Go.WideShapes Go.ChangeAt Go.RowKit
theorem own : ownKnob Try.prog.godebug = none := by kernel_rfl
theorem laidOut : laidOutB Try.prog = true := by kernel_rfl
set_option linter.unusedVariables false
set_option maxRecDepth 100000 in
theorem lifted (os : Os) (started : os.Started) (H : Type) (enc : TypeId × Value → H) :
    ReturnsInHanded {} Try.checked os 4 .any (Rows.walScansSpec.pre6 enc Try.prog Try.f4 Rows.walScansRow.domain false) (Rows.walScansSpec.post enc Try.prog Try.f4 false true false false) := by
  refine returnsInHanded_of_change (C := Try.checked) own started (by kernel_rfl) Try.func4
    (ChangeSpec.witness6 (enc := enc) (C := Try.checked) false ⟨#[], #[.slice none 0 0], []⟩ 8 (by kernel_rfl) (by kernel_rfl) (by kernel_rfl) (by kernel_rfl)) ?_
  intro W base args ds gs before hval0 hW hcnd _
  have hval : ∀ (j : Nat) t v, Try.f4.params[j]? = some t → args[j]? = some v → Value.okWide Try.prog W .any base t v := hval0
  have hW' := hW
  obtain ⟨p, q, hA0, hV, rfl, hfz, hnd⟩ := hW
  have hA : DataW.TrodAll enc Try.prog W 0 (fun _ => true) true Try.f4.params.toList args.toList ds p := hA0
  rw [Try.params4] at hA hval
  obtain ⟨v0, vs0, d0, ds0, p0, q0, hargs, rfl, rfl, h0, rr0⟩ := trodAll_cons hA
  obtain ⟨rfl, rfl, rfl⟩ := trodAll_nil rr0
  obtain rfl : args = #[v0] := by cases args; simp_all
  obtain ⟨rfl, rfl⟩ := trodVars_none hV
  have k0 := h0
  have lt0 : ∀ x ∈ p0, x.block < W.heap.size := by obtain ⟨m, hm⟩ := k0; exact DataW.trod_lt m _ _ _ hm
  obtain ⟨A0, n0, c0, l0, rfl, hx0⟩ := open_bytes Try.underlying23 Try.underlying5 (by kernel_rfl) (hval 0 23 v0 rfl rfl) h0
  clear hA0 hval0
  refine (walkWalScans A0 n0 c0 l0 W hx0).mono fun e W' ⟨he, bel⟩ => ?_
  subst he
  exact ⟨_, rfl, _, _, _, [], _, [], hW', trodAll_mk1 (shut_bool Try.underlying4 _), (trodAll_cons_mk (Below.trod laidOut (by kernel_rfl) (of_decide_eq_true (by kernel_rfl)) k0 bel lt0) trodAll_mk0), rfl, bel.frame _, fun h => by cases h⟩

theorem over : Rows.walScansRow.holds Try.pinned (OpenSpec.ofChange Rows.walScansSpec) :=
  OpenClaim.holds_of_wide 4 Try.f4 rfl rfl rfl rfl rfl rfl rfl ⟨rfl, rfl, rfl, rfl, rfl⟩ rfl rfl rfl rfl rfl (by kernel_rfl) Try.func4 (by kernel_rfl)
    (of_decide_eq_true (by kernel_rfl)) (by unfold Func.isWrapper; first | (rw [if_pos (by decide +kernel)]; kernel_rfl) | (rw [if_neg (by decide +kernel)]; exact ⟨rfl, rfl⟩))
    (fun os started H enc _ => lifted os started H enc)

theorem proved : Rows.WalScansSaid := over
#print axioms proved
end walScans
end Go.Proofs.Ytbdbcffnjibjoaa
