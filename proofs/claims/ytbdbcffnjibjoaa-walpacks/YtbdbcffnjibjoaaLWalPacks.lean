/- Proved here: for every list of slices of bytes, wal.Pack answers as the document's own function does (statement WalPacks). No condition. -/
import Derived.Test.YtbdbcffnjibjoaaWlRefP
import Derived.Test.YtbdbcffnjibjoaaOpenB
import Derived.Test.YtbdbcffnjibjoaaSameLaw
namespace Go.Proofs.Ytbdbcffnjibjoaa
set_option linter.unusedVariables false
set_option linter.unusedSimpArgs false
open Go.RowKit
theorem pack_le (bs : List (List UInt8)) : (packR bs).1.length ≤ 4000 := by
  unfold packR
  split
  · rename_i h
    simp only [okB, Bool.and_eq_true, decide_eq_true_eq] at h
    have := pkT_len_le bs.length 0 bs (fun r hr => ((recB_ok r).1 (List.all_eq_true.1 h.2.2 r hr)).2)
    show (pack bs).length ≤ 4000
    unfold pack; omega
  · simp
theorem walkWalPacks (A0 : Option Addr) (n0 c0 : Nat) (b0 : List (List UInt8)) (w : World) (hx0 : BatIn w A0 n0 c0 b0) :
    Calls Try.prog 3 #[.slice A0 n0 c0] w fun e w' => e = .returned (.bool true) ∧ Below w.heap.size w w' := by
  obtain ⟨cs, hh, ha, hn, hn2, hl⟩ := hx0
  have H1 := Lib.hid (pack_any A0 n0 c0 w.heap.size b0 cs w hh ha hn (Nat.le_refl _) hn2 hl)
  have Hh := Lib.hid hh
  have Ha := Lib.hid ha
  have Hn := Lib.hid hn
  have hle := pack_le b0
  clear hh ha hn
  go_enter Try.func3, Try.ntmps3
  go_wp2_with fail
  refine H1.out.mono ?_
  rintro e w1 ⟨v1, rfl, ho1, hb1⟩
  have hh1 : HoldsS w1 (lowB w.heap.size) 1 A0 n0 cs := Hh.out.kept fun p hp => hb1.cell hp
  have ha1 : Ats (In1 w1 (lowB w.heap.size)) b0 cs := stays1.ats Ha.out (fun p hp => hb1.cell hp) (fun _ h => h)
  have H2 := Lib.hid (refPack_any A0 n0 c0 w.heap.size b0 cs w1 hh1 ha1 Hn.out hb1.size hn2 hl)
  have Ho1 := Lib.hid ho1
  have Hb1 := Lib.hid hb1
  obtain ⟨l, hl1⟩ : ∃ l, (packR b0).1 = l := ⟨_, rfl⟩
  obtain ⟨ev, hev⟩ : ∃ ev, (packR b0).2 = ev := ⟨_, rfl⟩
  rw [hl1] at Ho1 hle
  rw [hl1, hev] at H2
  rw [hev]
  clear hh1 ha1 ho1 hb1 H1 Hh Ha Hn hl1 hev hl
  go_wp2_with fail
  refine H2.out.mono ?_
  rintro e w2 ⟨v2, rfl, ho2, hb2⟩
  obtain ⟨Ax, cx, rfl, _⟩ := own_form Ho1.out
  obtain ⟨Ay, cy, rfl, _⟩ := own_form ho2
  have H3 := Lib.hid (samelaw_any Ax Ay l.length l.length cx cy l l w2 (Holds.own (wl_below Ho1.out hb2)) (Holds.own ho2) (by omega) (by omega))
  have Hb2 := Lib.hid (Hb1.out.trans (hb2.mono Hb1.out.size))
  clear ho2 hb2 H2 Ho1
  go_wp2_with fail
  refine H3.out.mono ?_
  rintro e w3 ⟨rfl, q, rfl⟩
  go_wp2_with fail
  go_ret
  exact ⟨by simp, below_drewN Hb2.out q⟩
namespace walPacks
open Go.ChangeShapes Go.WideShapes Go.ChangeAt Go.RowKit
theorem own : ownKnob Try.prog.godebug = none := by kernel_rfl
theorem laidOut : laidOutB Try.prog = true := by kernel_rfl
set_option linter.unusedVariables false
set_option maxRecDepth 100000 in
theorem lifted (os : Os) (started : os.Started) (H : Type) (enc : TypeId × Value → H) :
    ReturnsInHanded {} Try.checked os 3 .any (Rows.walPacksSpec.pre6 enc Try.prog Try.f3 Rows.walPacksRow.domain false) (Rows.walPacksSpec.post enc Try.prog Try.f3 false true false false) := by
  refine returnsInHanded_of_change (C := Try.checked) own started (by kernel_rfl) Try.func3
    (ChangeSpec.witness6 (enc := enc) (C := Try.checked) false ⟨#[], #[.slice none 0 0], []⟩ 8 (by kernel_rfl) (by kernel_rfl) (by kernel_rfl) (by kernel_rfl)) ?_
  intro W base args ds gs before hval0 hW hcnd _
  have hval : ∀ (j : Nat) t v, Try.f3.params[j]? = some t → args[j]? = some v → Value.okWide Try.prog W .any base t v := hval0
  have hW' := hW
  obtain ⟨p, q, hA0, hV, rfl, hfz, hnd⟩ := hW
  have hA : DataW.TrodAll enc Try.prog W 0 (fun _ => true) true Try.f3.params.toList args.toList ds p := hA0
  rw [Try.params3] at hA hval
  obtain ⟨v0, vs0, d0, ds0, p0, q0, hargs, rfl, rfl, h0, rr0⟩ := trodAll_cons hA
  obtain ⟨rfl, rfl, rfl⟩ := trodAll_nil rr0
  obtain rfl : args = #[v0] := by cases args; simp_all
  obtain ⟨rfl, rfl⟩ := trodVars_none hV
  have k0 := h0
  have lt0 : ∀ x ∈ p0, x.block < W.heap.size := by obtain ⟨m, hm⟩ := k0; exact DataW.trod_lt m _ _ _ hm
  obtain ⟨A0, n0, c0, b0, rfl, hx0⟩ := open_bat (hval 0 22 v0 rfl rfl) h0
  clear hA0 hval0
  refine (walkWalPacks A0 n0 c0 b0 W hx0).mono fun e W' ⟨he, bel⟩ => ?_
  subst he
  exact ⟨_, rfl, _, _, _, [], _, [], hW', trodAll_mk1 (shut_bool Try.underlying4 _), (trodAll_cons_mk (Below.trod laidOut (by kernel_rfl) (of_decide_eq_true (by kernel_rfl)) k0 bel lt0) trodAll_mk0), rfl, bel.frame _, fun h => by cases h⟩

theorem over : Rows.walPacksRow.holds Try.pinned (OpenSpec.ofChange Rows.walPacksSpec) :=
  OpenClaim.holds_of_wide 3 Try.f3 rfl rfl rfl rfl rfl rfl rfl ⟨rfl, rfl, rfl, rfl, rfl⟩ rfl rfl rfl rfl rfl (by kernel_rfl) Try.func3 (by kernel_rfl)
    (of_decide_eq_true (by kernel_rfl)) (by unfold Func.isWrapper; first | (rw [if_pos (by decide +kernel)]; kernel_rfl) | (rw [if_neg (by decide +kernel)]; exact ⟨rfl, rfl⟩))
    (fun os started H enc _ => lifted os started H enc)

theorem proved : Rows.WalPacksSaid := over
#print axioms proved
end walPacks
end Go.Proofs.Ytbdbcffnjibjoaa
