/- Proved here: keys are given in increasing order of Ids (statement KeysLeast). No condition. -/
import Derived.Test.YtaamoilkphjhgabKyEd
import Derived.Test.YtaamoilkphjhgabBunRA
import Derived.Test.YtaamoilkphjhgabOpenI
import Derived.HandedShaped
namespace Go.Proofs.Ytaamoilkphjhgab
set_option linter.unusedVariables false
set_option linter.unusedSimpArgs false
open Go.RowKit
def LtA (w : World) (l : List Ak) (n : Nat) (gk : Nat) (s3 s5 : Value) (wr : World) : Prop :=
  ∃ i : Nat, s5 = .int .i64 (i : Int) ∧ i ≤ 14 ∧ gk = 14 - i ∧ wr.ownsRow w.heap.size 35 5 s3 (n + i) (pcK akL (l ++ clms edS 100 i)) ∧ Below w.heap.size w wr
def LtB (W : World) (L : List Nm) (n : Nat) (gk : Nat) (s8 s9 : Value) (wr : World) : Prop :=
  ∃ j : Nat, s9 = .int .i64 ((n + j : Nat) : Int) ∧ j ≤ 14 ∧ gk = 14 - j ∧ s8 = str (lastI L j) ∧ Below W.heap.size W wr
set_option maxHeartbeats 4000000 in
set_option maxRecDepth 100000 in
theorem walkKeysLeast (A0 : Option Addr) (n0 c0 : Nat) (w : World) (hx0 : IntsAt w w.heap.size A0 n0 c0) (hsh : w.ShapedOpen Try.prog) :
    Calls Try.prog 6 #[.slice A0 n0 c0] w fun e w' => e = .returned (.bool true) ∧ Below w.heap.size w w' := by
  have hg := Gl.of hsh
  have H1 := Lib.hid (asks_any A0 n0 c0 w.heap.size 60 w hx0 (Nat.le_refl _) (by decide))
  have Hg := Lib.hid hg
  clear hx0 hsh hg
  go_enter Try.func6, Try.ntmps6
  go_wp2_with fail
  refine H1.out.mono ?_
  rintro e w1 ⟨v1, l, rfl, ho1, hlen, hok, b1⟩
  have hn60 : l.length ≤ 60 := by omega
  have Hst := Lib.hid (show LtA w l l.length 14 v1 (.int .i64 0) w1 from ⟨0, rfl, by omega, by omega, by simpa [clms] using ho1, b1⟩)
  have Hok := Lib.hid hok
  obtain ⟨n, hn⟩ : ∃ n, l.length = n := ⟨_, rfl⟩
  have HR := Lib.hid (clms_R edS_ok 14 100 _ (InvK.asks l invK0) (by decide) (fun b hb => by_new hok edS (by omega)))
  have HU := Lib.hid (left_up (InvK.asks l invK0) edS)
  have HF := Lib.hid ((InvK.asks l invK0).few edS)
  have HA := Lib.hid (asksR_app ks0 l (clms edS 100 14))
  have HN := Lib.hid (asksR_len l ks0)
  rw [hn] at Hst hn60 HN
  obtain ⟨A1, c1, rfl, -⟩ := own_form ho1
  rw [hn] at Hst ⊢
  have Hn := Lib.hid hn
  clear ho1 hlen hok b1 hn H1
  go_wp2_with fail
  go_loopg [3, 5] 14 (LtA w l n)
  case atStart => exact Hst.out
  case round =>
    clear Hst
    obtain ⟨i, rfl, hi, hgk, ho, hbe⟩ := hrel
    have Hgk := Lib.hid hgk
    have Ho := Lib.hid ho
    have Hbe := Lib.hid hbe
    clear hgk ho hbe
    by_cases hi14 : i < 14
    · have hii : (i : Int) < 14 := by omega
      have hwr : IntKind.i64.wrap (100 + (i : Int)) = 100 + (i : Int) := IntWalk.i64_in _ (by omega)
      obtain ⟨v', wf, hrun, ho', hg', -⟩ := run_app_el (P := Try.prog) (enc := akL) akL_len akL_one (by omega) Try.underlying22 info_ask rfl (by omega) wr w.heap.size (n + i) _ (l ++ clms edS 100 i) (clm edS (100 + (i : Int))) #[.int .i64 3, .string ⟨#[101, 100]⟩, .string ⟨#[]⟩, .string ⟨#[]⟩, .int .i64 (100 + (i : Int))] rfl Ho.out (by omega) Hbe.out.size
      have Hrun := Lib.hid hrun
      have Ho' := Lib.hid (show wf.ownsRow w.heap.size 35 5 v' (n + (i + 1)) (pcK akL (l ++ clms edS 100 (i + 1))) by rw [clms_snoc, ← List.append_assoc]; exact ho')
      have Hb' := Lib.hid (below_own (Hbe.out.alloc Hbe.out.size _) hg' (Ho.out.alloc _) (Nat.le_refl _) (by have := Hbe.out.size; simp; omega))
      clear hrun ho' hg' Ho
      go_wp2_with (first | (at_builtin; refine rw_app rfl _ _ _ rfl _ _ (by rfl) (by rfl) Hrun.out ?_; clear Hrun) | fail)
      go_roundg (14 - (i + 1))
      case measure => have := Hgk.out; omega
      case rel => exact ⟨i + 1, by go_num, by omega, rfl, Ho'.out, Hb'.out⟩
    · have hii : ¬ (i : Int) < 14 := by omega
      obtain rfl : i = 14 := by omega
      have hlen : (l ++ clms edS 100 14).length = n + 14 := by rw [List.length_append, clms_len, Hn.out]
      have ho := Ho.out
      rw [← hlen] at ho
      obtain ⟨A3, c3, hv3, hin3⟩ := LIn.own akL_len ho
      subst hv3
      have H2 := Lib.hid (given_any A3 _ c3 _ _ wr hin3 (by rw [hlen]; omega) (Hg.out.below Hbe.out) (fun a ha => by
        rcases List.mem_append.1 ha with ha | ha
        · exact okA_ok (Hok.out a ha)
        · exact clms_ok 14 100 (by decide) (by decide) a ha))
      unfold GvnPost at H2
      rw [HA.out] at H2
      rw [hlen] at H2 ⊢
      obtain ⟨hr1, -, -, -, -⟩ := HR.out
      have hc14 : (asksR (asksR ks0 l).2 (clms edS 100 14)).1.length = 14 := by rw [asksR_len, clms_len]
      obtain ⟨s, hs⟩ : ∃ s, (asksR ks0 l).2 = s := ⟨_, rfl⟩
      rw [hs] at hr1 hc14 HU HF H2
      have HG := Lib.hid (show ∀ j, j < 14 → ∃ (h : n + j < ((asksR ks0 l).1 ++ (asksR s (clms edS 100 14)).1).length), ClmG s edS j (((asksR ks0 l).1 ++ (asksR s (clms edS 100 14)).1)[n + j]) from fun j hj => by
        have hl : n + j < ((asksR ks0 l).1 ++ (asksR s (clms edS 100 14)).1).length := by rw [List.length_append, HN.out, hc14]; omega
        refine ⟨hl, ?_⟩
        obtain ⟨g, hg, hG⟩ := hr1 j hj
        have : ((asksR ks0 l).1 ++ (asksR s (clms edS 100 14)).1)[n + j]? = some g := by
          rw [List.getElem?_append_right (by rw [HN.out]; omega), HN.out, Nat.add_sub_cancel_left]; exact hg
        rw [List.getElem?_eq_getElem hl] at this
        injection this with this
        rw [this]; exact hG)
      generalize (asksR ks0 l).1 ++ (asksR s (clms edS 100 14)).1 = R at *
      have hFw : (leftR s edS).length ≤ 12 := HF.out
      have HFw := Lib.hid hFw
      obtain ⟨L, hL⟩ : ∃ L, leftR s edS = L := ⟨_, rfl⟩
      have HL := Lib.hid hL
      rw [hL] at HU HF
      clear hr1 hc14 hs hFw hL hin3 ho hlen Ho HR HA HN
      go_wp2_with fail
      refine H2.out.mono ?_
      rintro e w2 ⟨A2, c2, rfl, hin2, b2⟩
      have Hin2 := Lib.hid hin2
      have B2 := Lib.hid (below_tail Hbe.out b2 Hbe.out.size)
      clear hin2 b2 H2
      go_wp2_with fail
      go_loopg [8, 9] 14 (LtB w2 L n)
      case atStart => exact ⟨0, rfl, Nat.zero_le _, by omega, rfl, Below.refl _ _⟩
      case round =>
        obtain ⟨j, rfl, hj, hgk2, rfl, hbe2⟩ := hrel
        have Hgk2 := Lib.hid hgk2
        have Hbe2 := Lib.hid hbe2
        clear hgk2 hbe2
        by_cases hj14 : j < 14
        · obtain ⟨hjl, hG⟩ := HG.out j hj14
          have hji : ((n + j : Nat) : Int) < ((n + 14 : Nat) : Int) := by omega
          obtain ⟨b, off, hA, hbB, e0, e2, -, e4, -, -⟩ := gvn_at (Hin2.out.below Hbe2.out) hjl
          subst hA
          have hbw : b < wr.heap.size := Nat.lt_of_lt_of_le hbB Hbe2.out.size
          generalize R[n + j] = g at *
          obtain ⟨gc, gi, gb, gs, gm⟩ := g
          unfold ClmG at hG
          rw [HL.out] at hG
          simp only at e0 e2 e4 hG
          rcases hG with ⟨hm, g0, g1, g2⟩ | ⟨hm, g0, ⟨k, hk, q0, q1, q2, q3⟩ | ⟨hk, q0⟩⟩
          · have HS := Lib.hid (lastI_succ hm)
            have hless := lastI_less HU.out.1 HU.out.2 hm
            have hne : Op.bytesLess L[j].2 (lastI L j) = false := bl_asym hless
            subst g0 g1 g2
            generalize lastI L j = lv at *
            generalize (L[j]).2 = iv at *
            clear hm
            go_wp2_with fail
            go_roundg (14 - (j + 1))
            case measure => have := Hgk2.out; omega
            case rel => exact ⟨j + 1, by go_num, by omega, rfl, (by rw [HS.out]), Hbe2.out⟩
          · have HS := Lib.hid (lastI_end hm)
            subst q0 q3
            clear q1 q2 g0 hk hm
            generalize lastI L j = lv at *
            go_wp2_with fail
            go_roundg (14 - (j + 1))
            case measure => have := Hgk2.out; omega
            case rel => exact ⟨j + 1, by go_num, by omega, rfl, (by rw [HS.out]), Hbe2.out⟩
          · have HS := Lib.hid (lastI_end hm)
            subst q0
            clear g0 hk hm
            generalize lastI L j = lv at *
            go_wp2_with fail
            go_roundg (14 - (j + 1))
            case measure => have := Hgk2.out; omega
            case rel => exact ⟨j + 1, by go_num, by omega, rfl, (by rw [HS.out]), Hbe2.out⟩
        · obtain rfl : j = 14 := by omega
          obtain ⟨hjl, hG⟩ := HG.out 13 (by decide)
          have hji : ¬ ((n + 14 : Nat) : Int) < ((n + 14 : Nat) : Int) := by omega
          obtain ⟨b, off, hA, hbB, -, -, -, -, e5, -⟩ := gvn_at (Hin2.out.below Hbe2.out) hjl
          subst hA
          have hbw : b < wr.heap.size := Nat.lt_of_lt_of_le hbB Hbe2.out.size
          have hm0 : (R[n + 13]).many = 0 := by
            unfold ClmG at hG
            rw [HL.out] at hG
            rcases hG with ⟨hm, _⟩ | ⟨_, h, _⟩
            · have := HF.out; omega
            · exact h
          rw [hm0] at e5
          clear hG hm0
          generalize lastI L 14 = lv at *
          go_wp2_with fail
          go_ret
          exact ⟨rfl, below_tail B2.out Hbe2.out B2.out.size⟩
namespace keysLeast
open Go.ChangeShapes Go.WideShapes Go.ChangeAt Go.RowKit
theorem own : ownKnob Try.prog.godebug = none := by kernel_rfl
theorem laidOut : laidOutB Try.prog = true := by kernel_rfl
set_option linter.unusedVariables false
set_option maxRecDepth 100000 in
theorem lifted (os : Os) (started : os.Started) (H : Type) (enc : TypeId × Value → H) :
    ReturnsInHanded {} Try.checked os 6 .any (Rows.keysLeastSpec.pre6 enc Try.prog Try.f6 Rows.keysLeastRow.domain false) (Rows.keysLeastSpec.post enc Try.prog Try.f6 false true false false) := by
  refine returnsInHanded_of_change_shaped (C := Try.checked) own started (by kernel_rfl) Try.func6
    (ChangeSpec.witness6 (enc := enc) (C := Try.checked) false ⟨#[], #[.slice none 0 0], []⟩ 8 (by kernel_rfl) (by kernel_rfl) (by kernel_rfl) (by kernel_rfl)) ?_
  intro W base args ds gs before hval0 hW hcnd _ hsh0 _
  have hsh : W.ShapedOpen Try.prog := hsh0
  have hval : ∀ (j : Nat) t v, Try.f6.params[j]? = some t → args[j]? = some v → Value.okWide Try.prog W .any base t v := hval0
  have hW' := hW
  obtain ⟨p, q, hA0, hV, rfl, hfz, hnd⟩ := hW
  have hA : DataW.TrodAll enc Try.prog W 0 (fun _ => true) true Try.f6.params.toList args.toList ds p := hA0
  rw [Try.params6] at hA hval
  obtain ⟨v0, vs0, d0, ds0, p0, q0, hargs, rfl, rfl, h0, rr0⟩ := trodAll_cons hA
  obtain ⟨rfl, rfl, rfl⟩ := trodAll_nil rr0
  obtain rfl : args = #[v0] := by cases args; simp_all
  obtain ⟨rfl, rfl⟩ := trodVars_none hV
  have k0 := h0
  have lt0 : ∀ x ∈ p0, x.block < W.heap.size := by obtain ⟨m, hm⟩ := k0; exact DataW.trod_lt m _ _ _ hm
  obtain ⟨A0, n0, c0, rfl, hx0⟩ := open_intsl Try.underlying30 Try.underlying3 (by kernel_rfl) (hval 0 30 v0 rfl rfl) h0
  clear hA0 hval0
  refine (walkKeysLeast A0 n0 c0 W hx0 hsh).mono fun e W' ⟨he, bel⟩ => ?_
  subst he
  exact ⟨_, rfl, _, _, _, [], _, [], hW', trodAll_mk1 (shut_bool Try.underlying4 _), (trodAll_cons_mk (Below.trod laidOut (by kernel_rfl) (of_decide_eq_true (by kernel_rfl)) k0 bel lt0) trodAll_mk0), rfl, bel.frame _, fun h => by cases h⟩

theorem over : Rows.keysLeastRow.holds Try.pinned (OpenSpec.ofChange Rows.keysLeastSpec) :=
  OpenClaim.holds_of_wide 6 Try.f6 rfl rfl rfl rfl rfl rfl rfl ⟨rfl, rfl, rfl, rfl, rfl⟩ rfl rfl rfl rfl rfl (by kernel_rfl) Try.func6 (by kernel_rfl)
    (of_decide_eq_true (by kernel_rfl)) (by unfold Func.isWrapper; first | (rw [if_pos (by decide +kernel)]; kernel_rfl) | (rw [if_neg (by decide +kernel)]; exact ⟨rfl, rfl⟩))
    (fun os started H enc _ => lifted os started H enc)

theorem proved : Rows.KeysLeastSaid := over
#print axioms proved
end keysLeast
end Go.Proofs.Ytaamoilkphjhgab
