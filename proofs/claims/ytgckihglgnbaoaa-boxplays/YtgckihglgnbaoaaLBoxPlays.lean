/- Proved here: box.Play returns the result or error that P12.1 specifies, for all arguments (statement BoxPlays). No condition. -/
import Derived.Test.YtgckihglgnbaoaaBxRw
import Derived.Test.YtgckihglgnbaoaaBxPd
import Derived.Test.YtgckihglgnbaoaaOpenP
import Derived.HandedShaped
namespace Go.Proofs.Ytgckihglgnbaoaa
set_option linter.unusedVariables false
set_option linter.unusedSimpArgs false
open Go.RowKit
theorem bl_add (w : World) (q p : Nat) : (w.drewN q).drewN p = w.drewN (q + p) := by simp [World.drewN, Nat.add_assoc]
def BlR (W : World) (n : Nat) (gk : Nat) (i : Value) (wr : World) : Prop :=
  ∃ k q : Nat, i = .int .i64 (k : Int) ∧ k ≤ n ∧ gk = n - k ∧ wr = W.drewN q
set_option maxHeartbeats 4000000 in
set_option maxRecDepth 100000 in
theorem walkBoxPlays (A0 : Option Addr) (n0 c0 : Nat) (p0 : List Pt) (w : World) (hx0 : LIn ptL 5 w w.heap.size A0 n0 c0 p0 ∧ (∀ p ∈ p0, PtOk p) ∧ n0 ≤ 9223372036854775807) (hsh : w.ShapedOpen Try.prog) :
    Calls Try.prog 4 #[.slice A0 n0 c0] w fun e w' => e = .returned (.bool true) ∧ Below w.heap.size w w' := by
  have hg := Gl.of hsh
  obtain ⟨hl, hok, hn⟩ := hx0
  have H1 := Lib.hid (bplay_any A0 n0 c0 _ p0 w hl (Nat.le_refl _) hn hg hok)
  have HR := Lib.hid (fun (W : World) (h : LIn ptL 5 W w.heap.size A0 n0 c0 p0) (hb : w.heap.size ≤ W.heap.size) => refB_any A0 n0 c0 w.heap.size p0 W h hb hn hok)
  have Hl := Lib.hid hl
  have hPl : (playB p0).1.length ≤ 100 := by
    unfold playB
    split
    · simp
    · rw [gotsB_len]; omega
  have hten : ∀ g ∈ (playB p0).1, g.mail.length ≤ 10 := by
    intro g hg
    unfold playB at hg
    split at hg
    · simp at hg
    · obtain ⟨j, hj, rfl⟩ := List.getElem_of_mem hg
      have hi : j < p0.length := by rw [gotsB_len] at hj; exact hj
      have h := gots_at bs0 hi
      rw [List.getElem?_eq_getElem hj] at h
      rw [Option.some.inj h]
      exact got_mail (Bs.ten.gots _ ten0) _
  have Hten := Lib.hid hten
  unfold BPost at H1 HR
  generalize playB p0 = X at *
  obtain ⟨Q, e0⟩ := X
  simp only at H1 HR hPl Hten
  have he0 : (e0 != e0) = false := by simp
  obtain ⟨n, hnn⟩ : ∃ n, Q.length = n := ⟨_, rfl⟩
  rw [hnn] at H1 HR hPl
  have Hn := Lib.hid hnn
  have hnn2 : ((n : Int) != (n : Int)) = false := by simp
  clear hl hok hn hsh hg hten hnn
  go_enter Try.func4, Try.ntmps4
  go_wp2_with fail
  refine H1.out.mono ?_
  rintro e w1 ⟨A1, c1, rfl, h1, b1⟩
  have H2 := Lib.hid (HR.out w1 (Hl.out.below b1) b1.size)
  have Hin1 := Lib.hid h1
  have B1 := Lib.hid b1
  clear h1 b1 HR H1
  go_wp2_with fail
  refine H2.out.mono ?_
  rintro e w2 ⟨A2, c2, rfl, h2, b2⟩
  have Hin2 := Lib.hid h2
  have Hin12 := Lib.hid ((Hin1.out.below b2).wider b2.size)
  have B2 := Lib.hid (B1.out.trans (b2.mono B1.out.size))
  clear h2 b2 H2 Hin1
  go_wp2_with fail
  go_loopg [7] n (BlR w2 n)
  case atStart => exact ⟨0, 0, rfl, Nat.zero_le _, by omega, rfl⟩
  case round =>
    obtain ⟨i, q, rfl, hi, hgk, rfl⟩ := hrel
    have Hgk := Lib.hid hgk
    clear hgk
    by_cases hin : i < n
    · have hii : (i : Int) < (n : Int) := by omega
      have hil : i < Q.length := by rw [Hn.out]; exact hin
      obtain ⟨ba, oa, Aa, ca, hA1, hba, hma, a0, a1, a2⟩ := Hin12.out.at_ hil
      obtain ⟨bb, ob, Ab, cb, hA2, hbb, hmb, b0, b1, b2⟩ := Hin2.out.at_ hil
      subst hA1 hA2
      have hten := Hten.out Q[i] (List.getElem_mem hil)
      generalize Q[i] = g at *
      obtain ⟨gc, gx, gm⟩ := g
      simp only at a0 a1 a2 b0 b1 b2 hma hmb hten
      have Hma := Lib.hid hma
      have Hmb := Lib.hid hmb
      have e1 : (gc != gc) = false := by simp
      have e2 : (gx != gx) = false := by simp
      obtain ⟨m, hm⟩ : ∃ m, gm.length = m := ⟨_, rfl⟩
      rw [hm] at a2 b2 Hma Hmb
      have e3 : ((m : Int) != (m : Int)) = false := by simp
      have Hm := Lib.hid hm
      have hm10 : m ≤ 10 := by omega
      clear hma hmb hten hm
      go_wp2_with fail
      go_quiet (fail)
      go_wp2_with fail
      go_loopg [8] m (BlR w2 m)
      case atStart => exact ⟨0, q + nq, rfl, Nat.zero_le _, by omega, bl_add _ _ _⟩
      case round =>
        obtain ⟨k, q2, rfl, hk, hgk2, rfl⟩ := hrel
        have Hgk2 := Lib.hid hgk2
        clear hgk2
        by_cases hkm : k < m
        · have hki : (k : Int) < (m : Int) := by omega
          have hkl : k < gm.length := by rw [Hm.out]; exact hkm
          obtain ⟨bc, oc, hAa, hbc, c0', c1', c2'⟩ := ml_at Hma.out hkl
          obtain ⟨bd, od, hAb, hbd, d0', d1', d2'⟩ := ml_at Hmb.out hkl
          subst hAa hAb
          generalize gm[k] = x at *
          obtain ⟨ma, mf, mb⟩ := x
          simp only at c0' c1' c2' d0' d1' d2'
          have heq := fun W => eq_mail ma mf mb W
          have hgd := fun x y W => gd_mail BinOp.neq x y ma mf mb W
          go_wp2_with fail
          go_quiet (fail)
          go_wp2_with fail
          go_roundg (m - (k + 1))
          case measure => have := Hgk2.out; omega
          case rel => exact ⟨k + 1, _, by go_num, by omega, rfl, rfl⟩
        · have hki : ¬ (k : Int) < (m : Int) := by omega
          go_wp2_with fail
          go_roundg (n - (i + 1))
          case measure => have := Hgk.out; omega
          case rel => exact ⟨i + 1, _, by go_num, by omega, rfl, rfl⟩
    · have hii : ¬ (i : Int) < (n : Int) := by omega
      go_wp2_with fail
      go_ret
      exact ⟨rfl, below_drewN B2.out _⟩
namespace boxPlays
open Go.ChangeShapes Go.WideShapes Go.ChangeAt Go.RowKit
theorem own : ownKnob Try.prog.godebug = none := by kernel_rfl
theorem laidOut : laidOutB Try.prog = true := by kernel_rfl
set_option linter.unusedVariables false
set_option maxRecDepth 100000 in
theorem lifted (os : Os) (started : os.Started) (H : Type) (enc : TypeId × Value → H) :
    ReturnsInHanded {} Try.checked os 4 .any (Rows.boxPlaysSpec.pre6 enc Try.prog Try.f4 Rows.boxPlaysRow.domain false) (Rows.boxPlaysSpec.post enc Try.prog Try.f4 false true false false) := by
  refine returnsInHanded_of_change_shaped (C := Try.checked) own started (by kernel_rfl) Try.func4
    (ChangeSpec.witness6 (enc := enc) (C := Try.checked) false ⟨#[], #[.slice none 0 0], []⟩ 8 (by kernel_rfl) (by kernel_rfl) (by kernel_rfl) (by kernel_rfl)) ?_
  intro W base args ds gs before hval0 hW hcnd _ hsh0 _
  have hsh : W.ShapedOpen Try.prog := hsh0
  have hval : ∀ (j : Nat) t v, Try.f4.params[j]? = some t → args[j]? = some v → Value.okWide Try.prog W .any base t v := hval0
  have hW' := hW
  obtain ⟨p, q, hA0, hV, rfl, hfz, hnd⟩ := hW
  have hA : DataW.TrodAll enc Try.prog W 0 (fun _ => true) true Try.f4.params.toList args.toList ds p := hA0
  rw [Try.params4] at hA hval
  obtain ⟨v0, vs0, d0, ds0, p0, q0, hargs, rfl, rfl, h0, rr0⟩ := trodAll_cons hA
  obtain ⟨rfl, rfl, rfl⟩ := trodAll_nil rr0
  obtain rfl : args = #[v0] := by cases args; simp_all
  obtain ⟨rfl, rfl⟩ := trodVars_none hV
  have k0 := h0
  have lt0 : ∀ x ∈ p0, x.block < W.heap.size := by obtain ⟨m, hm⟩ := k0; exact DataW.trod_lt m _ _ _ hm
  obtain ⟨A0, n0, c0, p0, rfl, hx0⟩ := open_posts (hval 0 30 v0 rfl rfl) h0
  clear hA0 hval0
  refine (walkBoxPlays A0 n0 c0 p0 W hx0 hsh).mono fun e W' ⟨he, bel⟩ => ?_
  subst he
  exact ⟨_, rfl, _, _, _, [], _, [], hW', trodAll_mk1 (shut_bool Try.underlying4 _), (trodAll_cons_mk (Below.trod laidOut (by kernel_rfl) (of_decide_eq_true (by kernel_rfl)) k0 bel lt0) trodAll_mk0), rfl, bel.frame _, fun h => by cases h⟩

theorem over : Rows.boxPlaysRow.holds Try.pinned (OpenSpec.ofChange Rows.boxPlaysSpec) :=
  OpenClaim.holds_of_wide 4 Try.f4 rfl rfl rfl rfl rfl rfl rfl ⟨rfl, rfl, rfl, rfl, rfl⟩ rfl rfl rfl rfl rfl (by kernel_rfl) Try.func4 (by kernel_rfl)
    (of_decide_eq_true (by kernel_rfl)) (by unfold Func.isWrapper; first | (rw [if_pos (by decide +kernel)]; kernel_rfl) | (rw [if_neg (by decide +kernel)]; exact ⟨rfl, rfl⟩))
    (fun os started H enc _ => lifted os started H enc)

theorem proved : Rows.BoxPlaysSaid := over
#print axioms proved
end boxPlays
end Go.Proofs.Ytgckihglgnbaoaa
