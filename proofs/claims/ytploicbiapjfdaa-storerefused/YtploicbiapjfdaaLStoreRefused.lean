/- Proved here: what is refused does nothing (statement StoreRefused). No condition. -/
import Derived.Test.YtploicbiapjfdaaBunSF
import Derived.Test.YtploicbiapjfdaaStOk
import Derived.Test.YtploicbiapjfdaaRwSameK
import Derived.Test.YtploicbiapjfdaaSameKeep
import Derived.ChangeSame
namespace Go.Proofs.Ytploicbiapjfdaa
set_option linter.unusedVariables false
set_option linter.unusedSimpArgs false
open Go.RowKit
theorem okL_len : ∀ (l : List Ac) (s : List Rw × List UInt8), (okL s l).length ≤ l.length
  | [], _ => Nat.le_refl _
  | a :: l, s => by
    rw [okL_cons]
    have := okL_len l (actR s a).2
    split
    · simp only [List.length_cons]; omega
    · simp only [List.length_cons]; omega
def RfsR (w2 : World) (acs : List Ac) (T1 : List (Int × List Rw)) (l : Nat) (gk : Nat) (s7 s8 s9 : Value) (wr : World) : Prop :=
  ∃ i : Nat, s9 = .int .i64 (i : Int) ∧ i ≤ l ∧ gk = l - i ∧ AsS wr w2.heap.size (fun b => b < w2.heap.size) s7 (okL st0 (acs.take i)) ∧ TdS wr w2.heap.size (fun b => b < w2.heap.size) s8 ((T1.take i).filter okT) ∧ Below w2.heap.size w2 wr
def CmR (w0 : World) (m : Nat) (gk : Nat) (s13 : Value) (wr : World) : Prop :=
  ∃ i q : Nat, s13 = .int .i64 (i : Int) ∧ i ≤ m ∧ gk = m - i ∧ wr = w0.drewN q
set_option maxHeartbeats 4000000 in
set_option maxRecDepth 100000 in
theorem walkStoreRefused (A0 : Option Addr) (n0 c0 : Nat) (w : World) (hx0 : WsIn w w.heap.size A0 n0) :
    Calls Try.prog 8 #[.slice A0 n0 c0] w fun e w' => e = .returned (.bool true) ∧ Below w.heap.size w w' := by
  have H1 := Lib.hid (acts_any A0 n0 c0 60 w hx0 (by decide))
  clear hx0
  go_enter Try.func8, Try.ntmps8
  go_wp2_with fail
  refine H1.out.mono ?_
  rintro e w1 ⟨v1, acs, rfl, hl1, -, has1, hb1⟩
  obtain ⟨B1, d1, rfl, hin1⟩ := has1.form
  obtain ⟨l, hn1⟩ : ∃ l, acs.length = l := ⟨_, rfl⟩
  have hl60 : l ≤ 60 := by omega
  rw [hn1] at hin1 ⊢
  have HinA := Lib.hid hin1
  have Hl := Lib.hid hn1
  have HB0 := Lib.hid hb1
  have HS := Lib.hid (stored_any B1 l d1 w1.heap.size acs w1 hin1 (Nat.le_refl _) (by omega))
  have hle := fil_len acs
  unfold filOfA at hle
  have HokR := Lib.hid (okL_R acs st0)
  have Hstep : Hid (∀ (i : Nat) (hi : i < acs.length) (hi2 : i < (actsR st0 acs).1.length), okL st0 (acs.take (i + 1)) = okL st0 (acs.take i) ++ (if (actsR st0 acs).1[i].1 = 0 then [acs[i]] else [])) := Lib.hid fun i hi hi2 => okL_step hi hi2
  have Htr : Hid (∀ x ∈ (actsR st0 acs).1, x.2.length ≤ 40) := Lib.hid fun x hx => told_rows hx
  have Htl : Hid ((actsR st0 acs).1.length = l) := Lib.hid (by rw [actsR_len, hn1])
  unfold StdPost at HS
  rw [hn1] at HS
  generalize hT1 : (actsR st0 acs).1 = T1 at *
  generalize hF : (actsR st0 acs).2.2 = F at *
  have HF := Lib.hid hF
  clear H1 hl1 has1 hb1 hin1 hn1 hT1 hF
  go_wp2_with fail
  refine HS.out.mono ?_
  rintro e w2 ⟨At, ct, Af, cf, rfl, ht, hf, hb2⟩
  have Ht := Lib.hid ht
  have Hf := Lib.hid hf
  have HinA := Lib.hid ((HinA.out.below hb2).wider hb2.size)
  have HB0 := Lib.hid (HB0.out.trans (hb2.mono HB0.out.size))
  clear ht hf hb2 HS
  go_wp2_with fail
  go_loopg [7, 8, 9] l (RfsR w2 acs T1 l)
  case atStart => exact ⟨0, rfl, Nat.zero_le _, by omega, AsS.nil _ _ _, TdS.nil _ _ _, Below.refl _ _⟩
  case round =>
    obtain ⟨i, rfl, hi, hgk, has, htd, hbe⟩ := hrel
    obtain ⟨A7, c7, rfl, hin7⟩ := has.form
    obtain ⟨A8, c8, rfl, hin8⟩ := htd.form
    obtain ⟨k, hk⟩ : ∃ k, (okL st0 (acs.take i)).length = k := ⟨_, rfl⟩
    obtain ⟨m, hm⟩ : ∃ m, ((T1.take i).filter okT).length = m := ⟨_, rfl⟩
    have hm60 : m ≤ 60 := by
      have h1 := List.length_filter_le okT (T1.take i)
      rw [hm, List.length_take] at h1
      omega
    have hk60 : k ≤ 60 := by
      have h1 := okL_len (acs.take i) st0
      rw [hk, List.length_take] at h1
      omega
    rw [hk] at has hin7 ⊢
    rw [hm] at htd hin8 ⊢
    have Hgk := Lib.hid hgk
    have Hk := Lib.hid hk
    have Hm := Lib.hid hm
    have Has := Lib.hid has
    have Htd := Lib.hid htd
    have Hbe := Lib.hid hbe
    have Hin7 := Lib.hid hin7
    have Hin8 := Lib.hid hin8
    clear hgk hk hm has htd hbe hin7 hin8
    by_cases hlt : i < l
    · have hia : i < acs.length := by have := Hl.out; omega
      have hit : i < T1.length := by have := Htl.out; omega
      have hlti : (i : Int) < (l : Int) := by omega
      have HT : Hid (T1.take (i + 1) = T1.take i ++ [T1[i]]) := Lib.hid (List.take_succ_eq_append_getElem hit)
      have HO := Lib.hid (Hstep.out i hia hit)
      obtain ⟨b, off, Ar, cr, hA, hbB, hain, d0, d1', d2, d3⟩ := (HinA.out.below Hbe.out).at_ hia
      subst hA
      obtain ⟨b2, off2, Ar2, cr2, hA2, hbB2, hrt, e0, e1⟩ := (Ht.out.below Hbe.out).at_ hit
      subst hA2
      have hbwr : b < wr.heap.size := by have := Hbe.out.size; omega
      have hbwr2 : b2 < wr.heap.size := by have := Hbe.out.size; omega
      generalize acs[i] = a at *
      generalize T1[i] = x at *
      obtain ⟨kd, rs, ky, mm⟩ := a
      obtain ⟨cd, xr⟩ := x
      simp only at d0 d1' d2 d3 hain hrt e0 e1 HO HT
      by_cases h0 : cd = 0
      · subst h0
        have hS : ∀ b, b < w2.heap.size → some b ≠ (Value.slice A7 k c7).ownBlock := fun b hb e => by obtain ⟨pc, ho, _⟩ := Has.out; have := (ho.lt b e.symm).1; omega
        obtain ⟨v9, w9, hrun9, has9, hb9, hg9, -⟩ := acts_put Has.out hS ⟨kd, rs, ky, mm⟩ _ hain #[.int .i64 kd, .slice Ar rs.length cr, str ky, .int .i64 mm] rfl (by rw [Hk.out]; omega) Hbe.out.size
        have hbe9 := hb9 _ _ Hbe.out (Nat.le_refl _) Hbe.out.size
        have htd9 := Htd.out.grown hg9 (apart Has.out Htd.out).2 hS
        have hS8 : ∀ b, b < w2.heap.size → some b ≠ (Value.slice A8 m c8).ownBlock := fun b hb e => by obtain ⟨pc, ho, _⟩ := htd9; have := (ho.lt b e.symm).1; omega
        have hrt9 : RInS w9 (fun b => b < w2.heap.size) Ar2 xr.length cr2 xr := (RInS.low hrt).kept fun p hp hlt => World.cell?_of_block (hg9.block p.block hlt (hS _ hp))
        obtain ⟨v10, w10, hrun10, htd10, hb10, hg10⟩ := htd9.put hS8 (0, xr) Ar2 cr2 hrt9 (by rw [Hm.out]; omega) hbe9.size
        have has10 := has9.grown hg10 (apart has9 htd9).1 hS8
        have e0' : w9.cell? ⟨b2, off2 + i * 2, none⟩ = some (.int .i64 0) := (World.cell?_of_block (hg9.block b2 hbwr2 (hS _ hbB2))).trans e0
        have e1' : w9.cell? ⟨b2, off2 + i * 2 + 1, none⟩ = some (.slice Ar2 xr.length cr2) := (World.cell?_of_block (hg9.block b2 hbwr2 (hS _ hbB2))).trans e1
        have hb29 : b2 < w9.heap.size := by have := hbe9.size; omega
        have Hrun9 := Lib.hid hrun9
        have Hrun10 := Lib.hid hrun10
        have Has10 := Lib.hid has10
        have Htd10 := Lib.hid htd10
        have Hb10 := Lib.hid (hb10 _ _ hbe9 (Nat.le_refl _) hbe9.size)
        rw [if_pos rfl] at HO
        have HTf : Hid ((T1.take (i + 1)).filter okT = (T1.take i).filter okT ++ [(0, xr)]) := Lib.hid (by rw [HT.out, List.filter_append]; rfl)
        clear hS hS8 hrun9 hrun10 has9 has10 htd9 htd10 hb9 hb10 hg9 hg10 hbe9 hain hrt hrt9
        go_wp2_with (first | (at_builtin; refine rw_app rfl _ _ _ rfl _ _ (by rfl) (by rfl) Hrun9.out ?_; clear Hrun9) | (at_builtin; refine rw_app rfl _ _ _ rfl _ _ (by rfl) (by rfl) Hrun10.out ?_; clear Hrun10) | fail)
        go_roundg (l - (i + 1))
        case measure => have := Hgk.out; omega
        case rel => exact ⟨i + 1, by go_num, by omega, rfl, by rw [HO.out]; exact Has10.out, by rw [HTf.out]; exact Htd10.out, Hb10.out⟩
      · rw [if_neg h0] at HO
        have HTf : Hid ((T1.take (i + 1)).filter okT = (T1.take i).filter okT) := Lib.hid (by rw [HT.out, List.filter_append]; simp [okT, h0])
        clear hain hrt
        go_wp2_with fail
        go_roundg (l - (i + 1))
        case measure => have := Hgk.out; omega
        case rel => exact ⟨i + 1, by go_num, by omega, rfl, by rw [HO.out, List.append_nil]; exact Has.out, by rw [HTf.out]; exact Htd.out, Hbe.out⟩
    · have hil : ¬ (i : Int) < (l : Int) := by omega
      have hal : acs.take i = acs := List.take_of_length_le (by have := Hl.out; omega)
      have htl : T1.take i = T1 := List.take_of_length_le (by have := Htl.out; omega)
      rw [hal] at Hin7 Hk
      rw [htl] at Hin8 Hm
      have HS2 := Lib.hid (stored_any A7 k c7 wr.heap.size _ wr Hin7.out (Nat.le_refl _) (by omega))
      unfold StdPost at HS2
      rw [HokR.out, Hk.out] at HS2
      simp only [HF.out] at HS2
      have HX0 : Hid (∀ x ∈ T1.filter okT, x.1 = 0 ∧ x.2.length ≤ 40) := Lib.hid fun x hx => ⟨by simpa [okT] using (List.mem_filter.1 hx).2, Htr.out x (List.mem_filter.1 hx).1⟩
      generalize T1.filter okT = X at *
      clear hal htl Has Htd Hin7 HokR Hstep Htr HF
      go_wp2_with fail
      refine HS2.out.mono ?_
      rintro e w3 ⟨Ax, cx, Afx, cfx, rfl, htx, hfx, hb3⟩
      have K1 := Lib.hid (samekeep_any Af Afx F.length F.length cf cfx F F w3 ((((Hf.out.below (Hbe.out)).below hb3).mono (S' := fun b => b < w3.heap.size) fun b hb _ => hb).2.2.2) (hfx.2.2.2) (by omega) (by omega))
      rw [beq_self_eq_true] at K1
      have Htx := Lib.hid htx
      have Ht8 := Lib.hid (Hin8.out.below hb3)
      have Hb3 := Lib.hid (HB0.out.trans ((Hbe.out.trans (hb3.mono Hbe.out.size)).mono HB0.out.size))
      clear htx hfx hb3 HS2 Hin8
      go_wp2_with fail
      refine K1.out.mono ?_
      rintro e w4 ⟨rfl, q1, rfl⟩
      obtain ⟨Wf, hWf⟩ : ∃ W, w3.drewN q1 = W := ⟨_, rfl⟩
      have Htx := Lib.hid (show TdsIn Wf w3.heap.size Ax k cx X by rw [← hWf]; exact Htx.out)
      have Ht8 := Lib.hid (show TdsIn Wf wr.heap.size A8 m c8 X by rw [← hWf]; exact Ht8.out)
      have Hbf := Lib.hid (show Below w.heap.size w Wf by rw [← hWf]; exact below_drewN Hb3.out _)
      rw [hWf]
      clear hWf K1
      go_wp2_with fail
      go_loopg [13] k (CmR Wf k)
      case atStart => exact ⟨0, 0, rfl, Nat.zero_le _, by omega, rfl⟩
      case round =>
        obtain ⟨i2, q, rfl, hi2, hgk2, rfl⟩ := hrel
        have Hgk2 := Lib.hid hgk2
        clear hgk2
        by_cases hlt2 : i2 < k
        · have hif : i2 < X.length := by have := Htx.out.1; omega
          have hkm : i2 < m := by have := Ht8.out.1; omega
          have hlti : (i2 : Int) < (k : Int) := by omega
          have hltm : (i2 : Int) < (m : Int) := by omega
          obtain ⟨b, off, Ar, cr, hA, hbB, hr, d0, d1'⟩ := Htx.out.at_ hif
          obtain ⟨b', off', Ar', cr', hA', hbB', hr', e0, e1⟩ := Ht8.out.at_ hif
          subst hA hA'
          obtain ⟨hx0, hx40⟩ := HX0.out _ (List.getElem_mem hif)
          generalize X[i2] = x at *
          obtain ⟨cd, xr⟩ := x
          simp only at hx0 hx40 hr d0 d1' hr' e0 e1
          subst hx0
          obtain ⟨Wq, hWq⟩ : ∃ Wq, Wf.drewN q = Wq := ⟨_, rfl⟩
          have HR1 := Lib.hid (show RIn Wq w3.heap.size Ar xr.length cr xr by rw [← hWq]; exact hr)
          have HR2 := Lib.hid (show RIn Wq wr.heap.size Ar' xr.length cr' xr by rw [← hWq]; exact hr')
          have d0 : Wq.cell? ⟨b, off + i2 * 2, none⟩ = some (.int .i64 0) := by rw [← hWq]; exact d0
          have d1' : Wq.cell? ⟨b, off + i2 * 2 + 1, none⟩ = some (.slice Ar xr.length cr) := by rw [← hWq]; exact d1'
          have e0 : Wq.cell? ⟨b', off' + i2 * 2, none⟩ = some (.int .i64 0) := by rw [← hWq]; exact e0
          have e1 : Wq.cell? ⟨b', off' + i2 * 2 + 1, none⟩ = some (.slice Ar' xr.length cr') := by rw [← hWq]; exact e1
          rw [hWq]
          have Hwq := Lib.hid hWq
          clear hr hr' hWq
          go_wp2_with fail
          go_quiet ((go_at_call 22; exact Calls.quiet_of (sameRowsK_any _ _ _ _ _ _ _ xr _ (HR1.out.below (below_drewN (Below.refl _ _) _)) (HR2.out.below (below_drewN (Below.refl _ _) _)) (by omega))))
          go_wp2
          have ewq := Hwq.out
          subst ewq
          go_roundg (k - (i2 + 1))
          case measure => have := Hgk2.out; omega
          case rel => exact ⟨i2 + 1, q + nq, by go_num, by omega, rfl, by simp⟩
        · have hlti : ¬ (i2 : Int) < (k : Int) := by omega
          go_wp2_with fail
          go_ret
          exact ⟨by simp, below_drewN Hbf.out _⟩
namespace storeRefused
open Go.ChangeShapes Go.WideShapes Go.ChangeAt Go.RowKit
theorem own : ownKnob Try.prog.godebug = none := by kernel_rfl
theorem laidOut : laidOutB Try.prog = true := by kernel_rfl
set_option linter.unusedVariables false
set_option maxRecDepth 100000 in
theorem lifted (os : Os) (started : os.Started) (H : Type) (enc : TypeId × Value → H) :
    ReturnsInHanded {} Try.checked os 8 .any (Rows.storeRefusedSpec.pre6 enc Try.prog Try.f8 Rows.storeRefusedRow.domain false) (Rows.storeRefusedSpec.post enc Try.prog Try.f8 false true false false) := by
  refine returnsInHanded_of_change (C := Try.checked) own started (by kernel_rfl) Try.func8
    (ChangeSpec.witness6 (enc := enc) (C := Try.checked) false ⟨#[], #[.slice none 0 0], []⟩ 8 (by kernel_rfl) (by kernel_rfl) (by kernel_rfl) (by kernel_rfl)) ?_
  intro W base args ds gs before hval0 hW hcnd _
  have hval : ∀ (j : Nat) t v, Try.f8.params[j]? = some t → args[j]? = some v → Value.okWide Try.prog W .any base t v := hval0
  have hW' := hW
  obtain ⟨p, q, hA0, hV, rfl, hfz, hnd⟩ := hW
  have hA : DataW.TrodAll enc Try.prog W 0 (fun _ => true) true Try.f8.params.toList args.toList ds p := hA0
  rw [Try.params8] at hA hval
  obtain ⟨v0, vs0, d0, ds0, p0, q0, hargs, rfl, rfl, h0, rr0⟩ := trodAll_cons hA
  obtain ⟨rfl, rfl, rfl⟩ := trodAll_nil rr0
  obtain rfl : args = #[v0] := by cases args; simp_all
  obtain ⟨rfl, rfl⟩ := trodVars_none hV
  have k0 := h0
  have lt0 : ∀ x ∈ p0, x.block < W.heap.size := by obtain ⟨m, hm⟩ := k0; exact DataW.trod_lt m _ _ _ hm
  obtain ⟨A0, n0, c0, rfl, hx0⟩ := open_wishes (hval 0 37 v0 rfl rfl) h0
  clear hA0 hval0
  refine (walkStoreRefused A0 n0 c0 W hx0).mono fun e W' ⟨he, bel⟩ => ?_
  subst he
  exact ⟨_, rfl, _, _, _, [], _, [], hW', trodAll_mk1 (shut_bool Try.underlying4 _), (trodAll_cons_mk (Below.trod laidOut (by kernel_rfl) (of_decide_eq_true (by kernel_rfl)) k0 bel lt0) trodAll_mk0), rfl, bel.frame _, fun h => by cases h⟩

theorem over : Rows.storeRefusedRow.holds Try.pinned (OpenSpec.ofChange Rows.storeRefusedSpec) :=
  OpenClaim.holds_of_wide 8 Try.f8 rfl rfl rfl rfl rfl rfl rfl ⟨rfl, rfl, rfl, rfl, rfl⟩ rfl rfl rfl rfl rfl (by kernel_rfl) Try.func8 (by kernel_rfl)
    (of_decide_eq_true (by kernel_rfl)) (by unfold Func.isWrapper; first | (rw [if_pos (by decide +kernel)]; kernel_rfl) | (rw [if_neg (by decide +kernel)]; exact ⟨rfl, rfl⟩))
    (fun os started H enc _ => lifted os started H enc)

theorem proved : Rows.StoreRefusedSaid := over
#print axioms proved
end storeRefused
end Go.Proofs.Ytploicbiapjfdaa
