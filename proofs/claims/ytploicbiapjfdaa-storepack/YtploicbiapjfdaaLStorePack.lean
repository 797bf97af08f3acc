/- Proved here: what is packed anew is the same: all rows are there behind a Pack, and packed again the file is the same (statement StorePack). No condition. -/
import Derived.Test.YtploicbiapjfdaaBunSF
import Derived.Test.YtploicbiapjfdaaRwSameK
import Derived.Test.YtploicbiapjfdaaSameKeep
import Derived.ChangeSame
namespace Go.Proofs.Ytploicbiapjfdaa
set_option linter.unusedVariables false
set_option linter.unusedSimpArgs false
open Go.RowKit
set_option maxHeartbeats 4000000 in
set_option maxRecDepth 100000 in
theorem walkStorePack (A0 : Option Addr) (n0 c0 : Nat) (w : World) (hx0 : WsIn w w.heap.size A0 n0) :
    Calls Try.prog 7 #[.slice A0 n0 c0] w fun e w' => e = .returned (.bool true) ∧ Below w.heap.size w w' := by
  have H1 := Lib.hid (acts_any A0 n0 c0 40 w hx0 (by decide))
  clear hx0
  go_enter Try.func7, Try.ntmps7
  go_wp2_with fail
  refine H1.out.mono ?_
  rintro e w1 ⟨v1, acs, rfl, hl1, -, has1, hb1⟩
  obtain ⟨A1, c1, rfl, hin1⟩ := has1.form
  obtain ⟨n1, hn1⟩ : ∃ n1, acs.length = n1 := ⟨_, rfl⟩
  have hn40 : n1 ≤ 40 := by omega
  rw [hn1] at hin1 ⊢
  have Hin1 := Lib.hid hin1
  have Hn1 := Lib.hid hn1
  have H2 := Lib.hid (allRows_any A1 n1 c1 w1.heap.size acs w1 hin1 (Nat.le_refl _) (by omega))
  have Hb1 := Lib.hid hb1
  clear H1 hl1 has1 hb1 hin1 hn1
  go_wp2_with fail
  refine H2.out.mono ?_
  rintro e w2 ⟨A2, c2, rfl, hr2, hb2⟩
  obtain ⟨A3, c3, W3, A4, c4, W4, hrun3, hrun4, hin4, hb4, -⟩ := acts_two ((Hin1.out.below hb2)) hb2.size (by omega) acPk _ (ain_bare acPk rfl (by simp [acPk]) (by simp [acPk])) #[.int .i64 4, .slice none 0 0, .string ⟨#[]⟩, .int .i64 0] rfl
  have Hr2 := Lib.hid (hr2.below hb4)
  have Hb4 := Lib.hid (Hb1.out.trans ((hb2.trans (hb4.mono hb2.size)).mono Hb1.out.size))
  have Hrun3 := Lib.hid hrun3
  have Hrun4 := Lib.hid hrun4
  have Hin4 := Lib.hid hin4
  have hb24 := hb4.size
  have HA := Lib.hid (allRows_any A4 (n1 + 1) c4 W4.heap.size _ W4 hin4 (Nat.le_refl _) (by omega))
  rw [tab_pk] at HA
  clear H2 hr2 hb2 hrun3 hrun4 hin4 hb4
  go_wp2_with (first | (at_builtin; refine rw_app rfl _ _ _ rfl _ _ (by rfl) (by rfl) Hrun3.out ?_; clear Hrun3) | (at_builtin; refine rw_app rfl _ _ _ rfl _ _ (by rfl) (by rfl) Hrun4.out ?_; clear Hrun4) | fail)
  refine HA.out.mono ?_
  rintro e w5 ⟨A5, c5, rfl, hr5, hb5⟩
  have HS := Lib.hid (stored_any A4 (n1 + 1) c4 W4.heap.size (acs ++ [acPk]) w5 (Hin4.out.below hb5) hb5.size (by omega))
  unfold StdPost at HS
  have hl5 : (acs ++ [acPk]).length = n1 + 1 := by have := Hn1.out; simp; omega
  have hf5 : (actsR st0 (acs ++ [acPk])).2.2 = pkF (tabOf acs) := fil_pk acs
  rw [hl5, hf5] at HS
  have Hr5 := Lib.hid hr5
  have Hr25 := Lib.hid ((Hr2.out.wider hb24).below hb5)
  have Hin5 := Lib.hid ((Hin4.out.below hb5))
  have hs45 := hb5.size
  have Hb5 := Lib.hid (Hb4.out.trans (hb5.mono Hb4.out.size))
  clear HA hr5 hb5 Hr2 Hin4 Hb4 hl5 hf5 hb24
  go_wp2_with fail
  refine HS.out.mono ?_
  rintro e w6 ⟨A6, c6, Af, cf, rfl, -, hf6, hb6⟩
  have hle := fil_len (acs ++ [acPk])
  rw [show filOfA (acs ++ [acPk]) = pkF (tabOf acs) from fil_pk acs] at hle
  have hrec := rec_fil (acs ++ [acPk])
  rw [show filOfA (acs ++ [acPk]) = pkF (tabOf acs) from fil_pk acs, tab_pk] at hrec
  have htl := (tab_fit acs).len
  have hf7 : (actsR st0 (acs ++ [acPk] ++ [acPk])).2.2 = pkF (tabOf acs) := by
    have := fil_pk (acs ++ [acPk])
    rw [tab_pk] at this
    exact this
  obtain ⟨A7, c7, W7, A8, c8, W8, hrun7, hrun8, hin8, hb8, -⟩ := acts_two (Hin5.out.below (hb6.mono hs45)) (Nat.le_trans hs45 hb6.size) (by omega) acPk _ (ain_bare acPk rfl (by simp [acPk]) (by simp [acPk])) #[.int .i64 4, .slice none 0 0, .string ⟨#[]⟩, .int .i64 0] rfl
  have HS8 := Lib.hid (stored_any A8 (n1 + 1 + 1) c8 W8.heap.size (acs ++ [acPk] ++ [acPk]) W8 hin8 (Nat.le_refl _) (by omega))
  unfold StdPost at HS8
  have hl8 : (acs ++ [acPk] ++ [acPk]).length = n1 + 1 + 1 := by have := Hn1.out; simp; omega
  rw [hf7, hl8] at HS8
  clear hf7 hl8 HS
  generalize tabOf acs = T at *
  generalize pkF T = F at *
  have hb68 := hb6.trans (hb8.mono hb6.size)
  have Hr8 := Lib.hid (Hr5.out.below hb68)
  have Hr28 := Lib.hid ((Hr25.out.below (hb68.mono hs45)))
  have Hf8 := Lib.hid (hf6.below hb8)
  have Hb8 := Lib.hid (Hb5.out.trans (hb68.mono Hb5.out.size))
  have Hrun7 := Lib.hid hrun7
  have Hrun8 := Lib.hid hrun8
  have hs8 := hb68.size
  clear hrun7 hrun8 hin8 hb8 hb68 hf6 hb6 Hb5 Hr5 Hr25 Hin5
  go_wp2_with (first | (at_builtin; refine rw_app rfl _ _ _ rfl _ _ (by rfl) (by rfl) Hrun7.out ?_; clear Hrun7) | (at_builtin; refine rw_app rfl _ _ _ rfl _ _ (by rfl) (by rfl) Hrun8.out ?_; clear Hrun8) | fail)
  refine HS8.out.mono ?_
  rintro e w9 ⟨A9, c9, Ag, cg, rfl, -, hg9, hb9⟩
  obtain ⟨A10, c10, W10, hrun10, hh10, hc10, hb10⟩ := byte_copy (Hf8.out.below hb9) (by omega)
  have HR := Lib.hid (recover_any A10 F.length c10 F W10 hh10 hc10 (by omega))
  rw [hrec] at HR
  have hb910 := hb9.trans (hb10.mono hb9.size)
  have Hf10 := Lib.hid (Hf8.out.below hb910)
  have Hg10 := Lib.hid (hg9.below hb10)
  have Hr10 := Lib.hid ((Hr8.out.wider hs8).below hb910)
  have Hr210 := Lib.hid ((Hr28.out.wider (Nat.le_trans hs45 hs8)).below hb910)
  have hb10' := hb910.size
  have Hb10 := Lib.hid (Hb8.out.trans (hb910.mono Hb8.out.size))
  have Hrun10 := Lib.hid hrun10
  clear hrun10 hh10 hc10 hb10 hb9 hg9 hb910 Hf8 Hr8 Hr28 Hb8 HS8 hrec hs8
  go_wp2_with (first | (at_builtin; refine rw_app rfl _ _ _ rfl _ _ (by rfl) (by rfl) Hrun10.out ?_; clear Hrun10) | fail)
  refine HR.out.mono ?_
  rintro e w11 ⟨A11, c11, rfl, hin11, hb11⟩
  have hs1 := hb11.size
  have HQ1 := Lib.hid (sameRowsK_any A2 A5 T.length c2 c5 W8.heap.size W8.heap.size T w11 (Hr210.out.below (hb11.mono hb10')) (Hr10.out.below (hb11.mono hb10')) (by omega))
  have HQ2 := Lib.hid (show ∀ q, _ from fun q => sameRowsK_any A11 A2 T.length c11 c2 w11.heap.size W8.heap.size T (w11.drewN q) (hin11.below (below_drewN (Below.refl _ _) _)) ((Hr210.out.below (hb11.mono hb10')).below (below_drewN (Below.refl _ _) _)) (by omega))
  have HQ3 := Lib.hid (show ∀ q, _ from fun q => samekeep_any Af Ag F.length F.length cf cg F F (w11.drewN q) (show Holds (w11.drewN q) w11.heap.size 1 Af F.length (F.map bv) from (((Hf10.out.below hb11).mono (S' := fun b => b < w11.heap.size) fun b hb _ => hb).2.2.2)) (show Holds (w11.drewN q) w11.heap.size 1 Ag F.length (F.map bv) from (((Hg10.out.below hb11).mono (S' := fun b => b < w11.heap.size) fun b hb _ => hb).2.2.2)) (by omega) (by omega))
  have Hb11 := Lib.hid (Hb10.out.trans (hb11.mono Hb10.out.size))
  clear hb11 hin11 Hr10 Hr210 Hf10 Hg10 Hb10 HR
  go_wp2_with fail
  refine HQ1.out.mono ?_
  rintro e w12 ⟨rfl, q1, rfl⟩
  go_wp2_with fail
  refine (HQ2.out q1).mono ?_
  rintro e w13 ⟨rfl, q2, rfl⟩
  go_wp2_with fail
  refine (HQ3.out (q1 + q2)).mono ?_
  rintro e w14 ⟨rfl, q3, rfl⟩
  go_wp2_with fail
  go_ret
  exact ⟨by simp, below_drewN Hb11.out _⟩
namespace storePack
open Go.ChangeShapes Go.WideShapes Go.ChangeAt Go.RowKit
theorem own : ownKnob Try.prog.godebug = none := by kernel_rfl
theorem laidOut : laidOutB Try.prog = true := by kernel_rfl
set_option linter.unusedVariables false
set_option maxRecDepth 100000 in
theorem lifted (os : Os) (started : os.Started) (H : Type) (enc : TypeId × Value → H) :
    ReturnsInHanded {} Try.checked os 7 .any (Rows.storePackSpec.pre6 enc Try.prog Try.f7 Rows.storePackRow.domain false) (Rows.storePackSpec.post enc Try.prog Try.f7 false true false false) := by
  refine returnsInHanded_of_change (C := Try.checked) own started (by kernel_rfl) Try.func7
    (ChangeSpec.witness6 (enc := enc) (C := Try.checked) false ⟨#[], #[.slice none 0 0], []⟩ 8 (by kernel_rfl) (by kernel_rfl) (by kernel_rfl) (by kernel_rfl)) ?_
  intro W base args ds gs before hval0 hW hcnd _
  have hval : ∀ (j : Nat) t v, Try.f7.params[j]? = some t → args[j]? = some v → Value.okWide Try.prog W .any base t v := hval0
  have hW' := hW
  obtain ⟨p, q, hA0, hV, rfl, hfz, hnd⟩ := hW
  have hA : DataW.TrodAll enc Try.prog W 0 (fun _ => true) true Try.f7.params.toList args.toList ds p := hA0
  rw [Try.params7] at hA hval
  obtain ⟨v0, vs0, d0, ds0, p0, q0, hargs, rfl, rfl, h0, rr0⟩ := trodAll_cons hA
  obtain ⟨rfl, rfl, rfl⟩ := trodAll_nil rr0
  obtain rfl : args = #[v0] := by cases args; simp_all
  obtain ⟨rfl, rfl⟩ := trodVars_none hV
  have k0 := h0
  have lt0 : ∀ x ∈ p0, x.block < W.heap.size := by obtain ⟨m, hm⟩ := k0; exact DataW.trod_lt m _ _ _ hm
  obtain ⟨A0, n0, c0, rfl, hx0⟩ := open_wishes (hval 0 37 v0 rfl rfl) h0
  clear hA0 hval0
  refine (walkStorePack A0 n0 c0 W hx0).mono fun e W' ⟨he, bel⟩ => ?_
  subst he
  exact ⟨_, rfl, _, _, _, [], _, [], hW', trodAll_mk1 (shut_bool Try.underlying4 _), (trodAll_cons_mk (Below.trod laidOut (by kernel_rfl) (of_decide_eq_true (by kernel_rfl)) k0 bel lt0) trodAll_mk0), rfl, bel.frame _, fun h => by cases h⟩

theorem over : Rows.storePackRow.holds Try.pinned (OpenSpec.ofChange Rows.storePackSpec) :=
  OpenClaim.holds_of_wide 7 Try.f7 rfl rfl rfl rfl rfl rfl rfl ⟨rfl, rfl, rfl, rfl, rfl⟩ rfl rfl rfl rfl rfl (by kernel_rfl) Try.func7 (by kernel_rfl)
    (of_decide_eq_true (by kernel_rfl)) (by unfold Func.isWrapper; first | (rw [if_pos (by decide +kernel)]; kernel_rfl) | (rw [if_neg (by decide +kernel)]; exact ⟨rfl, rfl⟩))
    (fun os started H enc _ => lifted os started H enc)

theorem proved : Rows.StorePackSaid := over
#print axioms proved
end storePack
end Go.Proofs.Ytploicbiapjfdaa
