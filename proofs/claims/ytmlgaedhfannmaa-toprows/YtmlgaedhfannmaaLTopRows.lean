/- Proved here: changes of devices, committed as rows, make the table that the device list is (statement TopRows). No condition. -/
import Derived.Test.YtmlgaedhfannmaaBunVF
import Derived.Test.YtmlgaedhfannmaaBunSF
import Derived.Test.YtmlgaedhfannmaaBunO
import Derived.HandedShaped
namespace Go.Proofs.Ytmlgaedhfannmaa
set_option linter.unusedVariables false
set_option linter.unusedSimpArgs false
open Go.RowKit
def cmA (r : Rw) : Ac := ⟨1, [r], [], 0⟩
theorem commits : ∀ (l T : List Rw) (F : List UInt8), Fit T → (∀ r ∈ l, sizedR r = true) → T.length + l.length ≤ 40 → F.length + 45 * l.length ≤ 1200 → (actsR (T, F) (l.map cmA)).2.1 = sets T l
  | [], T, F, _, _, _, _ => rfl
  | r :: l, T, F, hT, hs, hn, hF => by
    have hg : goodC [r] = true := by
      unfold goodC
      rw [List.all_eq_true]
      intro q hq
      simp at hq
      subst hq
      exact hs _ (by simp)
    have hl : (sets T [r]).length ≤ T.length + 1 := sets_len
    rw [List.length_cons] at hn hF
    have hp : planE T [r] = 0 := by
      unfold planE
      rw [if_neg (by simp), setN_fit hT, if_neg (by simp [hg]), if_neg (by omega)]
    have hk : (pkF [r]).length ≤ 45 := by
      rw [pkF_ok ⟨by simp, by simp, hg⟩, pack_wts]
      have h1 := (sized_iff r).1 (hs r (by simp))
      have : wts [r] = wt r := by simp [wts]
      unfold wt at this
      omega
    have ha : actR (T, F) (cmA r) = ((0, []), (sets T [r], F ++ pkF [r])) := by
      unfold actR cmA
      simp only [if_true]
      rw [if_neg (by simp [hp]), if_neg (by omega)]
    rw [List.map_cons, actsR]
    simp only
    rw [ha]
    have := commits l (sets T [r]) (F ++ pkF [r]) (fit_sets hT hg (by omega)) (fun q hq => hs q (by simp [hq])) (by omega) (by rw [List.length_append]; omega)
    rw [this, ← sets_app]
    rfl
theorem commits_tab {us : List Uc} (h : ∀ u ∈ us, Six u) (hn : us.length ≤ 20) : tabOf ((us.map rwU).map cmA) = tabD us := by
  unfold tabOf tabD st0
  refine commits _ _ _ fit_nil (fun r hr => ?_) (by simp; omega) (by simp; omega)
  obtain ⟨u, hu, rfl⟩ := List.mem_map.1 hr
  have h1 := isNm_len (okU_key (h u hu).1)
  have h2 := vl_len (h u hu).1
  rw [sized_iff]
  exact ⟨by show 1 ≤ u.key.length; omega, by show u.key.length ≤ 20; omega, h2⟩
theorem setN_kv : setN [] [kv] = ([kv], 0) := by kernel_rfl
def TrR (w : World) (us : List Uc) (n : Nat) (gk : Nat) (s7 s8 : Value) (wr : World) : Prop :=
  ∃ k : Nat, s8 = .int .i64 (k : Int) ∧ k ≤ n ∧ gk = n - k ∧ AsS wr w.heap.size (fun b => w.heap.size ≤ b ∧ some b ≠ s7.ownBlock) s7 (((us.take k).map rwU).map cmA) ∧ Below w.heap.size w wr
set_option maxHeartbeats 4000000 in
set_option maxRecDepth 100000 in
theorem walkTopRows (A0 : Option Addr) (n0 c0 : Nat) (w : World) (hx0 : IntsAt w w.heap.size A0 n0 c0) :
    Calls Try.prog 10 #[.slice A0 n0 c0] w fun e w' => e = .returned (.bool true) ∧ Below w.heap.size w w' := by
  have H1 := Lib.hid (updates_any A0 n0 c0 w.heap.size 20 w hx0 (Nat.le_refl _) (by decide))
  clear hx0
  go_enter Try.func10, Try.ntmps10
  go_wp2_with fail
  refine H1.out.mono ?_
  rintro e w1 ⟨v1, cs, rfl, ho1, hlen, hok, b1⟩
  obtain ⟨A1, c1, rfl, hin1⟩ := LIn.own ucL_len ho1
  have hn20 : cs.length ≤ 20 := by omega
  have h6 : ∀ p ∈ cs, Six p := fun p hp => (hok p hp).1
  have hm6 := tabD_len h6 (by omega)
  have hpl := playL_six h6 (by omega)
  have hct := commits_tab h6 hn20
  obtain ⟨n, hn⟩ : ∃ n, cs.length = n := ⟨_, rfl⟩
  rw [hn] at hin1 hn20 ⊢
  obtain ⟨v2, w2, hrun2, ho2, hb2⟩ := ups_copy hin1 (by omega)
  rw [← hn] at ho2
  obtain ⟨A2, c2, rfl, hin2⟩ := LIn.own ucL_len ho2
  rw [hn] at hin2 hrun2
  have H2 := Lib.hid (dplay_any A2 n c2 w2.heap.size cs w2 hin2 (Nat.le_refl _) (by omega) (fun p hp => dru_ok (hok p hp)))
  unfold DPost at H2
  rw [hpl] at H2
  generalize upsD cs = U at *
  generalize tabD cs = T at *
  simp only at H2
  obtain ⟨u, hu⟩ : ∃ u, U.length = u := ⟨_, rfl⟩
  obtain ⟨m, hm⟩ : ∃ m, T.length = m := ⟨_, rfl⟩
  rw [hu, hm] at H2
  rw [hm] at hm6
  have B2 := Lib.hid (b1.trans (hb2.mono b1.size))
  have Hin1 := Lib.hid (hin1.below hb2)
  have Hs12 := Lib.hid hb2.size
  have Hn := Lib.hid hn
  have Hm := Lib.hid hm
  have Hct := Lib.hid hct
  have Hrun2 := Lib.hid hrun2
  have Hvl := Lib.hid (show ∀ p ∈ cs, vl p = p.val ∧ p.key.length ≤ 20 ∧ p.val.length ≤ 20 from fun p hp => by
    have h1 := okU_len (hok p hp).1.1
    have h2 := vl_len (hok p hp).1.1
    have h3 : vl p = p.val := by
      unfold vl
      by_cases hg : p.gone = true
      · rw [if_pos hg, (hok p hp).2.2.2 hg]
      · rw [if_neg hg]
    exact ⟨h3, h1, by rw [← h3]; exact h2⟩)
  clear hlen hok b1 ho1 hin1 h6 hn hm hu hpl hct hrun2 ho2 hb2 hin2 H1
  go_wp2_with (first | (at_builtin; refine dv_app rfl _ _ _ rfl _ _ (by rfl) (by rfl) Hrun2.out ?_; clear Hrun2) | fail)
  refine H2.out.mono ?_
  rintro e w3 ⟨A3, c3, A4, c4, rfl, -, hi4, b3⟩
  obtain ⟨V, hV⟩ : ∃ V, w3.alloc (.cells #[.int .i64 (u : Int), .bool false, .slice A4 m c4] 25) = V := ⟨_, rfl⟩
  have hVB := Blk.new w3 25 #[.int .i64 (u : Int), .bool false, .slice A4 m c4]
  have hVb : Below w3.heap.size w3 V := by rw [← hV]; exact (Below.refl _ _).alloc (Nat.le_refl _) _
  rw [hV] at hVB
  have h2V := b3.trans (hVb.mono b3.size)
  have BV := Lib.hid (B2.out.trans (h2V.mono B2.out.size))
  have Hin2 := Lib.hid (Hin1.out.below (h2V.mono Hs12.out))
  have Hin2s := Lib.hid (show w1.heap.size ≤ V.heap.size from Nat.le_trans Hs12.out h2V.size)
  have Hi4 := Lib.hid ((hi4.below hVb).wider hVb.size)
  have HVB := Lib.hid hVB
  obtain ⟨gV, hgV⟩ : ∃ g, w3.heap.size = g := ⟨_, rfl⟩
  rw [hgV] at HVB
  clear hi4 b3 hVB hVb h2V H2 Hin1 Hs12 B2
  go_wp2_with (first | rw [hV] | fail)
  go_loopg [7, 8] n (TrR V cs n)
  case atStart => exact ⟨0, rfl, by omega, by omega, AsS.nil _ _ _, Below.refl _ _⟩
  case round =>
    obtain ⟨k, rfl, hk, hg, has, hbe⟩ := hrel
    have Hg := Lib.hid hg
    have Hbe := Lib.hid hbe
    have hszw := hbe.size
    have hal : (((cs.take k).map rwU).map cmA).length = k := by rw [List.length_map, List.length_map, List.length_take]; have := Hn.out; omega
    obtain ⟨A7, c7, rfl, -⟩ := has.form
    rw [hal] at has ⊢
    have Has := Lib.hid has
    have Hal := Lib.hid hal
    clear hg has hbe hal
    by_cases hlt : k < n
    · have hkl : k < cs.length := by have := Hn.out; omega
      have hki : (k : Int) < (n : Int) := by omega
      obtain ⟨b, off, hA, hb, -, -, e2, e3, -⟩ := uc_at (Hin2.out.below (Hbe.out.mono Hin2s.out)) hkl
      subst hA
      have hbw : b < wr.heap.size := by have := Hin2s.out; omega
      obtain ⟨hv, hk20, hv20⟩ := Hvl.out _ (List.getElem_mem hkl)
      have Hnx := Lib.hid (show ((cs.take (k + 1)).map rwU).map cmA = ((cs.take k).map rwU).map cmA ++ [cmA ⟨cs[k].key, cs[k].val⟩] by
        rw [List.take_succ_eq_append_getElem hkl, List.map_append, List.map_append]
        show _ ++ [cmA ⟨cs[k].key, vl cs[k]⟩] = _
        rw [hv])
      clear hv
      generalize cs[k].key = rk at *
      generalize cs[k].val = rv at *
      obtain ⟨Wd, hWd⟩ : ∃ Wd, wr.drew = Wd := ⟨_, rfl⟩
      have hbd : Below wr.heap.size wr Wd := by rw [← hWd]; exact (Below.refl _ _).drew
      have hS0 : Wd.cell? ⟨b, off + k * 5 + 2, none⟩ = some (str rk) ∧ Wd.cell? ⟨b, off + k * 5 + 3, none⟩ = some (str rv) := ⟨(hbd.cell hbw).trans e2, (hbd.cell hbw).trans e3⟩
      have hbe2 := Hbe.out.trans (hbd.mono hszw)
      have hs2 := hbe2.size
      obtain ⟨We, hWe⟩ : ∃ We, Wd.alloc (.cells #[str rk, str rv] 51) = We := ⟨_, rfl⟩
      have hbe3 : Below V.heap.size V We := by rw [← hWe]; exact hbe2.alloc hs2 _
      have hBe := Blk.new Wd 51 #[str rk, str rv]
      have hde : Below Wd.heap.size Wd We := by rw [← hWe]; exact (Below.refl _ _).alloc (Nat.le_refl _) _
      rw [hWe] at hBe
      have hasd := (Has.out.below hbd).below hde
      have hne : ∀ g, (Value.slice A7 k c7).ownBlock = some g → g < wr.heap.size := fun g hg => by
        obtain ⟨pc, ho, -⟩ := Has.out
        exact (ho.lt g hg).2
      have hain : AIn We (fun b => V.heap.size ≤ b ∧ some b ≠ (Value.slice A7 k c7).ownBlock) (cmA ⟨rk, rv⟩) [.int .i64 1, .slice (some ⟨Wd.heap.size, 0, none⟩) 1 1, .string ⟨#[]⟩, .int .i64 0] := by
        refine ⟨some ⟨Wd.heap.size, 0, none⟩, 1, rfl, ⟨rfl, Nat.le_refl _, (fun h => by cases h), rfl, fun _ => ⟨Wd.heap.size, 0, rfl, ⟨hs2, fun e => ?_⟩, fun j u hu => ?_⟩⟩, fun r hr => ?_, (by show 1 ≤ 9223372036854775807; omega), (by show 0 ≤ 9223372036854775807; omega), (by show -9223372036854775808 ≤ (0 : Int) ∧ (0 : Int) ≤ 9223372036854775807; omega)⟩
        · have h1 := hne _ e.symm
          have h2 := hbd.size
          omega
        · rw [Nat.zero_add, hBe.cell j]
          simpa [cmA, pcR, rc] using hu
        · simp [cmA] at hr
          subst hr
          exact ⟨by show rk.length ≤ _; omega, by show rv.length ≤ _; omega⟩
      obtain ⟨v', wf, hrun, has', hbf⟩ := acts_more (w := V) hbe3 hasd (cmA ⟨rk, rv⟩) _ hain #[.int .i64 1, .slice (some ⟨Wd.heap.size, 0, none⟩) 1 1, .string ⟨#[]⟩, .int .i64 0] rfl (by rw [Hal.out]; omega)
      rw [← Hnx.out] at has'
      have Hrun := Lib.hid hrun
      have Has' := Lib.hid has'
      have Hbf := Lib.hid hbf
      have HS1 := Lib.hid (show We.cell? ⟨b, off + k * 5 + 2, none⟩ = some (str rk) ∧ We.cell? ⟨b, off + k * 5 + 3, none⟩ = some (str rv) from ⟨(hde.cell (show b < Wd.heap.size by have := hbd.size; omega)).trans hS0.1, (hde.cell (show b < Wd.heap.size by have := hbd.size; omega)).trans hS0.2⟩)
      have hbV : b < V.heap.size := by have := Hin2s.out; omega
      have HS2 := Lib.hid (show (We.alloc (.cells #[.int .i64 1, .slice (some ⟨Wd.heap.size, 0, none⟩) 1 1, .string ⟨#[]⟩, .int .i64 0] 54)).cell? ⟨b, off + k * 5 + 2, none⟩ = some (str rk) ∧ (We.alloc (.cells #[.int .i64 1, .slice (some ⟨Wd.heap.size, 0, none⟩) 1 1, .string ⟨#[]⟩, .int .i64 0] 54)).cell? ⟨b, off + k * 5 + 3, none⟩ = some (str rv) from by
        have hbx : Below We.heap.size We (We.alloc (.cells #[.int .i64 1, .slice (some ⟨Wd.heap.size, 0, none⟩) 1 1, .string ⟨#[]⟩, .int .i64 0] 54)) := (Below.refl _ _).alloc (Nat.le_refl _) _
        have hbe : b < We.heap.size := by have := hde.size; have := hbd.size; omega
        exact ⟨(hbx.cell hbe).trans HS1.out.1, (hbx.cell hbe).trans HS1.out.2⟩)
      have HS3 := Lib.hid (show wf.cell? ⟨b, off + k * 5 + 2, none⟩ = some (str rk) ∧ wf.cell? ⟨b, off + k * 5 + 3, none⟩ = some (str rv) from
        ⟨(hbf.cell hbV).trans ((Hbe.out.cell hbV).symm.trans e2), (hbf.cell hbV).trans ((Hbe.out.cell hbV).symm.trans e3)⟩)
      have HWe := Lib.hid hWe
      have Hbde := Lib.hid hde
      clear e2 e3 hbd hbe2 hbe3 hBe hde hasd hne hain hrun has' hbf hWe hs2
      go_wp2_with fail
      refine region_S (fun w' => w'.cell? ⟨b, off + k * 5 + 2, none⟩ = some (str rk) ∧ w'.cell? ⟨b, off + k * 5 + 3, none⟩ = some (str rv)) [] (by kernel_rfl) ?_
      rw [hWd]
      refine anyS_take 0 (v := .slice A7 k c7) rfl (by kernel_rfl) (by kernel_rfl) (by kernel_rfl) (by kernel_rfl) (fun _ _ _ h => h) (.inl ⟨by kernel_rfl, fun w' hS' => by kernel_rfl⟩) hS0 ?_
      refine anyS_take 1 (v := .slice (some ⟨b, off, none⟩) n c1) rfl (by kernel_rfl) (by kernel_rfl) (by kernel_rfl) (by kernel_rfl) (fun _ _ _ h => h) (.inl ⟨by kernel_rfl, fun w' hS' => by kernel_rfl⟩) hS0 ?_
      refine anyS_take 2 (v := .int .i64 (k : Int)) rfl (by kernel_rfl) (by kernel_rfl) (by kernel_rfl) (by kernel_rfl) (fun _ _ _ h => h) (.inl ⟨by kernel_rfl, fun w' hS' => by kernel_rfl⟩) hS0 ?_
      refine anyS_take 3 (v := .pointer (some ⟨b, off + k * 5, none⟩)) rfl (by kernel_rfl) (by kernel_rfl) (by kernel_rfl) (by kernel_rfl) (fun _ _ _ h => h) (.inl ⟨by kernel_rfl, fun w' hS' => by go_simp⟩) hS0 ?_
      refine anyS_take 4 (v := .pointer (some ⟨b, off + k * 5 + 2, none⟩)) rfl (by kernel_rfl) (by kernel_rfl) (by kernel_rfl) (by kernel_rfl) (fun _ _ _ h => h) (.inl ⟨by kernel_rfl, fun w' hS' => by go_simp⟩) hS0 ?_
      refine anyS_take 5 (v := .pointer (some ⟨b, off + k * 5 + 2, none⟩)) rfl (by kernel_rfl) (by kernel_rfl) (by kernel_rfl) (by kernel_rfl) (fun _ _ _ h => h) (.inl ⟨by kernel_rfl, fun w' hS' => by go_simp⟩) hS0 ?_
      refine anyS_take 6 (v := str rk) rfl (by kernel_rfl) (by kernel_rfl) (by kernel_rfl) (by kernel_rfl) (fun _ _ _ h => h) (.inl ⟨by kernel_rfl, fun w' hS' => by have s1 := hS'.1; go_simp⟩) hS0 ?_
      refine anyS_take 7 (v := .slice (some ⟨b, off, none⟩) n c1) rfl (by kernel_rfl) (by kernel_rfl) (by kernel_rfl) (by kernel_rfl) (fun _ _ _ h => h) (.inl ⟨by kernel_rfl, fun w' hS' => by kernel_rfl⟩) hS0 ?_
      refine anyS_take 8 (v := .int .i64 (k : Int)) rfl (by kernel_rfl) (by kernel_rfl) (by kernel_rfl) (by kernel_rfl) (fun _ _ _ h => h) (.inl ⟨by kernel_rfl, fun w' hS' => by kernel_rfl⟩) hS0 ?_
      refine anyS_take 9 (v := .pointer (some ⟨b, off + k * 5, none⟩)) rfl (by kernel_rfl) (by kernel_rfl) (by kernel_rfl) (by kernel_rfl) (fun _ _ _ h => h) (.inl ⟨by kernel_rfl, fun w' hS' => by go_simp⟩) hS0 ?_
      refine anyS_take 10 (v := .pointer (some ⟨b, off + k * 5 + 2, none⟩)) rfl (by kernel_rfl) (by kernel_rfl) (by kernel_rfl) (by kernel_rfl) (fun _ _ _ h => h) (.inl ⟨by kernel_rfl, fun w' hS' => by go_simp⟩) hS0 ?_
      refine anyS_take 11 (v := .pointer (some ⟨b, off + k * 5 + 3, none⟩)) rfl (by kernel_rfl) (by kernel_rfl) (by kernel_rfl) (by kernel_rfl) (fun _ _ _ h => h) (.inl ⟨by kernel_rfl, fun w' hS' => by go_simp⟩) hS0 ?_
      refine anyS_take 12 (v := str rv) rfl (by kernel_rfl) (by kernel_rfl) (by kernel_rfl) (by kernel_rfl) (fun _ _ _ h => h) (.inl ⟨by kernel_rfl, fun w' hS' => by have s1 := hS'.2; go_simp⟩) hS0 ?_
      refine anyS_take 13 (v := .agg #[str rk, str rv]) rfl (by kernel_rfl) (by kernel_rfl) (by kernel_rfl) (by kernel_rfl) (fun _ _ _ h => h) (.inl ⟨by kernel_rfl, fun w' hS' => by go_simp⟩) hS0 ?_
      refine anyS_one 14 rfl (by kernel_rfl) rfl ?_
      intro K14 hK14
      go_simp
      rw [HWe.out]
      refine hK14 _ _ ⟨fun _ => HS1.out, ?_⟩
      refine anyS_take 15 (v := .agg #[.int .i64 1, .slice (some ⟨Wd.heap.size, 0, none⟩) 1 1, .string ⟨#[]⟩, .int .i64 0]) rfl (by kernel_rfl) (by kernel_rfl) (by kernel_rfl) (by kernel_rfl) (fun _ _ _ h => h) (.inl ⟨by kernel_rfl, fun w' hS' => by go_simp⟩) HS1.out ?_
      refine anyS_one 16 rfl (by kernel_rfl) rfl ?_
      intro K16 hK16
      go_simp
      refine hK16 _ _ ⟨fun _ => HS2.out, ?_⟩
      refine anyS_one 17 rfl (by kernel_rfl) rfl ?_
      intro K17 hK17
      refine oper_app _ _ _ rfl _ _ (by rfl) (by rfl) Hrun.out ?_
      refine hK17 _ _ ⟨fun _ => HS3.out, ?_⟩
      refine anyS_one 18 rfl (by kernel_rfl) rfl ?_
      intro K18 hK18
      go_simp
      refine hK18 _ _ ⟨fun _ => HS3.out, ?_⟩
      refine anyS_done (by kernel_rfl) ?_
      clear hK14 hK16 hK17 hK18 hS0
      go_wp2_with fail
      go_roundg (n - (k + 1))
      case measure => have := Hg.out; omega
      case rel => exact ⟨k + 1, by go_num, by omega, rfl, Has'.out, Hbf.out⟩
    · obtain rfl : k = n := by omega
      have hki : ¬ (k : Int) < (k : Int) := by omega
      have hcs : (cs.take k).map rwU = cs.map rwU := by rw [List.take_of_length_le (by rw [Hn.out]; exact Nat.le_refl _)]
      rw [hcs] at Has Hal
      have Hct2 := Lib.hid Hct.out
      generalize hacs : (cs.map rwU).map cmA = acs at Has Hal Hct2
      obtain ⟨A7', c7', hv7, hin7⟩ := Has.out.form
      rw [Hal.out] at hv7 hin7
      injection hv7 with h1 _ h3
      subst h1 h3
      obtain ⟨A8, c8, W8, A9, c9, W9, hrun8, hrun9, hin9, hb9, -⟩ := acts_two hin7 (Nat.le_refl _) (by omega) acAll _ (ain_bare acAll rfl (by simp [acAll]) (by simp [acAll])) #[.int .i64 3, .slice none 0 0, .string ⟨#[]⟩, .int .i64 0] rfl
      obtain ⟨N, hN⟩ : ∃ N, k + 1 = N := ⟨_, rfl⟩
      rw [hN] at hrun9 hin9
      have HS := Lib.hid (splay_any A9 N c9 W9.heap.size _ W9 hin9 (Nat.le_refl _) (by omega))
      have htl0 : (actsR st0 acs).1.length = k := by rw [actsR_len, Hal.out]
      have hl5 : (acs ++ [acAll]).length = N := by rw [List.length_append, Hal.out]; exact hN
      have hpn : playN (acs ++ [acAll]) = ((actsR st0 acs).1 ++ [(0, tabOf acs)], filOfA acs, 0) := by unfold playN; rw [if_neg (by omega), all_R]; rfl
      unfold PlyPost at HS
      rw [hpn, Hct2.out] at HS
      have hl6 : ((actsR st0 acs).1 ++ [(0, T)]).length = N := by rw [List.length_append, htl0]; exact hN
      simp only [hl6] at HS
      generalize filOfA acs = F at *
      generalize (actsR st0 acs).1 = T1 at *
      have hfb := hszw
      have h2b := Hbe.out.trans (hb9.mono hszw)
      have B9 := Lib.hid (BV.out.trans (h2b.mono BV.out.size))
      have Hi9 := Lib.hid (Hi4.out.below h2b)
      have Hs9 := Lib.hid h2b.size
      have HVB9 := Lib.hid (HVB.out.below h2b HVB.out.lt)
      have Hrun8 := Lib.hid hrun8
      have Hrun9 := Lib.hid hrun9
      have Htl0 := Lib.hid htl0
      have hwN : IntKind.i64.wrap ((k : Int) + 1) = (N : Int) := by rw [IntWalk.i64_in _ (by omega)]; omega
      have hwk : IntKind.i64.wrap ((N : Int) - 1) = (k : Int) := by rw [IntWalk.i64_in _ (by omega)]; omega
      have hNN : ((N : Int) != (N : Int)) = false := by simp
      have hkN : (k : Int) < (N : Int) := by omega
      have hk0 : (0 : Int) ≤ (k : Int) := by omega
      have hmm : ((m : Int) != (m : Int)) = false := by simp
      have HN := Lib.hid hN
      clear hcs hacs hrun8 hrun9 hin9 hin7 hb9 hl5 hpn hl6 htl0 h2b hN Has Hal Hct2 Hct Hvl Hbe
      go_wp2_with (first | (at_builtin; refine dv_app rfl _ _ _ rfl _ _ (by rfl) (by rfl) Hrun8.out ?_; clear Hrun8) | (at_builtin; refine dv_app rfl _ _ _ rfl _ _ (by rfl) (by rfl) Hrun9.out ?_; clear Hrun9) | fail)
      refine HS.out.mono ?_
      rintro e w5 ⟨A5, c5, Af, cf, rfl, ht5, -, hb5⟩
      obtain ⟨be, offe, Ag, cg, hAe, hbbe, hrg, de0, de1⟩ := ht5.at_ (i := k) (by simp [Htl0.out])
      subst hAe
      have e1 : (T1 ++ [((0 : Int), T)])[k]'(by simp [Htl0.out]) = (0, T) := by simp [← Htl0.out]
      rw [e1] at hrg de0 de1
      simp only [Hm.out] at hrg de0 de1
      obtain ⟨X, hX⟩ : ∃ X, w5.alloc (.cells #[.string ⟨#[107]⟩, .string ⟨#[118]⟩] 51) = X := ⟨_, rfl⟩
      have hXb : Below w5.heap.size w5 X := by rw [← hX]; exact (Below.refl _ _).alloc (Nat.le_refl _) _
      have hXB := Blk.new w5 51 #[.string ⟨#[107]⟩, .string ⟨#[118]⟩]
      rw [hX] at hXB
      have hlit : RIn X X.heap.size (some ⟨w5.heap.size, 0, none⟩) 1 1 [kv] := by
        refine ⟨rfl, Nat.le_refl _, (fun h => by cases h), rfl, fun _ => ⟨w5.heap.size, 0, rfl, hXB.lt, fun j u hu => ?_⟩⟩
        rw [Nat.zero_add, hXB.cell j]
        simpa [pcR, rc, kv, str] using hu
      have HT := Lib.hid (set_any none (some ⟨w5.heap.size, 0, none⟩) 0 0 1 1 X.heap.size X.heap.size [] [kv] X RIn.empty (Nat.le_refl _) (by simp [Short]) (by omega) hlit (Nat.le_refl _) (by intro r hr; simp at hr; subst hr; simp [kv]) (by omega))
      rw [setN_kv] at HT
      have h9X := hb5.trans (hXb.mono hb5.size)
      have BX := Lib.hid (B9.out.trans (h9X.mono B9.out.size))
      have HiX := Lib.hid (Hi9.out.below (h9X.mono Hs9.out))
      have HsX := Lib.hid (Nat.le_trans Hs9.out h9X.size)
      have HVX := Lib.hid (HVB9.out.below h9X HVB9.out.lt)
      have Hrg := Lib.hid (hrg.below hXb)
      clear ht5 hrg hb5 de0 hXb hXB hlit h9X e1 HS Hi9 HVB9 B9
      go_wp2_with (first | rw [hX] | fail)
      refine HT.out.mono ?_
      rintro e w6 ⟨v6, rfl, ho6, hb6⟩
      obtain ⟨A6, c6, rfl, -⟩ := RIn.own ho6
      have B6 := Lib.hid (BX.out.trans (hb6.mono BX.out.size))
      have Hi6 := Lib.hid (HiX.out.below (hb6.mono HsX.out))
      have Hr6 := Lib.hid (Hrg.out.below (hb6.mono (by have := congrArg (fun W => W.heap.size) hX; simp at this; omega)))
      have z2 : w6.cell? ⟨gV, 2, none⟩ = some (.slice A4 m c4) := (HVX.out.below hb6 HVX.out.lt).cell 2
      clear ho6 hb6 HT
      dsimp only [List.length_cons, List.length_nil]
      go_wp2_with fail
      go_loopg [15] m (SmR w6 m)
      case atStart => exact ⟨0, 0, rfl, by omega, by omega, rfl⟩
      case round =>
        obtain ⟨j, q, rfl, hj, hgj, rfl⟩ := hrel
        have Hgj := Lib.hid hgj
        clear hgj
        by_cases hlj : j < m
        · have hjT : j < T.length := by have := Hm.out; omega
          obtain ⟨b1, off1, hA1, -, f0, f1⟩ := dv_at Hi6.out hjT
          obtain ⟨b2, off2, hA2, -, g0, g1⟩ := Hr6.out.at_ hjT
          subst hA1 hA2
          generalize T[j].key = tk at *
          generalize T[j].val = tv at *
          have hji : (j : Int) < (m : Int) := by omega
          go_wp2_with fail
          go_quiet (fail)
          go_wp2_with fail
          go_roundg (m - (j + 1))
          case measure => have := Hgj.out; omega
          case rel => exact ⟨j + 1, _, by go_num, by omega, rfl, rfl⟩
        · have hji : ¬ (j : Int) < (m : Int) := by omega
          go_wp2_with fail
          go_ret
          exact ⟨rfl, below_drewN B6.out _⟩
namespace topRows
open Go.ChangeShapes Go.WideShapes Go.ChangeAt Go.RowKit
theorem own : ownKnob Try.prog.godebug = none := by kernel_rfl
theorem laidOut : laidOutB Try.prog = true := by kernel_rfl
set_option linter.unusedVariables false
set_option maxRecDepth 100000 in
theorem lifted (os : Os) (started : os.Started) (H : Type) (enc : TypeId × Value → H) :
    ReturnsInHanded {} Try.checked os 10 .any (Rows.topRowsSpec.pre6 enc Try.prog Try.f10 Rows.topRowsRow.domain false) (Rows.topRowsSpec.post enc Try.prog Try.f10 false true false false) := by
  refine returnsInHanded_of_change (C := Try.checked) own started (by kernel_rfl) Try.func10
    (ChangeSpec.witness6 (enc := enc) (C := Try.checked) false ⟨#[], #[.slice none 0 0], []⟩ 8 (by kernel_rfl) (by kernel_rfl) (by kernel_rfl) (by kernel_rfl)) ?_
  intro W base args ds gs before hval0 hW hcnd _
  have hval : ∀ (j : Nat) t v, Try.f10.params[j]? = some t → args[j]? = some v → Value.okWide Try.prog W .any base t v := hval0
  have hW' := hW
  obtain ⟨p, q, hA0, hV, rfl, hfz, hnd⟩ := hW
  have hA : DataW.TrodAll enc Try.prog W 0 (fun _ => true) true Try.f10.params.toList args.toList ds p := hA0
  rw [Try.params10] at hA hval
  obtain ⟨v0, vs0, d0, ds0, p0, q0, hargs, rfl, rfl, h0, rr0⟩ := trodAll_cons hA
  obtain ⟨rfl, rfl, rfl⟩ := trodAll_nil rr0
  obtain rfl : args = #[v0] := by cases args; simp_all
  obtain ⟨rfl, rfl⟩ := trodVars_none hV
  have k0 := h0
  have lt0 : ∀ x ∈ p0, x.block < W.heap.size := by obtain ⟨m, hm⟩ := k0; exact DataW.trod_lt m _ _ _ hm
  obtain ⟨A0, n0, c0, rfl, hx0⟩ := open_intsl Try.underlying37 Try.underlying3 (by kernel_rfl) (hval 0 37 v0 rfl rfl) h0
  clear hA0 hval0
  refine (walkTopRows A0 n0 c0 W hx0).mono fun e W' ⟨he, bel⟩ => ?_
  subst he
  exact ⟨_, rfl, _, _, _, [], _, [], hW', trodAll_mk1 (shut_bool Try.underlying4 _), (trodAll_cons_mk (Below.trod laidOut (by kernel_rfl) (of_decide_eq_true (by kernel_rfl)) k0 bel lt0) trodAll_mk0), rfl, bel.frame _, fun h => by cases h⟩

theorem over : Rows.topRowsRow.holds Try.pinned (OpenSpec.ofChange Rows.topRowsSpec) :=
  OpenClaim.holds_of_wide 10 Try.f10 rfl rfl rfl rfl rfl rfl rfl ⟨rfl, rfl, rfl, rfl, rfl⟩ rfl rfl rfl rfl rfl (by kernel_rfl) Try.func10 (by kernel_rfl)
    (of_decide_eq_true (by kernel_rfl)) (by unfold Func.isWrapper; first | (rw [if_pos (by decide +kernel)]; kernel_rfl) | (rw [if_neg (by decide +kernel)]; exact ⟨rfl, rfl⟩))
    (fun os started H enc _ => lifted os started H enc)

theorem proved : Rows.TopRowsSaid := over
#print axioms proved
end topRows
end Go.Proofs.Ytmlgaedhfannmaa
