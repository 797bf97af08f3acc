/- Proved here: a store is a log on a disk: its file, written and synced, comes back behind a fall, and makes the table (statement TopDisk). No condition. -/
import Derived.Test.YtploicbiapjfdaaBunSF
import Derived.Test.YtploicbiapjfdaaRwSameT
import Derived.Test.YtploicbiapjfdaaSameTop
import Derived.Test.YtploicbiapjfdaaOpen
import Derived.ChangeSame
namespace Go.Proofs.Ytploicbiapjfdaa
set_option linter.unusedVariables false
set_option linter.unusedSimpArgs false
open Go.RowKit
theorem top_plays (F N : List UInt8) (hF : F.length ≤ 1200) : (plays0 [⟨1, F, 0⟩, ⟨2, [], 0⟩, ⟨1, N, 0⟩, ⟨4, [], 0⟩]).2.1 = F := by
  show (plays ([], 0) [⟨1, F, 0⟩, ⟨2, [], 0⟩, ⟨1, N, 0⟩, ⟨4, [], 0⟩]).2.1 = F
  simp only [plays]
  rw [mv_write (s := ([], 0)) (m := ⟨1, F, 0⟩) rfl (by simp; omega)]
  simp only [List.nil_append]
  rw [mv_sync (m := ⟨2, [], 0⟩) rfl]
  simp only
  by_cases h : 1200 < F.length + N.length
  · rw [mv_write_full (s := (F, F.length)) (m := ⟨1, N, 0⟩) rfl h]
    simp only
    rw [mv_fall (s := (F, F.length)) (m := ⟨4, [], 0⟩) (k := F.length) rfl (by simp) (by simp) (by simp)]
    simp
  · rw [mv_write (s := (F, F.length)) (m := ⟨1, N, 0⟩) rfl h]
    simp only
    rw [mv_fall (s := (F ++ N, F.length)) (m := ⟨4, [], 0⟩) (k := F.length) rfl (by simp) (by simp) (by simp)]
    simp
theorem byte_copyB {W : World} {S : Nat → Prop} {n c : Nat} {A : Option Addr} {l : List UInt8} (h : BIn W S A n c l) (hn : n ≤ 1048576) :
    ∃ A1 c1 W1, (Builtin.append_ #[24, 24] 24 #[.slice none 0 0, .slice A n c]).run Try.prog W = .ok (.slice A1 n c1) W1 ∧ BIn W1 (fun b => b < W1.heap.size) A1 n c1 l ∧ Below W.heap.size W W1 := by
  obtain ⟨i0, hi0, hz0, hz1, hz2⟩ := info_parts info_u8
  obtain ⟨h1, h2, h3, h4⟩ := h.mono (S' := fun b => b < W.heap.size) fun b hb _ => hb
  obtain ⟨v', wf, k1, k2, k3, k4⟩ := run_app_all (P := Try.prog) W 24 24 W.heap.size 5 i0 _ 1 1 Try.underlying24 hi0 hz0 hz1 hz2 rfl (by decide) (.slice none 0 0) 0 [] (World.ownsRow_nil _ _ _ _) W.heap.size A n c (l.map bv) h3 h4 (bv_one _) (by omega) (by decide) (Nat.le_refl _)
  have hb := below_own (Below.refl W.heap.size W) k3 (World.ownsRow_nil W W.heap.size 5 1) (Nat.le_refl _) (Nat.le_refl _)
  rw [Nat.zero_add] at k2
  obtain ⟨A1, c1, rfl, hA⟩ := own_form k2
  refine ⟨A1, c1, wf, k1, ⟨h1, ?_, fun h => (hA h).2, Holds.own (by simpa using k2)⟩, hb⟩
  rcases k2.2 with ⟨hv, hn0⟩ | ⟨g, cap, cur, hv, _, _, hnc, _⟩
  · omega
  · injection hv with _ _ hc; omega
theorem own_bin {w : World} {base n : Nat} {v : Value} {l : List UInt8} (h : w.ownsRow base 5 1 v n (l.map bv)) : ∃ A c, v = .slice A n c ∧ BIn w (fun b => b < w.heap.size) A n c l := by
  obtain ⟨A, c, rfl, hA⟩ := own_form h
  have hl : l.length = n := by have := h.1; simpa using this
  refine ⟨A, c, rfl, hl, ?_, fun h => (hA h).2, Holds.own h⟩
  rcases h.2 with ⟨hv, hn0⟩ | ⟨g, cap, cur, hv, _, _, hnc, _⟩
  · omega
  · injection hv with _ _ hc; omega
theorem pack_lit (W : World) : Calls Try.prog 29 #[.slice (some ⟨W.heap.size + 1, 0, none⟩) 1 1] ((W.alloc (.cells #[.int .u8 1] 5)).alloc (.cells #[.slice (some ⟨W.heap.size, 0, none⟩) 1 1] 24)) fun e w' =>
    ∃ A c, e = .returned (.tuple #[.slice A 5 c, .int .i64 0]) ∧ Below W.heap.size W w' := by
  have hB1 := Blk.new W 5 #[.int .u8 1]
  have hb1 : Below W.heap.size W (W.alloc (.cells #[.int .u8 1] 5)) := (Below.refl _ _).alloc (Nat.le_refl _) _
  obtain ⟨W1, hW1⟩ : ∃ W1, W.alloc (.cells #[.int .u8 1] 5) = W1 := ⟨_, rfl⟩
  rw [hW1] at hB1 hb1 ⊢
  have hs1 : W1.heap.size = W.heap.size + 1 := by rw [← hW1]; simp
  have hB2 := Blk.new W1 24 #[.slice (some ⟨W.heap.size, 0, none⟩) 1 1]
  have hb2 : Below W1.heap.size W1 (W1.alloc (.cells #[.slice (some ⟨W.heap.size, 0, none⟩) 1 1] 24)) := (Below.refl _ _).alloc (Nat.le_refl _) _
  obtain ⟨W2, hW2⟩ : ∃ W2, W1.alloc (.cells #[.slice (some ⟨W.heap.size, 0, none⟩) 1 1] 24) = W2 := ⟨_, rfl⟩
  rw [hW2] at hB2 hb2 ⊢
  rw [hs1] at hB2
  have hlt := hB2.lt
  have hB1' := hB1.below hb2 (by omega)
  have hh : HoldsS W2 (lowB W2.heap.size) 1 (some ⟨W.heap.size + 1, 0, none⟩) 1 [.slice (some ⟨W.heap.size, 0, none⟩) 1 1] := by
    refine ⟨rfl, fun _ => ⟨W.heap.size + 1, 0, rfl, hlt, fun j u hu => ?_⟩⟩
    rw [Nat.zero_add, hB2.cell j]
    simpa using hu
  have ha : Ats (In1 W2 (lowB W2.heap.size)) [[1]] [.slice (some ⟨W.heap.size, 0, none⟩) 1 1] := by
    refine ⟨rfl, fun i x v hx hv => ?_⟩
    match i, hx, hv with
    | 0, hx, hv =>
      simp at hx hv
      subst hx hv
      refine ⟨some ⟨W.heap.size, 0, none⟩, 1, rfl, Nat.le_refl _, fun h => (by cases h), rfl, fun _ => ⟨W.heap.size, 0, rfl, ?_, fun j u hu => ?_⟩⟩
      · show W.heap.size < W2.heap.size
        omega
      · rw [Nat.zero_add, hB1'.cell j]
        simpa [bv] using hu
  have hp : packR [[1]] = (pack [[1]], 0) := by unfold packR; rw [if_pos (by decide)]
  have h5 : (pack [[1]]).length = 5 := by rw [pack_len]; rfl
  refine (pack_any (some ⟨W.heap.size + 1, 0, none⟩) 1 1 W2.heap.size [[1]] _ W2 hh ha rfl (Nat.le_refl _) (by omega) (by simp)).mono ?_
  rintro e w' ⟨v', rfl, ho, hb⟩
  rw [hp] at ho ⊢
  unfold Own at ho
  rw [show (pack [[1]], (0 : Int)).1 = pack [[1]] from rfl, h5] at ho
  obtain ⟨A, c, rfl, -⟩ := own_form ho
  exact ⟨A, c, rfl, (hb1.trans (hb2.mono (by omega))).trans (hb.mono (by omega))⟩
set_option maxHeartbeats 4000000 in
set_option maxRecDepth 100000 in
theorem walkTopDisk (A0 : Option Addr) (n0 c0 : Nat) (A1 : Option Addr) (n1 c1 : Nat) (l1 : List UInt8) (x2 : Int) (w : World) (hx0 : WsIn w w.heap.size A0 n0) (hx1 : BytesIn w A1 n1 c1 l1) (hx2 : -9223372036854775808 ≤ x2 ∧ x2 ≤ 9223372036854775807) :
    Calls Try.prog 11 #[.slice A0 n0 c0, .slice A1 n1 c1, .int .i64 x2] w fun e w' => e = .returned (.bool true) ∧ Below w.heap.size w w' := by
  obtain ⟨hr, hnc, hcm, hA1⟩ := hx1
  have hn2 : n1 ≤ 9223372036854775807 := by unfold maxLen at hcm; omega
  have H1 := Lib.hid (acts_any A0 n0 c0 30 w hx0 (by decide))
  have Hr := Lib.hid hr
  have Hx2 := Lib.hid hx2
  clear hx0 hr hx2
  go_enter Try.func11, Try.ntmps11
  go_wp2_with fail
  refine H1.out.mono ?_
  rintro e w1 ⟨v1, acs, rfl, hl1, -, has1, hb1⟩
  obtain ⟨B1, d1, rfl, hin1⟩ := has1.form
  obtain ⟨l, hn1⟩ : ∃ l, acs.length = l := ⟨_, rfl⟩
  have hl30 : l ≤ 30 := by omega
  rw [hn1] at hin1 ⊢
  have Hl := Lib.hid hn1
  have htl0 : (actsR st0 acs).1.length = l := by rw [actsR_len, hn1]
  obtain ⟨A3, c3, W3, A4, c4, W4, hrun3, hrun4, hin4, hb4, -⟩ := acts_two hin1 (Nat.le_refl _) (by omega) acAll _ (ain_bare acAll rfl (by simp [acAll]) (by simp [acAll])) #[.int .i64 3, .slice none 0 0, .string ⟨#[]⟩, .int .i64 0] rfl
  have HS := Lib.hid (splay_any A4 (l + 1) c4 W4.heap.size _ W4 hin4 (Nat.le_refl _) (by omega))
  have hl5 : (acs ++ [acAll]).length = l + 1 := by simp; omega
  have hpn : playN (acs ++ [acAll]) = ((actsR st0 acs).1 ++ [(0, tabOf acs)], filOfA acs, 0) := by unfold playN; rw [if_neg (by omega), all_R]; rfl
  unfold PlyPost at HS
  rw [hpn] at HS
  have hl6 : ((actsR st0 acs).1 ++ [(0, tabOf acs)]).length = l + 1 := by simp; omega
  simp only [hl6] at HS
  have htl := (tab_fit acs).len
  have hfl := fil_len acs
  have hrec := rec_fil acs
  generalize tabOf acs = T at *
  generalize filOfA acs = F at *
  generalize (actsR st0 acs).1 = T1 at *
  have Hb4 := Lib.hid (hb1.trans (hb4.mono hb1.size))
  have Hrun3 := Lib.hid hrun3
  have Hrun4 := Lib.hid hrun4
  have Htl0 := Lib.hid htl0
  have Hrec := Lib.hid hrec
  clear H1 hl1 has1 hb1 hin1 hn1 hrun3 hrun4 hin4 hb4 hl5 hpn hl6 htl0 hrec
  go_wp2_with (first | (at_builtin; refine rw_app rfl _ _ _ rfl _ _ (by rfl) (by rfl) Hrun3.out ?_; clear Hrun3) | (at_builtin; refine rw_app rfl _ _ _ rfl _ _ (by rfl) (by rfl) Hrun4.out ?_; clear Hrun4) | fail)
  refine HS.out.mono ?_
  rintro e w5 ⟨A5, c5, Af, cf, rfl, ht5, hf5, hb5⟩
  have Ht5 := Lib.hid ht5
  have Hf5 := Lib.hid hf5
  have Hb5 := Lib.hid (Hb4.out.trans (hb5.mono Hb4.out.size))
  clear ht5 hf5 hb5 HS
  have hlen1 : l1.length = n1 := by have := Hr.out.len; simpa using this
  have hk20 : (min (n1 : Int) 20).toNat ≤ 20 := by omega
  have hkn1 : (min (n1 : Int) 20).toNat ≤ n1 := by omega
  have hkc : (min (n1 : Int) 20).toNat ≤ c1 := by omega
  have hN5 : BIn w5 (fun b => b < w.heap.size) A1 (min (n1 : Int) 20).toNat c1 (l1.take (min (n1 : Int) 20).toNat) := by
    have hr5 := Hr.out.below Hb5.out
    generalize (min (n1 : Int) 20).toNat = k at *
    refine ⟨by rw [List.length_take]; omega, hkc, hA1, by simp; omega, fun hk => ?_⟩
    obtain ⟨b, off, e, hb, hc⟩ := hr5.2 (by omega)
    refine ⟨b, off, e, hb, fun j u hu => hc j u ?_⟩
    rw [List.map_take, List.getElem?_take] at hu
    split at hu
    · exact hu
    · cases hu
  have hNl : (l1.take (min (n1 : Int) 20).toNat).length = (min (n1 : Int) 20).toNat := by rw [List.length_take]; omega
  obtain ⟨A7, c7, W6, hrun6, hh6, hb6⟩ := byte_copyB hN5 (by omega)
  generalize l1.take (min (n1 : Int) 20).toNat = N at *
  obtain ⟨A9, c9, W8, hrun8, hh8, hb8⟩ := byte_copyB (Hf5.out.below hb6) (by omega)
  have hs8 := hb8.size
  have hms : MsIn W8 (fun b => b < W8.heap.size) [⟨1, F, 0⟩, ⟨2, [], 0⟩, ⟨1, N, 0⟩, ⟨4, [], 0⟩] ([.int .i64 1, .slice A9 F.length c9, .int .i64 0] ++ ([.int .i64 2, .slice none 0 0, .int .i64 0] ++ ([.int .i64 1, .slice A7 (min (n1 : Int) 20).toNat c7, .int .i64 0] ++ ([.int .i64 4, .slice none 0 0, .int .i64 0] ++ [])))) := by
    refine MsIn.cons (min_write hh8 (by omega)) (MsIn.cons (min_bare 2 0 (by omega) (by omega)) (MsIn.cons (min_write ((hh6.below hb8).mono fun b hb _ => hb) (by omega)) (MsIn.cons (min_bare 4 0 (by omega) (by omega)) MsIn.none)))
  have hml := mvs_lit W8 _ _ 4 rfl hms #[.int .i64 1, .slice A9 F.length c9, .int .i64 0, .int .i64 2, .slice none 0 0, .int .i64 0, .int .i64 1, .slice A7 (min (n1 : Int) 20).toNat c7, .int .i64 0, .int .i64 4, .slice none 0 0, .int .i64 0] rfl
  have hb9 : Below W8.heap.size W8 (W8.alloc (.cells #[.int .i64 1, .slice A9 F.length c9, .int .i64 0, .int .i64 2, .slice none 0 0, .int .i64 0, .int .i64 1, .slice A7 (min (n1 : Int) 20).toNat c7, .int .i64 0, .int .i64 4, .slice none 0 0, .int .i64 0] 60)) := (Below.refl _ _).alloc (Nat.le_refl _) _
  have HP := Lib.hid (play_any _ 4 4 _ _ _ hml (Nat.le_refl _) (by decide))
  unfold PlayPost at HP
  rw [top_plays F N hfl] at HP
  have hb59 := hb6.trans ((hb8.trans (hb9.mono hs8)).mono hb6.size)
  have Hb9 := Lib.hid hb59
  have Hrun6 := Lib.hid hrun6
  have Hrun8 := Lib.hid hrun8
  clear hrun6 hrun8 hh6 hh8 hb6 hb8 hb9 hb59 hms hml hN5
  go_wp2_with (first | (at_builtin; refine rw_app rfl _ _ _ rfl _ _ (by rfl) (by rfl) Hrun6.out ?_; clear Hrun6) | (at_builtin; refine rw_app rfl _ _ _ rfl _ _ (by rfl) (by rfl) Hrun8.out ?_; clear Hrun8) | fail)
  refine HP.out.mono ?_
  rintro e w10 ⟨Ac1, cc1, AL, cL, rfl, -, ho10, hb10⟩
  obtain ⟨AL', cL', eL, hL⟩ := own_bin ho10
  injection eL with e1 _ e2
  subst e1 e2
  obtain ⟨A11, c11, W12, hrun12, hh12, hc12, hb12⟩ := byte_copy hL (by omega)
  have HR := Lib.hid (recover_any A11 F.length c11 F W12 hh12 hc12 (by omega))
  rw [Hrec.out] at HR
  have hb10' := Hb9.out.trans (hb10.mono Hb9.out.size)
  have hb512 := hb10'.trans (hb12.mono hb10'.size)
  have Hb12 := Lib.hid hb512
  have HL := Lib.hid (hL.below hb12)
  have Hrun12 := Lib.hid hrun12
  clear hrun12 hh12 hc12 hb12 hb10 hb10' hb512 hL ho10 HP Hb9
  go_wp2_with (first | (at_builtin; refine rw_app rfl _ _ _ rfl _ _ (by rfl) (by rfl) Hrun12.out ?_; clear Hrun12) | fail)
  refine HR.out.mono ?_
  rintro e w13 ⟨A13, c13, rfl, hin13, hb13⟩
  have HL := Lib.hid (HL.out.below hb13)
  have Hb13 := Lib.hid (Hb12.out.trans (hb13.mono Hb12.out.size))
  have Hin13 := Lib.hid hin13
  have HPk := Lib.hid (pack_lit w13)
  clear hin13 hb13 HR Hb12
  go_wp2_with fail
  refine HPk.out.mono ?_
  rintro e w14 ⟨A14, c14, rfl, hb14⟩
  have hb514 := Hb13.out.trans (hb14.mono Hb13.out.size)
  have K1 := Lib.hid (sametop_any AL Af F.length F.length cL cf F F w14 (((HL.out.below hb14).mono (S' := fun b => b < w14.heap.size) fun b hb _ => hb).2.2.2) (((Hf5.out.below hb514).mono (S' := fun b => b < w14.heap.size) fun b hb _ => hb).2.2.2) (by omega) (by omega))
  rw [beq_self_eq_true] at K1
  have ht14 := Ht5.out.below hb514
  obtain ⟨be, offe, Ag, cg, hAe, hbbe, hrg, de0, de1⟩ := ht14.at_ (i := l) (by simp [Htl0.out])
  subst hAe
  have e1 : (T1 ++ [((0 : Int), T)])[l]'(by simp [Htl0.out]) = (0, T) := by simp [← Htl0.out]
  rw [e1] at hrg de0 de1
  replace de1 : w14.cell? ⟨be, offe + l * 2 + 1, none⟩ = some (.slice Ag T.length cg) := de1
  have Hin14 := Lib.hid (Hin13.out.below hb14)
  have Hrg := Lib.hid hrg
  have Hb14 := Lib.hid (Hb5.out.trans (hb514.mono Hb5.out.size))
  clear ht14 hrg hb514 hb14 e1 HPk HL Hf5 Ht5 de0
  go_wp2_with fail
  refine K1.out.mono ?_
  rintro e w15 ⟨rfl, q1, rfl⟩
  obtain ⟨Wf, hWf⟩ : ∃ W, w14.drewN q1 = W := ⟨_, rfl⟩
  have HQ := Lib.hid (sameRowsT_any A13 Ag T.length c13 cg w13.heap.size w5.heap.size T Wf (by rw [← hWf]; exact Hin14.out) (by rw [← hWf]; exact Hrg.out) (by omega))
  have de1 : Wf.cell? ⟨be, offe + l * 2 + 1, none⟩ = some (.slice Ag T.length cg) := by rw [← hWf]; exact de1
  have Hbf := Lib.hid (show Below w.heap.size w Wf by rw [← hWf]; exact below_drewN Hb14.out _)
  rw [hWf]
  clear hWf K1
  go_wp2_with fail
  refine HQ.out.mono ?_
  rintro e w16 ⟨rfl, q2, rfl⟩
  go_wp2_with fail
  go_ret
  exact ⟨by simp, below_drewN Hbf.out _⟩
namespace topDisk
open Go.ChangeShapes Go.WideShapes Go.ChangeAt Go.RowKit
theorem own : ownKnob Try.prog.godebug = none := by kernel_rfl
theorem laidOut : laidOutB Try.prog = true := by kernel_rfl
set_option linter.unusedVariables false
set_option maxRecDepth 100000 in
theorem lifted (os : Os) (started : os.Started) (H : Type) (enc : TypeId × Value → H) :
    ReturnsInHanded {} Try.checked os 11 .any (Rows.topDiskSpec.pre6 enc Try.prog Try.f11 Rows.topDiskRow.domain false) (Rows.topDiskSpec.post enc Try.prog Try.f11 false true false false) := by
  refine returnsInHanded_of_change (C := Try.checked) own started (by kernel_rfl) Try.func11
    (ChangeSpec.witness6 (enc := enc) (C := Try.checked) false ⟨#[], #[.slice none 0 0, .slice none 0 0, .int .i64 0], []⟩ 8 (by kernel_rfl) (by kernel_rfl) (by kernel_rfl) (by kernel_rfl)) ?_
  intro W base args ds gs before hval0 hW hcnd _
  have hval : ∀ (j : Nat) t v, Try.f11.params[j]? = some t → args[j]? = some v → Value.okWide Try.prog W .any base t v := hval0
  have hW' := hW
  obtain ⟨p, q, hA0, hV, rfl, hfz, hnd⟩ := hW
  have hA : DataW.TrodAll enc Try.prog W 0 (fun _ => true) true Try.f11.params.toList args.toList ds p := hA0
  rw [Try.params11] at hA hval
  obtain ⟨v0, vs0, d0, ds0, p0, q0, hargs, rfl, rfl, h0, rr0⟩ := trodAll_cons hA
  obtain ⟨v1, vs1, d1, ds1, p1, q1, rfl, rfl, rfl, h1, rr1⟩ := trodAll_cons rr0
  obtain ⟨v2, vs2, d2, ds2, p2, q2, rfl, rfl, rfl, h2, rr2⟩ := trodAll_cons rr1
  obtain ⟨rfl, rfl, rfl⟩ := trodAll_nil rr2
  obtain rfl : args = #[v0, v1, v2] := by cases args; simp_all
  obtain ⟨rfl, rfl⟩ := trodVars_none hV
  have k0 := h0
  have lt0 : ∀ x ∈ p0, x.block < W.heap.size := by obtain ⟨m, hm⟩ := k0; exact DataW.trod_lt m _ _ _ hm
  obtain ⟨A0, n0, c0, rfl, hx0⟩ := open_wishes (hval 0 37 v0 rfl rfl) h0
  have k1 := h1
  have lt1 : ∀ x ∈ p1, x.block < W.heap.size := by obtain ⟨m, hm⟩ := k1; exact DataW.trod_lt m _ _ _ hm
  obtain ⟨A1, n1, c1, l1, rfl, hx1⟩ := open_bytes Try.underlying24 Try.underlying5 (by kernel_rfl) (hval 1 24 v1 rfl rfl) h1
  have k2 := h2
  have lt2 : ∀ x ∈ p2, x.block < W.heap.size := by obtain ⟨m, hm⟩ := k2; exact DataW.trod_lt m _ _ _ hm
  obtain ⟨x2, rfl, hx2⟩ := open_i64 Try.underlying3 (hval 2 3 v2 rfl rfl) h2
  clear hA0 hval0
  refine (walkTopDisk A0 n0 c0 A1 n1 c1 l1 x2 W hx0 hx1 hx2).mono fun e W' ⟨he, bel⟩ => ?_
  subst he
  exact ⟨_, rfl, _, _, _, [], _, [], hW', trodAll_mk1 (shut_bool Try.underlying4 _), (trodAll_cons_mk (Below.trod laidOut (by kernel_rfl) (of_decide_eq_true (by kernel_rfl)) k0 bel lt0) (trodAll_cons_mk (Below.trod laidOut (by kernel_rfl) (of_decide_eq_true (by kernel_rfl)) k1 bel lt1) (trodAll_cons_mk (Below.trod laidOut (by kernel_rfl) (of_decide_eq_true (by kernel_rfl)) k2 bel lt2) trodAll_mk0))), rfl, bel.frame _, fun h => by cases h⟩

theorem over : Rows.topDiskRow.holds Try.pinned (OpenSpec.ofChange Rows.topDiskSpec) :=
  OpenClaim.holds_of_wide 11 Try.f11 rfl rfl rfl rfl rfl rfl rfl ⟨rfl, rfl, rfl, rfl, rfl⟩ rfl rfl rfl rfl rfl (by kernel_rfl) Try.func11 (by kernel_rfl)
    (of_decide_eq_true (by kernel_rfl)) (by unfold Func.isWrapper; first | (rw [if_pos (by decide +kernel)]; kernel_rfl) | (rw [if_neg (by decide +kernel)]; exact ⟨rfl, rfl⟩))
    (fun os started H enc _ => lifted os started H enc)

theorem proved : Rows.TopDiskSaid := over
#print axioms proved
end topDisk
end Go.Proofs.Ytploicbiapjfdaa
