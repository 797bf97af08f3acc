/- Proved here: the first k updates followed by what Since(k) returns make the current list; Since returns each device at most once, in ascending order of Stream (statement DevicesSince). No condition. -/
import Derived.Test.YtmlgaedhfannmaaDvLt
import Derived.Test.YtmlgaedhfannmaaDvSin
import Derived.Test.YtmlgaedhfannmaaOpenI
import Derived.HandedShaped
namespace Go.Proofs.Ytmlgaedhfannmaa
set_option linter.unusedVariables false
set_option linter.unusedSimpArgs false
open Go.RowKit
theorem LIn.first {w : World} {B n c : Nat} {A : Option Addr} {l : List Uc} (h : LIn ucL 5 w B A n c l) {k : Nat} (hk : k ≤ n) : LIn ucL 5 w B A k c (l.take k) := by
  obtain ⟨h1, h2, h3, h4⟩ := h
  refine ⟨by rw [List.length_take]; omega, by omega, h3, by rw [pcK_len ucL_len, List.length_take]; congr 1; omega, fun h0 => ?_⟩
  obtain ⟨b, off, rfl, hb, hcell⟩ := h4.2 (by omega)
  refine ⟨b, off, rfl, hb, fun j u hj => hcell j u ?_⟩
  rw [← pcK_take ucL_len, List.getElem?_take] at hj
  split at hj
  · exact hj
  · cases hj
theorem pw_at {α : Type} {R : α → α → Prop} {l : List α} (h : l.Pairwise R) {i j : Nat} (hj : j < l.length) (hij : i < j) : ∃ hi : i < l.length, R l[i] l[j] := ⟨by omega, List.pairwise_iff_getElem.1 h i j (by omega) hj hij⟩
set_option maxHeartbeats 4000000 in
set_option maxRecDepth 100000 in
theorem walkDevicesSince (A0 : Option Addr) (n0 c0 : Nat) (x1 : Int) (w : World) (hx0 : IntsAt w w.heap.size A0 n0 c0) (hx1 : -9223372036854775808 ≤ x1 ∧ x1 ≤ 9223372036854775807) :
    Calls Try.prog 6 #[.slice A0 n0 c0, .int .i64 x1] w fun e w' => e = .returned (.bool true) ∧ Below w.heap.size w w' := by
  obtain ⟨i0, hi0, hz0, hzs, hzb⟩ := info_parts info_upd
  have H1 := Lib.hid (updates_any A0 n0 c0 w.heap.size 60 w hx0 (Nat.le_refl _) (by decide))
  clear hx0
  go_enter Try.func6, Try.ntmps6
  go_wp2_with fail
  refine H1.out.mono ?_
  rintro e w1 ⟨v1, cs, rfl, ho1, hlen, hok, b1⟩
  obtain ⟨A1, c1, rfl, hin1⟩ := LIn.own ucL_len ho1
  have hn60 : cs.length ≤ 60 := by omega
  have h6 : ∀ p ∈ cs, Six p := fun p hp => (hok p hp).1
  have hun := upsD_len cs
  have hm6 := tabD_len h6 (by omega)
  have huo := upsD_ok cs
  obtain ⟨k, hk, hku⟩ := pick_nat x1 ((upsD cs).length + 1) (by omega)
  have hsn := sinceL_six h6 (by omega) k (by omega)
  have hst := since_tab h6 k
  have hs6 := since_six h6 k
  have hsl := since_len cs k
  have hsu := since_up cs k
  have hss := since_st cs k
  have hsd := ones_pw ((upsD cs).drop k)
  have hsm : ∀ u ∈ (upsD cs).take k ++ lastOnes ((upsD cs).drop k), UcOk u := fun u hu => by
    rcases List.mem_append.1 hu with hu | hu
    · exact ups_ok huo u (List.mem_of_mem_take hu)
    · exact ups_ok huo u (List.mem_of_mem_drop ((ones_subl _).subset hu))
  obtain ⟨n, hn⟩ : ∃ n, cs.length = n := ⟨_, rfl⟩
  rw [hn] at hin1 hun hn60 hsl ⊢
  have H2 := Lib.hid (listed_any A1 n c1 w1.heap.size cs w1 hin1 (Nat.le_refl _) (by omega) h6 (fun p hp => dru_ok (hok p hp)))
  have HC := Lib.hid (fun (W : World) (hb : Below w1.heap.size w1 W) => copU_any A1 n c1 w1.heap.size cs W (hin1.below hb) (by omega))
  have HN := Lib.hid (fun (W : World) (A : Option Addr) (c : Nat) (h : LIn ucL 5 W W.heap.size A n c cs) => since_any A n c W.heap.size cs (k : Int) W h (Nat.le_refl _) (by omega) (fun p hp => dru_ok (hok p hp)))
  unfold SPost at HN
  rw [hsn] at HN
  have HL := Lib.hid (fun (W : World) (A : Option Addr) (m c : Nat) (h : LIn ucL 5 W W.heap.size A m c ((upsD cs).take k ++ lastOnes ((upsD cs).drop k))) => listed_any A m c W.heap.size _ W h (Nat.le_refl _) (by have := h.1; omega) hs6 hsm)
  unfold LdPost at H2 HL
  rw [hst] at HL
  generalize upsD cs = U at *
  generalize tabD cs = T at *
  obtain ⟨Z, hZ⟩ : ∃ Z, lastOnes (U.drop k) = Z := ⟨_, rfl⟩
  rw [hZ] at HN HL hsu hss hsd hsl
  obtain ⟨z, hz⟩ : ∃ z, Z.length = z := ⟨_, rfl⟩
  obtain ⟨u, hu⟩ : ∃ u, U.length = u := ⟨_, rfl⟩
  obtain ⟨m, hm⟩ : ∃ m, T.length = m := ⟨_, rfl⟩
  have hlk : (U.take k ++ Z).length = k + z := by rw [List.length_append, List.length_take]; omega
  simp only at HN
  rw [hz] at HN
  rw [hu, hm] at H2
  rw [hm] at HL hm6
  rw [hu] at hun hku hk
  rw [hlk] at hsl
  have Hlk := Lib.hid hlk
  have Hm6 := Lib.hid hm6
  have Hk := Lib.hid hk
  have B1 := Lib.hid b1
  have Hsu := Lib.hid hsu
  have Hss := Lib.hid hss
  have Hsd := Lib.hid hsd
  have Hz := Lib.hid hz
  have HPk := Lib.hid (fun W => picked_k x1 ((u + 1 : Nat) : Int) W (by omega) (by omega))
  have huw : IntKind.i64.wrap ((u : Int) + 1) = ((u + 1 : Nat) : Int) := by rw [IntWalk.i64_in _ (by omega)]; omega
  clear hlen hok b1 ho1 hin1 h6 hs6 huo hn hu hm hm6 H1 hsn hst hsu hss hsd hsm hZ hz hlk hk
  go_wp2_with fail
  refine H2.out.mono ?_
  rintro e w2 ⟨A2, c2, A3, c3, rfl, hi2, hi3, b2⟩
  have hc2 := hi2.2.1
  have hfi := hi2.first (k := k) (by omega)
  have B2 := Lib.hid (B1.out.trans (b2.mono B1.out.size))
  have H3 := Lib.hid (HC.out w2 b2)
  have Hb2 := Lib.hid b2
  have HF := Lib.hid (fun (W : World) (h : Below w2.heap.size w2 W) => copU_any A2 k c2 w2.heap.size (U.take k) W (hfi.below h) (by omega))
  have Hi3 := Lib.hid hi3
  have hs0 := fun W => run_cut_h (P := Try.prog) W 22 44 i0 Try.underlying22 hi0 A2 u c2 .i64 (k : Int) k rfl (by omega)
  clear hi2 hi3 b2 hfi HC H2 hi0 hz0 hzs hzb
  go_wp2_with fail
  refine (HPk.out _).mono ?_
  rintro e w3 ⟨rfl, hw3⟩
  obtain rfl : w2 = w3 := hw3.symm
  rw [Hk.out]
  go_wp2_with fail
  refine H3.out.mono ?_
  rintro e w3 ⟨v3, rfl, ho3, b3⟩
  obtain ⟨c3l, hc3l⟩ : ∃ x, cs.length = x := ⟨_, rfl⟩
  have hn3 : cs.length = n := by
    have h1 := (ho3.1)
    rw [pcK_len ucL_len] at h1
    omega
  rw [← hn3] at ho3
  obtain ⟨A4, c4, hv3, hin4⟩ := LIn.own ucL_len ho3
  subst hv3
  rw [hn3] at hin4 ⊢
  have H4 := Lib.hid (HN.out w3 A4 c4 hin4)
  have B3 := Lib.hid b3
  clear ho3 b3 hin4 HN H3 hn3 hc3l c3l
  go_wp2_with fail
  refine H4.out.mono ?_
  rintro e w4 ⟨A5, c5, rfl, hi5, b4⟩
  have B4 := Lib.hid (B3.out.trans (b4.mono B3.out.size))
  have H5 := Lib.hid (HF.out w4 B4.out)
  have Hi5 := Lib.hid hi5
  clear hi5 b4 HF H4 B3
  go_wp2_with fail
  refine H5.out.mono ?_
  rintro e w5 ⟨v5, rfl, ho5, b5⟩
  have Hi5b := Lib.hid (Hi5.out.below b5)
  obtain ⟨v6, w6, hrun, ho6, hb6⟩ := ups_more (w := w4) ho5 Hi5b.out b5 (Nat.le_refl _) (by omega)
  rw [show k + z = (U.take k ++ Z).length from Hlk.out.symm] at ho6
  obtain ⟨A6, c6, hv6, hin6⟩ := LIn.own ucL_len ho6
  subst hv6
  rw [Hlk.out] at hin6 hrun
  have H6 := Lib.hid (HL.out w6 A6 (k + z) c6 hin6)
  have Hrun := Lib.hid hrun
  have B6 := Lib.hid hb6
  clear ho5 b5 hrun ho6 hb6 hin6 HL H5 Hi5b
  go_wp2_with (first | (at_builtin; refine dv_app rfl _ _ _ rfl _ _ (by rfl) (by rfl) Hrun.out ?_; clear Hrun) | fail)
  refine H6.out.mono ?_
  rintro e w7 ⟨A7, c7, A8, c8, rfl, -, hi8, b7⟩
  have B7 := Lib.hid (B6.out.trans (b7.mono B6.out.size))
  have Hi5c := Lib.hid (Hi5.out.below B7.out)
  have h27 := B4.out.trans (B7.out.mono B4.out.size)
  have HS := Lib.hid (sameDev_any A3 A8 m c3 c8 _ _ T w7 (Hi3.out.below h27) hi8 (by have := Hm6.out; omega))
  have B8 := Lib.hid (B2.out.trans (h27.mono B2.out.size))
  clear hi8 b7 h27 H6 Hi3 Hi5 B6 B7 B4 B2
  go_wp2_with fail
  refine HS.out.mono ?_
  rintro e w8 ⟨rfl, q0, rfl⟩
  clear HS
  go_wp2_with fail
  go_loopg [15] z (SmR w7 z)
  case atStart => exact ⟨0, q0, rfl, by omega, by omega, rfl⟩
  case round =>
    obtain ⟨i, q, rfl, hi, hg, rfl⟩ := hrel
    have Hg := Lib.hid hg
    clear hg
    by_cases hlt : i < z
    · have hil : i < Z.length := by have := Hz.out; omega
      obtain ⟨b, off, hA, hb, e0, e1, e2, e3, e4⟩ := uc_at Hi5c.out hil
      subst hA
      have hii : (i : Int) < (z : Int) := by omega
      have hss := Hss.out _ (List.getElem_mem hil)
      have hle : ¬ Z[i].st ≤ (k : Int) := by omega
      obtain ⟨r, hr⟩ : ∃ r, Z[i] = r := ⟨_, rfl⟩
      rw [hr] at e0 e1 e2 e3 e4 hle
      obtain ⟨rs, rp, rk, rv, rg⟩ := r
      simp only at e0 e1 e2 e3 e4 hle
      have Hr := Lib.hid hr
      have Hle := Lib.hid hle
      clear hr hss hle
      have HDJ := Lib.hid (show ∀ j, j < i → ∃ (h : j < Z.length), (Z[j].key == rk) = false from fun j hj => by
        obtain ⟨hi', hne⟩ := pw_at Hsd.out hil hj
        rw [Hr.out] at hne
        exact ⟨hi', by simpa using hne⟩)
      rcases Nat.eq_zero_or_pos i with h0 | h0
      · subst h0
        simp only [Nat.zero_mul, Nat.add_zero] at e0 e1 e2 e3 e4
        go_wp2_with fail
        have hle : ¬ rs ≤ (k : Int) := by have := Hle.out; omega
        go_quiet (fail)
        go_wp2_with fail
        go_loopg [16] 0 (SmR w7 0)
        case atStart => exact ⟨0, _, rfl, by omega, by omega, rfl⟩
        case round =>
          obtain ⟨j, qj, rfl, hj, hgj, rfl⟩ := hrel
          have hji : ¬ (j : Int) < 0 := by omega
          go_wp2_with fail
          go_roundg (z - (0 + 1))
          case measure => have := Hg.out; omega
          case rel => exact ⟨0 + 1, _, by go_num, by omega, rfl, rfl⟩
      · obtain ⟨i1, hi1⟩ : ∃ i1, i = i1 + 1 := ⟨i - 1, by omega⟩
        obtain ⟨hi1l, hst⟩ := pw_at Hsu.out hil (show i1 < i by omega)
        obtain ⟨b', off', hA', hb', f0, -, -, -, -⟩ := uc_at Hi5c.out hi1l
        obtain ⟨rfl, rfl⟩ : b = b' ∧ off = off' := by injection hA' with h; injection h with h1 h2; exact ⟨h1, h2⟩
        rw [Hr.out] at hst
        simp only at hst
        generalize Z[i1].st = st1 at *
        have Hle2 := Lib.hid (show ¬ rs ≤ st1 by omega)
        have hwi : IntKind.i64.wrap ((i : Int) - 1) = (i1 : Int) := by rw [IntWalk.i64_in _ (by omega)]; omega
        have hi1a : (0 : Int) ≤ (i1 : Int) := by omega
        have hi1b : (i1 : Int) < (z : Int) := by omega
        have HI1 := Lib.hid hi1
        clear hi1 hst hA'
        go_wp2_with fail
        have hle : ¬ rs ≤ (k : Int) := by have := Hle.out; omega
        have hle2 : ¬ rs ≤ st1 := by have := Hle2.out; omega
        have hi0c : (0 : Int) < (i : Int) := by have := HI1.out; omega
        go_quiet (fail)
        go_wp2_with fail
        go_loopg [16] i (SmR w7 i)
        case atStart => exact ⟨0, _, rfl, by omega, by omega, rfl⟩
        case round =>
          obtain ⟨j, qj, rfl, hj, hgj, rfl⟩ := hrel
          have Hgj := Lib.hid hgj
          clear hgj
          by_cases hjl : j < i
          · obtain ⟨hjZ, hne⟩ := HDJ.out j hjl
            obtain ⟨bj, offj, hAj, hbj, -, -, f2, -, -⟩ := uc_at Hi5c.out hjZ
            obtain ⟨rfl, rfl⟩ : b = bj ∧ off = offj := by injection hAj with h; injection h with h1 h2; exact ⟨h1, h2⟩
            generalize Z[j].key = kj at f2 hne
            have hji : (j : Int) < (i : Int) := by omega
            have hjz : (j : Int) < (z : Int) := by omega
            have Hne := Lib.hid hne
            clear hAj hne
            go_wp2_with fail
            have hne := Hne.out
            go_quiet (fail)
            go_wp2_with fail
            go_roundg (i - (j + 1))
            case measure => have := Hgj.out; omega
            case rel => exact ⟨j + 1, _, by go_num, by omega, rfl, rfl⟩
          · have hji : ¬ (j : Int) < (i : Int) := by omega
            go_wp2_with fail
            go_roundg (z - (i + 1))
            case measure => have := Hg.out; omega
            case rel => exact ⟨i + 1, _, by go_num, by omega, rfl, rfl⟩
    · have hki : ¬ (i : Int) < (z : Int) := by omega
      go_wp2
      go_ret
      exact ⟨rfl, below_drewN B8.out _⟩
namespace devicesSince
open Go.ChangeShapes Go.WideShapes Go.ChangeAt Go.RowKit
theorem own : ownKnob Try.prog.godebug = none := by kernel_rfl
theorem laidOut : laidOutB Try.prog = true := by kernel_rfl
set_option linter.unusedVariables false
set_option maxRecDepth 100000 in
theorem lifted (os : Os) (started : os.Started) (H : Type) (enc : TypeId × Value → H) :
    ReturnsInHanded {} Try.checked os 6 .any (Rows.devicesSinceSpec.pre6 enc Try.prog Try.f6 Rows.devicesSinceRow.domain false) (Rows.devicesSinceSpec.post enc Try.prog Try.f6 false true false false) := by
  refine returnsInHanded_of_change (C := Try.checked) own started (by kernel_rfl) Try.func6
    (ChangeSpec.witness6 (enc := enc) (C := Try.checked) false ⟨#[], #[.slice none 0 0, .int .i64 0], []⟩ 8 (by kernel_rfl) (by kernel_rfl) (by kernel_rfl) (by kernel_rfl)) ?_
  intro W base args ds gs before hval0 hW hcnd _
  have hval : ∀ (j : Nat) t v, Try.f6.params[j]? = some t → args[j]? = some v → Value.okWide Try.prog W .any base t v := hval0
  have hW' := hW
  obtain ⟨p, q, hA0, hV, rfl, hfz, hnd⟩ := hW
  have hA : DataW.TrodAll enc Try.prog W 0 (fun _ => true) true Try.f6.params.toList args.toList ds p := hA0
  rw [Try.params6] at hA hval
  obtain ⟨v0, vs0, d0, ds0, p0, q0, hargs, rfl, rfl, h0, rr0⟩ := trodAll_cons hA
  obtain ⟨v1, vs1, d1, ds1, p1, q1, rfl, rfl, rfl, h1, rr1⟩ := trodAll_cons rr0
  obtain ⟨rfl, rfl, rfl⟩ := trodAll_nil rr1
  obtain rfl : args = #[v0, v1] := by cases args; simp_all
  obtain ⟨rfl, rfl⟩ := trodVars_none hV
  have k0 := h0
  have lt0 : ∀ x ∈ p0, x.block < W.heap.size := by obtain ⟨m, hm⟩ := k0; exact DataW.trod_lt m _ _ _ hm
  obtain ⟨A0, n0, c0, rfl, hx0⟩ := open_intsl Try.underlying37 Try.underlying3 (by kernel_rfl) (hval 0 37 v0 rfl rfl) h0
  have k1 := h1
  have lt1 : ∀ x ∈ p1, x.block < W.heap.size := by obtain ⟨m, hm⟩ := k1; exact DataW.trod_lt m _ _ _ hm
  obtain ⟨x1, rfl, hx1⟩ := open_i64 Try.underlying3 (hval 1 3 v1 rfl rfl) h1
  clear hA0 hval0
  refine (walkDevicesSince A0 n0 c0 x1 W hx0 hx1).mono fun e W' ⟨he, bel⟩ => ?_
  subst he
  exact ⟨_, rfl, _, _, _, [], _, [], hW', trodAll_mk1 (shut_bool Try.underlying4 _), (trodAll_cons_mk (Below.trod laidOut (by kernel_rfl) (of_decide_eq_true (by kernel_rfl)) k0 bel lt0) (trodAll_cons_mk (Below.trod laidOut (by kernel_rfl) (of_decide_eq_true (by kernel_rfl)) k1 bel lt1) trodAll_mk0)), rfl, bel.frame _, fun h => by cases h⟩

theorem over : Rows.devicesSinceRow.holds Try.pinned (OpenSpec.ofChange Rows.devicesSinceSpec) :=
  OpenClaim.holds_of_wide 6 Try.f6 rfl rfl rfl rfl rfl rfl rfl ⟨rfl, rfl, rfl, rfl, rfl⟩ rfl rfl rfl rfl rfl (by kernel_rfl) Try.func6 (by kernel_rfl)
    (of_decide_eq_true (by kernel_rfl)) (by unfold Func.isWrapper; first | (rw [if_pos (by decide +kernel)]; kernel_rfl) | (rw [if_neg (by decide +kernel)]; exact ⟨rfl, rfl⟩))
    (fun os started H enc _ => lifted os started H enc)

theorem proved : Rows.DevicesSinceSaid := over
#print axioms proved
end devicesSince
end Go.Proofs.Ytmlgaedhfannmaa
