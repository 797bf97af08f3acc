/- Proved here: a device has the Body of its last change, and the list is sorted by Id (statement DevicesLast). No condition. -/
import Derived.Test.YtmlgaedhfannmaaDvLt
import Derived.Test.YtmlgaedhfannmaaOpenI
import Derived.HandedShaped
namespace Go.Proofs.Ytmlgaedhfannmaa
set_option linter.unusedVariables false
set_option linter.unusedSimpArgs false
open Go.RowKit
theorem lastOf_notin {k : List UInt8} : ∀ {l : List Rw} (d : List UInt8), (∀ q ∈ l, q.key ≠ k) → lastOf l k d = d
  | [], d, _ => rfl
  | r :: l, d, h => by
    rw [lastOf, if_neg (h r (by simp)), lastOf_notin d (fun q hq => h q (by simp [hq]))]
theorem lastOf_srt {k : List UInt8} : ∀ {l : List Rw}, srt l → lastOf l k [] = look l k
  | [], _ => rfl
  | r :: l, h => by
    rw [lastOf, look]
    by_cases hk : r.key = k
    · rw [if_pos hk, if_pos hk]
      exact lastOf_notin _ (fun q hq => by subst hk; exact (bl_ne (h.1 q hq)).symm)
    · rw [if_neg hk, if_neg hk]
      exact lastOf_srt h.2
theorem lastOf_snoc (k : List UInt8) (l : List Rw) (x : Rw) : lastOf (l ++ [x]) k [] = if x.key = k then x.val else lastOf l k [] := by
  rw [lastOf_app]; rfl
def LaR (w : World) (l : List Rw) (id : List UInt8) (n : Nat) (gk : Nat) (s i : Value) (wr : World) : Prop :=
  ∃ k q : Nat, i = .int .i64 (k : Int) ∧ k ≤ n ∧ gk = n - k ∧ s = str (lastOf (l.take k) id []) ∧ wr = w.drewN q
set_option maxHeartbeats 4000000 in
set_option maxRecDepth 100000 in
theorem walkDevicesLast (A0 : Option Addr) (n0 c0 : Nat) (x1 : Int) (w : World) (hx0 : IntsAt w w.heap.size A0 n0 c0) (hx1 : -9223372036854775808 ≤ x1 ∧ x1 ≤ 9223372036854775807) :
    Calls Try.prog 7 #[.slice A0 n0 c0, .int .i64 x1] w fun e w' => e = .returned (.bool true) ∧ Below w.heap.size w w' := by
  have H1 := Lib.hid (updates_any A0 n0 c0 w.heap.size 60 w hx0 (Nat.le_refl _) (by decide))
  clear hx0
  go_enter Try.func7, Try.ntmps7
  go_wp2_with fail
  refine H1.out.mono ?_
  rintro e w1 ⟨v1, cs, rfl, ho1, hlen, hok, b1⟩
  obtain ⟨A1, c1, rfl, hin1⟩ := LIn.own ucL_len ho1
  have hn60 : cs.length ≤ 60 := by omega
  have h6 : ∀ p ∈ cs, Six p := fun p hp => (hok p hp).1
  have hm6 := tabD_len h6 (by omega)
  have hsr := tabD_srt cs
  have hlo := tabD_look cs
  obtain ⟨n, hn⟩ : ∃ n, cs.length = n := ⟨_, rfl⟩
  rw [hn] at hin1 hn60 ⊢
  have H2 := Lib.hid (listed_any A1 n c1 w1.heap.size cs w1 hin1 (Nat.le_refl _) (by omega) h6 (fun p hp => dru_ok (hok p hp)))
  unfold LdPost at H2
  generalize upsD cs = U at *
  generalize tabD cs = T at *
  obtain ⟨u, hu⟩ : ∃ u, U.length = u := ⟨_, rfl⟩
  obtain ⟨m, hm⟩ : ∃ m, T.length = m := ⟨_, rfl⟩
  rw [hu, hm] at H2
  rw [hm] at hm6
  have B1 := Lib.hid b1
  have Hm6 := Lib.hid hm6
  have Hin1 := Lib.hid hin1
  have Hn := Lib.hid hn
  have Hm := Lib.hid hm
  have Hsr := Lib.hid hsr
  have Hlo := Lib.hid hlo
  have Hvl := Lib.hid (show ∀ p ∈ cs, vl p = p.val from fun p hp => by
    unfold vl
    by_cases hg : p.gone = true
    · rw [if_pos hg, (hok p hp).2.2.2 hg]
    · rw [if_neg hg])
  clear hlen hok b1 ho1 hin1 h6 hn hm hu hm6 hsr hlo H1
  go_wp2_with fail
  refine H2.out.mono ?_
  rintro e w2 ⟨A2, c2, A3, c3, rfl, -, hi3, b2⟩
  have B2 := Lib.hid (B1.out.trans (b2.mono B1.out.size))
  have Hin1b := Lib.hid (Hin1.out.below b2)
  obtain ⟨W, hW⟩ : ∃ W, w2.alloc (.cells #[.int .i64 x1] 3) = W := ⟨_, rfl⟩
  have hWb : Below w2.heap.size w2 W := by rw [← hW]; exact (Below.refl _ _).alloc (Nat.le_refl _) _
  have hWB := Blk.new w2 3 #[.int .i64 x1]
  rw [hW] at hWB
  have hlit : IntsAt W W.heap.size (some ⟨w2.heap.size, 0, none⟩) 1 1 := by
    refine ⟨[x1], ⟨rfl, fun _ => ⟨w2.heap.size, 0, rfl, hWB.lt, fun j u hu => ?_⟩⟩, Nat.le_refl _, by decide, ?_⟩
    · rw [Nat.zero_add, hWB.cell j]
      simpa using hu
    · intro z hz
      simp at hz
      subst hz
      exact hx1
  have H3 := Lib.hid (updates_any _ 1 1 W.heap.size 1 W hlit (Nat.le_refl _) (by decide))
  have HWb := Lib.hid hWb
  have Hi3 := Lib.hid hi3
  have Hs12 := Lib.hid b2.size
  clear hlit hWb hWB hi3 b2 H2 Hin1
  go_wp2_with fail
  refine H3.out.mono ?_
  rintro e w3 ⟨v3, us, rfl, ho3, hl3, -, b3⟩
  obtain ⟨A4, c4, rfl, hin4⟩ := LIn.own ucL_len ho3
  have hl1 : us.length = 1 := by simpa using hl3
  rw [hl1] at hin4 ⊢
  obtain ⟨b4, off4, hA4, hb4, -, -, k2, -, -⟩ := uc_at hin4 (i := 0) (by omega)
  subst hA4
  generalize us[0].key = id at k2
  simp only [Nat.zero_mul, Nat.add_zero] at k2
  have h23 := HWb.out.trans (b3.mono HWb.out.size)
  have Hin3 := Lib.hid (Hin1b.out.below (h23.mono Hs12.out))
  have Hi3b := Lib.hid (Hi3.out.below h23)
  have B3 := Lib.hid (B2.out.trans (h23.mono B2.out.size))
  clear ho3 hl3 hin4 hb4 b3 h23 H3 Hi3 Hin1b HWb Hs12 hl1
  go_wp2_with fail
  go_loopg [10, 11] n (LaR w3 (cs.map rwU) id n)
  case atStart => exact ⟨0, 0, rfl, by omega, by omega, rfl, rfl⟩
  case round =>
    obtain ⟨k, q, rfl, hk, hg, rfl, rfl⟩ := hrel
    have Hg := Lib.hid hg
    clear hg
    by_cases hlt : k < n
    · have hkl : k < cs.length := by have := Hn.out; omega
      obtain ⟨b, off, hA, hb, -, -, e2, e3, -⟩ := uc_at Hin3.out hkl
      subst hA
      have Hst := Lib.hid (show lastOf ((cs.map rwU).take (k + 1)) id [] = if cs[k].key = id then cs[k].val else lastOf ((cs.map rwU).take k) id [] by
        rw [List.take_succ_eq_append_getElem (by rw [List.length_map]; exact hkl), lastOf_snoc, List.getElem_map]
        show (if cs[k].key = id then vl cs[k] else _) = _
        rw [Hvl.out _ (List.getElem_mem hkl)])
      generalize hL1 : lastOf ((cs.map rwU).take (k + 1)) id [] = L1 at Hst
      have HL1 := Lib.hid hL1
      clear hL1
      generalize lastOf ((cs.map rwU).take k) id [] = L0 at *
      generalize cs[k].key = rk at *
      generalize cs[k].val = rv at *
      have hki : (k : Int) < (n : Int) := by omega
      by_cases he : rk = id
      · have heb : (rk == id) = true := by simpa using he
        have Hs := Lib.hid (show L1 = rv by rw [Hst.out, if_pos he])
        clear he Hst
        go_wp2_with fail
        go_roundg (n - (k + 1))
        case measure => have := Hg.out; omega
        case rel => exact ⟨k + 1, q, by go_num, by omega, rfl, by rw [HL1.out, Hs.out], rfl⟩
      · have heb : (rk == id) = false := by simpa using he
        have Hs := Lib.hid (show L1 = L0 by rw [Hst.out, if_neg he])
        clear he Hst
        go_wp2_with fail
        go_roundg (n - (k + 1))
        case measure => have := Hg.out; omega
        case rel => exact ⟨k + 1, q, by go_num, by omega, rfl, by rw [HL1.out, Hs.out], rfl⟩
    · obtain rfl : k = n := by omega
      have hki : ¬ (k : Int) < (k : Int) := by omega
      have HL := Lib.hid (show lastOf ((cs.map rwU).take k) id [] = lastOf T id [] by
        rw [List.take_of_length_le (by rw [List.length_map, Hn.out]; exact Nat.le_refl _), ← Hlo.out, lastOf_srt Hsr.out])
      generalize lastOf ((cs.map rwU).take k) id [] = L at *
      have Hm6i := Hm6.out
      go_wp2_with fail
      go_loopg [12, 13] m (LaR w3 T id m)
      case atStart => exact ⟨0, _, rfl, by omega, by omega, rfl, rfl⟩
      case round =>
        obtain ⟨i, qi, rfl, hi, hgi, rfl, rfl⟩ := hrel
        have Hgi := Lib.hid hgi
        clear hgi
        by_cases hlt : i < m
        · have hil : i < T.length := by have := Hm.out; omega
          obtain ⟨b, off, hA, hb, e0, e1⟩ := dv_at Hi3b.out hil
          subst hA
          have Hst := Lib.hid (show lastOf (T.take (i + 1)) id [] = if T[i].key = id then T[i].val else lastOf (T.take i) id [] by
            rw [List.take_succ_eq_append_getElem hil, lastOf_snoc])
          have HPr := Lib.hid (show ∀ i1, i = i1 + 1 → ∃ kp : List UInt8, w3.cell? ⟨b, off + i1 * 2, none⟩ = some (str kp) ∧ Op.bytesLess kp T[i].key = true from fun i1 h1 => by
            have h1l : i1 < T.length := by omega
            obtain ⟨b', off', hA', hb', f0, -⟩ := dv_at Hi3b.out h1l
            obtain ⟨rfl, rfl⟩ : b = b' ∧ off = off' := by injection hA' with h; injection h with h1 h2; exact ⟨h1, h2⟩
            exact ⟨_, f0, srt_at h1l hil Hsr.out (by omega)⟩)
          generalize hL1 : lastOf (T.take (i + 1)) id [] = L1 at Hst
          have HL1 := Lib.hid hL1
          clear hL1
          generalize lastOf (T.take i) id [] = L0 at *
          generalize T[i].key = rk at *
          generalize T[i].val = rv at *
          have hki : (i : Int) < (m : Int) := by omega
          rcases Nat.eq_zero_or_pos i with h0 | h0
          · subst h0
            simp only [Nat.zero_mul, Nat.add_zero] at e0 e1
            clear HPr
            by_cases he : rk = id
            · have heb : (rk == id) = true := by simpa using he
              have Hs := Lib.hid (show L1 = rv by rw [Hst.out, if_pos he])
              clear he Hst
              go_wp2_with fail
              go_quiet (fail)
              go_wp2_with fail
              go_roundg (m - (0 + 1))
              case measure => have := Hgi.out; omega
              case rel => exact ⟨0 + 1, _, by go_num, by omega, rfl, by rw [HL1.out, Hs.out], rfl⟩
            · have heb : (rk == id) = false := by simpa using he
              have Hs := Lib.hid (show L1 = L0 by rw [Hst.out, if_neg he])
              clear he Hst
              go_wp2_with fail
              go_quiet (fail)
              go_wp2_with fail
              go_roundg (m - (0 + 1))
              case measure => have := Hgi.out; omega
              case rel => exact ⟨0 + 1, _, by go_num, by omega, rfl, by rw [HL1.out, Hs.out], rfl⟩
          · obtain ⟨i1, hi1⟩ : ∃ i1, i = i1 + 1 := ⟨i - 1, by omega⟩
            obtain ⟨kp, f0, hbl⟩ := HPr.out i1 hi1
            have hwi : IntKind.i64.wrap ((i : Int) - 1) = (i1 : Int) := by rw [IntWalk.i64_in _ (by omega)]; omega
            have hi1a : (0 : Int) ≤ (i1 : Int) := by omega
            have hi1b : (i1 : Int) < (m : Int) := by omega
            have HI1 := Lib.hid hi1
            clear hi1 HPr
            by_cases he : rk = id
            · have heb : (rk == id) = true := by simpa using he
              have Hs := Lib.hid (show L1 = rv by rw [Hst.out, if_pos he])
              clear he Hst
              go_wp2_with fail
              have hi0c : (0 : Int) < (i : Int) := by have := HI1.out; omega
              go_quiet (fail)
              go_wp2_with fail
              go_roundg (m - (i + 1))
              case measure => have := Hgi.out; omega
              case rel => exact ⟨i + 1, _, by go_num, by omega, rfl, by rw [HL1.out, Hs.out], rfl⟩
            · have heb : (rk == id) = false := by simpa using he
              have Hs := Lib.hid (show L1 = L0 by rw [Hst.out, if_neg he])
              clear he Hst
              go_wp2_with fail
              have hi0c : (0 : Int) < (i : Int) := by have := HI1.out; omega
              go_quiet (fail)
              go_wp2_with fail
              go_roundg (m - (i + 1))
              case measure => have := Hgi.out; omega
              case rel => exact ⟨i + 1, _, by go_num, by omega, rfl, by rw [HL1.out, Hs.out], rfl⟩
        · obtain rfl : i = m := by omega
          have hki : ¬ (i : Int) < (i : Int) := by omega
          have hLL : lastOf (T.take i) id [] = L := by rw [HL.out, List.take_of_length_le (by rw [Hm.out]; exact Nat.le_refl _)]
          rw [hLL]
          have hb : (L == L) = true := by simp
          clear hLL
          go_wp2_with fail
          go_ret
          exact ⟨rfl, below_drewN B3.out _⟩
namespace devicesLast
open Go.ChangeShapes Go.WideShapes Go.ChangeAt Go.RowKit
theorem own : ownKnob Try.prog.godebug = none := by kernel_rfl
theorem laidOut : laidOutB Try.prog = true := by kernel_rfl
set_option linter.unusedVariables false
set_option maxRecDepth 100000 in
theorem lifted (os : Os) (started : os.Started) (H : Type) (enc : TypeId × Value → H) :
    ReturnsInHanded {} Try.checked os 7 .any (Rows.devicesLastSpec.pre6 enc Try.prog Try.f7 Rows.devicesLastRow.domain false) (Rows.devicesLastSpec.post enc Try.prog Try.f7 false true false false) := by
  refine returnsInHanded_of_change (C := Try.checked) own started (by kernel_rfl) Try.func7
    (ChangeSpec.witness6 (enc := enc) (C := Try.checked) false ⟨#[], #[.slice none 0 0, .int .i64 0], []⟩ 8 (by kernel_rfl) (by kernel_rfl) (by kernel_rfl) (by kernel_rfl)) ?_
  intro W base args ds gs before hval0 hW hcnd _
  have hval : ∀ (j : Nat) t v, Try.f7.params[j]? = some t → args[j]? = some v → Value.okWide Try.prog W .any base t v := hval0
  have hW' := hW
  obtain ⟨p, q, hA0, hV, rfl, hfz, hnd⟩ := hW
  have hA : DataW.TrodAll enc Try.prog W 0 (fun _ => true) true Try.f7.params.toList args.toList ds p := hA0
  rw [Try.params7] at hA hval
  obtain ⟨v0, vs0, d0, ds0, p0, q0, hargs, rfl, rfl, h0, rr0⟩ := trodAll_cons hA
  obtain ⟨v1, vs1, d1, ds1, p1, q1, rfl, rfl, rfl, h1, rr1⟩ := trodAll_cons rr0
  obtain ⟨rfl, rfl, rfl⟩ := trodAll_nil rr1
  obtain rfl : args = #[v0, v1] := by cases args; simp_all
  obtain ⟨rfl, rfl⟩ := trodVars_none hV
  have k0 := h0
  have lt0 : ∀ x ∈ p0, x.block < W.heap.size := by obtain ⟨m, hm⟩ := k0; exact DataW.trod_lt m _ _ _ hm
  obtain ⟨A0, n0, c0, rfl, hx0⟩ := open_intsl Try.underlying37 Try.underlying3 (by kernel_rfl) (hval 0 37 v0 rfl rfl) h0
  have k1 := h1
  have lt1 : ∀ x ∈ p1, x.block < W.heap.size := by obtain ⟨m, hm⟩ := k1; exact DataW.trod_lt m _ _ _ hm
  obtain ⟨x1, rfl, hx1⟩ := open_i64 Try.underlying3 (hval 1 3 v1 rfl rfl) h1
  clear hA0 hval0
  refine (walkDevicesLast A0 n0 c0 x1 W hx0 hx1).mono fun e W' ⟨he, bel⟩ => ?_
  subst he
  exact ⟨_, rfl, _, _, _, [], _, [], hW', trodAll_mk1 (shut_bool Try.underlying4 _), (trodAll_cons_mk (Below.trod laidOut (by kernel_rfl) (of_decide_eq_true (by kernel_rfl)) k0 bel lt0) (trodAll_cons_mk (Below.trod laidOut (by kernel_rfl) (of_decide_eq_true (by kernel_rfl)) k1 bel lt1) trodAll_mk0)), rfl, bel.frame _, fun h => by cases h⟩

theorem over : Rows.devicesLastRow.holds Try.pinned (OpenSpec.ofChange Rows.devicesLastSpec) :=
  OpenClaim.holds_of_wide 7 Try.f7 rfl rfl rfl rfl rfl rfl rfl ⟨rfl, rfl, rfl, rfl, rfl⟩ rfl rfl rfl rfl rfl (by kernel_rfl) Try.func7 (by kernel_rfl)
    (of_decide_eq_true (by kernel_rfl)) (by unfold Func.isWrapper; first | (rw [if_pos (by decide +kernel)]; kernel_rfl) | (rw [if_neg (by decide +kernel)]; exact ⟨rfl, rfl⟩))
    (fun os started H enc _ => lifted os started H enc)

theorem proved : Rows.DevicesLastSaid := over
#print axioms proved
end devicesLast
end Go.Proofs.Ytmlgaedhfannmaa
