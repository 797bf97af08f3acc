/- Proved here: Since(0) returns every device that ever had an update, each with what it has now; Since(the last Stream) returns none (statement DevicesAll). No condition. -/
import Derived.Test.YtmlgaedhfannmaaDvLt
import Derived.Test.YtmlgaedhfannmaaDvSin
import Derived.Test.YtmlgaedhfannmaaOpenI
import Derived.HandedShaped
namespace Go.Proofs.Ytmlgaedhfannmaa
set_option linter.unusedVariables false
set_option linter.unusedSimpArgs false
open Go.RowKit
def cntG (l : List Uc) : Nat := (l.filter (fun u => !u.gone)).length
theorem cntG_snoc (l : List Uc) (x : Uc) : cntG (l ++ [x]) = cntG l + if x.gone then 0 else 1 := by
  unfold cntG
  rw [List.filter_append, List.length_append]
  cases h : x.gone <;> simp [h]
theorem cntG_le (l : List Uc) (k : Nat) : cntG (l.take k) ≤ k := by
  unfold cntG
  have h1 := List.length_filter_le (fun u : Uc => !u.gone) (l.take k)
  rw [List.length_take] at h1
  omega
def anyD (l : List Rw) (K V : List UInt8) : Bool := l.any (fun r => r.key == K && r.val == V)
theorem anyD_snoc (l : List Rw) (x : Rw) (K V : List UInt8) : anyD (l ++ [x]) K V = (anyD l K V || (x.key == K && x.val == V)) := by
  unfold anyD
  rw [List.any_append]
  simp
theorem anyD_mem {l : List Rw} {K V : List UInt8} (h : (⟨K, V⟩ : Rw) ∈ l) : anyD l K V = true := by
  unfold anyD
  rw [List.any_eq_true]
  exact ⟨_, h, by simp⟩
def AlR (w : World) (S : List Uc) (n : Nat) (gk : Nat) (s i : Value) (wr : World) : Prop :=
  ∃ k q c : Nat, i = .int .i64 (k : Int) ∧ k ≤ n ∧ gk = n - k ∧ s = .int .i64 (c : Int) ∧ c = cntG (S.take k) ∧ wr = w.drewN q
def AnR (w : World) (T : List Rw) (K V : List UInt8) (n : Nat) (gk : Nat) (s i : Value) (wr : World) : Prop :=
  ∃ k q : Nat, i = .int .i64 (k : Int) ∧ k ≤ n ∧ gk = n - k ∧ s = .bool (anyD (T.take k) K V) ∧ wr = w.drewN q
set_option maxHeartbeats 4000000 in
set_option maxRecDepth 100000 in
theorem walkDevicesAll (A0 : Option Addr) (n0 c0 : Nat) (w : World) (hx0 : IntsAt w w.heap.size A0 n0 c0) :
    Calls Try.prog 9 #[.slice A0 n0 c0] w fun e w' => e = .returned (.bool true) ∧ Below w.heap.size w w' := by
  have H1 := Lib.hid (updates_any A0 n0 c0 w.heap.size 50 w hx0 (Nat.le_refl _) (by decide))
  clear hx0
  go_enter Try.func9, Try.ntmps9
  go_wp2_with fail
  refine H1.out.mono ?_
  rintro e w1 ⟨v1, cs, rfl, ho1, hlen, hok, b1⟩
  obtain ⟨A1, c1, rfl, hin1⟩ := LIn.own ucL_len ho1
  have hn60 : cs.length ≤ 50 := by omega
  have h6 : ∀ p ∈ cs, Six p := fun p hp => (hok p hp).1
  have hun := upsD_len cs
  have hm6 := tabD_len h6 (by omega)
  have hs0 : sinceL cs 0 = (0, lastOnes (upsD cs)) := by simpa using sinceL_six h6 (by omega) 0 (by omega)
  have hs1 : sinceL cs ((upsD cs).length : Int) = (0, []) := by
    have := sinceL_six h6 (by omega) (upsD cs).length (Nat.le_refl _)
    rw [List.drop_length] at this
    exact this
  have hai := fun (x : Uc) => all_in h6 (u := x)
  have hal := all_len h6
  have hzl := lastOnes_len (upsD cs)
  obtain ⟨n, hn⟩ : ∃ n, cs.length = n := ⟨_, rfl⟩
  rw [hn] at hin1 hun hn60 ⊢
  have H2 := Lib.hid (listed_any A1 n c1 w1.heap.size cs w1 hin1 (Nat.le_refl _) (by omega) h6 (fun p hp => dru_ok (hok p hp)))
  have HC := Lib.hid (fun (W : World) (hb : Below w1.heap.size w1 W) => copU_any A1 n c1 w1.heap.size cs W (hin1.below hb) (by omega))
  have HN := Lib.hid (fun (W : World) (A : Option Addr) (c : Nat) (h : LIn ucL 5 W W.heap.size A n c cs) => since_any A n c W.heap.size cs 0 W h (Nat.le_refl _) (by omega) (fun p hp => dru_ok (hok p hp)))
  have HM := Lib.hid (fun (W : World) (A : Option Addr) (c : Nat) (h : LIn ucL 5 W W.heap.size A n c cs) => since_any A n c W.heap.size cs ((upsD cs).length : Int) W h (Nat.le_refl _) (by omega) (fun p hp => dru_ok (hok p hp)))
  unfold SPost at HN HM
  rw [hs0] at HN
  rw [hs1] at HM
  unfold LdPost at H2
  obtain ⟨Z, hZ⟩ : ∃ Z, lastOnes (upsD cs) = Z := ⟨_, rfl⟩
  rw [hZ] at HN hai hal hzl
  generalize upsD cs = U at *
  generalize tabD cs = T at *
  obtain ⟨z, hz⟩ : ∃ z, Z.length = z := ⟨_, rfl⟩
  obtain ⟨u, hu⟩ : ∃ u, U.length = u := ⟨_, rfl⟩
  obtain ⟨m, hm⟩ : ∃ m, T.length = m := ⟨_, rfl⟩
  dsimp only [List.length_nil] at HN HM
  rw [hz] at HN hzl
  rw [hu] at HM hun hzl
  rw [hu, hm] at H2
  rw [hm] at hm6 hal
  have Hm6 := Lib.hid hm6
  have Hm := Lib.hid hm
  have Hz := Lib.hid hz
  have Hai := Lib.hid hai
  have Hal := Lib.hid (show cntG Z = m from hal)
  have B1 := Lib.hid b1
  have hcn : ∀ (W : World) (v : Value) (b : Nat), W.ownsRow b 44 5 v n (pcK ucL cs) → ∃ A c, v = .slice A n c ∧ LIn ucL 5 W W.heap.size A n c cs := fun W v b h => by
    rw [← hn] at h
    obtain ⟨A, c, rfl, hA⟩ := LIn.own ucL_len h
    rw [hn] at hA ⊢
    exact ⟨A, c, rfl, hA⟩
  have Hcn := Lib.hid hcn
  clear hlen hok b1 ho1 hin1 h6 hn hu hm hm6 H1 hs0 hs1 hai hal hZ hz hcn
  go_wp2_with fail
  refine H2.out.mono ?_
  rintro e w2 ⟨A2, c2, A3, c3, rfl, hi2, hi3, b2⟩
  have B2 := Lib.hid (B1.out.trans (b2.mono B1.out.size))
  have H3 := Lib.hid (HC.out w2 b2)
  have Hb2 := Lib.hid b2
  have Hi3 := Lib.hid hi3
  clear hi2 hi3 b2 H2
  go_wp2_with fail
  refine H3.out.mono ?_
  rintro e w3 ⟨v3, rfl, ho3, b3⟩
  obtain ⟨A4, c4, rfl, hin4⟩ := Hcn.out w3 v3 _ ho3
  have H4 := Lib.hid (HN.out w3 A4 c4 hin4)
  have Hb3 := Lib.hid b3
  clear ho3 b3 hin4 HN H3
  go_wp2_with fail
  refine H4.out.mono ?_
  rintro e w4 ⟨A5, c5, rfl, hi5, b4⟩
  have h24 := Hb3.out.trans (b4.mono Hb3.out.size)
  have B4 := Lib.hid (B2.out.trans (h24.mono B2.out.size))
  have H5 := Lib.hid (HC.out w4 (Hb2.out.trans (h24.mono Hb2.out.size)))
  have Hi3b := Lib.hid (Hi3.out.below h24)
  have Hi5 := Lib.hid hi5
  have Hs24 := Lib.hid h24.size
  clear hi5 b4 h24 HC H4 Hi3 Hb3
  go_wp2_with fail
  refine H5.out.mono ?_
  rintro e w5 ⟨v5, rfl, ho5, b5⟩
  obtain ⟨A6, c6, rfl, hin6⟩ := Hcn.out w5 v5 _ ho5
  have H6 := Lib.hid (HM.out w5 A6 c6 hin6)
  have Hb5 := Lib.hid b5
  clear ho5 b5 hin6 HM H5 Hcn
  go_wp2_with fail
  refine H6.out.mono ?_
  rintro e w6 ⟨A7, c7, rfl, -, b6⟩
  have h46 := Hb5.out.trans (b6.mono Hb5.out.size)
  have B6 := Lib.hid (B4.out.trans (h46.mono B4.out.size))
  have Hi3c := Lib.hid (Hi3b.out.below (h46.mono Hs24.out))
  have Hi5c := Lib.hid (Hi5.out.below h46)
  clear b6 h46 H6 Hi3b Hi5 Hb5 B4 B2 Hs24
  dsimp only
  go_wp2_with fail
  go_loopg [11, 12] z (AlR w6 Z z)
  case atStart => exact ⟨0, 0, 0, rfl, by omega, by omega, rfl, rfl, rfl⟩
  case round =>
    obtain ⟨i, q, c, rfl, hi, hg, rfl, hc, rfl⟩ := hrel
    have Hg := Lib.hid hg
    have hci : c ≤ i := by rw [hc]; exact cntG_le Z i
    clear hg
    by_cases hlt : i < z
    · have hil : i < Z.length := by have := Hz.out; omega
      obtain ⟨b, off, hA, hb, -, -, e2, e3, e4⟩ := uc_at Hi5c.out hil
      subst hA
      have hii : (i : Int) < (z : Int) := by omega
      have Hst := Lib.hid (show cntG (Z.take (i + 1)) = c + if Z[i].gone then 0 else 1 by
        rw [List.take_succ_eq_append_getElem hil, cntG_snoc, ← hc])
      have Hin := Lib.hid (show Z[i].gone = false → (⟨Z[i].key, Z[i].val⟩ : Rw) ∈ T from fun h => Hai.out _ (List.getElem_mem hil) h)
      generalize Z[i].key = rk at *
      generalize Z[i].val = rv at *
      generalize Z[i].gone = rg at *
      clear hc
      cases rg with
      | true =>
        have Hst' := Lib.hid (show cntG (Z.take (i + 1)) = c from by simpa using Hst.out)
        clear Hst
        go_wp2_with fail
        go_roundg (z - (i + 1))
        case measure => have := Hg.out; omega
        case rel => exact ⟨i + 1, _, c, by go_num, by omega, rfl, rfl, Hst'.out.symm, rfl⟩
      | false =>
        have Hst' := Lib.hid (show cntG (Z.take (i + 1)) = c + 1 from by simpa using Hst.out)
        have Hmem := Lib.hid (Hin.out rfl)
        clear Hst Hin
        go_wp2_with fail
        go_loopg [13, 14] m (AnR w6 T rk rv m)
        case atStart => exact ⟨0, _, rfl, by omega, by omega, rfl, rfl⟩
        case round =>
          obtain ⟨j, qj, rfl, hj, hgj, rfl, rfl⟩ := hrel
          have Hgj := Lib.hid hgj
          clear hgj
          by_cases hjl : j < m
          · have hm6 := Hm6.out
            have hjT : j < T.length := by have := Hm.out; omega
            obtain ⟨b', off', hA', hb', f0, f1⟩ := dv_at Hi3c.out hjT
            subst hA'
            have Hs2 := Lib.hid (show anyD (T.take (j + 1)) rk rv = (anyD (T.take j) rk rv || (T[j].key == rk && T[j].val == rv)) by
              rw [List.take_succ_eq_append_getElem hjT, anyD_snoc])
            generalize hL1 : anyD (T.take (j + 1)) rk rv = L1 at Hs2
            have HL1 := Lib.hid hL1
            clear hL1
            generalize anyD (T.take j) rk rv = L0 at *
            generalize T[j].key = tk at *
            generalize T[j].val = tv at *
            obtain ⟨b2, hb2⟩ : ∃ b2, (tk == rk && tv == rv) = b2 := ⟨_, rfl⟩
            have heq := fun W => eq_dev tk tv rk rv W
            have hgd := fun op x y W => gd_dev op x y tk tv rk rv W
            simp only [hb2] at heq
            have Hs3 := Lib.hid (show L1 = (L0 || b2) by rw [Hs2.out, hb2])
            have hji : (j : Int) < (m : Int) := by omega
            clear Hs2 hb2
            cases L0 with
            | true =>
              go_wp2_with fail
              go_quiet (fail)
              go_wp2_with fail
              go_roundg (m - (j + 1))
              case measure => have := Hgj.out; omega
              case rel => exact ⟨j + 1, _, by go_num, by omega, rfl, by rw [HL1.out, Hs3.out]; rfl, rfl⟩
            | false =>
              go_wp2_with fail
              go_quiet (fail)
              go_wp2_with fail
              go_roundg (m - (j + 1))
              case measure => have := Hgj.out; omega
              case rel => exact ⟨j + 1, _, by go_num, by omega, rfl, by rw [HL1.out, Hs3.out]; rfl, rfl⟩
          · obtain rfl : j = m := by omega
            have hji : ¬ (j : Int) < (j : Int) := by omega
            have hall : anyD (T.take j) rk rv = true := by
              rw [List.take_of_length_le (by rw [Hm.out]; exact Nat.le_refl _)]
              exact anyD_mem Hmem.out
            rw [hall]
            clear hall
            go_wp2_with fail
            go_roundg (z - (i + 1))
            case measure => have := Hg.out; omega
            case rel => exact ⟨i + 1, _, c + 1, by go_num, by omega, rfl, by go_num, Hst'.out.symm, rfl⟩
    · obtain rfl : i = z := by omega
      have hii : ¬ (i : Int) < (i : Int) := by omega
      have hcm : c = m := by
        rw [hc, List.take_of_length_le (by rw [Hz.out]; exact Nat.le_refl _)]
        exact Hal.out
      subst hcm
      have hbb : ((c : Int) == (c : Int)) = true := by simp
      clear hc
      go_wp2_with fail
      go_ret
      exact ⟨rfl, below_drewN B6.out _⟩
namespace devicesAll
open Go.ChangeShapes Go.WideShapes Go.ChangeAt Go.RowKit
theorem own : ownKnob Try.prog.godebug = none := by kernel_rfl
theorem laidOut : laidOutB Try.prog = true := by kernel_rfl
set_option linter.unusedVariables false
set_option maxRecDepth 100000 in
theorem lifted (os : Os) (started : os.Started) (H : Type) (enc : TypeId × Value → H) :
    ReturnsInHanded {} Try.checked os 9 .any (Rows.devicesAllSpec.pre6 enc Try.prog Try.f9 Rows.devicesAllRow.domain false) (Rows.devicesAllSpec.post enc Try.prog Try.f9 false true false false) := by
  refine returnsInHanded_of_change (C := Try.checked) own started (by kernel_rfl) Try.func9
    (ChangeSpec.witness6 (enc := enc) (C := Try.checked) false ⟨#[], #[.slice none 0 0], []⟩ 8 (by kernel_rfl) (by kernel_rfl) (by kernel_rfl) (by kernel_rfl)) ?_
  intro W base args ds gs before hval0 hW hcnd _
  have hval : ∀ (j : Nat) t v, Try.f9.params[j]? = some t → args[j]? = some v → Value.okWide Try.prog W .any base t v := hval0
  have hW' := hW
  obtain ⟨p, q, hA0, hV, rfl, hfz, hnd⟩ := hW
  have hA : DataW.TrodAll enc Try.prog W 0 (fun _ => true) true Try.f9.params.toList args.toList ds p := hA0
  rw [Try.params9] at hA hval
  obtain ⟨v0, vs0, d0, ds0, p0, q0, hargs, rfl, rfl, h0, rr0⟩ := trodAll_cons hA
  obtain ⟨rfl, rfl, rfl⟩ := trodAll_nil rr0
  obtain rfl : args = #[v0] := by cases args; simp_all
  obtain ⟨rfl, rfl⟩ := trodVars_none hV
  have k0 := h0
  have lt0 : ∀ x ∈ p0, x.block < W.heap.size := by obtain ⟨m, hm⟩ := k0; exact DataW.trod_lt m _ _ _ hm
  obtain ⟨A0, n0, c0, rfl, hx0⟩ := open_intsl Try.underlying37 Try.underlying3 (by kernel_rfl) (hval 0 37 v0 rfl rfl) h0
  clear hA0 hval0
  refine (walkDevicesAll A0 n0 c0 W hx0).mono fun e W' ⟨he, bel⟩ => ?_
  subst he
  exact ⟨_, rfl, _, _, _, [], _, [], hW', trodAll_mk1 (shut_bool Try.underlying4 _), (trodAll_cons_mk (Below.trod laidOut (by kernel_rfl) (of_decide_eq_true (by kernel_rfl)) k0 bel lt0) trodAll_mk0), rfl, bel.frame _, fun h => by cases h⟩

theorem over : Rows.devicesAllRow.holds Try.pinned (OpenSpec.ofChange Rows.devicesAllSpec) :=
  OpenClaim.holds_of_wide 9 Try.f9 rfl rfl rfl rfl rfl rfl rfl ⟨rfl, rfl, rfl, rfl, rfl⟩ rfl rfl rfl rfl rfl (by kernel_rfl) Try.func9 (by kernel_rfl)
    (of_decide_eq_true (by kernel_rfl)) (by unfold Func.isWrapper; first | (rw [if_pos (by decide +kernel)]; kernel_rfl) | (rw [if_neg (by decide +kernel)]; exact ⟨rfl, rfl⟩))
    (fun os started H enc _ => lifted os started H enc)

theorem proved : Rows.DevicesAllSaid := over
#print axioms proved
end devicesAll
end Go.Proofs.Ytmlgaedhfannmaa
