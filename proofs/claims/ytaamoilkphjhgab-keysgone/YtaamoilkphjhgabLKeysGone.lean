/- Proved here: a key that was given away cannot be added again and is given to nobody else (statement KeysGone). No condition. -/
import Derived.Test.YtaamoilkphjhgabKyCe
import Derived.Test.YtaamoilkphjhgabOpenI
import Derived.HandedShaped
namespace Go.Proofs.Ytaamoilkphjhgab
set_option linter.unusedVariables false
set_option linter.unusedSimpArgs false
open Go.RowKit
/-- What the two loops ask. -/
def GoneP (l : List Ak) (R : List Gv) : Prop := ∀ i k, i < k → ∀ (hk : k < l.length) (hi : i < l.length) (hk' : k < R.length) (hi' : i < R.length), l[i].kind = 1 → R[i].code = 0 → l[k].kind = 1 → l[k].sort = l[i].sort → l[k].id = l[i].id → R[k].code = 7
theorem goneP (l : List Ak) : GoneP l (asksR ks0 l).1 := by
  intro i k hik hk hi hk' hi' h1 hc h2 h3 h4
  exact gone_end hik hk h1 h2 h3 h4 (List.getElem?_eq_getElem hi') (List.getElem?_eq_getElem hk') hc
def GnI (W : World) (n : Nat) (gk : Nat) (s6 : Value) (wr : World) : Prop := ∃ i : Nat, s6 = .int .i64 (i : Int) ∧ i ≤ n ∧ gk = n - i ∧ Below W.heap.size W wr
def GnK (W : World) (n i : Nat) (gk : Nat) (s7 : Value) (wr : World) : Prop := ∃ k : Nat, s7 = .int .i64 (k : Int) ∧ i < k ∧ k ≤ n ∧ gk = n - k ∧ Below W.heap.size W wr
set_option maxHeartbeats 4000000 in
set_option maxRecDepth 100000 in
theorem walkKeysGone (A0 : Option Addr) (n0 c0 : Nat) (w : World) (hx0 : IntsAt w w.heap.size A0 n0 c0) (hsh : w.ShapedOpen Try.prog) :
    Calls Try.prog 9 #[.slice A0 n0 c0] w fun e w' => e = .returned (.bool true) ∧ Below w.heap.size w w' := by
  have hg := Gl.of hsh
  have H1 := Lib.hid (asks_any A0 n0 c0 w.heap.size 60 w hx0 (Nat.le_refl _) (by decide))
  have Hg := Lib.hid hg
  clear hx0 hsh hg
  go_enter Try.func9, Try.ntmps9
  go_wp2_with fail
  refine H1.out.mono ?_
  rintro e w1 ⟨v1, l, rfl, ho1, hlen, hok, b1⟩
  obtain ⟨A1, c1, rfl, hin1⟩ := LIn.own akL_len ho1
  have H2 := Lib.hid (given_any A1 l.length c1 _ l w1 hin1 (by omega) (Hg.out.below b1) (fun a ha => okA_ok (hok a ha)))
  have hrl := asksR_len l ks0
  have HGone := Lib.hid (goneP l)
  unfold GvnPost at H2
  obtain ⟨n, hn⟩ : ∃ n, l.length = n := ⟨_, rfl⟩
  rw [hn] at hrl hin1 H2 ⊢
  generalize (asksR ks0 l).1 = R at *
  have Hin1 := Lib.hid hin1
  have Hn := Lib.hid hn
  have Hrl := Lib.hid hrl
  have B1 := Lib.hid b1
  have hn60 : n ≤ 60 := by omega
  clear ho1 hlen hok b1 hin1 hn hrl H1
  go_wp2_with fail
  refine H2.out.mono ?_
  rintro e w2 ⟨A2, c2, rfl, hin2, b2⟩
  have Hin2 := Lib.hid hin2
  have Hin12 := Lib.hid ((Hin1.out.below b2).wider b2.size)
  have B2 := Lib.hid (below_tail B1.out b2 B1.out.size)
  clear hin2 b2 H2 Hin1
  go_wp2_with fail
  go_loopg [6] n (GnI w2 n)
  case atStart => exact ⟨0, rfl, Nat.zero_le _, by omega, Below.refl _ _⟩
  case round =>
    obtain ⟨i, rfl, hi, hgk, hbe⟩ := hrel
    have Hgk := Lib.hid hgk
    have Hbe := Lib.hid hbe
    clear hgk hbe
    by_cases hin : i < n
    · have hii : (i : Int) < (n : Int) := by omega
      have hil : i < l.length := by rw [Hn.out]; exact hin
      have hir : i < R.length := by rw [Hrl.out]; exact hin
      obtain ⟨b, off, hA, hbB, d0, d1, d2, d3, d4⟩ := ask_at (Hin12.out.below Hbe.out) hil
      obtain ⟨b', off', hA', hbB', e0, -⟩ := gvn_at (Hin2.out.below Hbe.out) hir
      subst hA hA'
      have HGi := Lib.hid (fun k (hik : i < k) (hk : k < l.length) (hk' : k < R.length) => HGone.out i k hik hk hil hk' hir)
      have hbB2 := hbB
      have hbw : b < wr.heap.size := Nat.lt_of_lt_of_le hbB Hbe.out.size
      have hbw' : b' < wr.heap.size := Nat.lt_of_lt_of_le hbB' Hbe.out.size
      obtain ⟨a, hla⟩ : ∃ a, l[i] = a := ⟨_, rfl⟩
      rw [hla] at d0 d1 d2 d3 d4 HGi
      have Hli := Lib.hid hla
      clear hla
      generalize R[i] = g at *
      by_cases hk1 : a.kind = 1
      · by_cases hc0 : g.code = 0
        · have HGi2 := Lib.hid (fun k hik hk hk' => HGi.out k hik hk hk' hk1 hc0)
          rw [hk1] at d0
          rw [hc0] at e0
          obtain ⟨ak, asrt, aid, abo, aby⟩ := a
          simp only at d1 d2 HGi2
          have HD1 := Lib.hid d1
          have HD2 := Lib.hid d2
          clear HGi hk1 hc0 d1 d2 d3 d4
          go_wp2_with fail
          go_loopg [7] (n - (i + 1)) (GnK w2 n i)
          case atStart => exact ⟨i + 1, by go_num, by omega, by omega, rfl, Hbe.out⟩
          case round =>
            obtain ⟨k, rfl, hik, hk, hgk2, hbe2⟩ := hrel
            have Hgk2 := Lib.hid hgk2
            have Hbe2 := Lib.hid hbe2
            have hszr := hbe2.size
            clear hgk2 hbe2
            by_cases hkn : k < n
            · have hki : (k : Int) < (n : Int) := by omega
              have hkl : k < l.length := by rw [Hn.out]; exact hkn
              have hkr : k < R.length := by rw [Hrl.out]; exact hkn
              have hil' : i < l.length := by rw [Hn.out]; exact hin
              obtain ⟨p0, p1, p2, -, -⟩ := ask_at' (Hin12.out.below Hbe2.out) hkl
              obtain ⟨q0, -⟩ := gvn_at' (Hin2.out.below Hbe2.out) hkr
              obtain ⟨-, z1, z2, -, -⟩ := ask_at' (Hin12.out.below Hbe2.out) hil'
              rw [Hli.out] at z1 z2
              simp only at z1 z2
              have HG := Lib.hid (HGi2.out k hik hkl hkr)
              have hb1 : b < wr.heap.size := by omega
              have hb2 : b' < wr.heap.size := by omega
              clear d0 e0
              generalize l[k] = a2 at *
              generalize R[k] = g2 at *
              obtain ⟨bk, bs, bi, bb, by2⟩ := a2
              simp only at p0 p1 p2 HG
              by_cases m1 : bk = 1
              · subst m1
                cases hs : (bs == asrt)
                · clear HG
                  go_wp2_with fail
                  go_quiet (fail)
                  go_wp2_with fail
                  go_roundg (n - (k + 1))
                  case measure => have := Hgk2.out; omega
                  case rel => exact ⟨k + 1, by go_num, by omega, by omega, rfl, below_drewN Hbe2.out _⟩
                · cases hd : (bi == aid)
                  · clear HG
                    go_wp2_with fail
                    go_quiet (fail)
                    go_wp2_with fail
                    go_roundg (n - (k + 1))
                    case measure => have := Hgk2.out; omega
                    case rel => exact ⟨k + 1, by go_num, by omega, by omega, rfl, below_drewN Hbe2.out _⟩
                  · rw [HG.out rfl (by simpa using hs) (by simpa using hd)] at q0
                    clear HG
                    go_wp2_with fail
                    go_quiet (fail)
                    go_wp2_with fail
                    go_roundg (n - (k + 1))
                    case measure => have := Hgk2.out; omega
                    case rel => exact ⟨k + 1, by go_num, by omega, by omega, rfl, below_drewN Hbe2.out _⟩
              · clear HG
                have m1b : (bk == 1) = false := by simpa using m1
                have m1d : decide (bk = 1) = false := by simpa using m1
                go_wp2_with fail
                go_quiet (fail)
                go_wp2_with fail
                go_roundg (n - (k + 1))
                case measure => have := Hgk2.out; omega
                case rel => exact ⟨k + 1, by go_num, by omega, by omega, rfl, below_drewN Hbe2.out _⟩
            · have hki : ¬ (k : Int) < (n : Int) := by omega
              go_wp2_with fail
              go_roundg (n - (i + 1))
              case measure => have := Hgk.out; omega
              case rel => exact ⟨i + 1, by go_num, by omega, rfl, Hbe2.out⟩
        · clear d1 d2 d3 d4
          rw [hk1] at d0
          go_wp2_with fail
          go_roundg (n - (i + 1))
          case measure => have := Hgk.out; omega
          case rel => exact ⟨i + 1, by go_num, by omega, rfl, Hbe.out⟩
      · clear d1 d2 d3 d4
        go_wp2_with fail
        go_roundg (n - (i + 1))
        case measure => have := Hgk.out; omega
        case rel => exact ⟨i + 1, by go_num, by omega, rfl, Hbe.out⟩
    · have hii : ¬ (i : Int) < (n : Int) := by omega
      go_wp2_with fail
      go_ret
      exact ⟨rfl, below_tail B2.out Hbe.out B2.out.size⟩
namespace keysGone
open Go.ChangeShapes Go.WideShapes Go.ChangeAt Go.RowKit
theorem own : ownKnob Try.prog.godebug = none := by kernel_rfl
theorem laidOut : laidOutB Try.prog = true := by kernel_rfl
set_option linter.unusedVariables false
set_option maxRecDepth 100000 in
theorem lifted (os : Os) (started : os.Started) (H : Type) (enc : TypeId × Value → H) :
    ReturnsInHanded {} Try.checked os 9 .any (Rows.keysGoneSpec.pre6 enc Try.prog Try.f9 Rows.keysGoneRow.domain false) (Rows.keysGoneSpec.post enc Try.prog Try.f9 false true false false) := by
  refine returnsInHanded_of_change_shaped (C := Try.checked) own started (by kernel_rfl) Try.func9
    (ChangeSpec.witness6 (enc := enc) (C := Try.checked) false ⟨#[], #[.slice none 0 0], []⟩ 8 (by kernel_rfl) (by kernel_rfl) (by kernel_rfl) (by kernel_rfl)) ?_
  intro W base args ds gs before hval0 hW hcnd _ hsh0 _
  have hsh : W.ShapedOpen Try.prog := hsh0
  have hval : ∀ (j : Nat) t v, Try.f9.params[j]? = some t → args[j]? = some v → Value.okWide Try.prog W .any base t v := hval0
  have hW' := hW
  obtain ⟨p, q, hA0, hV, rfl, hfz, hnd⟩ := hW
  have hA : DataW.TrodAll enc Try.prog W 0 (fun _ => true) true Try.f9.params.toList args.toList ds p := hA0
  rw [Try.params9] at hA hval
  obtain ⟨v0, vs0, d0, ds0, p0, q0, hargs, rfl, rfl, h0, rr0⟩ := trodAll_cons hA
  obtain ⟨rfl, rfl, rfl⟩ := trodAll_nil rr0
  obtain rfl : args = #[v0] := by cases args; simp_all
  obtain ⟨rfl, rfl⟩ := trodVars_none hV
  have k0 := h0
  have lt0 : ∀ x ∈ p0, x.block < W.heap.size := by obtain ⟨m, hm⟩ := k0; exact DataW.trod_lt m _ _ _ hm
  obtain ⟨A0, n0, c0, rfl, hx0⟩ := open_intsl Try.underlying30 Try.underlying3 (by kernel_rfl) (hval 0 30 v0 rfl rfl) h0
  clear hA0 hval0
  refine (walkKeysGone A0 n0 c0 W hx0 hsh).mono fun e W' ⟨he, bel⟩ => ?_
  subst he
  exact ⟨_, rfl, _, _, _, [], _, [], hW', trodAll_mk1 (shut_bool Try.underlying4 _), (trodAll_cons_mk (Below.trod laidOut (by kernel_rfl) (of_decide_eq_true (by kernel_rfl)) k0 bel lt0) trodAll_mk0), rfl, bel.frame _, fun h => by cases h⟩

theorem over : Rows.keysGoneRow.holds Try.pinned (OpenSpec.ofChange Rows.keysGoneSpec) :=
  OpenClaim.holds_of_wide 9 Try.f9 rfl rfl rfl rfl rfl rfl rfl ⟨rfl, rfl, rfl, rfl, rfl⟩ rfl rfl rfl rfl rfl (by kernel_rfl) Try.func9 (by kernel_rfl)
    (of_decide_eq_true (by kernel_rfl)) (by unfold Func.isWrapper; first | (rw [if_pos (by decide +kernel)]; kernel_rfl) | (rw [if_neg (by decide +kernel)]; exact ⟨rfl, rfl⟩))
    (fun os started H enc _ => lifted os started H enc)

theorem proved : Rows.KeysGoneSaid := over
#print axioms proved
end keysGone
end Go.Proofs.Ytaamoilkphjhgab
