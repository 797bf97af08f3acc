/- Proved here: no key is given to two claimants, except the spare key, and a repeated Claim is given the same key (statement KeysOnce). No condition. -/
import Derived.Test.YtaamoilkphjhgabKyCe
import Derived.Test.YtaamoilkphjhgabOpenI
import Derived.HandedShaped
namespace Go.Proofs.Ytaamoilkphjhgab
set_option linter.unusedVariables false
set_option linter.unusedSimpArgs false
open Go.RowKit
/-- What the two loops ask. -/
def OnceP (l : List Ak) (R : List Gv) : Prop := ∀ i k, k < i → ∀ (hk : k < l.length) (hi : i < l.length) (hk' : k < R.length) (hi' : i < R.length), l[i].kind = 3 → R[i].code = 0 → l[k].kind = 3 → R[k].code = 0 → l[k].sort = l[i].sort →
  (l[k].by_ = l[i].by_ → R[k].id = R[i].id ∧ R[k].body = R[i].body ∧ R[k].spare = R[i].spare) ∧ (¬ l[k].by_ = l[i].by_ → R[i].spare = false → R[k].spare = false → R[k].id ≠ R[i].id)
theorem onceP (l : List Ak) : OnceP l (asksR ks0 l).1 := by
  intro i k hik hk hi hk' hi' h1 hc h2 hc2 hs
  have e1 := claim_end hi h1 (List.getElem?_eq_getElem hi') hc
  have e2 := claim_end hk h2 (List.getElem?_eq_getElem hk') hc2
  rw [hs] at e2
  refine ⟨fun hb => ?_, fun hb s1 s2 => ?_⟩
  · rw [hb, e1] at e2
    injection e2 with e2
    injection e2 with q1 q2 q3
    exact ⟨q1.symm, q2.symm, q3.symm⟩
  · exact (InvK.asks l invK0).apart _ _ _ _ _ e2 e1 hb s2 s1
def OnI (W : World) (n : Nat) (gk : Nat) (s6 : Value) (wr : World) : Prop := ∃ i : Nat, s6 = .int .i64 (i : Int) ∧ i ≤ n ∧ gk = n - i ∧ Below W.heap.size W wr
def OnK (W : World) (i : Nat) (gk : Nat) (s7 : Value) (wr : World) : Prop := ∃ k : Nat, s7 = .int .i64 (k : Int) ∧ k ≤ i ∧ gk = i - k ∧ Below W.heap.size W wr
set_option maxHeartbeats 4000000 in
set_option maxRecDepth 100000 in
theorem walkKeysOnce (A0 : Option Addr) (n0 c0 : Nat) (w : World) (hx0 : IntsAt w w.heap.size A0 n0 c0) (hsh : w.ShapedOpen Try.prog) :
    Calls Try.prog 4 #[.slice A0 n0 c0] w fun e w' => e = .returned (.bool true) ∧ Below w.heap.size w w' := by
  have hg := Gl.of hsh
  have H1 := Lib.hid (asks_any A0 n0 c0 w.heap.size 80 w hx0 (Nat.le_refl _) (by decide))
  have Hg := Lib.hid hg
  clear hx0 hsh hg
  go_enter Try.func4, Try.ntmps4
  go_wp2_with fail
  refine H1.out.mono ?_
  rintro e w1 ⟨v1, l, rfl, ho1, hlen, hok, b1⟩
  obtain ⟨A1, c1, rfl, hin1⟩ := LIn.own akL_len ho1
  have H2 := Lib.hid (given_any A1 l.length c1 _ l w1 hin1 (by omega) (Hg.out.below b1) (fun a ha => okA_ok (hok a ha)))
  have hrl := asksR_len l ks0
  have HOnce := Lib.hid (onceP l)
  unfold GvnPost at H2
  obtain ⟨n, hn⟩ : ∃ n, l.length = n := ⟨_, rfl⟩
  rw [hn] at hrl hin1 H2 ⊢
  generalize (asksR ks0 l).1 = R at *
  have Hin1 := Lib.hid hin1
  have Hn := Lib.hid hn
  have Hrl := Lib.hid hrl
  have B1 := Lib.hid b1
  have hn80 : n ≤ 80 := by omega
  clear ho1 hlen hok b1 hin1 hn hrl H1
  go_wp2_with fail
  refine H2.out.mono ?_
  rintro e w2 ⟨A2, c2, rfl, hin2, b2⟩
  have Hin2 := Lib.hid hin2
  have Hin12 := Lib.hid ((Hin1.out.below b2).wider b2.size)
  have B2 := Lib.hid (below_tail B1.out b2 B1.out.size)
  clear hin2 b2 H2 Hin1
  go_wp2_with fail
  go_loopg [6] n (OnI w2 n)
  case atStart => exact ⟨0, rfl, Nat.zero_le _, by omega, Below.refl _ _⟩
  case round =>
    obtain ⟨i, rfl, hi, hgk, hbe⟩ := hrel
    have Hgk := Lib.hid hgk
    have Hbe := Lib.hid hbe
    clear hgk hbe
    by_cases hin : i < n
    · have hii : (i : Int) < (n : Int) := by omega
      have hil : i < l.length := by rw [Hn.out]; exact hin
      have hir : i < R.length := by rw [Hrl.out]; exact hin
      obtain ⟨b, off, hA, hbB, d0, -, -, -, -⟩ := ask_at (Hin12.out.below Hbe.out) hil
      obtain ⟨b', off', hA', hbB', e0, -⟩ := gvn_at (Hin2.out.below Hbe.out) hir
      subst hA hA'
      have HOi := Lib.hid (fun k (hik : k < i) (hk : k < l.length) (hk' : k < R.length) => HOnce.out i k hik hk hil hk' hir)
      have hbw : b < wr.heap.size := Nat.lt_of_lt_of_le hbB Hbe.out.size
      have hbw' : b' < wr.heap.size := Nat.lt_of_lt_of_le hbB' Hbe.out.size
      obtain ⟨⟨ak, asrt, aid, abo, aby⟩, hla⟩ : ∃ a, l[i] = a := ⟨_, rfl⟩
      obtain ⟨⟨gc, gi, gb, gs, gm⟩, hlg⟩ : ∃ g, R[i] = g := ⟨_, rfl⟩
      rw [hla] at d0 HOi
      rw [hlg] at e0 HOi
      have Hli := Lib.hid hla
      have Hlg := Lib.hid hlg
      clear hla hlg
      simp only at d0 e0 HOi
      by_cases m : ak = 3
      · subst m
        by_cases m : gc = 0
        · subst m
          go_wp2_with fail
          go_loopg [7] i (OnK w2 i)
          case atStart => exact ⟨0, by go_num, by omega, by omega, Hbe.out⟩
          case round =>
            obtain ⟨k, rfl, hk, hgk2, hbe2⟩ := hrel
            have Hgk2 := Lib.hid hgk2
            have Hbe2 := Lib.hid hbe2
            have hszr := hbe2.size
            clear hgk2 hbe2
            by_cases hki : k < i
            · have hkii : (k : Int) < (i : Int) := by omega
              have hkn : (k : Int) < (n : Int) := by omega
              have hkl : k < l.length := by rw [Hn.out]; omega
              have hkr : k < R.length := by rw [Hrl.out]; omega
              have hil' : i < l.length := by rw [Hn.out]; exact hin
              have hir' : i < R.length := by rw [Hrl.out]; exact hin
              obtain ⟨p0, p1, -, -, p4⟩ := ask_at' (Hin12.out.below Hbe2.out) hkl
              obtain ⟨q0, q2, q3, q4, -, -⟩ := gvn_at' (Hin2.out.below Hbe2.out) hkr
              obtain ⟨-, z1, -, -, z4⟩ := ask_at' (Hin12.out.below Hbe2.out) hil'
              obtain ⟨-, y2, y3, y4, -, -⟩ := gvn_at' (Hin2.out.below Hbe2.out) hir'
              rw [Hli.out] at z1 z4
              rw [Hlg.out] at y2 y3 y4
              simp only at z1 z4 y2 y3 y4
              have HO := Lib.hid (HOi.out k hki hkl hkr)
              have hb1 : b < wr.heap.size := by omega
              have hb2 : b' < wr.heap.size := by omega
              clear d0 e0
              generalize l[k] = a2 at *
              generalize R[k] = g2 at *
              obtain ⟨bk, bs, bi, bb, by2⟩ := a2
              obtain ⟨hc, hi2, hb3, hs3, hm⟩ := g2
              simp only at p0 p1 p4 q0 q2 q3 q4 HO
              by_cases m : bk = 3
              · subst m
                by_cases m : hc = 0
                · subst m
                  cases hs : (bs == asrt)
                  · clear HO
                    have hsn : (bs != asrt) = true := by simpa using hs
                    go_wp2_with fail
                    go_quiet (fail)
                    go_wp2_with fail
                    go_roundg (i - (k + 1))
                    case measure => have := Hgk2.out; omega
                    case rel => exact ⟨k + 1, by go_num, by omega, rfl, (by first | exact below_drewN Hbe2.out _ | exact below_drewN (below_drewN Hbe2.out _) _ | exact below_drewN (below_drewN (below_drewN Hbe2.out _) _) _)⟩
                  · have hsn : (bs != asrt) = false := by simpa using hs
                    have HO2 := Lib.hid (HO.out (by first | rfl | trivial) (by first | rfl | trivial) (by first | rfl | trivial) (by first | rfl | trivial) (by simpa using hs))
                    clear HO
                    by_cases m : by2 = aby
                    · obtain ⟨r1, r2, r3⟩ := HO2.out.1 m
                      subst m r1 r2 r3
                      clear HO2
                      go_wp2_with fail
                      go_quiet (fail)
                      go_wp2_with fail
                      go_quiet (fail)
                      go_wp2_with fail
                      go_quiet (fail)
                      go_wp2_with fail
                      go_roundg (i - (k + 1))
                      case measure => have := Hgk2.out; omega
                      case rel => exact ⟨k + 1, by go_num, by omega, rfl, (by first | exact below_drewN Hbe2.out _ | exact below_drewN (below_drewN Hbe2.out _) _ | exact below_drewN (below_drewN (below_drewN Hbe2.out _) _) _)⟩
                    · have n1 : (by2 == aby) = false := by simpa using m
                      have n3 : decide (by2 = aby) = false := by simpa using m
                      have HO3 := Lib.hid (HO2.out.2 m)
                      clear HO2
                      cases gs with
                      | true =>
                        clear HO3
                        go_wp2_with fail
                        go_quiet (fail)
                        go_wp2_with fail
                        go_quiet (fail)
                        go_wp2_with fail
                        go_quiet (fail)
                        go_wp2_with fail
                        go_roundg (i - (k + 1))
                        case measure => have := Hgk2.out; omega
                        case rel => exact ⟨k + 1, by go_num, by omega, rfl, (by first | exact below_drewN Hbe2.out _ | exact below_drewN (below_drewN Hbe2.out _) _ | exact below_drewN (below_drewN (below_drewN Hbe2.out _) _) _)⟩
                      | false =>
                        cases hs3 with
                        | true =>
                          clear HO3
                          go_wp2_with fail
                          go_quiet (fail)
                          go_wp2_with fail
                          go_quiet (fail)
                          go_wp2_with fail
                          go_quiet (fail)
                          go_wp2_with fail
                          go_roundg (i - (k + 1))
                          case measure => have := Hgk2.out; omega
                          case rel => exact ⟨k + 1, by go_num, by omega, rfl, (by first | exact below_drewN Hbe2.out _ | exact below_drewN (below_drewN Hbe2.out _) _ | exact below_drewN (below_drewN (below_drewN Hbe2.out _) _) _)⟩
                        | false =>
                          have n4 : (hi2 == gi) = false := by simpa using HO3.out (by first | rfl | trivial) (by first | rfl | trivial)
                          clear HO3
                          go_wp2_with fail
                          go_quiet (fail)
                          go_wp2_with fail
                          go_quiet (fail)
                          go_wp2_with fail
                          go_quiet (fail)
                          go_wp2_with fail
                          go_roundg (i - (k + 1))
                          case measure => have := Hgk2.out; omega
                          case rel => exact ⟨k + 1, by go_num, by omega, rfl, (by first | exact below_drewN Hbe2.out _ | exact below_drewN (below_drewN Hbe2.out _) _ | exact below_drewN (below_drewN (below_drewN Hbe2.out _) _) _)⟩
                · clear HO
                  have n1 : (hc == 0) = false := by simpa using m
                  have n2 : (hc != 0) = true := by simpa using m
                  have n3 : decide (hc = 0) = false := by simpa using m
                  go_wp2_with fail
                  go_quiet (fail)
                  go_wp2_with fail
                  go_roundg (i - (k + 1))
                  case measure => have := Hgk2.out; omega
                  case rel => exact ⟨k + 1, by go_num, by omega, rfl, (by first | exact below_drewN Hbe2.out _ | exact below_drewN (below_drewN Hbe2.out _) _ | exact below_drewN (below_drewN (below_drewN Hbe2.out _) _) _)⟩
              · clear HO
                have n1 : (bk == 3) = false := by simpa using m
                have n2 : (bk != 3) = true := by simpa using m
                have n3 : decide (bk = 3) = false := by simpa using m
                go_wp2_with fail
                go_quiet (fail)
                go_wp2_with fail
                go_roundg (i - (k + 1))
                case measure => have := Hgk2.out; omega
                case rel => exact ⟨k + 1, by go_num, by omega, rfl, (by first | exact below_drewN Hbe2.out _ | exact below_drewN (below_drewN Hbe2.out _) _ | exact below_drewN (below_drewN (below_drewN Hbe2.out _) _) _)⟩
            · have hkii : ¬ (k : Int) < (i : Int) := by omega
              go_wp2_with fail
              go_roundg (n - (i + 1))
              case measure => have := Hgk.out; omega
              case rel => exact ⟨i + 1, by go_num, by omega, rfl, Hbe2.out⟩
        · skip
          go_wp2_with fail
          go_roundg (n - (i + 1))
          case measure => have := Hgk.out; omega
          case rel => exact ⟨i + 1, by go_num, by omega, rfl, Hbe.out⟩
      · skip
        go_wp2_with fail
        go_roundg (n - (i + 1))
        case measure => have := Hgk.out; omega
        case rel => exact ⟨i + 1, by go_num, by omega, rfl, Hbe.out⟩
    · have hii : ¬ (i : Int) < (n : Int) := by omega
      go_wp2_with fail
      go_ret
      exact ⟨rfl, below_tail B2.out Hbe.out B2.out.size⟩
namespace keysOnce
open Go.ChangeShapes Go.WideShapes Go.ChangeAt Go.RowKit
theorem own : ownKnob Try.prog.godebug = none := by kernel_rfl
theorem laidOut : laidOutB Try.prog = true := by kernel_rfl
set_option linter.unusedVariables false
set_option maxRecDepth 100000 in
theorem lifted (os : Os) (started : os.Started) (H : Type) (enc : TypeId × Value → H) :
    ReturnsInHanded {} Try.checked os 4 .any (Rows.keysOnceSpec.pre6 enc Try.prog Try.f4 Rows.keysOnceRow.domain false) (Rows.keysOnceSpec.post enc Try.prog Try.f4 false true false false) := by
  refine returnsInHanded_of_change_shaped (C := Try.checked) own started (by kernel_rfl) Try.func4
    (ChangeSpec.witness6 (enc := enc) (C := Try.checked) false ⟨#[], #[.slice none 0 0], []⟩ 8 (by kernel_rfl) (by kernel_rfl) (by kernel_rfl) (by kernel_rfl)) ?_
  intro W base args ds gs before hval0 hW hcnd _ hsh0 _
  have hsh : W.ShapedOpen Try.prog := hsh0
  have hval : ∀ (j : Nat) t v, Try.f4.params[j]? = some t → args[j]? = some v → Value.okWide Try.prog W .any base t v := hval0
  have hW' := hW
  obtain ⟨p, q, hA0, hV, rfl, hfz, hnd⟩ := hW
  have hA : DataW.TrodAll enc Try.prog W 0 (fun _ => true) true Try.f4.params.toList args.toList ds p := hA0
  rw [Try.params4] at hA hval
  obtain ⟨v0, vs0, d0, ds0, p0, q0, hargs, rfl, rfl, h0, rr0⟩ := trodAll_cons hA
  obtain ⟨rfl, rfl, rfl⟩ := trodAll_nil rr0
  obtain rfl : args = #[v0] := by cases args; simp_all
  obtain ⟨rfl, rfl⟩ := trodVars_none hV
  have k0 := h0
  have lt0 : ∀ x ∈ p0, x.block < W.heap.size := by obtain ⟨m, hm⟩ := k0; exact DataW.trod_lt m _ _ _ hm
  obtain ⟨A0, n0, c0, rfl, hx0⟩ := open_intsl Try.underlying30 Try.underlying3 (by kernel_rfl) (hval 0 30 v0 rfl rfl) h0
  clear hA0 hval0
  refine (walkKeysOnce A0 n0 c0 W hx0 hsh).mono fun e W' ⟨he, bel⟩ => ?_
  subst he
  exact ⟨_, rfl, _, _, _, [], _, [], hW', trodAll_mk1 (shut_bool Try.underlying4 _), (trodAll_cons_mk (Below.trod laidOut (by kernel_rfl) (of_decide_eq_true (by kernel_rfl)) k0 bel lt0) trodAll_mk0), rfl, bel.frame _, fun h => by cases h⟩

theorem over : Rows.keysOnceRow.holds Try.pinned (OpenSpec.ofChange Rows.keysOnceSpec) :=
  OpenClaim.holds_of_wide 4 Try.f4 rfl rfl rfl rfl rfl rfl rfl ⟨rfl, rfl, rfl, rfl, rfl⟩ rfl rfl rfl rfl rfl (by kernel_rfl) Try.func4 (by kernel_rfl)
    (of_decide_eq_true (by kernel_rfl)) (by unfold Func.isWrapper; first | (rw [if_pos (by decide +kernel)]; kernel_rfl) | (rw [if_neg (by decide +kernel)]; exact ⟨rfl, rfl⟩))
    (fun os started H enc _ => lifted os started H enc)

theorem proved : Rows.KeysOnceSaid := over
#print axioms proved
end keysOnce
end Go.Proofs.Ytaamoilkphjhgab
