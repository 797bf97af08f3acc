/- Proved here: the spare key is given to everyone if there are no other keys (statement KeysSpare). No condition. -/
import Derived.Test.YtaamoilkphjhgabKyEd
import Derived.Test.YtaamoilkphjhgabPkT
import Derived.Test.YtaamoilkphjhgabOpenI
import Derived.HandedShaped
namespace Go.Proofs.Ytaamoilkphjhgab
set_option linter.unusedVariables false
set_option linter.unusedSimpArgs false
open Go.RowKit
def spZ : Ak := ⟨2, edS, [90], [115], 0⟩
theorem spZ_R (s : Ks) : ansR s spZ = (⟨0, [], [], false, ((leftR s edS).length : Int)⟩, { s with sp := putA s.sp edS ⟨[90], [115], true⟩ }) := by
  have h1 : nameR edS [90] = 0 := by decide +kernel
  have h2 : execR s spZ = (kv0, 0, { s with sp := putA s.sp edS ⟨[90], [115], true⟩ }) := by
    rw [exec_spare s spZ rfl]
    show (kv0, spareR s edS [90] [115]) = _
    unfold spareR
    rw [if_neg (by simp [h1])]
  unfold ansR
  rw [h2]
  rfl
theorem spZ_ok : AkOk spZ := ⟨by simp [spZ, edS], by simp [spZ], by simp [spZ], by simp [spZ], by simp [spZ]⟩
theorem three_R {l1 C1 C2 : List Ak} {n j : Nat} {g : Gv} (hn : l1.length + C1.length = n) (hg : (asksR (asksR (asksR ks0 l1).2 C1).2 C2).1[j]? = some g) : (asksR ks0 (l1 ++ C1 ++ C2)).1[n + j]? = some g := by
  have e1 := congrArg Prod.fst (asksR_app ks0 (l1 ++ C1) C2)
  have e2 := congrArg Prod.fst (asksR_app ks0 l1 C1)
  have e3 := congrArg Prod.snd (asksR_app ks0 l1 C1)
  dsimp only at e1 e2 e3
  rw [e1, e3]
  have hlen : (asksR ks0 (l1 ++ C1)).1.length = n := by rw [asksR_len, List.length_append, hn]
  rw [List.getElem?_append_right (by omega), hlen, Nat.add_sub_cancel_left]
  exact hg
/-- What the last claims come to. -/
theorem spare_R {l : List Ak} (hok : ∀ a ∈ l, OkA a) (m : Nat) : ∀ j, j < m → ∃ g, (asksR ks0 (l ++ [spZ] ++ clms edS 100 12 ++ clms edS 200 m)).1[l.length + 13 + j]? = some g ∧ g.code = 0 ∧ g.spare = true ∧ g.id = [90] ∧ g.body = [115] ∧ g.many = 0 := by
  intro j hj
  have hi1 : InvK (asksR ks0 (l ++ [spZ])).2 := InvK.asks _ invK0
  have hs1 : (asksR ks0 (l ++ [spZ])).2 = { (asksR ks0 l).2 with sp := putA (asksR ks0 l).2.sp edS ⟨[90], [115], true⟩ } := by rw [asksR_snoc, spZ_R]
  have hn1 : ∀ b, (100 : Int) ≤ b → getA (asksR ks0 (l ++ [spZ])).2.cl (edS, b) = none := fun b hb => by rw [hs1]; exact by_new hok edS (by omega)
  have hsp : getA (asksR ks0 (l ++ [spZ])).2.sp edS = some ⟨[90], [115], true⟩ := by
    have h1 := congrArg Ks.sp hs1
    dsimp only at h1
    rw [h1, getA_put, if_pos rfl]
  have hln : (l ++ [spZ]).length = l.length + 1 := by simp
  generalize l ++ [spZ] = l1 at *
  obtain ⟨-, r2, r3, r4, r5⟩ := clms_R edS_ok 12 100 _ hi1 (by decide) hn1
  have hcl : l1.length + (clms edS 100 12).length = l.length + 13 := by rw [clms_len, hln]
  generalize clms edS 100 12 = C1 at *
  have hleft : leftR (asksR (asksR ks0 l1).2 C1).2 edS = [] := by
    rw [r2]
    exact List.drop_of_length_le (hi1.few edS)
  obtain ⟨q1, -⟩ := clms_R edS_ok m 200 _ r5 (by decide) (fun b hb => r4 b (by omega))
  obtain ⟨g, hg, hG⟩ := q1 j hj
  refine ⟨g, three_R hcl hg, ?_⟩
  unfold ClmG at hG
  rw [hleft, r3, hsp] at hG
  rcases hG with ⟨h, _⟩ | ⟨_, g0, ⟨k, hk, g1, g2, g3, g4⟩ | ⟨hk, _⟩⟩
  · simp at h
  · injection hk with hk
    subst hk
    exact ⟨g1, g4, g2, g3, g0⟩
  · cases hk
def SpA (w : World) (l : List Ak) (n lim : Nat) (st : Int) (gk : Nat) (s5 s6 : Value) (wr : World) : Prop :=
  ∃ i : Nat, s6 = .int .i64 (i : Int) ∧ i ≤ lim ∧ gk = lim - i ∧ wr.ownsRow w.heap.size 35 5 s5 (n + i) (pcK akL (l ++ clms edS st i)) ∧ Below w.heap.size w wr
def SpB (W : World) (n m : Nat) (gk : Nat) (s12 : Value) (wr : World) : Prop :=
  ∃ j : Nat, s12 = .int .i64 ((n + j : Nat) : Int) ∧ j ≤ m ∧ gk = m - j ∧ Below W.heap.size W wr
set_option maxHeartbeats 4000000 in
set_option maxRecDepth 100000 in
theorem walkKeysSpare (A0 : Option Addr) (n0 c0 : Nat) (x1 : Int) (w : World) (hx0 : IntsAt w w.heap.size A0 n0 c0) (hx1 : -9223372036854775808 ≤ x1 ∧ x1 ≤ 9223372036854775807) (hsh : w.ShapedOpen Try.prog) :
    Calls Try.prog 8 #[.slice A0 n0 c0, .int .i64 x1] w fun e w' => e = .returned (.bool true) ∧ Below w.heap.size w w' := by
  have hg := Gl.of hsh
  have H1 := Lib.hid (asks_any A0 n0 c0 w.heap.size 40 w hx0 (Nat.le_refl _) (by decide))
  have Hg := Lib.hid hg
  obtain ⟨p, hp, hp8⟩ := pick_nat x1 8 (by decide)
  have Hp : Hid (x1 % 8 = (p : Int)) := Lib.hid hp
  clear hx0 hsh hg hp
  go_enter Try.func8, Try.ntmps8
  go_wp2_with fail
  refine H1.out.mono ?_
  rintro e w1 ⟨v1, l, rfl, ho1, hlen, hok, b1⟩
  have hn40 : l.length ≤ 40 := by omega
  obtain ⟨v2, w2, hrun2, ho2, hb2⟩ := ask_more spZ #[.int .i64 2, .string ⟨#[101, 100]⟩, .string ⟨#[90]⟩, .string ⟨#[115]⟩, .int .i64 0] rfl ho1 b1 (by omega)
  have Hrun2 := Lib.hid hrun2
  have HR := Lib.hid (spare_R hok (1 + p))
  have Hok : Hid (∀ a ∈ l ++ [spZ], AkOk a) := Lib.hid fun a ha => by
    rcases List.mem_append.1 ha with ha | ha
    · exact okA_ok (hok a ha)
    · simp at ha; rw [ha]; exact spZ_ok
  have hn1 : (l ++ [spZ]).length = l.length + 1 := by simp
  generalize l ++ [spZ] = l1 at *
  obtain ⟨n, hn⟩ : ∃ n, l.length + 1 = n := ⟨_, rfl⟩
  have hn41 : n ≤ 41 := by omega
  have HR2 : Hid (∀ j, j < 1 + p → ∃ g, (asksR ks0 (l1 ++ clms edS 100 12 ++ clms edS 200 (1 + p))).1[n + 12 + j]? = some g ∧ g.code = 0 ∧ g.spare = true ∧ g.id = [90] ∧ g.body = [115] ∧ g.many = 0) := Lib.hid fun j hj => by
    have := HR.out j hj
    rwa [show l.length + 13 + j = n + 12 + j by omega] at this
  rw [hn] at hn1 ho2
  have Hn1 := Lib.hid hn1
  have Hst := Lib.hid (show SpA w l1 n 12 100 12 v2 (.int .i64 0) w2 from ⟨0, rfl, by omega, by omega, by simpa [clms] using ho2, hb2⟩)
  clear ho1 ho2 hlen hok b1 hb2 hrun2 HR H1 hn1 hn hn40
  go_wp2_with (first | (at_builtin; refine rw_app rfl _ _ _ rfl _ _ (by rfl) (by rfl) Hrun2.out ?_; clear Hrun2) | fail)
  go_loopg [5, 6] 12 (SpA w l1 n 12 100)
  case atStart => exact Hst.out
  case round =>
    clear Hst
    obtain ⟨i, rfl, hi, hgk, ho, hbe⟩ := hrel
    have Hgk := Lib.hid hgk
    have Ho := Lib.hid ho
    have Hbe := Lib.hid hbe
    clear hgk ho hbe
    by_cases hi12 : i < 12
    · have hii : (i : Int) < 12 := by omega
      have hwr : IntKind.i64.wrap (100 + (i : Int)) = 100 + (i : Int) := IntWalk.i64_in _ (by omega)
      obtain ⟨v', wf, hrun, ho', hb'⟩ := ask_more (clm edS (100 + (i : Int))) #[.int .i64 3, .string ⟨#[101, 100]⟩, .string ⟨#[]⟩, .string ⟨#[]⟩, .int .i64 (100 + (i : Int))] rfl Ho.out Hbe.out (by omega)
      have Hrun := Lib.hid hrun
      have Ho' := Lib.hid (show wf.ownsRow w.heap.size 35 5 v' (n + (i + 1)) (pcK akL (l1 ++ clms edS 100 (i + 1))) by rw [clms_snoc, ← List.append_assoc]; exact ho')
      have Hb' := Lib.hid hb'
      clear hrun ho' hb' Ho
      go_wp2_with (first | (at_builtin; refine rw_app rfl _ _ _ rfl _ _ (by rfl) (by rfl) Hrun.out ?_; clear Hrun) | fail)
      go_roundg (12 - (i + 1))
      case measure => have := Hgk.out; omega
      case rel => exact ⟨i + 1, by go_num, by omega, rfl, Ho'.out, Hb'.out⟩
    · have hii : ¬ (i : Int) < 12 := by omega
      obtain rfl : i = 12 := by omega
      have hlen : (l1 ++ clms edS 100 12).length = n + 12 := by rw [List.length_append, clms_len, Hn1.out]
      have Hst := Lib.hid (show SpA w (l1 ++ clms edS 100 12) (n + 12) (1 + p) 200 (1 + p) u5 (.int .i64 0) wr from ⟨0, rfl, by omega, by omega, by simpa [clms] using Ho.out, Hbe.out⟩)
      have Hok2 : Hid (∀ a ∈ l1 ++ clms edS 100 12, AkOk a) := Lib.hid fun a ha => by
        rcases List.mem_append.1 ha with ha | ha
        · exact Hok.out a ha
        · exact clms_ok 12 100 (by decide) (by decide) a ha
      generalize l1 ++ clms edS 100 12 = l2 at *
      have Hlen := Lib.hid hlen
      obtain ⟨A5, c5, rfl, -⟩ := own_form Ho.out
      have hpi : (p : Int) < 8 := by omega
      have hwp : IntKind.i64.wrap (1 + (p : Int)) = (p : Int) + 1 := by rw [IntWalk.i64_in _ (by omega)]; omega
      clear Ho hlen
      go_wp2_with fail
      refine (picked_k x1 8 _ (by decide) (by decide)).mono ?_
      rintro e w3 ⟨rfl, hw3⟩
      subst hw3
      rw [Hp.out]
      go_wp2_with fail
      go_loopg [5, 9] (1 + p) (SpA w l2 (n + 12) (1 + p) 200)
      case atStart => exact Hst.out
      case round =>
        clear Hst
        obtain ⟨i, rfl, hi, hgk2, ho, hbe2⟩ := hrel
        have Hgk2 := Lib.hid hgk2
        have Ho := Lib.hid ho
        have Hbe2 := Lib.hid hbe2
        clear hgk2 ho hbe2
        by_cases him : i < 1 + p
        · have hii : (i : Int) < (p : Int) + 1 := by omega
          have hwr : IntKind.i64.wrap (200 + (i : Int)) = 200 + (i : Int) := IntWalk.i64_in _ (by omega)
          obtain ⟨v', wf, hrun, ho', hb'⟩ := ask_more (clm edS (200 + (i : Int))) #[.int .i64 3, .string ⟨#[101, 100]⟩, .string ⟨#[]⟩, .string ⟨#[]⟩, .int .i64 (200 + (i : Int))] rfl Ho.out Hbe2.out (by omega)
          have Hrun := Lib.hid hrun
          have Ho' := Lib.hid (show wf.ownsRow w.heap.size 35 5 v' (n + 12 + (i + 1)) (pcK akL (l2 ++ clms edS 200 (i + 1))) by rw [clms_snoc, ← List.append_assoc]; exact ho')
          have Hb' := Lib.hid hb'
          clear hrun ho' hb' Ho
          go_wp2_with (first | (at_builtin; refine rw_app rfl _ _ _ rfl _ _ (by rfl) (by rfl) Hrun.out ?_; clear Hrun) | fail)
          go_roundg (1 + p - (i + 1))
          case measure => have := Hgk2.out; omega
          case rel => exact ⟨i + 1, by go_num, by omega, rfl, Ho'.out, Hb'.out⟩
        · have hii : ¬ (i : Int) < (p : Int) + 1 := by omega
          obtain rfl : i = 1 + p := by omega
          have hlen3 : (l2 ++ clms edS 200 (1 + p)).length = n + 12 + (1 + p) := by rw [List.length_append, clms_len, Hlen.out]
          have ho := Ho.out
          rw [← hlen3] at ho
          obtain ⟨A3, c3, hv3, hin3⟩ := LIn.own akL_len ho
          subst hv3
          have H2 := Lib.hid (given_any A3 _ c3 _ _ wr hin3 (by rw [hlen3]; omega) (Hg.out.below Hbe2.out) (fun a ha => by
            rcases List.mem_append.1 ha with ha | ha
            · exact Hok2.out a ha
            · exact clms_ok (1 + p) 200 (by decide) (by omega) a ha))
          unfold GvnPost at H2
          rw [hlen3] at H2 ⊢
          have HRl := Lib.hid (show (asksR ks0 (l2 ++ clms edS 200 (1 + p))).1.length = n + 12 + (1 + p) by rw [asksR_len, hlen3])
          generalize (asksR ks0 (l2 ++ clms edS 200 (1 + p))).1 = R at *
          obtain ⟨m, hm⟩ : ∃ m, 1 + p = m := ⟨_, rfl⟩
          have hm8 : m ≤ 8 := by omega
          rw [hm] at H2 HRl HR2 ⊢
          have HR3 : Hid (∀ j, j < m → ∃ g, R[n + 12 + j]? = some g ∧ g.code = 0 ∧ g.spare = true ∧ g.id = [90] ∧ g.body = [115] ∧ g.many = 0) := HR2
          have hmi : ¬ (m : Int) < (p : Int) + 1 := by omega
          clear HR2 hin3 hlen3 ho Ho hm hii hwp
          go_wp2_with fail
          refine H2.out.mono ?_
          rintro e w4 ⟨A4, c4, rfl, hin4, b4⟩
          have Hin4 := Lib.hid hin4
          have B4 := Lib.hid (below_tail Hbe2.out b4 Hbe2.out.size)
          clear hin4 b4 H2
          go_wp2_with fail
          go_loopg [12] m (SpB w4 (n + 12) m)
          case atStart => exact ⟨0, by go_num, Nat.zero_le _, by omega, Below.refl _ _⟩
          case round =>
            obtain ⟨j, rfl, hj, hgk3, hbe3⟩ := hrel
            have Hgk3 := Lib.hid hgk3
            have Hbe3 := Lib.hid hbe3
            clear hgk3 hbe3
            by_cases hjm : j < m
            · have hji : ((n + 12 + j : Nat) : Int) < ((n + 12 + m : Nat) : Int) := by omega
              obtain ⟨g, hg, g0, g1, g2, g3, g4⟩ := HR3.out j hjm
              have hjl : n + 12 + j < R.length := by rw [HRl.out]; omega
              obtain ⟨b, off, hA, hbB, e0, e2, e3, e4, e5, -⟩ := gvn_at (Hin4.out.below Hbe3.out) hjl
              subst hA
              have hbw : b < wr.heap.size := Nat.lt_of_lt_of_le hbB Hbe3.out.size
              rw [List.getElem?_eq_getElem hjl] at hg
              injection hg with hg
              rw [hg, g0] at e0
              rw [hg, g1] at e4
              rw [hg, g2] at e2
              rw [hg, g3] at e3
              rw [hg, g4] at e5
              clear hg g0 g1 g2 g3 g4
              replace e2 : wr.cell? ⟨b, off + (n + 12 + j) * 6 + 2, none⟩ = some (.string ⟨#[90]⟩) := e2
              replace e3 : wr.cell? ⟨b, off + (n + 12 + j) * 6 + 3, none⟩ = some (.string ⟨#[115]⟩) := e3
              go_wp2_with fail
              go_roundg (m - (j + 1))
              case measure => have := Hgk3.out; omega
              case rel => exact ⟨j + 1, by go_num, by omega, rfl, Hbe3.out⟩
            · obtain rfl : j = m := by omega
              have hji : ¬ ((n + 12 + j : Nat) : Int) < ((n + 12 + j : Nat) : Int) := by omega
              go_wp2_with fail
              go_ret
              exact ⟨rfl, below_tail B4.out Hbe3.out B4.out.size⟩
namespace keysSpare
open Go.ChangeShapes Go.WideShapes Go.ChangeAt Go.RowKit
theorem own : ownKnob Try.prog.godebug = none := by kernel_rfl
theorem laidOut : laidOutB Try.prog = true := by kernel_rfl
set_option linter.unusedVariables false
set_option maxRecDepth 100000 in
theorem lifted (os : Os) (started : os.Started) (H : Type) (enc : TypeId × Value → H) :
    ReturnsInHanded {} Try.checked os 8 .any (Rows.keysSpareSpec.pre6 enc Try.prog Try.f8 Rows.keysSpareRow.domain false) (Rows.keysSpareSpec.post enc Try.prog Try.f8 false true false false) := by
  refine returnsInHanded_of_change_shaped (C := Try.checked) own started (by kernel_rfl) Try.func8
    (ChangeSpec.witness6 (enc := enc) (C := Try.checked) false ⟨#[], #[.slice none 0 0, .int .i64 0], []⟩ 8 (by kernel_rfl) (by kernel_rfl) (by kernel_rfl) (by kernel_rfl)) ?_
  intro W base args ds gs before hval0 hW hcnd _ hsh0 _
  have hsh : W.ShapedOpen Try.prog := hsh0
  have hval : ∀ (j : Nat) t v, Try.f8.params[j]? = some t → args[j]? = some v → Value.okWide Try.prog W .any base t v := hval0
  have hW' := hW
  obtain ⟨p, q, hA0, hV, rfl, hfz, hnd⟩ := hW
  have hA : DataW.TrodAll enc Try.prog W 0 (fun _ => true) true Try.f8.params.toList args.toList ds p := hA0
  rw [Try.params8] at hA hval
  obtain ⟨v0, vs0, d0, ds0, p0, q0, hargs, rfl, rfl, h0, rr0⟩ := trodAll_cons hA
  obtain ⟨v1, vs1, d1, ds1, p1, q1, rfl, rfl, rfl, h1, rr1⟩ := trodAll_cons rr0
  obtain ⟨rfl, rfl, rfl⟩ := trodAll_nil rr1
  obtain rfl : args = #[v0, v1] := by cases args; simp_all
  obtain ⟨rfl, rfl⟩ := trodVars_none hV
  have k0 := h0
  have lt0 : ∀ x ∈ p0, x.block < W.heap.size := by obtain ⟨m, hm⟩ := k0; exact DataW.trod_lt m _ _ _ hm
  obtain ⟨A0, n0, c0, rfl, hx0⟩ := open_intsl Try.underlying30 Try.underlying3 (by kernel_rfl) (hval 0 30 v0 rfl rfl) h0
  have k1 := h1
  have lt1 : ∀ x ∈ p1, x.block < W.heap.size := by obtain ⟨m, hm⟩ := k1; exact DataW.trod_lt m _ _ _ hm
  obtain ⟨x1, rfl, hx1⟩ := open_i64 Try.underlying3 (hval 1 3 v1 rfl rfl) h1
  clear hA0 hval0
  refine (walkKeysSpare A0 n0 c0 x1 W hx0 hx1 hsh).mono fun e W' ⟨he, bel⟩ => ?_
  subst he
  exact ⟨_, rfl, _, _, _, [], _, [], hW', trodAll_mk1 (shut_bool Try.underlying4 _), (trodAll_cons_mk (Below.trod laidOut (by kernel_rfl) (of_decide_eq_true (by kernel_rfl)) k0 bel lt0) (trodAll_cons_mk (Below.trod laidOut (by kernel_rfl) (of_decide_eq_true (by kernel_rfl)) k1 bel lt1) trodAll_mk0)), rfl, bel.frame _, fun h => by cases h⟩

theorem over : Rows.keysSpareRow.holds Try.pinned (OpenSpec.ofChange Rows.keysSpareSpec) :=
  OpenClaim.holds_of_wide 8 Try.f8 rfl rfl rfl rfl rfl rfl rfl ⟨rfl, rfl, rfl, rfl, rfl⟩ rfl rfl rfl rfl rfl (by kernel_rfl) Try.func8 (by kernel_rfl)
    (of_decide_eq_true (by kernel_rfl)) (by unfold Func.isWrapper; first | (rw [if_pos (by decide +kernel)]; kernel_rfl) | (rw [if_neg (by decide +kernel)]; exact ⟨rfl, rfl⟩))
    (fun os started H enc _ => lifted os started H enc)

theorem proved : Rows.KeysSpareSaid := over
#print axioms proved
end keysSpare
end Go.Proofs.Ytaamoilkphjhgab
