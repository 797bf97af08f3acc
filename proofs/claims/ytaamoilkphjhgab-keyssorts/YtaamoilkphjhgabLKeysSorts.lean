/- Proved here: keys of different Sorts do not interact (statement KeysSorts). No condition. -/
import Derived.Test.YtaamoilkphjhgabKySo
import Derived.Test.YtaamoilkphjhgabOpenI
import Derived.HandedShaped
namespace Go.Proofs.Ytaamoilkphjhgab
set_option linter.unusedVariables false
set_option linter.unusedSimpArgs false
open Go.RowKit
attribute [local go_sem high] str_mk
def edT : List UInt8 := [101, 100]
theorem ky_apart {w : World} {B B' e e' size size' n n' : Nat} {v v' : Value} {xs xs' : List Value} (h : w.ownsRow B e size v n xs) (h' : w.ownsRow B' e' size' v' n' xs') (hne : e ≠ e') : ∀ g, v.ownBlock = some g → v'.ownBlock ≠ some g := by
  intro g hg hg'
  have of : ∀ {B e size n : Nat} {v : Value} {xs : List Value}, w.ownsRow B e size v n xs → v.ownBlock = some g → ∃ c, w.heap[g]? = some (.cells c e (0, 0)) := by
    intro B e size n v xs h hg
    rcases h.2 with ⟨rfl, _⟩ | ⟨g', cap, cur, rfl, _, hh, _⟩
    · simp [Value.ownBlock] at hg
    · simp [Value.ownBlock] at hg; subst hg; exact ⟨_, hh⟩
  obtain ⟨c, h1⟩ := of h hg
  obtain ⟨c', h2⟩ := of h' hg'
  rw [h1] at h2
  injection h2 with h2
  injection h2 with _ h3
  exact hne h3
def SoA (W : World) (l : List Ak) (R : List Gv) (n : Nat) (gk : Nat) (s6 s7 s8 : Value) (wr : World) : Prop :=
  ∃ i : Nat, s8 = .int .i64 (i : Int) ∧ i ≤ n ∧ gk = n - i ∧ wr.ownsRow W.heap.size 35 5 s6 (pickS edT (l.take i) (R.take i)).length (pcK akL ((pickS edT (l.take i) (R.take i)).map (·.1))) ∧
    wr.ownsRow W.heap.size 28 6 s7 (pickS edT (l.take i) (R.take i)).length (pcK gvL ((pickS edT (l.take i) (R.take i)).map (·.2))) ∧ Below W.heap.size W wr
def SoB (W : World) (m : Nat) (gk : Nat) (s11 : Value) (wr : World) : Prop := ∃ i : Nat, s11 = .int .i64 (i : Int) ∧ i ≤ m ∧ gk = m - i ∧ Below W.heap.size W wr
set_option maxHeartbeats 4000000 in
set_option maxRecDepth 100000 in
theorem walkKeysSorts (A0 : Option Addr) (n0 c0 : Nat) (w : World) (hx0 : IntsAt w w.heap.size A0 n0 c0) (hsh : w.ShapedOpen Try.prog) :
    Calls Try.prog 7 #[.slice A0 n0 c0] w fun e w' => e = .returned (.bool true) ∧ Below w.heap.size w w' := by
  have hg := Gl.of hsh
  have H1 := Lib.hid (asks_any A0 n0 c0 w.heap.size 80 w hx0 (Nat.le_refl _) (by decide))
  have Hg := Lib.hid hg
  clear hx0 hsh hg
  go_enter Try.func7, Try.ntmps7
  go_wp2_with fail
  refine H1.out.mono ?_
  rintro e w1 ⟨v1, l, rfl, ho1, hlen, hok, b1⟩
  obtain ⟨A1, c1, rfl, hin1⟩ := LIn.own akL_len ho1
  have H2 := Lib.hid (given_any A1 l.length c1 _ l w1 hin1 (by omega) (Hg.out.below b1) (fun a ha => okA_ok (hok a ha)))
  have hrl := asksR_len l ks0
  have HSo := Lib.hid (sorts_R edT l (Alike.refl edT ks0))
  have HOk : Hid (∀ a ∈ (pickS edT l (asksR ks0 l).1).map (·.1), AkOk a) := Lib.hid (pick_ok fun a ha => okA_ok (hok a ha))
  have HPl := Lib.hid (pick_len edT l (asksR ks0 l).1)
  unfold GvnPost at H2
  obtain ⟨n, hn⟩ : ∃ n, l.length = n := ⟨_, rfl⟩
  rw [hn] at hrl hin1 H2 HPl ⊢
  generalize (asksR ks0 l).1 = R at *
  have Hin1 := Lib.hid hin1
  have Hn := Lib.hid hn
  have Hrl := Lib.hid hrl
  have B1 := Lib.hid b1
  have hn80 : n ≤ 80 := by omega
  clear ho1 hlen hok b1 hin1 hn hrl H1
  go_wp2_with fail
  refine H2.out.mono ?_
  rintro e w2 ⟨A2, c2, rfl, hin2, b2⟩
  have Hin2 := Lib.hid hin2
  have Hin12 := Lib.hid ((Hin1.out.below b2).wider b2.size)
  have B2 := Lib.hid (below_tail B1.out b2 B1.out.size)
  clear hin2 b2 H2 Hin1
  go_wp2_with fail
  go_loopg [6, 7, 8] n (SoA w2 l R n)
  case atStart => exact ⟨0, rfl, Nat.zero_le _, by omega, World.ownsRow_nil _ _ _ _, World.ownsRow_nil _ _ _ _, Below.refl _ _⟩
  case round =>
    obtain ⟨i, rfl, hi, hgk, ho6, ho7, hbe⟩ := hrel
    have Hgk := Lib.hid hgk
    have Ho6 := Lib.hid ho6
    have Ho7 := Lib.hid ho7
    have Hbe := Lib.hid hbe
    clear hgk ho6 ho7 hbe
    by_cases hin : i < n
    · have hii : (i : Int) < (n : Int) := by omega
      have hil : i < l.length := by rw [Hn.out]; exact hin
      have hir : i < R.length := by rw [Hrl.out]; exact hin
      obtain ⟨b, off, hA, hbB, d0, d1, d2, d3, d4⟩ := ask_at (Hin12.out.below Hbe.out) hil
      obtain ⟨b', off', hA', hbB', -⟩ := gvn_at (Hin2.out.below Hbe.out) hir
      subst hA hA'
      have HP := Lib.hid (pick_snoc (S := edT) hil hir)
      have hpl : (pickS edT (l.take i) (R.take i)).length ≤ 80 := Nat.le_trans (pick_len _ _ _) (by rw [List.length_take]; omega)
      have hbw : b < wr.heap.size := Nat.lt_of_lt_of_le hbB Hbe.out.size
      have hbw' : b' < wr.heap.size := Nat.lt_of_lt_of_le hbB' Hbe.out.size
      obtain ⟨⟨ak, asrt, aid, abo, aby⟩, hla⟩ : ∃ a, l[i] = a := ⟨_, rfl⟩
      obtain ⟨⟨gc, gi, gb, gs, gm⟩, hlg⟩ : ∃ g, R[i] = g := ⟨_, rfl⟩
      rw [hla] at d0 d1 d2 d3 d4 HP
      rw [hlg] at HP
      have Hlg := Lib.hid hlg
      simp only at d0 d1 d2 d3 d4 HP
      clear hla hlg
      generalize pickS edT (l.take i) (R.take i) = Pi at *
      cases hs : (asrt == edT) with
      | true =>
        have hs' : (asrt == [101, 100]) = true := hs
        have hse : asrt = [101, 100] := by simpa using hs'
        subst hse
        have HP2 : Hid (pickS edT (l.take (i + 1)) (R.take (i + 1)) = Pi ++ [(⟨ak, [101, 100], aid, abo, aby⟩, ⟨gc, gi, gb, gs, gm⟩)]) := Lib.hid (by rw [HP.out, if_pos hs])
        obtain ⟨v', wf, hrun, ho', hg', -⟩ := run_app_el (P := Try.prog) (enc := akL) akL_len akL_one (by omega) Try.underlying22 info_ask rfl (by omega) wr w2.heap.size Pi.length _ (Pi.map (·.1)) ⟨ak, [101, 100], aid, abo, aby⟩ #[.int .i64 ak, str [101, 100], str aid, str abo, .int .i64 aby] rfl Ho6.out (by omega) Hbe.out.size
        have hbf : Below w2.heap.size w2 wf := below_own (Hbe.out.alloc Hbe.out.size _) hg' (Ho6.out.alloc _) (Nat.le_refl _) (by have := Hbe.out.size; simp; omega)
        have ho7' := own_kept Ho7.out (w' := wf) (fun g hg => by
          have hlt := (Ho7.out.lt g hg).2
          rw [hg'.block g (by simp; omega) (fun e => (ky_apart Ho6.out Ho7.out (by decide)) g e.symm hg)]
          exact heap_alloc_old _ _ hlt)
        obtain ⟨q0, q2, q3, q4, q5, q1⟩ := gvn_at' (Hin2.out.below hbf) hir
        rw [Hlg.out] at q0 q2 q3 q4 q5
        simp only at q0 q2 q3 q4 q5
        have hwf : wr.heap.size + 1 ≤ wf.heap.size := by have := hg'.size; simpa using this
        obtain ⟨v2', wf2, hrun2, ho2', hg2', -⟩ := run_app_el (P := Try.prog) (enc := gvL) gvL_len gvL_one (by omega) Try.underlying23 info_given rfl (by omega) wf w2.heap.size Pi.length _ (Pi.map (·.2)) ⟨gc, gi, gb, gs, gm⟩ #[.int .i64 gc, str [], str gi, str gb, .bool gs, .int .i64 gm] rfl ho7' (by omega) hbf.size
        have hbf2 : Below w2.heap.size w2 wf2 := below_own (hbf.alloc hbf.size _) hg2' (ho7'.alloc _) (Nat.le_refl _) (by have := hbf.size; simp; omega)
        have ho6' := own_kept ho' (w' := wf2) (fun g hg => by
          have hlt := (ho'.lt g hg).2
          rw [hg2'.block g (by simp; omega) (fun e => (ky_apart ho7' ho' (by decide)) g e.symm hg)]
          exact heap_alloc_old _ _ hlt)
        have Hrun := Lib.hid hrun
        have Hrun2 := Lib.hid hrun2
        have Ho6' := Lib.hid ho6'
        have Ho7' := Lib.hid ho2'
        have Hbf2 := Lib.hid hbf2
        have hbwf : b' < wf.heap.size := by omega
        clear hrun ho' hg' hbf ho7' hrun2 ho2' hg2' hbf2 ho6' Ho6 Ho7 HP hs hs'
        go_wp2_with (first | (at_builtin; refine rw_app rfl _ _ _ rfl _ _ (by rfl) (by rfl) Hrun.out ?_; clear Hrun) | (at_builtin; refine rw_app rfl _ _ _ rfl _ _ (by rfl) (by rfl) Hrun2.out ?_; clear Hrun2) | fail)
        go_roundg (n - (i + 1))
        case measure => have := Hgk.out; omega
        case rel => exact ⟨i + 1, by go_num, by omega, rfl, by rw [HP2.out, List.length_append, List.map_append]; exact Ho6'.out, by rw [HP2.out, List.length_append, List.map_append]; exact Ho7'.out, Hbf2.out⟩
      | false =>
        have hs' : (asrt == [101, 100]) = false := hs
        have HP2 : Hid (pickS edT (l.take (i + 1)) (R.take (i + 1)) = Pi) := Lib.hid (by rw [HP.out, if_neg (by rw [hs]; simp), List.append_nil])
        clear HP hs
        go_wp2_with fail
        go_roundg (n - (i + 1))
        case measure => have := Hgk.out; omega
        case rel => exact ⟨i + 1, by go_num, by omega, rfl, by rw [HP2.out]; exact Ho6.out, by rw [HP2.out]; exact Ho7.out, Hbe.out⟩
    · have hii : ¬ (i : Int) < (n : Int) := by omega
      have ht1 : l.take i = l := List.take_of_length_le (by rw [Hn.out]; omega)
      have ht2 : R.take i = R := List.take_of_length_le (by rw [Hrl.out]; omega)
      have ho6 := Ho6.out
      have ho7 := Ho7.out
      rw [ht1, ht2] at ho6 ho7
      obtain ⟨Pl, hPl⟩ : ∃ P, pickS edT l R = P := ⟨_, rfl⟩
      rw [hPl] at HSo HOk HPl ho6 ho7
      have h61 : (Pl.map (·.1)).length = Pl.length := by simp
      have h71 : (Pl.map (·.2)).length = Pl.length := by simp
      rw [← h61] at ho6
      rw [← h71] at ho7
      obtain ⟨A6, c6, hv6, hin6⟩ := LIn.own akL_len ho6
      obtain ⟨A7, c7, hv7, hin7⟩ := LIn.own gvL_len ho7
      subst hv6 hv7
      rw [h61] at hin6 ⊢
      rw [h71] at hin7 ⊢
      have H3 := Lib.hid (given_any A6 Pl.length c6 _ (Pl.map (·.1)) wr hin6 (by have := HPl.out; omega) ((Hg.out.below B2.out).below (Hbe.out.mono (Nat.le_refl _) |> fun h => h)) HOk.out)
      unfold GvnPost at H3
      rw [HSo.out, h61] at H3
      have Hin7 := Lib.hid hin7
      have Hpm := Lib.hid h71
      have hp80 : Pl.length ≤ 80 := by have := HPl.out; omega
      generalize Pl.map (·.2) = Q at *
      generalize Pl.length = m at *
      clear ho6 ho7 hin6 hin7 ht1 ht2 hPl Ho6 Ho7 h61 h71 HSo
      go_wp2_with fail
      refine H3.out.mono ?_
      rintro e w4 ⟨A4, c4, rfl, hin4, b4⟩
      have Hin4 := Lib.hid hin4
      have Hin74 := Lib.hid ((Hin7.out.below b4).wider b4.size)
      have B4 := Lib.hid (below_tail (below_tail B2.out Hbe.out B2.out.size) b4 (below_tail B2.out Hbe.out B2.out.size).size)
      clear hin4 b4 H3 Hin7
      go_wp2_with fail
      go_loopg [11] m (SoB w4 m)
      case atStart => exact ⟨0, rfl, Nat.zero_le _, by omega, Below.refl _ _⟩
      case round =>
        obtain ⟨j, rfl, hj, hgk2, hbe2⟩ := hrel
        have Hgk2 := Lib.hid hgk2
        have Hbe2 := Lib.hid hbe2
        clear hgk2 hbe2
        by_cases hjm : j < m
        · have hji : (j : Int) < (m : Int) := by omega
          have hjq : j < Q.length := by rw [Hpm.out]; exact hjm
          obtain ⟨b, off, hA, hbB, e0, e2, e3, e4, e5, e1⟩ := gvn_at (Hin4.out.below Hbe2.out) hjq
          obtain ⟨b', off', hA', hbB', q0, q2, q3, q4, q5, q1⟩ := gvn_at (Hin74.out.below Hbe2.out) hjq
          subst hA hA'
          have hbw : b < wr.heap.size := Nat.lt_of_lt_of_le hbB Hbe2.out.size
          have hbw' : b' < wr.heap.size := Nat.lt_of_lt_of_le hbB' Hbe2.out.size
          generalize Q[j] = g at *
          obtain ⟨gc, gi, gb, gs, gm⟩ := g
          simp only at e0 e2 e3 e4 e5 q0 q2 q3 q4 q5
          have heq := fun W => eq_given gc gi gb gs gm W
          have hgd := fun x y W => gd_given BinOp.neq x y gc gi gb gs gm W
          go_wp2_with fail
          go_quiet (fail)
          go_wp2_with fail
          go_roundg (m - (j + 1))
          case measure => have := Hgk2.out; omega
          case rel => exact ⟨j + 1, by go_num, by omega, rfl, below_drewN Hbe2.out _⟩
        · have hji : ¬ (j : Int) < (m : Int) := by omega
          go_wp2_with fail
          go_ret
          exact ⟨rfl, below_tail B4.out Hbe2.out B4.out.size⟩
namespace keysSorts
open Go.ChangeShapes Go.WideShapes Go.ChangeAt Go.RowKit
theorem own : ownKnob Try.prog.godebug = none := by kernel_rfl
theorem laidOut : laidOutB Try.prog = true := by kernel_rfl
set_option linter.unusedVariables false
set_option maxRecDepth 100000 in
theorem lifted (os : Os) (started : os.Started) (H : Type) (enc : TypeId × Value → H) :
    ReturnsInHanded {} Try.checked os 7 .any (Rows.keysSortsSpec.pre6 enc Try.prog Try.f7 Rows.keysSortsRow.domain false) (Rows.keysSortsSpec.post enc Try.prog Try.f7 false true false false) := by
  refine returnsInHanded_of_change_shaped (C := Try.checked) own started (by kernel_rfl) Try.func7
    (ChangeSpec.witness6 (enc := enc) (C := Try.checked) false ⟨#[], #[.slice none 0 0], []⟩ 8 (by kernel_rfl) (by kernel_rfl) (by kernel_rfl) (by kernel_rfl)) ?_
  intro W base args ds gs before hval0 hW hcnd _ hsh0 _
  have hsh : W.ShapedOpen Try.prog := hsh0
  have hval : ∀ (j : Nat) t v, Try.f7.params[j]? = some t → args[j]? = some v → Value.okWide Try.prog W .any base t v := hval0
  have hW' := hW
  obtain ⟨p, q, hA0, hV, rfl, hfz, hnd⟩ := hW
  have hA : DataW.TrodAll enc Try.prog W 0 (fun _ => true) true Try.f7.params.toList args.toList ds p := hA0
  rw [Try.params7] at hA hval
  obtain ⟨v0, vs0, d0, ds0, p0, q0, hargs, rfl, rfl, h0, rr0⟩ := trodAll_cons hA
  obtain ⟨rfl, rfl, rfl⟩ := trodAll_nil rr0
  obtain rfl : args = #[v0] := by cases args; simp_all
  obtain ⟨rfl, rfl⟩ := trodVars_none hV
  have k0 := h0
  have lt0 : ∀ x ∈ p0, x.block < W.heap.size := by obtain ⟨m, hm⟩ := k0; exact DataW.trod_lt m _ _ _ hm
  obtain ⟨A0, n0, c0, rfl, hx0⟩ := open_intsl Try.underlying30 Try.underlying3 (by kernel_rfl) (hval 0 30 v0 rfl rfl) h0
  clear hA0 hval0
  refine (walkKeysSorts A0 n0 c0 W hx0 hsh).mono fun e W' ⟨he, bel⟩ => ?_
  subst he
  exact ⟨_, rfl, _, _, _, [], _, [], hW', trodAll_mk1 (shut_bool Try.underlying4 _), (trodAll_cons_mk (Below.trod laidOut (by kernel_rfl) (of_decide_eq_true (by kernel_rfl)) k0 bel lt0) trodAll_mk0), rfl, bel.frame _, fun h => by cases h⟩

theorem over : Rows.keysSortsRow.holds Try.pinned (OpenSpec.ofChange Rows.keysSortsSpec) :=
  OpenClaim.holds_of_wide 7 Try.f7 rfl rfl rfl rfl rfl rfl rfl ⟨rfl, rfl, rfl, rfl, rfl⟩ rfl rfl rfl rfl rfl (by kernel_rfl) Try.func7 (by kernel_rfl)
    (of_decide_eq_true (by kernel_rfl)) (by unfold Func.isWrapper; first | (rw [if_pos (by decide +kernel)]; kernel_rfl) | (rw [if_neg (by decide +kernel)]; exact ⟨rfl, rfl⟩))
    (fun os started H enc _ => lifted os started H enc)

theorem proved : Rows.KeysSortsSaid := over
#print axioms proved
end keysSorts
end Go.Proofs.Ytaamoilkphjhgab
