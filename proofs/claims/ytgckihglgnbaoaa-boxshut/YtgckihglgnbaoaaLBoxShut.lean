/- Proved here: a box that is shut accepts nothing new and returns nothing (statement BoxShut). No condition. -/
import Derived.Test.YtgckihglgnbaoaaBxPd
import Derived.Test.YtgckihglgnbaoaaOpenI
import Derived.HandedShaped
namespace Go.Proofs.Ytgckihglgnbaoaa
set_option linter.unusedVariables false
set_option linter.unusedSimpArgs false
open Go.RowKit
/-- A box that is shut has no message that waits. -/
def ShutOk (s : Bs) : Prop := s.shut = true ∧ s.gone = s.acc.length
theorem shut_exec {s : Bs} (h : ShutOk s) (p : Pt) : ShutOk (execB s p).2.2 ∧ (execB s p).2.2.acc = s.acc ∧ (execB s p).1 = [] ∧ (p.kind = 3 → (execB s p).2.1 = 8) := by
  obtain ⟨h1, h2⟩ := h
  unfold execB
  split
  · rename_i hk
    unfold sendR
    refine ⟨?_, ?_, rfl, fun e => by omega⟩
    · split; · exact ⟨h1, h2⟩
      split; · exact ⟨h1, h2⟩
      split; · exact ⟨h1, h2⟩
      split; · exact ⟨h1, h2⟩
      exact ⟨h1, h2⟩
    · split; · rfl
      split; · rfl
      split; · rfl
      split; · rfl
      rfl
  split
  · unfold fetchR
    refine ⟨?_, ?_, ?_, fun e => by omega⟩
    · split; · exact ⟨h1, h2⟩
      split; · exact ⟨h1, h2⟩
      exact ⟨h1, by simp only; omega⟩
    · split; · rfl
      split; · rfl
      rfl
    · split; · rfl
      split; · rfl
      apply List.eq_nil_of_length_eq_zero
      rw [Bs.wait_len]
      simp only
      omega
  split
  · unfold shutR
    rw [if_pos h1]
    exact ⟨⟨h1, h2⟩, rfl, rfl, fun _ => rfl⟩
  · rename_i h3
    exact ⟨⟨h1, h2⟩, rfl, rfl, fun e => absurd e h3⟩
theorem shut_got {s : Bs} (h : ShutOk s) (p : Pt) : ShutOk (gotB s p).2 ∧ (gotB s p).2.acc = s.acc ∧ (gotB s p).1.mail = [] ∧ (p.kind = 3 → (gotB s p).1.code = 8) ∧ ((gotB s p).1.code = 0 → (gotB s p).1.next = (s.acc.length : Int)) := by
  obtain ⟨h1, h2, h3, h4⟩ := shut_exec h p
  rw [got_state, got_code]
  refine ⟨h1, h2, ?_, h4, fun e => ?_⟩
  · unfold gotB
    split
    · exact h3
    · rfl
  · unfold gotB
    rw [if_pos e, h2]
theorem shut_gots : ∀ (l : List Pt) {s : Bs}, ShutOk s → ShutOk (gotsB s l).2 ∧ (gotsB s l).2.acc = s.acc
  | [], _, h => ⟨h, rfl⟩
  | p :: l, s, h => by
    obtain ⟨h1, h2, -⟩ := shut_got h p
    have := shut_gots l h1
    exact ⟨this.1, this.2.trans h2⟩
/-- Whoever is shut has no message, from the start on. -/
def Bs.sh (s : Bs) : Prop := s.ok ∧ (s.shut = true → s.gone = s.acc.length)
theorem sh_exec {s : Bs} (h : s.sh) (p : Pt) : (execB s p).2.2.sh := by
  refine ⟨h.1.exec p, fun e => ?_⟩
  by_cases hs : s.shut = true
  · exact (shut_exec ⟨hs, h.2 hs⟩ p).1.2
  · have hf : s.shut = false := by simpa using hs
    unfold execB at e ⊢
    split
    · rename_i hk
      rw [if_pos hk] at e
      have : (sendR s p).2.shut = s.shut := by
        unfold sendR
        repeat' (first | (split; · rfl))
        rfl
      simp only at e
      rw [this] at e; exact absurd e hs
    rename_i hk; rw [if_neg hk] at e
    split
    · rename_i hk2
      rw [if_pos hk2] at e
      have : (fetchR s p.since).2.2.shut = s.shut := by
        unfold fetchR
        split; · rfl
        split; · rfl
        rfl
      rw [this] at e; exact absurd e hs
    rename_i hk2; rw [if_neg hk2] at e
    split
    · unfold shutR
      rw [if_neg hs]
    · rename_i hk3
      rw [if_neg hk3] at e
      exact absurd e hs
theorem sh_gots : ∀ (l : List Pt) {s : Bs}, s.sh → (gotsB s l).2.sh
  | [], _, h => h
  | p :: l, s, h => sh_gots l (by rw [got_state]; exact sh_exec h p)
theorem shut_after (l : List Pt) : ShutOk (gotsB bs0 (l ++ [⟨3, [], 0, [], 0⟩])).2 := by
  have h := sh_gots l (s := bs0) ⟨ok0, by intro e; cases e⟩
  rw [gotsB_snoc]
  simp only
  rw [got_state]
  unfold execB
  simp only [show ¬ ((3 : Int) = 1) by omega, show ¬ ((3 : Int) = 2) by omega, if_false, if_true]
  unfold shutR
  split
  · rename_i hs; exact ⟨hs, h.2 hs⟩
  · exact ⟨rfl, rfl⟩
/-- What comes behind a Shut. -/
theorem shut_R (a b : List Pt) (hs : ShutOk (gotsB bs0 a).2) (i : Nat) (hi : i < b.length) : ∃ g, (gotsB bs0 (a ++ b)).1[a.length + i]? = some g ∧ g.mail = [] ∧ (b[i].kind = 3 → g.code = 8) ∧ (g.code = 0 → g.next = ((gotsB bs0 a).2.acc.length : Int)) := by
  rw [gotsB_app]
  simp only
  rw [List.getElem?_append_right (by rw [gotsB_len]; omega), gotsB_len, Nat.add_sub_cancel_left, gots_at _ hi]
  obtain ⟨h1, h2⟩ := shut_gots (b.take i) hs
  obtain ⟨-, -, k1, k2, k3⟩ := shut_got h1 b[i]
  exact ⟨_, rfl, k1, k2, by rw [← h2]; exact k3⟩
def ShR (W : World) (na nt : Nat) (N : Nat) (gk : Nat) (s9 s10 : Value) (wr : World) : Prop :=
  ∃ (i : Nat) (x : Int), s10 = .int .i64 ((na + i : Nat) : Int) ∧ na + i ≤ nt ∧ gk = nt - (na + i) ∧ s9 = .int .i64 x ∧ (x = -1 ∨ x = (N : Int)) ∧ Below W.heap.size W wr
set_option maxHeartbeats 4000000 in
set_option maxRecDepth 100000 in
theorem walkBoxShut (A0 : Option Addr) (n0 c0 : Nat) (A1 : Option Addr) (n1 c1 : Nat) (w : World) (hx0 : IntsAt w w.heap.size A0 n0 c0) (hx1 : IntsAt w w.heap.size A1 n1 c1) (hsh : w.ShapedOpen Try.prog) :
    Calls Try.prog 8 #[.slice A0 n0 c0, .slice A1 n1 c1] w fun e w' => e = .returned (.bool true) ∧ Below w.heap.size w w' := by
  have hg := Gl.of hsh
  have H1 := Lib.hid (posts_any A0 n0 c0 w.heap.size 40 w hx0 (Nat.le_refl _) (by decide))
  have Hg := Lib.hid hg
  have Hx1 := Lib.hid hx1
  clear hx0 hx1 hsh hg
  go_enter Try.func8, Try.ntmps8
  go_wp2_with fail
  refine H1.out.mono ?_
  rintro e w1 ⟨v1, l0, rfl, ho1, hlen1, hok1, b1⟩
  obtain ⟨v2, w2, hrun2, ho2, hb2⟩ := post_more ho1 b1 (Nat.le_refl _) ⟨3, [], 0, [], 0⟩ #[.int .i64 3, .string ⟨#[]⟩, .int .i64 0, .string ⟨#[]⟩, .int .i64 0] rfl (by omega)
  have Hrun2 := Lib.hid hrun2
  have hsa := shut_after l0
  have hoka : ∀ p ∈ l0 ++ [⟨3, [], 0, [], 0⟩], PtOk p := fun p hp => by
    rcases List.mem_append.1 hp with hp | hp
    · exact okP_ok (hok1 p hp)
    · have e : p = ⟨3, [], 0, [], 0⟩ := by simpa using hp
      rw [e]; simp [PtOk]
  have hla : (l0 ++ [(⟨3, [], 0, [], 0⟩ : Pt)]).length = l0.length + 1 := by simp
  generalize l0 ++ [(⟨3, [], 0, [], 0⟩ : Pt)] = a at *
  obtain ⟨na, hna⟩ : ∃ na, l0.length + 1 = na := ⟨_, rfl⟩
  have hna41 : na ≤ 41 := by omega
  rw [hna] at ho2 hla
  obtain ⟨A2, c2, hv2, hin2⟩ := LIn.own ptL_len (by rw [hla]; exact ho2)
  subst hv2
  rw [hla] at hin2
  simp only [hla] at hrun2 Hrun2
  have H2 := Lib.hid (posts_any A1 n1 c1 w.heap.size 40 w2 (Hx1.out.below hb2) hb2.size (by decide))
  have Hin2 := Lib.hid hin2
  have Hb2 := Lib.hid hb2
  have Hsa := Lib.hid hsa
  have Hoka := Lib.hid hoka
  have Hla := Lib.hid hla
  clear ho1 hlen1 hok1 b1 hrun2 ho2 hb2 hsa hoka hla hna hin2 H1 Hx1
  go_wp2_with (first | (at_builtin; refine bx_app rfl _ _ _ rfl _ _ (by rfl) (by rfl) Hrun2.out ?_; clear Hrun2) | fail)
  refine H2.out.mono ?_
  rintro e w3 ⟨v3, b, rfl, ho3, hlen3, hok3, b3⟩
  obtain ⟨nb, hnb⟩ : ∃ nb, b.length = nb := ⟨_, rfl⟩
  have hnb40 : nb ≤ 40 := by omega
  obtain ⟨A3, c3, hv3, hin3⟩ := LIn.own ptL_len ho3
  subst hv3
  rw [hnb] at hin3 ho3 ⊢
  have hin23 := (Hin2.out.below b3).wider b3.size
  obtain ⟨v4, w4, hrun4, ho4, hb4⟩ := posts_copy hin23 (Nat.le_refl _) (by omega)
  have hin34 := (hin3.below hb4).wider hb4.size
  obtain ⟨v5, w5, hrun5, ho5, hb5⟩ := posts_more ho4 hin34 hb4 (Nat.le_refl _) (by omega)
  have Hrun4 := Lib.hid hrun4
  have Hrun5 := Lib.hid hrun5
  have hlt : (a ++ b).length = na + nb := by rw [List.length_append, Hla.out, hnb]
  obtain ⟨A5, c5, hv5, hin5⟩ := LIn.own ptL_len (by rw [hlt]; exact ho5)
  subst hv5
  rw [hlt] at hin5
  simp only [hlt] at hrun5 Hrun5
  have hok5 : ∀ p ∈ a ++ b, PtOk p := fun p hp => by
    rcases List.mem_append.1 hp with hp | hp
    · exact Hoka.out p hp
    · exact okP_ok (hok3 p hp)
  have hbw5 : Below w.heap.size w w5 := (Hb2.out.trans (b3.mono Hb2.out.size)).trans (hb5.mono (Nat.le_trans Hb2.out.size b3.size))
  have HP := Lib.hid (posted_any A5 (na + nb) c5 _ (a ++ b) w5 hin5 (Nat.le_refl _) (by omega) (Hg.out.below hbw5) hok5)
  unfold PdPost at HP
  rw [hlt] at HP
  have Hin3 := Lib.hid ((hin3.below hb5).wider hb5.size)
  have Hbw5 := Lib.hid hbw5
  have HR : Hid (∀ i (hi : i < b.length), ∃ g, (gotsB bs0 (a ++ b)).1[a.length + i]? = some g ∧ g.mail = [] ∧ (b[i].kind = 3 → g.code = 8) ∧ (g.code = 0 → g.next = ((gotsB bs0 a).2.acc.length : Int))) := Lib.hid fun i hi => shut_R a b Hsa.out i hi
  rw [Hla.out] at HR
  have Hnb := Lib.hid hnb
  have HRl : Hid ((gotsB bs0 (a ++ b)).1.length = na + nb) := Lib.hid (by rw [gotsB_len, hlt])
  obtain ⟨N, hN⟩ : ∃ N, (gotsB bs0 a).2.acc.length = N := ⟨_, rfl⟩
  rw [hN] at HR
  generalize (gotsB bs0 (a ++ b)).1 = R at *
  clear hrun4 hrun5 ho3 ho4 ho5 hin23 hin34 hin5 hb4 hb5 hlen3 hok3 hok5 hlt hbw5 hnb hin3 H2 Hin2 hN b3
  go_wp2_with (first | (at_builtin; refine bx_app rfl _ _ _ rfl _ _ (by rfl) (by rfl) Hrun4.out ?_; clear Hrun4) | (at_builtin; refine bx_app rfl _ _ _ rfl _ _ (by rfl) (by rfl) Hrun5.out ?_; clear Hrun5) | fail)
  refine HP.out.mono ?_
  rintro e w6 ⟨A6, c6, rfl, hin6, hb6⟩
  have Hin6 := Lib.hid hin6
  have Hin36 := Lib.hid ((Hin3.out.below hb6).wider hb6.size)
  have Hb6 := Lib.hid (Hbw5.out.trans (hb6.mono Hbw5.out.size))
  clear hin6 hb6 HP
  go_wp2_with fail
  go_loopg [9, 10] nb (ShR w6 na (na + nb) N)
  case atStart => exact ⟨0, -1, rfl, by omega, by omega, rfl, .inl rfl, Below.refl _ _⟩
  case round =>
    obtain ⟨i, x, rfl, hi, hgk, rfl, hx, hbe⟩ := hrel
    have Hgk := Lib.hid hgk
    have Hbe := Lib.hid hbe
    have hszw := hbe.size
    clear hgk hbe
    by_cases hin : i < nb
    · have hii : ((na + i : Nat) : Int) < ((na + nb : Nat) : Int) := by omega
      have hil : i < b.length := by rw [Hnb.out]; exact hin
      obtain ⟨g, hgi, g1, g2, g3⟩ := HR.out i hil
      have hRl : na + i < R.length := by rw [HRl.out]; omega
      obtain ⟨bg, og, Am, cm, hA6, hbg, -, d0, d1, d2⟩ := (Hin6.out.below Hbe.out).at_ hRl
      rw [List.getElem?_eq_getElem hRl] at hgi
      injection hgi with hgi
      rw [hgi] at d0 d1 d2
      rw [g1] at d2
      replace d2 : wr.cell? ⟨bg, og + (na + i) * 3 + 2, none⟩ = some (.slice Am 0 cm) := d2
      subst hA6
      obtain ⟨bb, ob, hA3, hbb, e0, e1, e2, e3, e4⟩ := pt_at (Hin36.out.below Hbe.out) hil
      subst hA3
      obtain ⟨⟨bk, bf, bn, bo, bs⟩, hbi⟩ : ∃ q, b[i] = q := ⟨_, rfl⟩
      rw [hbi] at e0 e1 e2 e3 e4 g2
      simp only at e0 e1 e2 e3 e4 g2
      clear hgi hbi
      obtain ⟨gc, gx, gm⟩ := g
      simp only at d0 d1 g1 g2 g3
      have hsub : IntKind.i64.wrap (((na + i : Nat) : Int) - (na : Int)) = (i : Int) := by rw [IntWalk.i64_in _ (by omega)]; omega
      have hii2 : (i : Int) < (nb : Int) := by omega
      have hbgw : bg < wr.heap.size := by omega
      have hbbw : bb < wr.heap.size := by omega
      have Hb7 := Lib.hid (Hbe.out.alloc (o := .cells #[.int .i64 bk, str bf, .int .i64 bn, str bo, .int .i64 bs] 43) hszw)
      have G3 := Lib.hid g3
      have G2 := Lib.hid g2
      clear g1 g2 g3
      by_cases hk : bk = 3
      · subst hk
        have h8 : gc = 8 := G2.out rfl
        subst h8
        go_wp2_with fail
        go_roundg (na + nb - (na + (i + 1)))
        case measure => have := Hgk.out; omega
        case rel => exact ⟨i + 1, x, by go_num, by omega, rfl, rfl, hx, Hb7.out⟩
      · have hk1 : (bk == 3) = false := by simpa using hk
        by_cases hc : gc = 0
        · subst hc
          have hgx : gx = (N : Int) := G3.out rfl
          subst hgx
          rcases hx with rfl | rfl
          · skip
            go_wp2_with fail
            go_roundg (na + nb - (na + (i + 1)))
            case measure => have := Hgk.out; omega
            case rel => exact ⟨i + 1, (N : Int), by go_num, by omega, rfl, rfl, .inr rfl, Hb7.out⟩
          · have hN0 : (0 : Int) ≤ (N : Int) := by omega
            have hNN : ((N : Int) != (N : Int)) = false := by simp
            go_wp2_with fail
            go_roundg (na + nb - (na + (i + 1)))
            case measure => have := Hgk.out; omega
            case rel => exact ⟨i + 1, (N : Int), by go_num, by omega, rfl, rfl, .inr rfl, Hb7.out⟩
        · have hc1 : (gc != 0) = true := by simpa using hc
          go_wp2_with fail
          go_roundg (na + nb - (na + (i + 1)))
          case measure => have := Hgk.out; omega
          case rel => exact ⟨i + 1, x, by go_num, by omega, rfl, rfl, hx, Hb7.out⟩
    · obtain rfl : i = nb := by omega
      have hii : ¬ ((na + i : Nat) : Int) < ((na + i : Nat) : Int) := by omega
      go_wp2_with fail
      go_ret
      exact ⟨rfl, Hb6.out.trans (Hbe.out.mono Hb6.out.size)⟩
namespace boxShut
open Go.ChangeShapes Go.WideShapes Go.ChangeAt Go.RowKit
theorem own : ownKnob Try.prog.godebug = none := by kernel_rfl
theorem laidOut : laidOutB Try.prog = true := by kernel_rfl
set_option linter.unusedVariables false
set_option maxRecDepth 100000 in
theorem lifted (os : Os) (started : os.Started) (H : Type) (enc : TypeId × Value → H) :
    ReturnsInHanded {} Try.checked os 8 .any (Rows.boxShutSpec.pre6 enc Try.prog Try.f8 Rows.boxShutRow.domain false) (Rows.boxShutSpec.post enc Try.prog Try.f8 false true false false) := by
  refine returnsInHanded_of_change_shaped (C := Try.checked) own started (by kernel_rfl) Try.func8
    (ChangeSpec.witness6 (enc := enc) (C := Try.checked) false ⟨#[], #[.slice none 0 0, .slice none 0 0], []⟩ 8 (by kernel_rfl) (by kernel_rfl) (by kernel_rfl) (by kernel_rfl)) ?_
  intro W base args ds gs before hval0 hW hcnd _ hsh0 _
  have hsh : W.ShapedOpen Try.prog := hsh0
  have hval : ∀ (j : Nat) t v, Try.f8.params[j]? = some t → args[j]? = some v → Value.okWide Try.prog W .any base t v := hval0
  have hW' := hW
  obtain ⟨p, q, hA0, hV, rfl, hfz, hnd⟩ := hW
  have hA : DataW.TrodAll enc Try.prog W 0 (fun _ => true) true Try.f8.params.toList args.toList ds p := hA0
  rw [Try.params8] at hA hval
  obtain ⟨v0, vs0, d0, ds0, p0, q0, hargs, rfl, rfl, h0, rr0⟩ := trodAll_cons hA
  obtain ⟨v1, vs1, d1, ds1, p1, q1, rfl, rfl, rfl, h1, rr1⟩ := trodAll_cons rr0
  obtain ⟨rfl, rfl, rfl⟩ := trodAll_nil rr1
  obtain rfl : args = #[v0, v1] := by cases args; simp_all
  obtain ⟨rfl, rfl⟩ := trodVars_none hV
  have k0 := h0
  have lt0 : ∀ x ∈ p0, x.block < W.heap.size := by obtain ⟨m, hm⟩ := k0; exact DataW.trod_lt m _ _ _ hm
  obtain ⟨A0, n0, c0, rfl, hx0⟩ := open_intsl Try.underlying40 Try.underlying3 (by kernel_rfl) (hval 0 40 v0 rfl rfl) h0
  have k1 := h1
  have lt1 : ∀ x ∈ p1, x.block < W.heap.size := by obtain ⟨m, hm⟩ := k1; exact DataW.trod_lt m _ _ _ hm
  obtain ⟨A1, n1, c1, rfl, hx1⟩ := open_intsl Try.underlying40 Try.underlying3 (by kernel_rfl) (hval 1 40 v1 rfl rfl) h1
  clear hA0 hval0
  refine (walkBoxShut A0 n0 c0 A1 n1 c1 W hx0 hx1 hsh).mono fun e W' ⟨he, bel⟩ => ?_
  subst he
  exact ⟨_, rfl, _, _, _, [], _, [], hW', trodAll_mk1 (shut_bool Try.underlying4 _), (trodAll_cons_mk (Below.trod laidOut (by kernel_rfl) (of_decide_eq_true (by kernel_rfl)) k0 bel lt0) (trodAll_cons_mk (Below.trod laidOut (by kernel_rfl) (of_decide_eq_true (by kernel_rfl)) k1 bel lt1) trodAll_mk0)), rfl, bel.frame _, fun h => by cases h⟩

theorem over : Rows.boxShutRow.holds Try.pinned (OpenSpec.ofChange Rows.boxShutSpec) :=
  OpenClaim.holds_of_wide 8 Try.f8 rfl rfl rfl rfl rfl rfl rfl ⟨rfl, rfl, rfl, rfl, rfl⟩ rfl rfl rfl rfl rfl (by kernel_rfl) Try.func8 (by kernel_rfl)
    (of_decide_eq_true (by kernel_rfl)) (by unfold Func.isWrapper; first | (rw [if_pos (by decide +kernel)]; kernel_rfl) | (rw [if_neg (by decide +kernel)]; exact ⟨rfl, rfl⟩))
    (fun os started H enc _ => lifted os started H enc)

theorem proved : Rows.BoxShutSaid := over
#print axioms proved
end boxShut
end Go.Proofs.Ytgckihglgnbaoaa
