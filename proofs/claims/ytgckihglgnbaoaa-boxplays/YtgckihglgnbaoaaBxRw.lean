/- The message box: the document's own function, walked. -/
import Derived.Test.YtgckihglgnbaoaaBxRf
import Derived.Test.YtgckihglgnbaoaaBunH
import Derived.Deep.CutBlock
import Derived.Deep.CutRange
namespace Go.Proofs.Ytgckihglgnbaoaa
set_option linter.unusedVariables false
set_option linter.unusedSimpArgs false
open Go.RowKit
theorem got_err {s : Bs} {p : Pt} {c : Int} (h : execB s p = ([], c, s)) (hc : c ≠ 0) : gotB s p = (⟨c, 0, []⟩, s) := by unfold gotB; rw [h, if_neg hc]
theorem got_ok {s s' : Bs} {p : Pt} {m : List Ml} (h : execB s p = (m, 0, s')) : gotB s p = (⟨0, (s'.acc.length : Int), m⟩, s') := by unfold gotB; rw [h, if_pos rfl]
def RbC (w : World) (pb : Nat) (t : Bs) (p : Pt) (out : List Gt) (vo s4 s5 s6 : Value) (wx : World) : Prop :=
  ∃ cd ml vm, RbM w.heap.size pb wx p (gotB t p).2.acc out ml cd 0 s4 vo vm ∧ s5 = .int .i64 ((gotB t p).2.gone : Int) ∧ s6 = .bool (gotB t p).2.shut ∧ (gotB t p).1 = ⟨cd, (if cd = 0 then ((gotB t p).2.acc.length : Int) else 0), ml⟩ ∧ Below w.heap.size w wx
def RhR (w0 : World) (acc : List Pt) (p : Pt) (n : Nat) (gk : Nat) (s14 s36 : Value) (wr : World) : Prop :=
  ∃ i : Nat, s36 = .int .i64 (i : Int) ∧ i ≤ n ∧ gk = n - i ∧ s14 = .bool (hadR (acc.take i) p) ∧ Below w0.heap.size w0 wr
def BrR (w : World) (ps : List Pt) (n : Nat) (gk : Nat) (s4 s5 s6 s7 s23 : Value) (wr : World) : Prop :=
  ∃ i : Nat, s23 = .int .i64 (i : Int) ∧ i ≤ n ∧ gk = n - i ∧ s5 = .int .i64 ((gotsB bs0 (ps.take i)).2.gone : Int) ∧ s6 = .bool (gotsB bs0 (ps.take i)).2.shut ∧
    wr.ownsRow w.heap.size 43 5 s4 (gotsB bs0 (ps.take i)).2.acc.length (pcK ptL (gotsB bs0 (ps.take i)).2.acc) ∧ GsO wr w.heap.size (.slice none 0 0) s7 (gotsB bs0 (ps.take i)).1 ∧ Below w.heap.size w wr
theorem had_step {acc : List Pt} {p : Pt} {i : Nat} (hi : i < acc.length) : hadR (acc.take (i + 1)) p = (hadR (acc.take i) p || eqM acc[i] p) := by
  unfold hadR eqM
  rw [List.take_succ_eq_append_getElem hi, List.any_append]
  simp
theorem pairV_form (s : List UInt8) : ∃ (a b : List UInt8) (c : Int), pairV (user s) = .tuple #[str a, str b, .int .i64 c] ∧ (c = 0 ↔ user s ≠ none) := by
  cases h : user s with
  | none => exact ⟨[], [], 4, rfl, by simp⟩
  | some ab => obtain ⟨a, b⟩ := ab; exact ⟨a, b, 0, rfl, by simp⟩
theorem wait_take (s : Bs) (j : Nat) (h1 : s.gone ≤ j) (h2 : j < s.acc.length) : mlF s.gone ((s.acc.take (j + 1)).drop s.gone) = mlF s.gone ((s.acc.take j).drop s.gone) ++ [⟨(j : Int) + 1, s.acc[j].frm, s.acc[j].body⟩] := by
  rw [List.take_succ_eq_append_getElem h2, List.drop_append_of_le_length (by rw [List.length_take]; omega), mlF_app, List.length_drop, List.length_take, show s.gone + (min j s.acc.length - s.gone) = j by omega]
  rfl
/-- The loop of a fetch: the messages ahead of number i are in. -/
def FeR (w : World) (pb : Nat) (t' : Bs) (p : Pt) (out : List Gt) (vo s4 : Value) (gk : Nat) (s17 : Value) (wr : World) : Prop :=
  ∃ i vm, s17 = .int .i64 ((i : Nat) : Int) ∧ t'.gone ≤ i ∧ i ≤ t'.acc.length ∧ gk = t'.acc.length - i ∧ RbM w.heap.size pb wr p t'.acc out (mlF t'.gone ((t'.acc.take i).drop t'.gone)) 0 0 s4 vo vm ∧ Below w.heap.size w wr
set_option maxHeartbeats 8000000 in
set_option maxRecDepth 100000 in
theorem refB_any (A : Option Addr) (n c B : Nat) (ps : List Pt) (w : World) (hl : LIn ptL 5 w B A n c ps) (hB : B ≤ w.heap.size) (hn : n ≤ 9223372036854775807) (hok : ∀ p ∈ ps, PtOk p) :
    Calls Try.prog 14 #[.slice A n c] w (BPost (playB ps) w) := by
  have hln := hl.1
  by_cases hbig : 100 < n
  · have HE := Lib.hid (show playB ps = ([], 1) by unfold playB; rw [if_pos (by omega)])
    have hb : (100 : Int) < (n : Int) := by omega
    clear hl hln
    go_enter Try.func14, Try.ntmps14
    go_wp2_with fail
    go_ret2
    rw [HE.out]
    exact ⟨none, 0, rfl, GsIn.nil, Below.refl _ _⟩
  · have HE := Lib.hid (show playB ps = ((gotsB bs0 ps).1, 0) by unfold playB; rw [if_neg (by omega)])
    have hb : ¬ (100 : Int) < (n : Int) := by omega
    have hn100 : n ≤ 100 := by omega
    have Hl := Lib.hid hl
    have Hln := Lib.hid hln
    have Hok := Lib.hid hok
    clear hl hln hok
    go_enter Try.func14, Try.ntmps14
    go_wp2_with fail
    go_loopg [4, 5, 6, 7, 23] n (BrR w ps n)
    case atStart => exact ⟨0, rfl, Nat.zero_le _, by omega, rfl, rfl, World.ownsRow_nil _ _ _ _, ⟨[], World.ownsRow_nil _ _ _ _, Cls.nil⟩, Below.refl _ _⟩
    case round =>
      obtain ⟨i, rfl, hi, hgk, rfl, rfl, hre, hro, hbe⟩ := hrel
      obtain ⟨wa, rfl⟩ : ∃ wa, wa = wr := ⟨_, rfl⟩
      obtain ⟨vo, rfl⟩ : ∃ vo, vo = u7 := ⟨_, rfl⟩
      have Hgk := Lib.hid hgk
      have Hbe := Lib.hid hbe
      have Hro := Lib.hid hro
      have Hre := Lib.hid hre
      clear hgk hbe hro hre
      by_cases hin : i < n
      · have hii : (i : Int) < (n : Int) := by omega
        have hil : i < ps.length := by rw [Hln.out]; exact hin
        obtain ⟨b, off, hA, hbB, d0, d1, d2, d3, d4⟩ := pt_at (Hl.out.below (Hbe.out.mono hB)) hil
        subst hA
        have hbw : b < wa.heap.size := by have := Hbe.out.size; omega
        have htk : (ps.take i).length = i := by rw [List.length_take]; omega
        have hup : (gotsB bs0 (ps.take i)).2.acc.length ≤ i := by
          have := gots_grow (ps.take i) bs0
          rw [htk] at this
          have h0 : bs0.acc.length = 0 := rfl
          omega
        have hglen := gotsB_len (ps.take i) bs0
        rw [htk] at hglen
        have hok2 : (gotsB bs0 (ps.take i)).2.ok := Bs.ok.gots _ ok0
        have Hpk := Lib.hid (Hok.out ps[i] (List.getElem_mem hil))
        have HT := Lib.hid (show gotsB bs0 (ps.take (i + 1)) = ((gotsB bs0 (ps.take i)).1 ++ [(gotB (gotsB bs0 (ps.take i)).2 ps[i]).1], (gotB (gotsB bs0 (ps.take i)).2 ps[i]).2) by rw [List.take_succ_eq_append_getElem hil, gotsB_snoc])
        have hgrow := got_grow (gotsB bs0 (ps.take i)).2 ps[i]
        generalize ps[i] = p at *
        generalize gotsB bs0 (ps.take i) = P at *
        obtain ⟨out, t⟩ := P
        simp only at Hro Hre HT hup hglen hok2 hgrow
        obtain ⟨acc, gone, sh⟩ := t
        simp only at Hro Hre hup hok2 hgrow ⊢
        have hgone : gone ≤ acc.length := hok2
        obtain ⟨A4, c4, rfl, hin4⟩ := LIn.own ptL_len Hre.out
        obtain ⟨Wa, hWa⟩ : ∃ Wa, (wa.alloc (.cells #[.int .i64 p.kind, str p.frm, .int .i64 p.txn, str p.body, .int .i64 p.since] 43)).alloc (.cells #[.int .i64 0, .int .i64 0, .slice none 0 0] 36) = Wa := ⟨_, rfl⟩
        have hWb : Below wa.heap.size wa Wa := by rw [← hWa]; exact ((Below.refl _ _).alloc (Nat.le_refl _) _).alloc (by simp) _
        have hM0 := rbM0 (p := p) wa Hbe.out.size Hre.out Hro.out
        rw [hWa] at hM0
        have HWa := Lib.hid hWa
        have HM0 := Lib.hid hM0
        have HWb := Lib.hid hWb
        have Hin4 := Lib.hid (hin4.below hWb)
        clear hWa hM0 hWb hin4 Hre Hro hok2
        obtain ⟨na, nb, nc, hnm, hnc⟩ := pairV_form p.frm
        have Hnc := Lib.hid hnc
        have Hnm := Lib.hid hnm
        clear hnm hnc
        have HC := Lib.hid (refUser_any p.frm Wa (by unfold maxLen; exact Hpk.out.1))
        obtain ⟨pk, pf, pn, pb, pq⟩ := p
        simp only at d0 d1 d2 d3 d4 HWa Hnm Hnc HC
        go_wp2_with fail
        rw [HWa.out]
        refine HC.out.mono ?_
        rintro e wq ⟨rfl, q1, rfl⟩
        rw [Hnm.out]
        obtain ⟨Wb, hWb⟩ : ∃ Wb, Wa.drewN q1 = Wb := ⟨_, rfl⟩
        have hbb : Below Wa.heap.size Wa Wb := by rw [← hWb]; exact below_drewN (Below.refl _ _) _
        have HM1 := Lib.hid (HM0.out.below hbb)
        have Hbb := Lib.hid ((Hbe.out.trans (HWb.out.mono Hbe.out.size)).trans (hbb.mono (by have := HWb.out.size; have := Hbe.out.size; omega)))
        have Hin5 := Lib.hid ((Hin4.out.below (hbb.mono HWb.out.size)).wider (Nat.le_trans HWb.out.size hbb.size))
        rw [hWb]
        clear hWb hbb HC HM0 HWa HWb Hin4
        go_wp2_with fail
        go_loopg [14, 36] acc.length (RhR Wb acc ⟨pk, pf, pn, pb, pq⟩ acc.length)
        case atStart => exact ⟨0, rfl, Nat.zero_le _, by omega, rfl, Below.refl _ _⟩
        case round =>
          obtain ⟨j, rfl, hj, hgk2, rfl, hb2⟩ := hrel
          have Hgk2 := Lib.hid hgk2
          have Hb2 := Lib.hid hb2
          have hsz2 := hb2.size
          have HM2 := Lib.hid (HM1.out.below hb2)
          clear hgk2 hb2
          have y0 : wr.cell? ⟨wa.heap.size, 0, none⟩ = some (.int .i64 pk) := HM2.out.post.cell 0
          have y1 : wr.cell? ⟨wa.heap.size, 1, none⟩ = some (str pf) := HM2.out.post.cell 1
          have y2 : wr.cell? ⟨wa.heap.size, 2, none⟩ = some (.int .i64 pn) := HM2.out.post.cell 2
          have y3 : wr.cell? ⟨wa.heap.size, 3, none⟩ = some (str pb) := HM2.out.post.cell 3
          have y4 : wr.cell? ⟨wa.heap.size, 4, none⟩ = some (.int .i64 pq) := HM2.out.post.cell 4
          have hwl : wa.heap.size < wr.heap.size := HM2.out.post.lt
          by_cases hjn : j < acc.length
          · have hji : (j : Int) < (acc.length : Int) := by omega
            obtain ⟨b4, off4, hA4, hb4B, e0, e1, e2, e3, e4⟩ := pt_at (Hin5.out.below Hb2.out) hjn
            subst hA4
            have Hs := Lib.hid (had_step (p := ⟨pk, pf, pn, pb, pq⟩) hjn)
            unfold eqM at Hs
            simp only at Hs
            obtain ⟨⟨qk, qf, qn, qb, qs⟩, hq⟩ : ∃ q, acc[j] = q := ⟨_, rfl⟩
            rw [hq] at e0 e1 e2 e3 e4 Hs
            simp only at e0 e1 e2 e3 e4 Hs
            have hb4w : b4 < wr.heap.size := by omega
            obtain ⟨had, hhad⟩ : ∃ x, hadR (acc.take j) ⟨pk, pf, pn, pb, pq⟩ = x := ⟨_, rfl⟩
            rw [hhad] at Hs ⊢
            have Hb3 := Lib.hid (Hb2.out.alloc (o := .cells #[.int .i64 qk, str qf, .int .i64 qn, str qb, .int .i64 qs] 43) hsz2)
            clear hq hhad HM2
            cases had with
            | true =>
              have hst : Hid (hadR (acc.take (j + 1)) ⟨pk, pf, pn, pb, pq⟩ = true) := Lib.hid (by rw [Hs.out]; simp)
              clear Hs
              go_wp2_with fail
              go_roundg (acc.length - (j + 1))
              case measure => have := Hgk2.out; omega
              case rel => exact ⟨j + 1, by go_num, by omega, rfl, by rw [hst.out], Hb3.out⟩
            | false =>
              cases hqf : (qf == pf) with
              | false =>
                have hst : Hid (hadR (acc.take (j + 1)) ⟨pk, pf, pn, pb, pq⟩ = false) := Lib.hid (by rw [Hs.out, hqf]; simp)
                clear Hs
                go_wp2_with fail
                go_roundg (acc.length - (j + 1))
                case measure => have := Hgk2.out; omega
                case rel => exact ⟨j + 1, by go_num, by omega, rfl, by rw [hst.out], Hb3.out⟩
              | true =>
                by_cases hqn : qn = pn
                · have hst : Hid (hadR (acc.take (j + 1)) ⟨pk, pf, pn, pb, pq⟩ = true) := Lib.hid (by rw [Hs.out, hqf, decide_eq_true hqn]; simp)
                  subst hqn
                  clear Hs
                  go_wp2_with fail
                  go_roundg (acc.length - (j + 1))
                  case measure => have := Hgk2.out; omega
                  case rel => exact ⟨j + 1, by go_num, by omega, rfl, by rw [hst.out], Hb3.out⟩
                · have hst : Hid (hadR (acc.take (j + 1)) ⟨pk, pf, pn, pb, pq⟩ = false) := Lib.hid (by rw [Hs.out, hqf, decide_eq_false hqn]; simp)
                  have hqn2 : (qn == pn) = false := by simpa using hqn
                  clear Hs
                  go_wp2_with fail
                  go_roundg (acc.length - (j + 1))
                  case measure => have := Hgk2.out; omega
                  case rel => exact ⟨j + 1, by go_num, by omega, rfl, by rw [hst.out], Hb3.out⟩
          · have hji : ¬ (j : Int) < (acc.length : Int) := by omega
            have hje : acc.take j = acc := List.take_of_length_le (by omega)
            rw [hje]
            have Hbw := Lib.hid (Hbb.out.trans (Hb2.out.mono Hbb.out.size))
            have Hin6 := Lib.hid ((Hin5.out.below Hb2.out).wider hsz2)
            obtain ⟨had, hhad⟩ : ∃ x, hadR acc ⟨pk, pf, pn, pb, pq⟩ = x := ⟨_, rfl⟩
            rw [hhad]
            have Hhad := Lib.hid hhad
            clear hje hhad hji Hin5 HM1 Hgk2 Hbb
            obtain ⟨Wx, hWx⟩ : ∃ Wx, Wx = wr := ⟨_, rfl⟩
            subst hWx
            go_upto_block 4 with (fail)
            go_cut [4, 5, 6, 17] from 58 to 195 (fun s4 s5 s6 s17 wx => RbC w wa.heap.size ⟨acc, gone, sh⟩ ⟨pk, pf, pn, pb, pq⟩ out vo s4 s5 s6 wx)
            case first =>
              have hm := HM2.out
              have g0 : Wx.cell? ⟨wa.heap.size + 1, 0, none⟩ = some (.int .i64 0) := hm.got.cell 0
              have gf := hm.got.frozen 0
              have hgl := hm.got.lt
              have hBp : w.heap.size ≤ wa.heap.size + 1 := by have := hm.lo; omega
              have bad := fun (k : Int) (hk : k ≠ 0) (he : execB ⟨acc, gone, sh⟩ ⟨pk, pf, pn, pb, pq⟩ = ([], k, ⟨acc, gone, sh⟩)) => (show RbC w wa.heap.size ⟨acc, gone, sh⟩ ⟨pk, pf, pn, pb, pq⟩ out vo (.slice A4 acc.length c4) (.int .i64 (gone : Int)) (.bool sh) (Wx.setCell ⟨wa.heap.size + 1, 0, none⟩ (.int .i64 k)) from
                ⟨k, [], .slice none 0 0, by rw [got_err he hk]; exact hm.code k, by rw [got_err he hk], by rw [got_err he hk], by rw [got_err he hk, if_neg hk], Hbw.out.setCell (p := ⟨wa.heap.size + 1, 0, none⟩) hBp _⟩)
              have Bad := Lib.hid bad
              clear bad hm
              have hup2 : acc.length ≤ 100 := by omega
              by_cases k1 : pk = 1
              · as_aux_lemma =>
                subst k1
                have hx : execB ⟨acc, gone, sh⟩ ⟨1, pf, pn, pb, pq⟩ = ([], sendR ⟨acc, gone, sh⟩ ⟨1, pf, pn, pb, pq⟩) := by unfold execB; simp
                have Hx := Lib.hid hx
                clear hx
                by_cases c1 : pn < 0
                · have HB := Lib.hid (Bad.out 2 (by decide) (by rw [Hx.out]; unfold sendR; rw [if_pos (show pn < 0 from c1)]))
                  clear Bad
                  go_wp2_with fail
                  go_meet
                  exact HB.out
                · have C1 := Lib.hid (Int.not_lt.1 c1)
                  by_cases c2 : nc = 0
                  · subst c2
                    have hun : user pf ≠ none := Hnc.out.1 rfl
                    have Hun := Lib.hid hun
                    clear hun
                    by_cases c3 : 20 < pb.length
                    · have HB := Lib.hid (Bad.out 1 (by decide) (by rw [Hx.out]; unfold sendR; rw [if_neg (show ¬ pn < 0 from c1), if_neg Hun.out, if_pos c3]))
                      have c3i : (20 : Int) < (pb.length : Int) := by omega
                      clear Bad
                      go_wp2_with fail
                      go_meet
                      exact HB.out
                    · have c3i : ¬ (20 : Int) < (pb.length : Int) := by omega
                      have C3 := Lib.hid (Nat.not_lt.1 c3)
                      have hsr : sendR ⟨acc, gone, sh⟩ ⟨1, pf, pn, pb, pq⟩ = (if had = true then (0, ⟨acc, gone, sh⟩) else if sh = true then (8, ⟨acc, gone, sh⟩) else if 10 ≤ acc.length - gone then (10, ⟨acc, gone, sh⟩) else (0, ⟨acc ++ [⟨1, pf, pn, pb, pq⟩], gone, sh⟩)) := by
                        unfold sendR
                        rw [if_neg (show ¬ pn < 0 from c1), if_neg Hun.out, if_neg c3]
                        show (if hadR acc _ = true then _ else _) = _
                        rw [Hhad.out]
                      have Hsr := Lib.hid hsr
                      clear hsr
                      cases had with
                      | true =>
                        have HG := Lib.hid (got_ok (s := ⟨acc, gone, sh⟩) (p := ⟨1, pf, pn, pb, pq⟩) (m := []) (s' := ⟨acc, gone, sh⟩) (by rw [Hx.out, Hsr.out]; rfl))
                        have HB := Lib.hid (show RbC w wa.heap.size ⟨acc, gone, sh⟩ ⟨1, pf, pn, pb, pq⟩ out vo (.slice A4 acc.length c4) (.int .i64 (gone : Int)) (.bool sh) Wx from
                          ⟨0, [], .slice none 0 0, by rw [HG.out]; exact HM2.out, by rw [HG.out], by rw [HG.out], by rw [HG.out]; rfl, Hbw.out⟩)
                        clear Bad
                        go_wp2_with fail
                        go_meet
                        exact HB.out
                      | false =>
                        cases sh with
                        | true =>
                          have HB := Lib.hid (Bad.out 8 (by decide) (by rw [Hx.out, Hsr.out]; rfl))
                          clear Bad
                          go_wp2_with fail
                          go_meet
                          exact HB.out
                        | false =>
                          have hwr : IntKind.i64.wrap ((acc.length : Int) - (gone : Int)) = (acc.length : Int) - (gone : Int) := IntWalk.i64_in _ (by omega)
                          by_cases c4 : 10 ≤ acc.length - gone
                          · have HB := Lib.hid (Bad.out 10 (by decide) (by rw [Hx.out, Hsr.out, if_neg (by simp), if_neg (by simp), if_pos c4]))
                            have c4i : (10 : Int) ≤ (acc.length : Int) - (gone : Int) := by omega
                            clear Bad
                            go_wp2_with fail
                            go_meet
                            exact HB.out
                          · have c4i : ¬ (10 : Int) ≤ (acc.length : Int) - (gone : Int) := by omega
                            have HG := Lib.hid (got_ok (s := ⟨acc, gone, false⟩) (p := ⟨1, pf, pn, pb, pq⟩) (m := []) (s' := ⟨acc ++ [⟨1, pf, pn, pb, pq⟩], gone, false⟩) (by rw [Hx.out, Hsr.out, if_neg (by simp), if_neg (by simp), if_neg c4]))
                            obtain ⟨v', wf, hrun, hmf, hbf⟩ := HM2.out.pushA ⟨1, pf, pn, pb, pq⟩ #[.int .i64 1, str pf, .int .i64 pn, str pb, .int .i64 pq] rfl (by omega)
                            have Hrun := Lib.hid hrun
                            have HB := Lib.hid (show RbC w wa.heap.size ⟨acc, gone, false⟩ ⟨1, pf, pn, pb, pq⟩ out vo v' (.int .i64 (gone : Int)) (.bool false) wf from
                              ⟨0, [], .slice none 0 0, by rw [HG.out]; exact hmf, by rw [HG.out], by rw [HG.out], by rw [HG.out]; rfl, Hbw.out.trans hbf⟩)
                            clear Bad hrun hmf hbf
                            go_wp2_with (first | (at_builtin; refine bx_app rfl _ _ _ rfl _ _ (by rfl) (by rfl) Hrun.out ?_; clear Hrun) | fail)
                            go_meet
                            exact HB.out
                  · have hun : user pf = none := by
                      cases h : user pf with
                      | none => rfl
                      | some ab => exact absurd (Hnc.out.2 (by rw [h]; simp)) c2
                    have c2b : (nc != 0) = true := by simpa using c2
                    have HB := Lib.hid (Bad.out 6 (by decide) (by rw [Hx.out]; unfold sendR; rw [if_neg (show ¬ pn < 0 from c1), if_pos hun]))
                    clear Bad hun
                    go_wp2_with fail
                    go_meet
                    exact HB.out
              · have b1 : (pk == 1) = false := by simpa using k1
                have b1n : (pk != 1) = true := by simpa using k1
                by_cases k2 : pk = 2
                · as_aux_lemma =>
                  subst k2
                  have hx : execB ⟨acc, gone, sh⟩ ⟨2, pf, pn, pb, pq⟩ = fetchR ⟨acc, gone, sh⟩ pq := by unfold execB; simp
                  have Hx := Lib.hid hx
                  clear hx b1 b1n k1
                  by_cases c1 : pq < 0
                  · have HB := Lib.hid (Bad.out 2 (by decide) (by rw [Hx.out]; unfold fetchR; rw [if_pos c1]))
                    clear Bad
                    go_wp2_with fail
                    go_meet
                    exact HB.out
                  · by_cases c2 : (acc.length : Int) < pq
                    · have HB := Lib.hid (Bad.out 12 (by decide) (by rw [Hx.out]; unfold fetchR; rw [if_neg c1, if_pos c2]))
                      clear Bad
                      go_wp2_with fail
                      go_meet
                      exact HB.out
                    · obtain ⟨sq, rfl⟩ := Int.eq_ofNat_of_zero_le (Int.not_lt.1 c1)
                      have hsq : sq ≤ acc.length := by omega
                      obtain ⟨g2, hg2⟩ : ∃ g2, max gone sq = g2 := ⟨_, rfl⟩
                      have hg2l : g2 ≤ acc.length := by omega
                      have hmax : max (gone : Int) (sq : Int) = (g2 : Int) := by omega
                      have HG := Lib.hid (got_ok (s := ⟨acc, gone, sh⟩) (p := ⟨2, pf, pn, pb, (sq : Int)⟩) (m := mlF g2 (acc.drop g2)) (s' := ⟨acc, g2, sh⟩) (by
                        rw [Hx.out]; unfold fetchR; rw [if_neg c1, if_neg c2]
                        show (mlF (max gone (Int.toNat (sq : Int))) (acc.drop (max gone (Int.toNat (sq : Int)))), _, _) = _
                        rw [Int.toNat_natCast, hg2]))
                      have hml0 : mlF g2 ((acc.take g2).drop g2) = [] := by rw [List.drop_of_length_le (by rw [List.length_take]; omega)]; rfl
                      have Hst := Lib.hid (show FeR w wa.heap.size ⟨acc, g2, sh⟩ ⟨2, pf, pn, pb, (sq : Int)⟩ out vo (.slice A4 acc.length c4) (acc.length - g2) (.int .i64 (g2 : Int)) Wx from
                        ⟨g2, .slice none 0 0, rfl, Nat.le_refl _, hg2l, rfl, by simp only; rw [hml0]; exact HM2.out, Hbw.out⟩)
                      have c2i : ¬ (acc.length : Int) < (sq : Int) := by omega
                      clear Bad hml0 hg2
                      go_wp2_with fail
                      go_loopg [17] (acc.length - g2) (FeR w wa.heap.size ⟨acc, g2, sh⟩ ⟨2, pf, pn, pb, (sq : Int)⟩ out vo (.slice A4 acc.length c4))
                      case atStart => exact Hst.out
                      case round =>
                        clear Hst
                        obtain ⟨j, vm, rfl, hj1, hj2, hgk3, hm3, hb3⟩ := hrel
                        simp only at hj1 hj2 hgk3 hm3
                        have Hgk3 := Lib.hid hgk3
                        have Hb3 := Lib.hid hb3
                        have Hm3 := Lib.hid hm3
                        clear hgk3 hb3 hm3
                        by_cases hjn : j < acc.length
                        · have hji : (j : Int) < (acc.length : Int) := by omega
                          have hwr : IntKind.i64.wrap ((j : Int) + 1) = (j : Int) + 1 := IntWalk.i64_in _ (by omega)
                          obtain ⟨Wd, hWd⟩ : ∃ Wd, wr.drew = Wd := ⟨_, rfl⟩
                          have hbd : Below wr.heap.size wr Wd := by rw [← hWd]; exact below_drewN (Below.refl _ _) 1
                          have hm := Hm3.out.below hbd
                          have hb4 := Hb3.out.trans (hbd.mono (by have := Hm3.out.size; have := Hm3.out.lo; omega))
                          obtain ⟨A5, c5, h5, hin5⟩ := LIn.own ptL_len hm.re
                          injection h5 with e5 _ e6
                          subst e5 e6
                          obtain ⟨b5, off5, hA5, hb5B, e0, e1, e2, e3, e4⟩ := pt_at hin5 hjn
                          subst hA5
                          have Hwt := Lib.hid (wait_take ⟨acc, g2, sh⟩ j hj1 hjn)
                          simp only at Hwt
                          obtain ⟨⟨qk, qf, qn, qb, qs⟩, hq⟩ : ∃ q, acc[j] = q := ⟨_, rfl⟩
                          rw [hq] at e1 e3 Hwt
                          simp only at e1 e3 Hwt
                          generalize hml : mlF g2 ((acc.take j).drop g2) = ml at *
                          have hmll : ml.length ≤ 200 := by rw [← hml, mlF_len, List.length_drop, List.length_take]; omega
                          obtain ⟨Am, cm, hvm, -⟩ := own_form hm.rm
                          subst hvm
                          obtain ⟨A6, c6, wf, hrun, hgot, hgw, hm6, hb6⟩ := hm.pushM ⟨(j : Int) + 1, qf, qb⟩ #[.int .i64 ((j : Int) + 1), str qf, str qb] rfl (by omega)
                          have hne : (Value.slice Am ml.length cm).ownBlock ≠ some b5 := fun e => (apt_types hm.rm hm.re (by decide)) b5 e rfl
                          have hc5 : ∀ o, wf.cell? ⟨b5, o, none⟩ = Wd.cell? ⟨b5, o, none⟩ := fun o => World.cell?_of_block (hgw.block b5 hb5B (fun e => hne e.symm))
                          have hS0 : Wd.cell? ⟨wa.heap.size + 1, 2, none⟩ = some (.slice Am ml.length cm) ∧ Wd.cell? ⟨b5, off5 + j * 5 + 1, none⟩ = some (str qf) ∧ Wd.cell? ⟨b5, off5 + j * 5 + 3, none⟩ = some (str qb) := ⟨hm.got.cell 2, e1, e3⟩
                          have hS1 : (Wd.alloc (.cells #[.int .i64 ((j : Int) + 1), str qf, str qb] 38)).cell? ⟨wa.heap.size + 1, 2, none⟩ = some (.slice Am ml.length cm) ∧ (Wd.alloc (.cells #[.int .i64 ((j : Int) + 1), str qf, str qb] 38)).cell? ⟨b5, off5 + j * 5 + 1, none⟩ = some (str qf) ∧ (Wd.alloc (.cells #[.int .i64 ((j : Int) + 1), str qf, str qb] 38)).cell? ⟨b5, off5 + j * 5 + 3, none⟩ = some (str qb) :=
                            ⟨(hm.got.alloc _).cell 2, (World.cell?_alloc_lt _ _ _ hb5B).trans e1, (World.cell?_alloc_lt _ _ _ hb5B).trans e3⟩
                          have hS2 : wf.cell? ⟨wa.heap.size + 1, 2, none⟩ = some (.slice Am ml.length cm) ∧ wf.cell? ⟨b5, off5 + j * 5 + 1, none⟩ = some (str qf) ∧ wf.cell? ⟨b5, off5 + j * 5 + 3, none⟩ = some (str qb) := ⟨hgot.cell 2, (hc5 _).trans e1, (hc5 _).trans e3⟩
                          have f2 := hgot.frozen 2
                          have hrun' := hrun
                          have Hfin := Lib.hid (show FeR w wa.heap.size ⟨acc, g2, sh⟩ ⟨2, pf, pn, pb, (sq : Int)⟩ out vo (.slice (some ⟨b5, off5, none⟩) acc.length c4) (acc.length - (j + 1)) (.int .i64 ((j + 1 : Nat) : Int)) (wf.setCell ⟨wa.heap.size + 1, 2, none⟩ (.slice A6 (ml.length + 1) c6)) from
                            ⟨j + 1, _, rfl, by simp only; omega, by simp only; omega, rfl, by simp only; rw [Hwt.out]; exact hm6, hb4.trans hb6⟩)
                          clear hrun hm hb4 hin5 e0 e1 e2 e3 e4 hgot hgw hm6 hb6 hne hc5 Hwt hml hbd
                          go_wp2_with fail
                          refine region_S (fun w' => w'.cell? ⟨wa.heap.size + 1, 2, none⟩ = some (.slice Am ml.length cm) ∧ w'.cell? ⟨b5, off5 + j * 5 + 1, none⟩ = some (str qf) ∧ w'.cell? ⟨b5, off5 + j * 5 + 3, none⟩ = some (str qb)) [18] (by kernel_rfl) ?_
                          rw [hWd]
                          refine anyS_take 0 (v := .pointer (some ⟨wa.heap.size + 1, 2, none⟩)) rfl (by kernel_rfl) (by kernel_rfl) (by kernel_rfl) (by kernel_rfl) (fun _ _ _ h => h) (.inl ⟨by kernel_rfl, fun w' hS' => by kernel_rfl⟩) hS0 ?_
                          refine anyS_take 1 (v := .slice Am ml.length cm) rfl (by kernel_rfl) (by kernel_rfl) (by kernel_rfl) (by kernel_rfl) (fun _ _ _ h => h) (.inl ⟨by kernel_rfl, fun w' hS' => by obtain ⟨s0, s1, s2⟩ := hS'; go_simp⟩) hS0 ?_
                          refine anyS_take 2 (v := .int .i64 (j : Int)) rfl (by kernel_rfl) (by kernel_rfl) (by kernel_rfl) (by kernel_rfl) (fun _ _ _ h => h) (.inl ⟨by kernel_rfl, fun w' hS' => by kernel_rfl⟩) hS0 ?_
                          refine anyS_take 3 (v := .int .i64 ((j : Int) + 1)) rfl (by kernel_rfl) (by kernel_rfl) (by kernel_rfl) (by kernel_rfl) (fun _ _ _ h => h) (.inl ⟨by kernel_rfl, fun w' hS' => by go_simp⟩) hS0 ?_
                          go_simp
                          refine anyS_take 4 (v := .slice (some ⟨b5, off5, none⟩) acc.length c4) rfl (by kernel_rfl) (by kernel_rfl) (by kernel_rfl) (by kernel_rfl) (fun _ _ _ h => h) (.inl ⟨by kernel_rfl, fun w' hS' => by kernel_rfl⟩) hS0 ?_
                          refine anyS_take 5 (v := .int .i64 (j : Int)) rfl (by kernel_rfl) (by kernel_rfl) (by kernel_rfl) (by kernel_rfl) (fun _ _ _ h => h) (.inl ⟨by kernel_rfl, fun w' hS' => by kernel_rfl⟩) hS0 ?_
                          go_simp
                          refine anyS_take 6 (v := .pointer (some ⟨b5, off5 + j * 5, none⟩)) rfl (by kernel_rfl) (by kernel_rfl) (by kernel_rfl) (by kernel_rfl) (fun _ _ _ h => h) (.inl ⟨by kernel_rfl, fun w' hS' => by go_simp⟩) hS0 ?_
                          refine anyS_take 7 (v := .pointer (some ⟨b5, off5 + j * 5 + 1, none⟩)) rfl (by kernel_rfl) (by kernel_rfl) (by kernel_rfl) (by kernel_rfl) (fun _ _ _ h => h) (.inl ⟨by kernel_rfl, fun w' hS' => by go_simp⟩) hS0 ?_
                          go_simp
                          refine anyS_take 8 (v := str qf) rfl (by kernel_rfl) (by kernel_rfl) (by kernel_rfl) (by kernel_rfl) (fun _ _ _ h => h) (.inl ⟨by kernel_rfl, fun w' hS' => by obtain ⟨s0, s1, s2⟩ := hS'; go_simp⟩) hS0 ?_
                          refine anyS_take 9 (v := .slice (some ⟨b5, off5, none⟩) acc.length c4) rfl (by kernel_rfl) (by kernel_rfl) (by kernel_rfl) (by kernel_rfl) (fun _ _ _ h => h) (.inl ⟨by kernel_rfl, fun w' hS' => by kernel_rfl⟩) hS0 ?_
                          go_simp
                          refine anyS_take 10 (v := .int .i64 (j : Int)) rfl (by kernel_rfl) (by kernel_rfl) (by kernel_rfl) (by kernel_rfl) (fun _ _ _ h => h) (.inl ⟨by kernel_rfl, fun w' hS' => by kernel_rfl⟩) hS0 ?_
                          refine anyS_take 11 (v := .pointer (some ⟨b5, off5 + j * 5, none⟩)) rfl (by kernel_rfl) (by kernel_rfl) (by kernel_rfl) (by kernel_rfl) (fun _ _ _ h => h) (.inl ⟨by kernel_rfl, fun w' hS' => by go_simp⟩) hS0 ?_
                          go_simp
                          refine anyS_take 12 (v := .pointer (some ⟨b5, off5 + j * 5 + 3, none⟩)) rfl (by kernel_rfl) (by kernel_rfl) (by kernel_rfl) (by kernel_rfl) (fun _ _ _ h => h) (.inl ⟨by kernel_rfl, fun w' hS' => by go_simp⟩) hS0 ?_
                          refine anyS_take 13 (v := str qb) rfl (by kernel_rfl) (by kernel_rfl) (by kernel_rfl) (by kernel_rfl) (fun _ _ _ h => h) (.inl ⟨by kernel_rfl, fun w' hS' => by obtain ⟨s0, s1, s2⟩ := hS'; go_simp⟩) hS0 ?_
                          go_simp
                          refine anyS_one 14 rfl (by kernel_rfl) rfl ?_
                          intro K14 hK14
                          go_simp
                          refine hK14 _ _ ⟨fun _ => hS0, ?_⟩
                          refine anyS_one 15 rfl (by kernel_rfl) rfl ?_
                          intro K15 hK15
                          go_simp
                          refine hK15 _ _ ⟨fun _ => hS1, ?_⟩
                          refine anyS_one 16 rfl (by kernel_rfl) rfl ?_
                          intro K16 hK16
                          refine oper_app _ _ _ rfl _ _ (by rfl) (by rfl) hrun' ?_
                          refine hK16 _ _ ⟨fun _ => hS2, ?_⟩
                          refine anyS_one 17 rfl (by kernel_rfl) rfl ?_
                          intro K17 hK17
                          go_simp
                          refine hK17 _ _ ⟨fun _ => hS2, ?_⟩
                          refine anyS_one 18 rfl (by kernel_rfl) rfl ?_
                          intro K18 hK18
                          have c0 := hS2.1
                          go_simp
                          refine hK18 _ _ ⟨fun h => absurd (List.mem_singleton.2 rfl) h, ?_⟩
                          refine anyS_done (by kernel_rfl) ?_
                          clear hK14 hK15 hK16 hK17 hK18 hS0 hS1 hS2 hrun' c0 f2
                          go_wp2_with fail
                          go_roundg (acc.length - (j + 1))
                          case measure => have := Hgk3.out; omega
                          case rel => exact Hfin.out
                        · have hji : ¬ (j : Int) < (acc.length : Int) := by omega
                          obtain rfl : j = acc.length := by omega
                          have HB := Lib.hid (show RbC w wa.heap.size ⟨acc, gone, sh⟩ ⟨2, pf, pn, pb, (sq : Int)⟩ out vo (.slice A4 acc.length c4) (.int .i64 (g2 : Int)) (.bool sh) wr from
                            ⟨0, mlF g2 (acc.drop g2), vm, by rw [HG.out]; have := Hm3.out; rwa [List.take_length] at this, by rw [HG.out], by rw [HG.out], by rw [HG.out]; rfl, Hb3.out⟩)
                          go_wp2_with fail
                          go_meet
                          exact HB.out
                · as_aux_lemma =>
                  have b2 : (pk == 2) = false := by simpa using k2
                  have b2n : (pk != 2) = true := by simpa using k2
                  by_cases k3 : pk = 3
                  · subst k3
                    have hx : execB ⟨acc, gone, sh⟩ ⟨3, pf, pn, pb, pq⟩ = ([], shutR ⟨acc, gone, sh⟩) := by unfold execB; simp
                    have Hx := Lib.hid hx
                    clear hx b1 b1n k1 b2 b2n k2
                    cases sh with
                    | true =>
                      have HB := Lib.hid (Bad.out 8 (by decide) (by rw [Hx.out]; rfl))
                      clear Bad
                      go_wp2_with fail
                      go_meet
                      exact HB.out
                    | false =>
                      have HG := Lib.hid (got_ok (s := ⟨acc, gone, false⟩) (p := ⟨3, pf, pn, pb, pq⟩) (m := []) (s' := ⟨acc, acc.length, true⟩) (by rw [Hx.out]; rfl))
                      have HB := Lib.hid (show RbC w wa.heap.size ⟨acc, gone, false⟩ ⟨3, pf, pn, pb, pq⟩ out vo (.slice A4 acc.length c4) (.int .i64 (acc.length : Int)) (.bool true) Wx from
                        ⟨0, [], .slice none 0 0, by rw [HG.out]; exact HM2.out, by rw [HG.out], by rw [HG.out], by rw [HG.out]; rfl, Hbw.out⟩)
                      clear Bad
                      go_wp2_with fail
                      go_meet
                      exact HB.out
                  · have b3 : (pk == 3) = false := by simpa using k3
                    have b3n : (pk != 3) = true := by simpa using k3
                    have HB := Lib.hid (Bad.out 3 (by decide) (by unfold execB; rw [if_neg k1, if_neg k2, if_neg k3]))
                    clear Bad
                    go_wp2_with fail
                    go_meet
                    exact HB.out
            case rest =>
              as_aux_lemma =>
              obtain ⟨cd, ml, vm, hm, rfl, rfl, hcode, hbe⟩ := hcut
              have Hcode := Lib.hid hcode
              have Hbe3 := Lib.hid hbe
              obtain ⟨A5, c5, hv5, -⟩ := LIn.own ptL_len hm.re
              subst hv5
              have Hm := Lib.hid hm
              have k0 : wc.cell? ⟨wa.heap.size + 1, 0, none⟩ = some (.int .i64 cd) := hm.got.cell 0
              have hgl := hm.got.lt
              clear hcode hbe hm Hin6 HM2 y0 y1 y2 y3 y4
              generalize gotB ⟨acc, gone, sh⟩ ⟨pk, pf, pn, pb, pq⟩ = R at *
              obtain ⟨rg, ⟨racc, rgone, rsh⟩⟩ := R
              simp only at Hcode Hm HT hgrow ⊢
              have hle : racc.length ≤ 200 := by omega
              by_cases hc : cd = 0
              · subst hc
                have kf := Hm.out.got.frozen 1
                have k1 : wc.cell? ⟨wa.heap.size + 1, 1, none⟩ = some (.int .i64 0) := Hm.out.got.cell 1
                have hm2 := Hm.out.next (racc.length : Int)
                have hb2 : Below w.heap.size w (wc.setCell ⟨wa.heap.size + 1, 1, none⟩ (.int .i64 (racc.length : Int))) := Hbe3.out.setCell (p := ⟨wa.heap.size + 1, 1, none⟩) (by have := Hm.out.lo; show w.heap.size ≤ wa.heap.size + 1; omega) _
                obtain ⟨we, hwe⟩ : ∃ we, wc.setCell ⟨wa.heap.size + 1, 1, none⟩ (.int .i64 (racc.length : Int)) = we := ⟨_, rfl⟩
                rw [hwe] at hm2 hb2
                have z0 : we.cell? ⟨wa.heap.size + 1, 0, none⟩ = some (.int .i64 0) := hm2.got.cell 0
                have z1 : we.cell? ⟨wa.heap.size + 1, 1, none⟩ = some (.int .i64 (racc.length : Int)) := hm2.got.cell 1
                have z2 : we.cell? ⟨wa.heap.size + 1, 2, none⟩ = some vm := hm2.got.cell 2
                obtain ⟨v', wf, hrun, hre', hgs', hbf⟩ := hm2.pushO (by omega) #[.int .i64 0, .int .i64 (racc.length : Int), vm] rfl
                obtain ⟨Am, cm, hvm, -⟩ := own_form hm2.rm
                subst hvm
                have Hrun := Lib.hid hrun
                have Hre' := Lib.hid hre'
                have Hgs' := Lib.hid hgs'
                have Hbf := Lib.hid (hb2.trans hbf)
                have HTf := Lib.hid (show gotsB bs0 (ps.take (i + 1)) = (out ++ [⟨0, (racc.length : Int), ml⟩], ⟨racc, rgone, rsh⟩) by rw [HT.out, Hcode.out]; rfl)
                clear hrun hre' hgs' hbf hm2 hb2 Hcode HT
                go_wp2_with (first | (at_builtin; refine bx_app rfl _ _ _ rfl _ _ (by rfl) (by rfl) Hrun.out ?_; clear Hrun) | fail)
                go_roundg (n - (i + 1))
                case measure => have := Hgk.out; omega
                case rel => exact ⟨i + 1, by go_num, by omega, rfl, by rw [HTf.out], by rw [HTf.out], by rw [HTf.out]; exact Hre'.out, by rw [HTf.out]; exact Hgs'.out, Hbf.out⟩
              · have hc1 : (cd == 0) = false := by simpa using hc
                have z1 : wc.cell? ⟨wa.heap.size + 1, 1, none⟩ = some (.int .i64 0) := Hm.out.got.cell 1
                have z2 : wc.cell? ⟨wa.heap.size + 1, 2, none⟩ = some vm := Hm.out.got.cell 2
                obtain ⟨v', wf, hrun, hre', hgs', hbf⟩ := Hm.out.pushO (by omega) #[.int .i64 cd, .int .i64 0, vm] rfl
                obtain ⟨Am, cm, hvm, -⟩ := own_form Hm.out.rm
                subst hvm
                have Hrun := Lib.hid hrun
                have Hre' := Lib.hid hre'
                have Hgs' := Lib.hid hgs'
                have Hbf := Lib.hid (Hbe3.out.trans hbf)
                have HTf := Lib.hid (show gotsB bs0 (ps.take (i + 1)) = (out ++ [⟨cd, 0, ml⟩], ⟨racc, rgone, rsh⟩) by rw [HT.out, Hcode.out, if_neg hc])
                clear hrun hre' hgs' hbf Hcode HT
                go_wp2_with (first | (at_builtin; refine bx_app rfl _ _ _ rfl _ _ (by rfl) (by rfl) Hrun.out ?_; clear Hrun) | fail)
                go_roundg (n - (i + 1))
                case measure => have := Hgk.out; omega
                case rel => exact ⟨i + 1, by go_num, by omega, rfl, by rw [HTf.out], by rw [HTf.out], by rw [HTf.out]; exact Hre'.out, by rw [HTf.out]; exact Hgs'.out, Hbf.out⟩
      · have hii : ¬ (i : Int) < (n : Int) := by omega
        have hte : ps.take i = ps := List.take_of_length_le (by rw [Hln.out]; omega)
        have hro := Hro.out
        rw [hte] at hro
        obtain ⟨A2, c2, hv, hli⟩ := hro.form
        subst hv
        have Hli := Lib.hid hli
        clear hli hro hte Hro Hre
        generalize (gotsB bs0 ps).1 = Q at *
        generalize hql : Q.length = q at *
        go_wp2_with fail
        go_ret2
        rw [HE.out]
        subst hql
        exact ⟨A2, c2, rfl, Hli.out, Hbe.out⟩
end Go.Proofs.Ytgckihglgnbaoaa
