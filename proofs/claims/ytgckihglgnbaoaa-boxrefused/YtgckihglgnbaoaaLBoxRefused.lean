/- Proved here: posts with errors have no effect, and at most ten messages wait (statement BoxRefused). No condition. -/
import Derived.Test.YtgckihglgnbaoaaBxPd
import Derived.Test.YtgckihglgnbaoaaOpenI
import Derived.HandedShaped
import Derived.StillTailTactics
namespace Go.Proofs.Ytgckihglgnbaoaa
set_option linter.unusedVariables false
set_option linter.unusedSimpArgs false
open Go.RowKit
def okG (g : Gt) : Bool := decide (g.code = 0)
/-- The posts that are answered with no error. -/
def okB (s : Bs) : List Pt → List Pt
  | [] => []
  | p :: l => if (gotB s p).1.code = 0 then p :: okB (gotB s p).2 l else okB (gotB s p).2 l
theorem okB_cons (s : Bs) (p : Pt) (l : List Pt) : okB s (p :: l) = if (gotB s p).1.code = 0 then p :: okB (gotB s p).2 l else okB (gotB s p).2 l := rfl
theorem okB_R : ∀ (l : List Pt) (s : Bs), gotsB s (okB s l) = ((gotsB s l).1.filter okG, (gotsB s l).2)
  | [], _ => rfl
  | p :: l, s => by
    rw [okB_cons]
    by_cases h : (gotB s p).1.code = 0
    · rw [if_pos h]
      have ih := okB_R l (gotB s p).2
      show ((gotB s p).1 :: (gotsB (gotB s p).2 (okB (gotB s p).2 l)).1, (gotsB (gotB s p).2 (okB (gotB s p).2 l)).2) = (((gotB s p).1 :: (gotsB (gotB s p).2 l).1).filter okG, _)
      rw [ih, List.filter_cons_of_pos (by simp [okG, h])]
      rfl
    · rw [if_neg h]
      have ih := okB_R l (gotB s p).2
      rw [got_bad h] at ih ⊢
      show _ = (((gotB s p).1 :: (gotsB (gotB s p).2 l).1).filter okG, (gotsB (gotB s p).2 l).2)
      rw [List.filter_cons_of_neg (by simp [okG, h]), got_bad h]
      exact ih
theorem okB_app : ∀ (l m : List Pt) (s : Bs), okB s (l ++ m) = okB s l ++ okB (gotsB s l).2 m
  | [], _, _ => rfl
  | p :: l, m, s => by
    show okB s (p :: (l ++ m)) = okB s (p :: l) ++ okB (gotsB (gotB s p).2 l).2 m
    rw [okB_cons, okB_cons, okB_app l m]
    by_cases h : (gotB s p).1.code = 0
    · rw [if_pos h, if_pos h]; rfl
    · rw [if_neg h, if_neg h]
theorem okB_len : ∀ (l : List Pt) (s : Bs), (okB s l).length ≤ l.length
  | [], _ => Nat.le_refl _
  | p :: l, s => by
    rw [okB_cons]
    have := okB_len l (gotB s p).2
    split <;> simp <;> omega
theorem okB_mem : ∀ (l : List Pt) (s : Bs) (q : Pt), q ∈ okB s l → q ∈ l
  | [], _, _, h => h
  | p :: l, s, q, h => by
    rw [okB_cons] at h
    have ih := okB_mem l (gotB s p).2 q
    split at h
    · rcases List.mem_cons.1 h with rfl | h
      · simp
      · exact List.mem_cons_of_mem _ (ih h)
    · exact List.mem_cons_of_mem _ (ih h)
theorem gots_get {ps : List Pt} {i : Nat} (hi : i < ps.length) (hi2 : i < (gotsB bs0 ps).1.length) : (gotsB bs0 ps).1[i] = (gotB (gotsB bs0 (ps.take i)).2 ps[i]).1 := by
  have h := gots_at bs0 hi
  rw [List.getElem?_eq_getElem hi2] at h
  exact Option.some.inj h
theorem okB_step {ps : List Pt} {i : Nat} (hi : i < ps.length) (hi2 : i < (gotsB bs0 ps).1.length) : okB bs0 (ps.take (i + 1)) = okB bs0 (ps.take i) ++ (if (gotsB bs0 ps).1[i].code = 0 then [ps[i]] else []) := by
  rw [List.take_succ_eq_append_getElem hi, okB_app, gots_get hi hi2, okB_cons]
  rfl
theorem mail_ten {ps : List Pt} {i : Nat} (hi2 : i < (gotsB bs0 ps).1.length) : (gotsB bs0 ps).1[i].mail.length ≤ 10 := by
  have hi : i < ps.length := by rw [gotsB_len] at hi2; exact hi2
  rw [gots_get hi hi2]
  exact got_mail (Bs.ten.gots _ ten0) _
/-- Results in a row of the call's own; their messages lie below block B. -/
def GsP (w : World) (base B : Nat) (v : Value) (l : List Gt) : Prop := ∃ pc, w.ownsRow base 36 3 v l.length pc ∧ Cls (GtI w B) l pc
theorem GsP.form {w : World} {base B : Nat} {v : Value} {l : List Gt} (h : GsP w base B v l) (hB : B ≤ w.heap.size) : ∃ A c, v = .slice A l.length c ∧ GsIn w w.heap.size A l.length c l := by
  obtain ⟨pc, h1, h2⟩ := h
  obtain ⟨A, c, rfl, hA⟩ := own_form h1
  refine ⟨A, c, rfl, rfl, ?_, fun h => (hA h).2, pc, Holds.own h1, h2.imp fun x c hx => hx.wider hB⟩
  rcases h1.2 with ⟨hv, hn⟩ | ⟨g, cap, cur, hv, _, _, hnc, _⟩
  · omega
  · injection hv with _ _ hc; omega
theorem GsP.below {w w' : World} {base B : Nat} {v : Value} {l : List Gt} (h : GsP w base B v l) (hb : Below w.heap.size w w') (hB : B ≤ w.heap.size) : GsP w' base B v l := by
  obtain ⟨pc, h1, h2⟩ := h
  exact ⟨pc, own_below h1 hb, h2.imp fun x c hx => hx.below (hb.mono hB)⟩
theorem GsP.put {W : World} {base B : Nat} {v : Value} {l : List Gt} (h : GsP W base B v l) (hB : B ≤ base) (x : Gt) (A : Option Addr) (c : Nat) (hx : LIn mlL 3 W B A x.mail.length c x.mail) (hn : l.length + 1 ≤ 1048576) (hb : base ≤ W.heap.size)
    (cs : Array Value) (hcs : cs = #[.int .i64 x.code, .int .i64 x.next, .slice A x.mail.length c]) :
    ∃ v' wf, (Builtin.append_ #[31, 31] 31 #[v, .slice (some ⟨W.heap.size, 0, none⟩) 1 1]).run Try.prog (W.alloc (.cells cs 36)) = .ok v' wf ∧
      GsP wf base B v' (l ++ [x]) ∧ W.grownBy wf v.ownBlock ∧ Below base W wf := by
  subst hcs
  obtain ⟨i0, hi0, hz0, hzs, hzb⟩ := info_parts info_got
  obtain ⟨pc, h1, h2⟩ := h
  have hx1 : GtI W B x [.int .i64 x.code, .int .i64 x.next, .slice A x.mail.length c] := ⟨A, c, rfl, hx⟩
  have hBk := Blk.new W 36 #[.int .i64 x.code, .int .i64 x.next, .slice A x.mail.length c]
  have hh : Holds (W.alloc (.cells #[.int .i64 x.code, .int .i64 x.next, .slice A x.mail.length c] 36)) (W.heap.size + 1) 3 (some ⟨W.heap.size, 0, none⟩) 1 [.int .i64 x.code, .int .i64 x.next, .slice A x.mail.length c] := by
    refine ⟨rfl, fun _ => ⟨W.heap.size, 0, rfl, by omega, fun j u hu => ?_⟩⟩
    rw [Nat.zero_add, hBk.cell j]
    simpa using hu
  obtain ⟨v', wf, k1, k2, k3, k4⟩ := run_app_all (P := Try.prog) (W.alloc (.cells #[.int .i64 x.code, .int .i64 x.next, .slice A x.mail.length c] 36)) 31 31 base 36 i0 _ 3 40 Try.underlying31 hi0 hz0 hzs hzb rfl (by decide) v l.length pc (h1.alloc _) (W.heap.size + 1) (some ⟨W.heap.size, 0, none⟩) 1 1 [.int .i64 x.code, .int .i64 x.next, .slice A x.mail.length c] (fun h => by cases h) hh hx1.one hn (by decide) (by simp; omega)
  have hgw : W.grownBy wf v.ownBlock := (World.grownBy_alloc W _ _).trans k3
  have hbb : Below base W wf := (Below.refl _ _).grown hgw hb fun g hg => (World.ownsRow.lt h1 g hg).1
  exact ⟨v', wf, k1, ⟨pc ++ [.int .i64 x.code, .int .i64 x.next, .slice A x.mail.length c], by simpa using k2, Cls.app (h2.imp fun y cs hy => hy.below (hbb.mono hB)) (Cls.single (hx1.below (hbb.mono hB)))⟩, hgw, hbb⟩
def BrA (W : World) (ps : List Pt) (R : List Gt) (n : Nat) (gk : Nat) (s6 s7 s8 : Value) (wr : World) : Prop :=
  ∃ i : Nat, s8 = .int .i64 (i : Int) ∧ i ≤ n ∧ gk = n - i ∧ wr.ownsRow W.heap.size 43 5 s6 (okB bs0 (ps.take i)).length (pcK ptL (okB bs0 (ps.take i))) ∧ GsP wr W.heap.size W.heap.size s7 ((R.take i).filter okG) ∧ Below W.heap.size W wr
def BrB (W : World) (m : Nat) (gk : Nat) (s11 : Value) (wr : World) : Prop := ∃ i : Nat, s11 = .int .i64 (i : Int) ∧ i ≤ m ∧ gk = m - i ∧ Below W.heap.size W wr
set_option maxHeartbeats 4000000 in
set_option maxRecDepth 100000 in
theorem walkBoxRefused (A0 : Option Addr) (n0 c0 : Nat) (w : World) (hx0 : IntsAt w w.heap.size A0 n0 c0) (hsh : w.ShapedOpen Try.prog) :
    Calls Try.prog 7 #[.slice A0 n0 c0] w fun e w' => e = .returned (.bool true) ∧ Below w.heap.size w w' := by
  have hg := Gl.of hsh
  have H1 := Lib.hid (posts_any A0 n0 c0 w.heap.size 90 w hx0 (Nat.le_refl _) (by decide))
  have Hg := Lib.hid hg
  clear hx0 hsh hg
  go_enter Try.func7, Try.ntmps7
  go_wp2_with fail
  refine H1.out.mono ?_
  rintro e w1 ⟨v1, ps, rfl, ho1, hlen, hok, b1⟩
  obtain ⟨A1, c1, rfl, hin1⟩ := LIn.own ptL_len ho1
  have hokp : ∀ p ∈ ps, PtOk p := fun p hp => okP_ok (hok p hp)
  have H2 := Lib.hid (posted_any A1 ps.length c1 _ ps w1 hin1 (Nat.le_refl _) (by omega) (Hg.out.below b1) hokp)
  unfold PdPost at H2
  obtain ⟨n, hn⟩ : ∃ n, ps.length = n := ⟨_, rfl⟩
  have hn90 : n ≤ 90 := by omega
  rw [hn] at H2 hin1 ⊢
  have Hn := Lib.hid hn
  have Hin1 := Lib.hid hin1
  have Hokp := Lib.hid hokp
  have B1 := Lib.hid b1
  have HRl : Hid ((gotsB bs0 ps).1.length = n) := Lib.hid (by rw [gotsB_len, hn])
  have HR := Lib.hid (okB_R ps bs0)
  have HSt := Lib.hid (fun i (hi : i < ps.length) (hi2 : i < (gotsB bs0 ps).1.length) => okB_step hi hi2)
  have HTen := Lib.hid (fun i (hi2 : i < (gotsB bs0 ps).1.length) => mail_ten hi2)
  clear ho1 hlen hok b1 hin1 hokp hn H1
  generalize hR : (gotsB bs0 ps).1 = R at *
  clear hR
  go_wp2_with fail
  refine H2.out.mono ?_
  rintro e w2 ⟨A2, c2, rfl, hin2, b2⟩
  have Hin2 := Lib.hid hin2
  have Hin12 := Lib.hid ((Hin1.out.below b2).wider b2.size)
  have B2 := Lib.hid (B1.out.trans (b2.mono B1.out.size))
  clear hin2 b2 H2 Hin1
  go_wp2_with fail
  go_loopg [6, 7, 8] n (BrA w2 ps R n)
  case atStart => exact ⟨0, rfl, Nat.zero_le _, by omega, World.ownsRow_nil _ _ _ _, ⟨[], World.ownsRow_nil _ _ _ _, Cls.nil⟩, Below.refl _ _⟩
  case round =>
    obtain ⟨i, rfl, hi, hgk, ho6, ho7, hbe⟩ := hrel
    have Hgk := Lib.hid hgk
    have Ho6 := Lib.hid ho6
    have Ho7 := Lib.hid ho7
    have Hbe := Lib.hid hbe
    clear hgk ho6 ho7 hbe
    by_cases hin : i < n
    · have hii : (i : Int) < (n : Int) := by omega
      have hil : i < ps.length := by rw [Hn.out]; exact hin
      have hir : i < R.length := by rw [HRl.out]; exact hin
      obtain ⟨bp, op, hA1, hbp, d0, d1, d2, d3, d4⟩ := pt_at (Hin12.out.below Hbe.out) hil
      obtain ⟨bg, og, Am, cm, hA2, hbg, hml, e0, e1, e2⟩ := (Hin2.out.below Hbe.out).at_ hir
      subst hA1 hA2
      have hstep := HSt.out i hil hir
      have hten := HTen.out i hir
      have hfl : (R.take (i + 1)).filter okG = (R.take i).filter okG ++ (if R[i].code = 0 then [R[i]] else []) := by
        rw [List.take_succ_eq_append_getElem hir, List.filter_append]
        congr 1
        by_cases h : R[i].code = 0 <;> simp [okG, h]
      have hl1 : ((R.take i).filter okG).length ≤ i := by
        have := List.length_filter_le okG (R.take i)
        rw [List.length_take] at this; omega
      have hl2 : (okB bs0 (ps.take i)).length ≤ i := by
        have := okB_len (ps.take i) bs0
        rw [List.length_take] at this; omega
      obtain ⟨⟨pk, pf, pn, pb, pq⟩, hpi⟩ : ∃ q, ps[i] = q := ⟨_, rfl⟩
      obtain ⟨⟨gc, gx, gm⟩, hgi⟩ : ∃ q, R[i] = q := ⟨_, rfl⟩
      rw [hpi] at d0 d1 d2 d3 d4 hstep
      rw [hgi] at e0 e1 e2 hml hstep hten hfl
      simp only at d0 d1 d2 d3 d4 e0 e1 e2 hml hstep hten hfl
      have hten2 : ¬ (10 : Int) < (gm.length : Int) := by omega
      have hbpw : bp < wr.heap.size := by have := Hbe.out.size; omega
      have hbgw : bg < wr.heap.size := by have := Hbe.out.size; omega
      have Hstep := Lib.hid hstep
      have Hfl := Lib.hid hfl
      have Hml := Lib.hid hml
      clear hpi hgi hstep hfl hml hten
      by_cases hc : gc = 0
      · subst hc
        rw [if_pos rfl] at Hstep Hfl
        obtain ⟨v6, w6, hrun6, ho6', hg6, -⟩ := run_app_el (P := Try.prog) (enc := ptL) ptL_len ptL_one (by omega) Try.underlying30 info_post rfl (by omega) wr w2.heap.size _ u6 _ ⟨pk, pf, pn, pb, pq⟩ #[.int .i64 pk, str pf, .int .i64 pn, str pb, .int .i64 pq] rfl Ho6.out (by omega) Hbe.out.size
        have hg6' : wr.grownBy w6 u6.ownBlock := (World.grownBy_alloc wr _ _).trans hg6
        have hb6 : Below w2.heap.size wr w6 := (Below.refl _ _).grown hg6' Hbe.out.size fun g hg => (World.ownsRow.lt Ho6.out g hg).1
        have ho76 : GsP w6 w2.heap.size w2.heap.size u7 ((R.take i).filter okG) := by
          obtain ⟨pc, h1, h2⟩ := Ho7.out
          exact ⟨pc, own_apart h1 hg6' fun g h1' h2' => (apt_types h1 Ho6.out (by decide)) g h1' h2', h2.imp fun x c hx => hx.below hb6⟩
        have f0 : w6.cell? ⟨bg, og + i * 3, none⟩ = some (.int .i64 0) := (hb6.cell (p := ⟨bg, og + i * 3, none⟩) hbg).trans e0
        have f1 : w6.cell? ⟨bg, og + i * 3 + 1, none⟩ = some (.int .i64 gx) := (hb6.cell (p := ⟨bg, og + i * 3 + 1, none⟩) hbg).trans e1
        have f2 : w6.cell? ⟨bg, og + i * 3 + 2, none⟩ = some (.slice Am gm.length cm) := (hb6.cell (p := ⟨bg, og + i * 3 + 2, none⟩) hbg).trans e2
        obtain ⟨v7, w7, hrun7, ho7', hg7, hb7⟩ := ho76.put (Nat.le_refl _) ⟨0, gx, gm⟩ Am cm (Hml.out.below hb6) (by omega) (Nat.le_trans Hbe.out.size hb6.size) #[.int .i64 0, .int .i64 gx, .slice Am gm.length cm] rfl
        have ho67 : w7.ownsRow w2.heap.size 43 5 v6 ((okB bs0 (ps.take i)).length + 1) (pcK ptL (okB bs0 (ps.take i) ++ [⟨pk, pf, pn, pb, pq⟩])) := by
          obtain ⟨pc, h1, h2⟩ := ho76
          exact own_apart ho6' hg7 fun g h1' h2' => (apt_types ho6' h1 (by decide)) g h1' h2'
        have hlo : (okB bs0 (ps.take i) ++ [(⟨pk, pf, pn, pb, pq⟩ : Pt)]).length = (okB bs0 (ps.take i)).length + 1 := by simp
        have Hrun6 := Lib.hid hrun6
        have Hrun7 := Lib.hid hrun7
        have Ho67 := Lib.hid (show w7.ownsRow w2.heap.size 43 5 v6 (okB bs0 (ps.take (i + 1))).length (pcK ptL (okB bs0 (ps.take (i + 1)))) by rw [Hstep.out, hlo]; exact ho67)
        have Ho77 := Lib.hid (show GsP w7 w2.heap.size w2.heap.size v7 ((R.take (i + 1)).filter okG) by rw [Hfl.out]; exact ho7')
        have Hb7 := Lib.hid ((Hbe.out.trans hb6).trans hb7)
        have hbg6 : bg < w6.heap.size := by have := hb6.size; omega
        clear hrun6 hrun7 ho6' hg6 hg6' hb6 ho76 ho7' hg7 hb7 ho67 hlo
        go_wp2_with (first | (at_builtin; refine bx_app rfl _ _ _ rfl _ _ (by rfl) (by rfl) Hrun6.out ?_; clear Hrun6) | (at_builtin; refine bx_app rfl _ _ _ rfl _ _ (by rfl) (by rfl) Hrun7.out ?_; clear Hrun7) | fail)
        go_roundg (n - (i + 1))
        case measure => have := Hgk.out; omega
        case rel => exact ⟨i + 1, by go_num, by omega, rfl, Ho67.out, Ho77.out, Hb7.out⟩
      · have hc1 : (gc == 0) = false := by simpa using hc
        rw [if_neg hc, List.append_nil] at Hstep Hfl
        go_wp2_with fail
        go_roundg (n - (i + 1))
        case measure => have := Hgk.out; omega
        case rel => exact ⟨i + 1, by go_num, by omega, rfl, by rw [Hstep.out]; exact Ho6.out, by rw [Hfl.out]; exact Ho7.out, Hbe.out⟩
    · have hii : ¬ (i : Int) < (n : Int) := by omega
      have hte : ps.take i = ps := List.take_of_length_le (by rw [Hn.out]; omega)
      have htr : R.take i = R := List.take_of_length_le (by rw [HRl.out]; omega)
      have ho6 := Ho6.out
      have ho7 := Ho7.out
      rw [hte] at ho6
      rw [htr] at ho7
      obtain ⟨A6, c6, rfl, hin6⟩ := LIn.own ptL_len ho6
      obtain ⟨A7, c7, rfl, hin7⟩ := ho7.form Hbe.out.size
      have hfl1 : (okB bs0 ps).length ≤ 90 := by have := okB_len ps bs0; have := Hn.out; omega
      have H3 := Lib.hid (posted_any A6 _ c6 _ (okB bs0 ps) wr hin6 (Nat.le_refl _) (by omega) (Hg.out.below (B2.out.trans (Hbe.out.mono B2.out.size))) (fun p hp => Hokp.out p (okB_mem _ _ _ hp)))
      unfold PdPost at H3
      have hR := HR.out
      have hR1 : (gotsB bs0 (okB bs0 ps)).1 = R.filter okG := by rw [hR]
      have hml : (okB bs0 ps).length = (R.filter okG).length := by rw [← hR1, gotsB_len]
      rw [hR1, hml] at H3
      rw [hml]
      have hten : ∀ g ∈ R.filter okG, g.mail.length ≤ 10 := fun g hg => by
        have hg1 := (List.mem_filter.1 hg).1
        obtain ⟨j, hj, rfl⟩ := List.getElem_of_mem hg1
        exact HTen.out j hj
      generalize R.filter okG = Q at *
      obtain ⟨m, hm⟩ : ∃ m, Q.length = m := ⟨_, rfl⟩
      rw [hm] at H3 hin7 ⊢
      have Hm := Lib.hid hm
      have Hin7 := Lib.hid hin7
      have Hten := Lib.hid hten
      have hm90 : m ≤ 90 := by omega
      have Hb3 := Lib.hid (B2.out.trans (Hbe.out.mono B2.out.size))
      clear hte htr ho6 ho7 hin6 hin7 hR hR1 hml hm hten Ho6 Ho7 HSt HTen HR Hin2 Hin12 hii Hgk hfl1
      go_wp2_with fail
      refine H3.out.mono ?_
      rintro e w3 ⟨A3, c3, rfl, hin3, b3⟩
      have Hin3 := Lib.hid hin3
      have Hin73 := Lib.hid ((Hin7.out.below b3).wider b3.size)
      have Hb4 := Lib.hid (Hb3.out.trans (b3.mono Hb3.out.size))
      clear hin3 b3 H3 Hin7
      go_wp2_with fail
      go_loopg [11] m (BrB w3 m)
      case atStart => exact ⟨0, rfl, Nat.zero_le _, by omega, Below.refl _ _⟩
      case round =>
        obtain ⟨j, rfl, hj, hgk2, hbe2⟩ := hrel
        have Hgk2 := Lib.hid hgk2
        have Hbe2 := Lib.hid hbe2
        clear hgk2 hbe2
        by_cases hjm : j < m
        · have hji : (j : Int) < (m : Int) := by omega
          have hjl : j < Q.length := by rw [Hm.out]; exact hjm
          obtain ⟨Wd, hWd⟩ : ∃ Wd, wr.drew = Wd := ⟨_, rfl⟩
          have hbd : Below w3.heap.size w3 Wd := by rw [← hWd]; exact below_drewN Hbe2.out 1
          obtain ⟨ba, oa, Aa, ca, hA3, hba, hma, e0, e1, e2⟩ := (Hin3.out.below Hbe2.out).at_ hjl
          obtain ⟨bb, ob, Ab, cb, hA7, hbb, hmb, f0, f1, f2⟩ := (Hin73.out.below Hbe2.out).at_ hjl
          subst hA3 hA7
          have hten := Hten.out Q[j] (List.getElem_mem hjl)
          generalize Q[j] = g at *
          have hbd2 : Below w3.heap.size wr Wd := by rw [← hWd]; exact below_drewN (Below.refl _ _) 1
          have HS := Lib.hid (sameGot_any g Aa Ab ca cb w3.heap.size w3.heap.size Wd (hma.below hbd2) (hmb.below hbd2) hbd.size hbd.size (by omega))
          have Hbd := Lib.hid hbd
          have HWd := Lib.hid hWd
          clear hma hmb hbd hbd2 hten hWd
          obtain ⟨gc, gx, gm⟩ := g
          simp only at e0 e1 e2 f0 f1 f2 HS
          go_wp2_with fail
          go_still_tail 8, (by kernel_rfl)
          change wpList _ _ _ _ _ wr.drew
          rw [HWd.out]
          go_wp2_with fail
          refine HS.out.mono ?_
          rintro e w4 ⟨rfl, hb4⟩
          have Hb5 := Lib.hid (Hbd.out.trans (hb4.mono Hbd.out.size))
          clear hb4 HS
          go_wp2_with fail
          go_roundg (m - (j + 1))
          case measure => have := Hgk2.out; omega
          case rel => exact ⟨j + 1, by go_num, by omega, rfl, Hb5.out⟩
        · have hji : ¬ (j : Int) < (m : Int) := by omega
          go_wp2_with fail
          go_ret
          exact ⟨rfl, Hb4.out.trans (Hbe2.out.mono Hb4.out.size)⟩
namespace boxRefused
open Go.ChangeShapes Go.WideShapes Go.ChangeAt Go.RowKit
theorem own : ownKnob Try.prog.godebug = none := by kernel_rfl
theorem laidOut : laidOutB Try.prog = true := by kernel_rfl
set_option linter.unusedVariables false
set_option maxRecDepth 100000 in
theorem lifted (os : Os) (started : os.Started) (H : Type) (enc : TypeId × Value → H) :
    ReturnsInHanded {} Try.checked os 7 .any (Rows.boxRefusedSpec.pre6 enc Try.prog Try.f7 Rows.boxRefusedRow.domain false) (Rows.boxRefusedSpec.post enc Try.prog Try.f7 false true false false) := by
  refine returnsInHanded_of_change_shaped (C := Try.checked) own started (by kernel_rfl) Try.func7
    (ChangeSpec.witness6 (enc := enc) (C := Try.checked) false ⟨#[], #[.slice none 0 0], []⟩ 8 (by kernel_rfl) (by kernel_rfl) (by kernel_rfl) (by kernel_rfl)) ?_
  intro W base args ds gs before hval0 hW hcnd _ hsh0 _
  have hsh : W.ShapedOpen Try.prog := hsh0
  have hval : ∀ (j : Nat) t v, Try.f7.params[j]? = some t → args[j]? = some v → Value.okWide Try.prog W .any base t v := hval0
  have hW' := hW
  obtain ⟨p, q, hA0, hV, rfl, hfz, hnd⟩ := hW
  have hA : DataW.TrodAll enc Try.prog W 0 (fun _ => true) true Try.f7.params.toList args.toList ds p := hA0
  rw [Try.params7] at hA hval
  obtain ⟨v0, vs0, d0, ds0, p0, q0, hargs, rfl, rfl, h0, rr0⟩ := trodAll_cons hA
  obtain ⟨rfl, rfl, rfl⟩ := trodAll_nil rr0
  obtain rfl : args = #[v0] := by cases args; simp_all
  obtain ⟨rfl, rfl⟩ := trodVars_none hV
  have k0 := h0
  have lt0 : ∀ x ∈ p0, x.block < W.heap.size := by obtain ⟨m, hm⟩ := k0; exact DataW.trod_lt m _ _ _ hm
  obtain ⟨A0, n0, c0, rfl, hx0⟩ := open_intsl Try.underlying40 Try.underlying3 (by kernel_rfl) (hval 0 40 v0 rfl rfl) h0
  clear hA0 hval0
  refine (walkBoxRefused A0 n0 c0 W hx0 hsh).mono fun e W' ⟨he, bel⟩ => ?_
  subst he
  exact ⟨_, rfl, _, _, _, [], _, [], hW', trodAll_mk1 (shut_bool Try.underlying4 _), (trodAll_cons_mk (Below.trod laidOut (by kernel_rfl) (of_decide_eq_true (by kernel_rfl)) k0 bel lt0) trodAll_mk0), rfl, bel.frame _, fun h => by cases h⟩

theorem over : Rows.boxRefusedRow.holds Try.pinned (OpenSpec.ofChange Rows.boxRefusedSpec) :=
  OpenClaim.holds_of_wide 7 Try.f7 rfl rfl rfl rfl rfl rfl rfl ⟨rfl, rfl, rfl, rfl, rfl⟩ rfl rfl rfl rfl rfl (by kernel_rfl) Try.func7 (by kernel_rfl)
    (of_decide_eq_true (by kernel_rfl)) (by unfold Func.isWrapper; first | (rw [if_pos (by decide +kernel)]; kernel_rfl) | (rw [if_neg (by decide +kernel)]; exact ⟨rfl, rfl⟩))
    (fun os started H enc _ => lifted os started H enc)

theorem proved : Rows.BoxRefusedSaid := over
#print axioms proved
end boxRefused
end Go.Proofs.Ytgckihglgnbaoaa
