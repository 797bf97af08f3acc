/- The message box: Play and posted, and that the messages of the results lie in new blocks. -/
import Derived.Test.YtmlgaedhfannmaaBxPd
namespace Go.Proofs.Ytmlgaedhfannmaa
set_option linter.unusedVariables false
set_option linter.unusedSimpArgs false
open Go.RowKit
/-- The messages of the results lie in blocks from lo on. -/
def LoM (w : World) (lo : Nat) (A : Option Addr) (l : List Gt) : Prop := ∀ i, i < l.length → ∀ Am m cm, (∃ b off, A = some ⟨b, off, none⟩ ∧ w.cell? ⟨b, off + i * 3 + 2, none⟩ = some (.slice Am m cm)) → ∀ bm, (Value.slice Am m cm).ownBlock = some bm → lo ≤ bm
theorem LoM.below {w w' : World} {lo B n c : Nat} {A : Option Addr} {l : List Gt} (h : LoM w lo A l) (hg : GsIn w B A n c l) (hb : Below B w w') : LoM w' lo A l := by
  intro i hi Am m cm hc bm hbm
  obtain ⟨b, off, hA, hcell⟩ := hc
  obtain ⟨b', off', _, _, hA', hbB, _⟩ := hg.at_ hi
  rw [hA] at hA'
  injection hA' with hA'
  injection hA' with e1 e2
  subst e1 e2
  exact h i hi Am m cm ⟨b, off, hA, by rw [← hb.cell (p := ⟨b, off + i * 3 + 2, none⟩) hbB]; exact hcell⟩ bm hbm
theorem GsO.lo {w : World} {base : Nat} {vw : Value} {A : Option Addr} {c : Nat} {l : List Gt} (h : GsO w base vw (.slice A l.length c) l) : LoM w base A l := by
  intro i hi Am m cm hc bm hbm
  obtain ⟨b, off, hA, hcell⟩ := hc
  obtain ⟨pc, h1, h2⟩ := h
  obtain ⟨cs, hcs, hat⟩ := h2.at_ (k := 3) (fun x c hx => by obtain ⟨u, rfl, _⟩ := hx; rfl) i hi
  obtain ⟨u, rfl, hu, _⟩ := hcs
  have hh := Holds.own h1
  obtain ⟨b', off', hA', hb', hc'⟩ := hh.2 (by omega)
  rw [hA] at hA'
  injection hA' with hA'
  injection hA' with e1 e2
  subst e1 e2
  have h3 := hc' (i * 3 + 2) u (hat 2 u rfl)
  rw [← Nat.add_assoc, hcell] at h3
  injection h3 with h3
  subst h3
  exact (World.ownsRow.lt hu bm hbm).1
def BPostL (X : List Gt × Int) (w : World) (e : Ending) (w' : World) : Prop :=
  ∃ (A : Option Addr) (c : Nat), e = .returned (.tuple #[.slice A X.1.length c, .int .i64 X.2]) ∧ GsIn w' w'.heap.size A X.1.length c X.1 ∧ LoM w' w.heap.size A X.1 ∧ Below w.heap.size w w'
set_option maxHeartbeats 4000000 in
set_option maxRecDepth 100000 in
theorem bplay_lo (A : Option Addr) (n c B : Nat) (ps : List Pt) (w : World) (hl : LIn ptL 5 w B A n c ps) (hB : B ≤ w.heap.size) (hn : n ≤ 9223372036854775807) (hg : Gl w) (hok : ∀ p ∈ ps, PtOk p) :
    Calls Try.prog 48 #[.slice A n c] w (BPostL (playB ps) w) := by
  have hln := hl.1
  by_cases hbig : 100 < n
  · have HE := Lib.hid (show playB ps = ([], 1) by unfold playB; rw [if_pos (by omega)])
    have hb : (100 : Int) < (n : Int) := by omega
    clear hl hln
    go_enter Try.func48, Try.ntmps48
    go_wp2_with fail
    go_ret2
    rw [HE.out]
    exact ⟨none, 0, rfl, GsIn.nil, (fun i hi => by simp at hi), Below.refl _ _⟩
  · have HE := Lib.hid (show playB ps = ((gotsB bs0 ps).1, 0) by unfold playB; rw [if_neg (by omega)])
    have hb : ¬ (100 : Int) < (n : Int) := by omega
    have Hl := Lib.hid hl
    have Hln := Lib.hid hln
    have Hok := Lib.hid hok
    have Hg := Lib.hid hg
    clear hl hln hok hg
    obtain ⟨w1, hw1⟩ : ∃ w1, w.alloc (.cells #[.slice none 0 0, .slice none 0 0, .bool false] 146) = w1 := ⟨_, rfl⟩
    have hx1 := bxS0 w
    have hb1 : Below w.heap.size w w1 := by rw [← hw1]; exact (Below.refl _ _).alloc (Nat.le_refl _) _
    have hs1 : w1.heap.size = w.heap.size + 1 := by rw [← hw1]; simp
    rw [hw1] at hx1
    obtain ⟨i0, hi0, hz0, hz1, hz2⟩ := info_parts info_got
    obtain ⟨w3, hrun, r1, r2⟩ := run_make_own (P := Try.prog) w1 (w.heap.size + 1) 72 79 i0 _ 3 Try.underlying72 hi0 hz0 hz1 .i64 .i64 n (by rw [hz2]; omega) (by unfold maxLen; omega) (by omega)
    rw [hs1] at hrun r1
    have hb3 : Below w.heap.size w w3 := hb1.grown r2 (by omega) (by simp)
    have Hst := Lib.hid (show BpR w ps n n (.slice (some ⟨w.heap.size + 1, 0, none⟩) 0 n) (.int .i64 0) w3 from
      ⟨0, .slice none 0 0, .slice none 0 0, rfl, Nat.zero_le _, by omega, ⟨[], r1, Cls.nil⟩, hx1.grown r2 (by simp) (by intro g hg; simp [Value.ownBlock] at hg) (by intro g hg; simp [Value.ownBlock] at hg), hb3⟩)
    clear hx1 hb1 r1 r2 hb3 hz0 hz1 hz2 hi0 hs1
    go_enter Try.func48, Try.ntmps48
    go_wp2_with fail
    go_loopg [5, 18] n (BpR w ps n)
    case atStart => exact Hst.out
    case round =>
      clear Hst hrun
      obtain ⟨k, va, vw, rfl, hk, hgk, hgs, hx, hbe⟩ := hrel
      have Hgk := Lib.hid hgk
      have Hgs := Lib.hid hgs
      have Hx := Lib.hid hx
      have Hbe := Lib.hid hbe
      clear hgk hgs hx hbe
      by_cases hkn : k < n
      · have hkl : k < ps.length := by rw [Hln.out]; exact hkn
        have htk : (ps.take k).length = k := by rw [List.length_take]; omega
        have hup : (gotsB bs0 (ps.take k)).2.acc.length ≤ 500 := by
          have := gots_grow (ps.take k) bs0
          rw [htk] at this
          have h0 : bs0.acc.length = 0 := rfl
          omega
        have hfw : (gotsB bs0 (ps.take k)).2.few := Bs.few.gots _ few0
        have hok2 : (gotsB bs0 (ps.take k)).2.ok := Bs.ok.gots _ ok0
        have hglen := gotsB_len (ps.take k) bs0
        rw [htk] at hglen
        have hak := Hok.out ps[k] (List.getElem_mem hkl)
        obtain ⟨b, off, hA, hbB, d0, d1, d2, d3, d4⟩ := pt_at (Hl.out.below (Hbe.out.mono hB)) hkl
        subst hA
        have HT := Lib.hid (show gotsB bs0 (ps.take (k + 1)) = ((gotsB bs0 (ps.take k)).1 ++ [(gotB (gotsB bs0 (ps.take k)).2 ps[k]).1], (gotB (gotsB bs0 (ps.take k)).2 ps[k]).2) by rw [List.take_succ_eq_append_getElem hkl, gotsB_snoc])
        generalize ps[k] = p at *
        generalize gotsB bs0 (ps.take k) = P at *
        obtain ⟨W, hW⟩ : ∃ W, wr.alloc (.cells #[.int .i64 p.kind, str p.frm, .int .i64 p.txn, str p.body, .int .i64 p.since] 76) = W := ⟨_, rfl⟩
        have hWB := Blk.new wr 76 #[.int .i64 p.kind, str p.frm, .int .i64 p.txn, str p.body, .int .i64 p.since]
        have hWb : Below wr.heap.size wr W := by rw [← hW]; exact (Below.refl _ _).alloc (Nat.le_refl _) _
        rw [hW] at hWB
        have x0 : W.cell? ⟨wr.heap.size, 0, none⟩ = some (.int .i64 p.kind) := hWB.cell 0
        have x1 : W.cell? ⟨wr.heap.size, 1, none⟩ = some (str p.frm) := hWB.cell 1
        have x2 : W.cell? ⟨wr.heap.size, 2, none⟩ = some (.int .i64 p.txn) := hWB.cell 2
        have x3 : W.cell? ⟨wr.heap.size, 3, none⟩ = some (str p.body) := hWB.cell 3
        have x4 : W.cell? ⟨wr.heap.size, 4, none⟩ = some (.int .i64 p.since) := hWB.cell 4
        have hWl : wr.heap.size < W.heap.size := hWB.lt
        have HxW := Lib.hid (Hx.out.below hWb)
        have HgW := Lib.hid (Hgs.out.below hWb)
        have hbW := Hbe.out.trans (hWb.mono Hbe.out.size)
        have HC := Lib.hid (result_any w.heap.size P.2 va vw p W HxW.out hok2 hup hfw (Hg.out.below hbW) hak.1 hak.2)
        have Hbe2 := Lib.hid hbW
        have hbw : b < wr.heap.size := by have := Hbe.out.size; omega
        have hi1 : (k : Int) < (n : Int) := by omega
        have Hnn : Hid (P.1.length + 1 ≤ 1048576) := Lib.hid (by omega)
        clear hup hfw hok2 hak hWB hWb Hx Hgs Hbe htk hbW hglen
        generalize gotB P.2 p = X at *
        go_wp2_with fail
        refine HC.out.mono ?_
        rintro e w2 ⟨Am, cm, va', vw', rfl, hx2, hbs2, hna, hnw, hm2, ha2⟩
        have hgs2 := HgW.out.beside HxW.out hbs2 hnw
        have hwW : w.heap.size + 1 ≤ W.heap.size := HxW.out.size
        obtain ⟨⟨gc, gx, gm⟩, sx⟩ := X
        simp only at hx2 hm2 ha2 HT
        obtain ⟨v', wf, hrun, hgs3, hg3, hor⟩ := hgs2.put ⟨gc, gx, gm⟩ (own_le hm2 hwW) ha2 Hnn.out (by have := hbs2.size; omega) #[.int .i64 gc, .int .i64 gx, .slice Am gm.length cm] rfl
        have Hrun := Lib.hid hrun
        obtain ⟨pcr, hor2, -⟩ := hgs2
        have hx3 := hx2.grown hg3 (fun e => by have := (World.ownsRow.lt hor2 _ e.symm).1; omega) (fun g h1 h2 => (apt_types hx2.ra hor2 (by decide)) g h1 h2) (fun g h1 h2 => (apt_types hx2.rw_ hor2 (by decide)) g h1 h2)
        have hb2 : Below w.heap.size w w2 := Hbe2.out.trans (hbs2.below (fun k hN => by
          rcases hN with e | e | e
          · omega
          · have := (World.ownsRow.lt HxW.out.ra _ e).1; omega
          · have := (World.ownsRow.lt HxW.out.rw_ _ e).1; omega) (by omega))
        have Hb3 := Lib.hid (hb2.grown hg3 hb2.size fun g hg => by have := (World.ownsRow.lt hor2 _ hg).1; omega)
        have Hgs3 := Lib.hid hgs3
        have Hx3 := Lib.hid hx3
        clear hx2 hbs2 hna hnw hm2 ha2 hrun hgs3 hg3 hor hor2 hx3 hb2 HC HgW HxW Hbe2
        dsimp only
        generalize gm.length = gl at *
        go_wp2_with (first | (at_builtin; refine bx_app rfl _ _ _ rfl _ _ (by rfl) (by rfl) Hrun.out ?_; clear Hrun) | fail)
        go_roundg (n - (k + 1))
        case measure => have := Hgk.out; omega
        case rel => exact ⟨k + 1, va', vw', by go_num, by omega, rfl, by rw [HT.out]; exact Hgs3.out, by rw [HT.out]; exact Hx3.out, Hb3.out⟩
      · have hte : ps.take k = ps := List.take_of_length_le (by have := Hln.out; omega)
        have hgs := Hgs.out
        rw [hte] at hgs
        obtain ⟨A2, c2, hv, hli⟩ := hgs.form
        subst hv
        have Hlo := Lib.hid hgs.lo
        have Hli := Lib.hid hli
        have hi1 : ¬ (k : Int) < (n : Int) := by omega
        clear hli hgs hte Hgs Hx
        generalize (gotsB bs0 ps).1 = Q at *
        generalize hql : Q.length = q at *
        go_wp2_with fail
        go_ret2
        rw [HE.out]
        subst hql
        exact ⟨A2, c2, rfl, Hli.out, fun i hi Am m cm hc bm hb => Nat.le_of_succ_le (Hlo.out i hi Am m cm hc bm hb), Hbe.out⟩
def PdPostL (ps : List Pt) (w : World) (e : Ending) (w' : World) : Prop :=
  ∃ A c, e = .returned (.tuple #[.slice A ps.length c, .bool true]) ∧ GsIn w' w'.heap.size A ps.length c (gotsB bs0 ps).1 ∧ LoM w' w.heap.size A (gotsB bs0 ps).1 ∧ Below w.heap.size w w'
set_option maxHeartbeats 4000000 in
set_option maxRecDepth 100000 in
theorem posted_lo (A : Option Addr) (n c B : Nat) (ps : List Pt) (w : World) (hl : LIn ptL 5 w B A n c ps) (hB : B ≤ w.heap.size) (hn : n ≤ 100) (hg : Gl w) (hok : ∀ p ∈ ps, PtOk p) :
    Calls Try.prog 29 #[.slice A n c] w (PdPostL ps w) := by
  have hln := hl.1
  obtain ⟨v', wf, hrun, ho, hbf⟩ := posts_copy hl hB (by omega)
  rw [← hln] at ho
  obtain ⟨A1, c1, rfl, hin⟩ := LIn.own ptL_len ho
  rw [hln] at hin
  simp only [hln] at hrun
  have HP := Lib.hid (bplay_lo A1 n c1 wf.heap.size ps wf hin (Nat.le_refl _) (by omega) (hg.below hbf) hok)
  have hpn : playB ps = ((gotsB bs0 ps).1, 0) := by unfold playB; rw [if_neg (by omega)]
  unfold BPostL at HP
  rw [hpn] at HP
  have htl := gotsB_len ps bs0
  rw [hln] at htl
  simp only [htl] at HP
  unfold PdPostL
  rw [hln]
  generalize (gotsB bs0 ps).1 = T at *
  have Hrun := Lib.hid hrun
  have Hbf := Lib.hid hbf
  have Hg := Lib.hid hg
  clear hl hrun hbf hin hpn htl hln ho hok hg
  go_enter Try.func29, Try.ntmps29
  go_wp2_with (first | (at_builtin; refine bx_app rfl _ _ _ rfl _ _ (by rfl) (by rfl) Hrun.out ?_; clear Hrun) | fail)
  refine HP.out.mono ?_
  rintro e w1 ⟨A2, c2, rfl, ht, hlo, hb1⟩
  have Hlo := Lib.hid (show LoM w1 w.heap.size A2 T from fun i hi Am m cm hc bm hb => Nat.le_trans Hbf.out.size (hlo i hi Am m cm hc bm hb))
  have Hb1 := Lib.hid (Hbf.out.trans (hb1.mono Hbf.out.size))
  have Ht := Lib.hid ht
  clear ht hb1 HP hlo
  obtain ⟨W, hW⟩ : ∃ W, w1.alloc (.cells #[.int .i64 1, .string ⟨#[64, 97, 58, 120]⟩, .int .i64 0, .string ⟨#[104, 105]⟩, .int .i64 0, .int .i64 2, .string ⟨#[]⟩, .int .i64 0, .string ⟨#[]⟩, .int .i64 0] 76) = W := ⟨_, rfl⟩
  have hWb : Below w1.heap.size w1 W := by rw [← hW]; exact (Below.refl _ _).alloc (Nat.le_refl _) _
  have hWB := Blk.new w1 76 #[.int .i64 1, .string ⟨#[64, 97, 58, 120]⟩, .int .i64 0, .string ⟨#[104, 105]⟩, .int .i64 0, .int .i64 2, .string ⟨#[]⟩, .int .i64 0, .string ⟨#[]⟩, .int .i64 0]
  rw [hW] at hWB
  have hlit : LIn ptL 5 W W.heap.size (some ⟨w1.heap.size, 0, none⟩) 2 2 [ptA, ptF] := by
    refine ⟨rfl, by omega, (fun h => by cases h), rfl, fun _ => ⟨w1.heap.size, 0, rfl, hWB.lt, fun j u hu => ?_⟩⟩
    rw [Nat.zero_add, hWB.cell j]
    simpa [pcK, ptL, ptA, ptF, str] using hu
  have HQ := Lib.hid (bplay_any _ 2 2 W.heap.size [ptA, ptF] W hlit (Nat.le_refl _) (by omega) (Hg.out.below (Hb1.out.trans (hWb.mono Hb1.out.size))) (by intro p hp; simp at hp; rcases hp with rfl | rfl <;> simp [PtOk, ptA, ptF]))
  unfold BPost at HQ
  rw [pt_two] at HQ
  have Hb2 := Lib.hid (Hb1.out.trans (hWb.mono Hb1.out.size))
  have HWb := Lib.hid hWb
  clear hlit hWb hWB
  go_wp2_with fail
  refine HQ.out.mono ?_
  rintro e w2 ⟨A3, c3, rfl, ht3, hb3⟩
  obtain ⟨b3, off3, Am, cm, hA3, hbb3, -, -, -, hd⟩ := ht3.at_ (i := 1) (by simp)
  subst hA3
  replace hd : w2.cell? ⟨b3, off3 + 1 * 3 + 2, none⟩ = some (.slice Am 1 cm) := hd
  rw [show off3 + 1 * 3 + 2 = off3 + 5 by omega] at hd
  have Hb3 := Lib.hid (Hb2.out.trans (hb3.mono Hb2.out.size))
  have hb13 := HWb.out.trans (hb3.mono HWb.out.size)
  have Hlo3 := Lib.hid (Hlo.out.below Ht.out hb13)
  have Ht3 := Lib.hid ((Ht.out.below hb13).wider hb13.size)
  clear ht3 hb3 hb13 HQ Ht hbb3
  dsimp only [List.length_cons, List.length_nil]
  go_wp2_with fail
  go_quiet (fail)
  go_wp2_with fail
  go_ret2
  exact ⟨A2, c2, rfl, Ht3.out.below (below_drewN (Below.refl _ _) _), Hlo3.out.below Ht3.out (below_drewN (Below.refl _ _) _), below_drewN Hb3.out _⟩
theorem posts_moreG {W : World} {B0 B n c k : Nat} {v : Value} {A : Option Addr} {bs ps : List Pt} (ho : W.ownsRow B0 76 5 v k (pcK ptL bs)) (h : LIn ptL 5 W B A n c ps) (h0 : B0 ≤ W.heap.size) (hn : k + n ≤ 1048576) :
    ∃ v' wf, (Builtin.append_ #[70, 70] 70 #[v, .slice A n c]).run Try.prog W = .ok v' wf ∧ wf.ownsRow B0 76 5 v' (k + n) (pcK ptL (bs ++ ps)) ∧ W.grownBy wf v.ownBlock := by
  obtain ⟨i0, hi0, hz0, hzs, hzb⟩ := info_parts info_post
  obtain ⟨h1, h2, h3, h4⟩ := h
  obtain ⟨v', wf, k1, k2, k3, k4⟩ := run_app_all (P := Try.prog) W 70 70 B0 76 i0 _ 5 56 Try.underlying70 hi0 hz0 hzs hzb rfl (by decide) v k (pcK ptL bs) ho B A n c (pcK ptL ps) h3 h4 (pcK_one ptL_one ps) hn (by decide) h0
  exact ⟨v', wf, k1, by rw [pcK_app]; exact k2, k3⟩
theorem post_moreG {W : World} {B0 k : Nat} {v : Value} {bs : List Pt} (ho : W.ownsRow B0 76 5 v k (pcK ptL bs)) (h0 : B0 ≤ W.heap.size) (p : Pt) (cs : Array Value) (hcs : cs = (ptL p).toArray) (hn : k + 1 ≤ 1048576) :
    ∃ v' wf, (Builtin.append_ #[70, 70] 70 #[v, .slice (some ⟨W.heap.size, 0, none⟩) 1 1]).run Try.prog (W.alloc (.cells cs 76)) = .ok v' wf ∧ wf.ownsRow B0 76 5 v' (k + 1) (pcK ptL (bs ++ [p])) ∧ W.grownBy wf v.ownBlock := by
  obtain ⟨v', wf, hrun, ho', hg, -⟩ := run_app_el (P := Try.prog) (enc := ptL) ptL_len ptL_one (by omega) Try.underlying70 info_post rfl (by omega) W B0 k v bs p cs hcs ho hn h0
  exact ⟨v', wf, hrun, ho', (World.grownBy_alloc W _ _).trans hg⟩
/-- A list that lies in a block that a call left alone. -/
theorem LIn.kept {α : Type} {enc : α → List Value} {k B n c : Nat} {w w' : World} {A : Option Addr} {l : List α} (h : LIn enc k w B A n c l) (hb : ∀ b, (Value.slice A n c).ownBlock = some b → w'.heap[b]? = w.heap[b]?) : LIn enc k w' B A n c l := by
  obtain ⟨h1, h2, h3, h4, h5⟩ := h
  refine ⟨h1, h2, h3, h4, fun hn => ?_⟩
  obtain ⟨b, off, rfl, hB, hc⟩ := h5 hn
  exact ⟨b, off, rfl, hB, fun j u hu => (World.cell?_of_block (hb b rfl)).trans (hc j u hu)⟩
end Go.Proofs.Ytmlgaedhfannmaa
