/- The message box: Play. -/
import Derived.Test.YtmlgaedhfannmaaBxPl
namespace Go.Proofs.Ytmlgaedhfannmaa
set_option linter.unusedVariables false
set_option linter.unusedSimpArgs false
open Go.RowKit
def PtOk (p : Pt) : Prop := p.frm.length ≤ 9223372036854775807 ∧ p.body.length ≤ 9223372036854775807
def playB (ps : List Pt) : List Gt × Int := if 100 < ps.length then ([], 1) else ((gotsB bs0 ps).1, 0)
def BPost (X : List Gt × Int) (w : World) (e : Ending) (w' : World) : Prop :=
  ∃ (A : Option Addr) (c : Nat), e = .returned (.tuple #[.slice A X.1.length c, .int .i64 X.2]) ∧ GsIn w' w'.heap.size A X.1.length c X.1 ∧ Below w.heap.size w w'
def BpR (w : World) (ps : List Pt) (n : Nat) (gk : Nat) (s5 s18 : Value) (wr : World) : Prop :=
  ∃ k va vw, s18 = .int .i64 (k : Nat) ∧ k ≤ n ∧ gk = n - k ∧ GsO wr (w.heap.size + 1) vw s5 (gotsB bs0 (ps.take k)).1 ∧ BxS w.heap.size wr (gotsB bs0 (ps.take k)).2.acc (gotsB bs0 (ps.take k)).2.wait (gotsB bs0 (ps.take k)).2.shut va vw ∧ Below w.heap.size w wr
theorem GsO.below {w w' : World} {base : Nat} {vw v : Value} {l : List Gt} (h : GsO w base vw v l) (hb : Below w.heap.size w w') : GsO w' base vw v l :=
  h.kept (fun _ hr => own_below hr hb) fun _ _ _ _ h => h
/-- The results outlive a turn of the box. -/
theorem GsO.beside {w w' : World} {B : Nat} {acc : List Pt} {wt : List Ml} {sh : Bool} {va vw vw' v : Value} {l : List Gt} (h : GsO w (B + 1) vw v l) (hx : BxS B w acc wt sh va vw) (hb : Beside (BxN B va vw) w w') (hn : NewB w vw vw') : GsO w' (B + 1) vw' v l := by
  refine h.kept (fun he hr => own_kept hr fun g hg => hb.block g (World.ownsRow.lt hr g hg).2 fun hN => ?_) fun u n xs hu ha g hg hg' => ?_
  · rcases hN with e | e | e
    · have := (World.ownsRow.lt hr g hg).1; omega
    · rcases he with ⟨rfl, _⟩ | rfl
      · exact (apt_types hr hx.ra (by decide)) g hg e
      · exact (apt_types hr hx.ra (by decide)) g hg e
    · rcases he with ⟨rfl, ha⟩ | rfl
      · exact ha g hg e
      · exact (apt_types hr hx.rw_ (by decide)) g hg e
  · rcases hn g hg' with e | e
    · exact ha g hg e
    · have := (World.ownsRow.lt hu g hg).2; omega
set_option maxHeartbeats 4000000 in
set_option maxRecDepth 100000 in
theorem bplay_any (A : Option Addr) (n c B : Nat) (ps : List Pt) (w : World) (hl : LIn ptL 5 w B A n c ps) (hB : B ≤ w.heap.size) (hn : n ≤ 9223372036854775807) (hg : Gl w) (hok : ∀ p ∈ ps, PtOk p) :
    Calls Try.prog 48 #[.slice A n c] w (BPost (playB ps) w) := by
  have hln := hl.1
  by_cases hbig : 100 < n
  · have HE := Lib.hid (show playB ps = ([], 1) by unfold playB; rw [if_pos (by omega)])
    have hb : (100 : Int) < (n : Int) := by omega
    clear hl hln
    go_enter Try.func48, Try.ntmps48
    go_wp2_with fail
    go_ret2
    rw [HE.out]
    exact ⟨none, 0, rfl, GsIn.nil, Below.refl _ _⟩
  · have HE := Lib.hid (show playB ps = ((gotsB bs0 ps).1, 0) by unfold playB; rw [if_neg (by omega)])
    have hb : ¬ (100 : Int) < (n : Int) := by omega
    have Hl := Lib.hid hl
    have Hln := Lib.hid hln
    have Hok := Lib.hid hok
    have Hg := Lib.hid hg
    clear hl hln hok hg
    obtain ⟨w1, hw1⟩ : ∃ w1, w.alloc (.cells #[.slice none 0 0, .slice none 0 0, .bool false] 146) = w1 := ⟨_, rfl⟩
    have hx1 := bxS0 w
    have hb1 : Below w.heap.size w w1 := by rw [← hw1]; exact (Below.refl _ _).alloc (Nat.le_refl _) _
    have hs1 : w1.heap.size = w.heap.size + 1 := by rw [← hw1]; simp
    rw [hw1] at hx1
    obtain ⟨i0, hi0, hz0, hz1, hz2⟩ := info_parts info_got
    obtain ⟨w3, hrun, r1, r2⟩ := run_make_own (P := Try.prog) w1 (w.heap.size + 1) 72 79 i0 _ 3 Try.underlying72 hi0 hz0 hz1 .i64 .i64 n (by rw [hz2]; omega) (by unfold maxLen; omega) (by omega)
    rw [hs1] at hrun r1
    have hb3 : Below w.heap.size w w3 := hb1.grown r2 (by omega) (by simp)
    have Hst := Lib.hid (show BpR w ps n n (.slice (some ⟨w.heap.size + 1, 0, none⟩) 0 n) (.int .i64 0) w3 from
      ⟨0, .slice none 0 0, .slice none 0 0, rfl, Nat.zero_le _, by omega, ⟨[], r1, Cls.nil⟩, hx1.grown r2 (by simp) (by intro g hg; simp [Value.ownBlock] at hg) (by intro g hg; simp [Value.ownBlock] at hg), hb3⟩)
    clear hx1 hb1 r1 r2 hb3 hz0 hz1 hz2 hi0 hs1
    go_enter Try.func48, Try.ntmps48
    go_wp2_with fail
    go_loopg [5, 18] n (BpR w ps n)
    case atStart => exact Hst.out
    case round =>
      clear Hst hrun
      obtain ⟨k, va, vw, rfl, hk, hgk, hgs, hx, hbe⟩ := hrel
      have Hgk := Lib.hid hgk
      have Hgs := Lib.hid hgs
      have Hx := Lib.hid hx
      have Hbe := Lib.hid hbe
      clear hgk hgs hx hbe
      by_cases hkn : k < n
      · have hkl : k < ps.length := by rw [Hln.out]; exact hkn
        have htk : (ps.take k).length = k := by rw [List.length_take]; omega
        have hup : (gotsB bs0 (ps.take k)).2.acc.length ≤ 500 := by
          have := gots_grow (ps.take k) bs0
          rw [htk] at this
          have h0 : bs0.acc.length = 0 := rfl
          omega
        have hfw : (gotsB bs0 (ps.take k)).2.few := Bs.few.gots _ few0
        have hok2 : (gotsB bs0 (ps.take k)).2.ok := Bs.ok.gots _ ok0
        have hglen := gotsB_len (ps.take k) bs0
        rw [htk] at hglen
        have hak := Hok.out ps[k] (List.getElem_mem hkl)
        obtain ⟨b, off, hA, hbB, d0, d1, d2, d3, d4⟩ := pt_at (Hl.out.below (Hbe.out.mono hB)) hkl
        subst hA
        have HT := Lib.hid (show gotsB bs0 (ps.take (k + 1)) = ((gotsB bs0 (ps.take k)).1 ++ [(gotB (gotsB bs0 (ps.take k)).2 ps[k]).1], (gotB (gotsB bs0 (ps.take k)).2 ps[k]).2) by rw [List.take_succ_eq_append_getElem hkl, gotsB_snoc])
        generalize ps[k] = p at *
        generalize gotsB bs0 (ps.take k) = P at *
        obtain ⟨W, hW⟩ : ∃ W, wr.alloc (.cells #[.int .i64 p.kind, str p.frm, .int .i64 p.txn, str p.body, .int .i64 p.since] 76) = W := ⟨_, rfl⟩
        have hWB := Blk.new wr 76 #[.int .i64 p.kind, str p.frm, .int .i64 p.txn, str p.body, .int .i64 p.since]
        have hWb : Below wr.heap.size wr W := by rw [← hW]; exact (Below.refl _ _).alloc (Nat.le_refl _) _
        rw [hW] at hWB
        have x0 : W.cell? ⟨wr.heap.size, 0, none⟩ = some (.int .i64 p.kind) := hWB.cell 0
        have x1 : W.cell? ⟨wr.heap.size, 1, none⟩ = some (str p.frm) := hWB.cell 1
        have x2 : W.cell? ⟨wr.heap.size, 2, none⟩ = some (.int .i64 p.txn) := hWB.cell 2
        have x3 : W.cell? ⟨wr.heap.size, 3, none⟩ = some (str p.body) := hWB.cell 3
        have x4 : W.cell? ⟨wr.heap.size, 4, none⟩ = some (.int .i64 p.since) := hWB.cell 4
        have hWl : wr.heap.size < W.heap.size := hWB.lt
        have HxW := Lib.hid (Hx.out.below hWb)
        have HgW := Lib.hid (Hgs.out.below hWb)
        have hbW := Hbe.out.trans (hWb.mono Hbe.out.size)
        have HC := Lib.hid (result_any w.heap.size P.2 va vw p W HxW.out hok2 hup hfw (Hg.out.below hbW) hak.1 hak.2)
        have Hbe2 := Lib.hid hbW
        have hbw : b < wr.heap.size := by have := Hbe.out.size; omega
        have hi1 : (k : Int) < (n : Int) := by omega
        have Hnn : Hid (P.1.length + 1 ≤ 1048576) := Lib.hid (by omega)
        clear hup hfw hok2 hak hWB hWb Hx Hgs Hbe htk hbW hglen
        generalize gotB P.2 p = X at *
        go_wp2_with fail
        refine HC.out.mono ?_
        rintro e w2 ⟨Am, cm, va', vw', rfl, hx2, hbs2, hna, hnw, hm2, ha2⟩
        have hgs2 := HgW.out.beside HxW.out hbs2 hnw
        have hwW : w.heap.size + 1 ≤ W.heap.size := HxW.out.size
        obtain ⟨⟨gc, gx, gm⟩, sx⟩ := X
        simp only at hx2 hm2 ha2 HT
        obtain ⟨v', wf, hrun, hgs3, hg3, hor⟩ := hgs2.put ⟨gc, gx, gm⟩ (own_le hm2 hwW) ha2 Hnn.out (by have := hbs2.size; omega) #[.int .i64 gc, .int .i64 gx, .slice Am gm.length cm] rfl
        have Hrun := Lib.hid hrun
        obtain ⟨pcr, hor2, -⟩ := hgs2
        have hx3 := hx2.grown hg3 (fun e => by have := (World.ownsRow.lt hor2 _ e.symm).1; omega) (fun g h1 h2 => (apt_types hx2.ra hor2 (by decide)) g h1 h2) (fun g h1 h2 => (apt_types hx2.rw_ hor2 (by decide)) g h1 h2)
        have hb2 : Below w.heap.size w w2 := Hbe2.out.trans (hbs2.below (fun k hN => by
          rcases hN with e | e | e
          · omega
          · have := (World.ownsRow.lt HxW.out.ra _ e).1; omega
          · have := (World.ownsRow.lt HxW.out.rw_ _ e).1; omega) (by omega))
        have Hb3 := Lib.hid (hb2.grown hg3 hb2.size fun g hg => by have := (World.ownsRow.lt hor2 _ hg).1; omega)
        have Hgs3 := Lib.hid hgs3
        have Hx3 := Lib.hid hx3
        clear hx2 hbs2 hna hnw hm2 ha2 hrun hgs3 hg3 hor hor2 hx3 hb2 HC HgW HxW Hbe2
        dsimp only
        generalize gm.length = gl at *
        go_wp2_with (first | (at_builtin; refine bx_app rfl _ _ _ rfl _ _ (by rfl) (by rfl) Hrun.out ?_; clear Hrun) | fail)
        go_roundg (n - (k + 1))
        case measure => have := Hgk.out; omega
        case rel => exact ⟨k + 1, va', vw', by go_num, by omega, rfl, by rw [HT.out]; exact Hgs3.out, by rw [HT.out]; exact Hx3.out, Hb3.out⟩
      · have hte : ps.take k = ps := List.take_of_length_le (by have := Hln.out; omega)
        have hgs := Hgs.out
        rw [hte] at hgs
        obtain ⟨A2, c2, hv, hli⟩ := hgs.form
        subst hv
        have Hli := Lib.hid hli
        have hi1 : ¬ (k : Int) < (n : Int) := by omega
        clear hli hgs hte Hgs Hx
        generalize (gotsB bs0 ps).1 = Q at *
        generalize hql : Q.length = q at *
        go_wp2_with fail
        go_ret2
        rw [HE.out]
        subst hql
        exact ⟨A2, c2, rfl, Hli.out, Hbe.out⟩
end Go.Proofs.Ytmlgaedhfannmaa
