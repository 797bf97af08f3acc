/- The message box: result, Play. -/
import Derived.Test.YtmlgaedhfannmaaBxEx
import Derived.Laws.MakeOwn
namespace Go.Proofs.Ytmlgaedhfannmaa
set_option linter.unusedVariables false
set_option linter.unusedSimpArgs false
open Go.RowKit
theorem ret_got {fn : Func} {R : Ending → World → Prop} {a : Act} {W : World} {g : Nat} {s1 : Tmp} {x0 x1 x2 : Value}
    (hf : fn.results = #[.cell s1 79]) (h1 : a.tmps.getD s1 undef = .pointer (some ⟨g, 0, none⟩))
    (hb : Blk W g 79 #[x0, x1, x2]) (hd : a.defers = []) (hR : R (.returned (.agg #[x0, x1, x2])) W) : bodyPost Try.prog fn R .ret a W := by
  refine bodyPost_ret ?_ hd hR
  have c0 := hb.cell 0
  have c1 := hb.cell 1
  have c2 := hb.cell 2
  simp only [Array.getD_eq_getD_getElem?] at h1
  simp [results, hf, h1, go_sem, c0, c1, c2]
theorem bx_set3 {w : World} {g : Nat} {t : TypeId} {a0 a1 a2 : Value} (h : Blk w g t #[a0, a1, a2]) (b0 b1 b2 : Value) :
    Blk (((w.setCell ⟨g, 0, none⟩ b0).setCell ⟨g, 1, none⟩ b1).setCell ⟨g, 2, none⟩ b2) g t #[b0, b1, b2] := ((h.set_ 0 b0).set_ 1 b1).set_ 2 b2
theorem Below.set3 {B : Nat} {a w : World} {g : Nat} (h : Below B a w) (hg : B ≤ g) (b0 b1 b2 : Value) : Below B a (((w.setCell ⟨g, 0, none⟩ b0).setCell ⟨g, 1, none⟩ b1).setCell ⟨g, 2, none⟩ b2) :=
  ((h.setCell (p := ⟨g, 0, none⟩) hg b0).setCell (p := ⟨g, 1, none⟩) hg b1).setCell (p := ⟨g, 2, none⟩) hg b2
theorem heap_set3 {w : World} {g k : Nat} (h : k ≠ g) (b0 b1 b2 : Value) : (((w.setCell ⟨g, 0, none⟩ b0).setCell ⟨g, 1, none⟩ b1).setCell ⟨g, 2, none⟩ b2).heap[k]? = w.heap[k]? := by
  rw [Below.heap_setCell _ _ _ _ h, Below.heap_setCell _ _ _ _ h, Below.heap_setCell _ _ _ _ h]
theorem own_set3 {w : World} {base e size n g : Nat} {v : Value} {xs : List Value} (h : w.ownsRow base e size v n xs) (hg : v.ownBlock ≠ some g) (b0 b1 b2 : Value) :
    (((w.setCell ⟨g, 0, none⟩ b0).setCell ⟨g, 1, none⟩ b1).setCell ⟨g, 2, none⟩ b2).ownsRow base e size v n xs :=
  own_kept h fun k hk => heap_set3 (by rintro rfl; exact hg hk) _ _ _
theorem BxS.set3 {B : Nat} {w : World} {acc : List Pt} {wt : List Ml} {sh : Bool} {va vw : Value} (h : BxS B w acc wt sh va vw) {g : Nat} (hB : B ≠ g) (ha : va.ownBlock ≠ some g) (hw : vw.ownBlock ≠ some g) (b0 b1 b2 : Value) :
    BxS B (((w.setCell ⟨g, 0, none⟩ b0).setCell ⟨g, 1, none⟩ b1).setCell ⟨g, 2, none⟩ b2) acc wt sh va vw :=
  ⟨(heap_set3 hB _ _ _).trans h.box, own_set3 h.ra ha _ _ _, own_set3 h.rw_ hw _ _ _, by simpa [World.setCell] using h.size⟩
def RsPost (B : Nat) (va vw : Value) (X : Gt × Bs) (w : World) (e : Ending) (w' : World) : Prop :=
  ∃ A c va' vw', e = .returned (.agg #[.int .i64 X.1.code, .int .i64 X.1.next, .slice A X.1.mail.length c]) ∧ BxS B w' X.2.acc X.2.wait X.2.shut va' vw' ∧ Beside (BxN B va vw) w w' ∧ NewB w va va' ∧ NewB w vw vw' ∧
    w'.ownsRow w.heap.size 115 3 (.slice A X.1.mail.length c) X.1.mail.length (pcK mlL X.1.mail) ∧ Apt (.slice A X.1.mail.length c) vw'
set_option maxHeartbeats 4000000 in
set_option maxRecDepth 100000 in
theorem result_any (B : Nat) (s : Bs) (va vw : Value) (p : Pt) (w : World) (h : BxS B w s.acc s.wait s.shut va vw) (hok : s.ok) (hn : s.acc.length ≤ 500) (hfw : s.few) (hg : Gl w)
    (hf : p.frm.length ≤ 9223372036854775807) (hbd : p.body.length ≤ 9223372036854775807) :
    Calls Try.prog 69 #[.pointer (some ⟨B, 0, none⟩), .agg #[.int .i64 p.kind, str p.frm, .int .i64 p.txn, str p.body, .int .i64 p.since]] w (RsPost B va vw (gotB s p) w) := by
  obtain ⟨E, hE⟩ : ∃ E, E = (w.alloc (.cells #[.int .i64 p.kind, str p.frm, .int .i64 p.txn, str p.body, .int .i64 p.since] 76)).alloc (.cells #[.int .i64 0, .int .i64 0, .slice none 0 0] 79) := ⟨_, rfl⟩
  have hB1 : Blk E w.heap.size 76 #[.int .i64 p.kind, str p.frm, .int .i64 p.txn, str p.body, .int .i64 p.since] := by
    rw [hE]; exact (Blk.new w 76 _).alloc _
  have hB2 : Blk E (w.heap.size + 1) 79 #[.int .i64 0, .int .i64 0, .slice none 0 0] := by
    rw [hE]
    have := Blk.new (w.alloc (.cells #[.int .i64 p.kind, str p.frm, .int .i64 p.txn, str p.body, .int .i64 p.since] 76)) 79 #[.int .i64 0, .int .i64 0, .slice none 0 0]
    rwa [show (w.alloc (.cells #[.int .i64 p.kind, str p.frm, .int .i64 p.txn, str p.body, .int .i64 p.since] 76)).heap.size = w.heap.size + 1 by simp] at this
  have hWb : Below w.heap.size w E := by rw [hE]; exact ((Below.refl _ _).alloc (Nat.le_refl _) _).alloc (by simp) _
  have hWs : E.heap.size = w.heap.size + 2 := by rw [hE]; simp
  have HC := Lib.hid (execB_any B s va vw p E (h.below hWb) hok hn hfw (hg.below hWb) hf hbd)
  have HX := Lib.hid (show gotB s p = if (execB s p).2.1 = 0 then (⟨0, ((execB s p).2.2.acc.length : Int), (execB s p).1⟩, (execB s p).2.2) else (⟨(execB s p).2.1, 0, []⟩, (execB s p).2.2) from rfl)
  have Hgr := Lib.hid (exec_grow s p)
  have HWb := Lib.hid hWb
  have HWs := Lib.hid hWs
  have HB1 := Lib.hid hB1
  have HB2 := Lib.hid hB2
  have Hh := Lib.hid h
  have hBs := h.size
  clear hWb hWs hB1 hB2 hg hfw hok h hf hbd
  obtain ⟨pk, pf, pn, pb, ps⟩ := p
  simp only at *
  generalize gotB s ⟨pk, pf, pn, pb, ps⟩ = R at *
  generalize execB s ⟨pk, pf, pn, pb, ps⟩ = X at *
  obtain ⟨ms, k, s'⟩ := X
  simp only at *
  have e0 : E.cell? ⟨w.heap.size, 0, none⟩ = some (.int .i64 pk) := HB1.out.cell 0
  have e1 : E.cell? ⟨w.heap.size, 1, none⟩ = some (str pf) := HB1.out.cell 1
  have e2 : E.cell? ⟨w.heap.size, 2, none⟩ = some (.int .i64 pn) := HB1.out.cell 2
  have e3 : E.cell? ⟨w.heap.size, 3, none⟩ = some (str pb) := HB1.out.cell 3
  have e4 : E.cell? ⟨w.heap.size, 4, none⟩ = some (.int .i64 ps) := HB1.out.cell 4
  go_enter Try.func69, Try.ntmps69
  go_wp2_with fail
  rw [← hE]
  refine HC.out.mono ?_
  rintro e w1 ⟨A, c, va', vw', rfl, hb1, hbs1, hn1, hn2, hm1, ha1⟩
  have hs1 := hbs1.size
  have hB21 : Blk w1 (w.heap.size + 1) 79 #[.int .i64 0, .int .i64 0, .slice none 0 0] := by
    have hk : w.heap.size + 1 < E.heap.size := by rw [HWs.out]; omega
    refine (hbs1.block _ hk fun hN => ?_).trans HB2.out
    rcases hN with e | e | e
    · omega
    · have := (World.ownsRow.lt Hh.out.ra _ e).2; omega
    · have := (World.ownsRow.lt Hh.out.rw_ _ e).2; omega
  have c0 : w1.cell? ⟨w.heap.size + 1, 0, none⟩ = some (.int .i64 0) := hB21.cell 0
  have c1 : w1.cell? ⟨w.heap.size + 1, 1, none⟩ = some (.int .i64 0) := hB21.cell 1
  have c2 : w1.cell? ⟨w.heap.size + 1, 2, none⟩ = some (.slice none 0 0) := hB21.cell 2
  have f0 := hB21.frozen 0
  have f1 := hB21.frozen 1
  have f2 := hB21.frozen 2
  -- the box of the result is none of the rows
  have hva : va'.ownBlock ≠ some (w.heap.size + 1) := apt_box hb1.ra hB21 (by decide)
  have hvw : vw'.ownBlock ≠ some (w.heap.size + 1) := apt_box hb1.rw_ hB21 (by decide)
  have hvm : (Value.slice A ms.length c).ownBlock ≠ some (w.heap.size + 1) := apt_box hm1 hB21 (by decide)
  have Hk : ∀ b0 b1 b2 : Value, Beside (BxN B va vw) w (((w1.setCell ⟨w.heap.size + 1, 0, none⟩ b0).setCell ⟨w.heap.size + 1, 1, none⟩ b1).setCell ⟨w.heap.size + 1, 2, none⟩ b2) := fun b0 b1 b2 => by
    have h1 : Beside (BxN B va vw) w w1 := (Beside.of_below (N := BxN B va vw) HWb.out).trans hbs1
    exact ⟨h1.os, h1.tape, h1.output, by simpa [World.setCell] using h1.size, fun k hk hn => (heap_set3 (by omega) _ _ _).trans (h1.block k hk hn)⟩
  have hEs : w.heap.size ≤ E.heap.size := HWb.out.size
  have Hn1 : Hid (NewB w va va') := Lib.hid fun g hg => (hn1 g hg).imp id fun h => Nat.le_trans hEs h
  have Hn2 : Hid (NewB w vw vw') := Lib.hid fun g hg => (hn2 g hg).imp id fun h => Nat.le_trans hEs h
  have Hm1 := Lib.hid (own_le hm1 hEs)
  have Hb1 := Lib.hid hb1
  have Ha1 := Lib.hid ha1
  have Hk := Lib.hid Hk
  have Hbx := Lib.hid hB21
  by_cases hk : k = 0
  · subst hk
    have HE := Lib.hid (show R = (⟨0, (s'.acc.length : Int), ms⟩, s') by rw [HX.out]; rfl)
    obtain ⟨Aa2, ca2, rfl, -⟩ := LIn.own msL_len hb1.ra
    have y0 : w1.cell? ⟨B, 0, none⟩ = some (.slice Aa2 s'.acc.length ca2) := hb1.box.cell 0
    have Hfin := Lib.hid (show RsPost B va vw R w (.returned (.agg #[.int .i64 0, .int .i64 (s'.acc.length : Int), .slice A ms.length c])) (((w1.setCell ⟨w.heap.size + 1, 0, none⟩ (.int .i64 0)).setCell ⟨w.heap.size + 1, 1, none⟩ (.int .i64 (s'.acc.length : Int))).setCell ⟨w.heap.size + 1, 2, none⟩ (.slice A ms.length c)) from by
      rw [HE.out]
      exact ⟨A, c, .slice Aa2 s'.acc.length ca2, vw', rfl, Hb1.out.set3 (by omega) hva hvw _ _ _, Hk.out _ _ _, Hn1.out, Hn2.out, own_set3 Hm1.out hvm _ _ _, Ha1.out⟩)
    have HBx := Lib.hid (bx_set3 hB21 (.int .i64 0) (.int .i64 (s'.acc.length : Int)) (.slice A ms.length c))
    clear hb1 hbs1 hn1 hn2 hm1 ha1 hB21 hva hvw hvm HX Hk
    go_wp2_with fail
    refine ret_got rfl (by rfl) HBx.out rfl Hfin.out
  · have hk2 : (k != 0) = true := by simpa using hk
    have HE := Lib.hid (show R = (⟨k, 0, []⟩, s') by rw [HX.out, if_neg hk])
    have Hfin := Lib.hid (show RsPost B va vw R w (.returned (.agg #[.int .i64 k, .int .i64 0, .slice none 0 0])) (((w1.setCell ⟨w.heap.size + 1, 0, none⟩ (.int .i64 k)).setCell ⟨w.heap.size + 1, 1, none⟩ (.int .i64 0)).setCell ⟨w.heap.size + 1, 2, none⟩ (.slice none 0 0)) from by
      rw [HE.out]
      exact ⟨none, 0, va', vw', rfl, Hb1.out.set3 (by omega) hva hvw _ _ _, Hk.out _ _ _, Hn1.out, Hn2.out, World.ownsRow_nil _ _ _ _, by intro g hg; simp [Value.ownBlock] at hg⟩)
    have HBx := Lib.hid (bx_set3 hB21 (.int .i64 k) (.int .i64 0) (.slice none 0 0))
    clear hb1 hbs1 hn1 hn2 hm1 ha1 hB21 hva hvw hvm HX Hk
    go_wp2_with fail
    refine ret_got rfl (by rfl) HBx.out rfl Hfin.out
end Go.Proofs.Ytmlgaedhfannmaa
