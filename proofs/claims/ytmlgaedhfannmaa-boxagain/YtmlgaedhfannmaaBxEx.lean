/- The message box: fetch, shut, execute, result. -/
import Derived.Test.YtmlgaedhfannmaaBxSend
namespace Go.Proofs.Ytmlgaedhfannmaa
set_option linter.unusedVariables false
set_option linter.unusedSimpArgs false
open Go.RowKit
theorem filter_mlF : ∀ (n : Nat) (l : List Pt) (s : Nat), (mlF n l).filter (keepM (s : Int)) = mlF (n + (s - n)) (l.drop (s - n))
  | _, [], _ => by simp [mlF]
  | n, p :: l, s => by
    simp only [mlF]
    have ih := filter_mlF (n + 1) l s
    by_cases h : n + 1 ≤ s
    · rw [List.filter_cons_of_neg (by simp [keepM]; omega), ih, show s - n = (s - (n + 1)) + 1 by omega, List.drop_succ_cons, show n + 1 + (s - (n + 1)) = n + (s - (n + 1) + 1) by omega]
    · rw [List.filter_cons_of_pos (by simp [keepM]; omega), ih, show s - (n + 1) = 0 by omega, show s - n = 0 by omega]
      simp [mlF]
theorem wait_fetch (s : Bs) (b : Int) (h : 0 ≤ b) : s.wait.filter (keepM b) = ({ s with gone := max s.gone b.toNat } : Bs).wait := by
  unfold Bs.wait
  simp only
  obtain ⟨n, rfl⟩ := Int.eq_ofNat_of_zero_le h
  rw [filter_mlF, List.drop_drop]
  simp only [Int.toNat_natCast]
  rw [show s.gone + (n - s.gone) = max s.gone n by omega]
def FtPost (B : Nat) (va vw : Value) (X : List Ml × Int × Bs) (w : World) (e : Ending) (w' : World) : Prop :=
  ∃ A c va' vw', e = .returned (.tuple #[.slice A X.1.length c, .int .i64 X.2.1]) ∧ BxS B w' X.2.2.acc X.2.2.wait X.2.2.shut va' vw' ∧ Beside (BxN B va vw) w w' ∧ NewB w va va' ∧ NewB w vw vw' ∧
    w'.ownsRow w.heap.size 115 3 (.slice A X.1.length c) X.1.length (pcK mlL X.1) ∧ Apt (.slice A X.1.length c) vw'
theorem FtPost.same {B : Nat} {va vw : Value} {s : Bs} {k : Int} {w w' : World} (h : BxS B w s.acc s.wait s.shut va vw) (hb : Below w.heap.size w w') : FtPost B va vw ([], k, s) w (.returned (.tuple #[.slice none 0 0, .int .i64 k])) w' :=
  ⟨none, 0, va, vw, rfl, h.below hb, Beside.of_below hb, NewB.refl _ _, NewB.refl _ _, World.ownsRow_nil _ _ _ _, by intro g hg; simp [Value.ownBlock] at hg⟩
set_option maxHeartbeats 4000000 in
set_option maxRecDepth 100000 in
theorem fetch_any (B : Nat) (s : Bs) (va vw : Value) (b : Int) (w : World) (h : BxS B w s.acc s.wait s.shut va vw) (hn : s.acc.length ≤ 500) (hfw : s.few) :
    Calls Try.prog 117 #[.pointer (some ⟨B, 0, none⟩), .int .i64 b] w (FtPost B va vw (fetchR s b) w) := by
  obtain ⟨Aa, ca, rfl, hAa⟩ := LIn.own msL_len h.ra
  obtain ⟨Aw, cw, rfl, hAw⟩ := LIn.own mlL_len h.rw_
  obtain ⟨W, hW⟩ : ∃ W, w.alloc (.cells #[.int .i64 b] 3) = W := ⟨_, rfl⟩
  have hWB := Blk.new w 3 #[.int .i64 b]
  have hWb : Below w.heap.size w W := by rw [← hW]; exact (Below.refl _ _).alloc (Nat.le_refl _) _
  rw [hW] at hWB
  have x0 : W.cell? ⟨w.heap.size, 0, none⟩ = some (.int .i64 b) := hWB.cell 0
  have hx : W.cell? ⟨B, 0, none⟩ = some (.slice Aa s.acc.length ca) := (h.below hWb).box.cell 0
  have Hh := Lib.hid h
  have HhW := Lib.hid (h.below hWb)
  have hWl := hWB.lt
  have HWb := Lib.hid hWb
  have hBs := h.size
  have Hwl := Lib.hid (show s.wait.length = s.acc.length - s.gone from Bs.wait_len)
  clear h hWB hWb hAa hAw
  by_cases h1 : b < 0
  · have HE := Lib.hid (show fetchR s b = ([], 2, s) by unfold fetchR; rw [if_pos h1])
    go_enter Try.func117, Try.ntmps117
    go_wp2_with fail
    go_ret2
    rw [HE.out]
    exact FtPost.same Hh.out HWb.out
  · by_cases h2 : (s.acc.length : Int) < b
    · have HE := Lib.hid (show fetchR s b = ([], 12, s) by unfold fetchR; rw [if_neg h1, if_pos h2])
      go_enter Try.func117, Try.ntmps117
      go_wp2_with fail
      go_quiet (fail)
      go_wp2_with fail
      go_ret2
      rw [HE.out]
      exact FtPost.same Hh.out (below_drewN HWb.out _)
    · have HE := Lib.hid (show fetchR s b = ({ s with gone := max s.gone b.toNat }.wait, 0, { s with gone := max s.gone b.toNat }) by unfold fetchR; rw [if_neg h1, if_neg h2])
      have HF := Lib.hid (wait_fetch s b (by omega))
      have HM : Hid (FewM (s.wait.filter (keepM b))) := Lib.hid fun m hm => hfw.wait m (List.mem_filter.1 hm).1
      go_enter Try.func117, Try.ntmps117
      go_wp2_with fail
      go_quiet (fail)
      obtain ⟨Wd, hWd⟩ : ∃ Wd, W.drewN nq = Wd := ⟨_, rfl⟩
      have hbd : Below W.heap.size W Wd := by rw [← hWd]; exact below_drewN (Below.refl _ _) _
      have hd := HhW.out.below hbd
      have hwd : W.heap.size ≤ Wd.heap.size := hbd.size
      have y1 : Wd.cell? ⟨B, 1, none⟩ = some (.slice Aw s.wait.length cw) := hd.box.cell 1
      have HD := Lib.hid (delM_any (B + 1) s.wait.length cw Aw s.wait b w.heap.size Wd hd.rw_ rfl (by have := Hwl.out; omega) ((hbd.cell (p := ⟨w.heap.size, 0, none⟩) hWl).trans x0) (by omega) (fun e => by
        have := (World.ownsRow.lt Hh.out.rw_ _ e).2; omega))
      have Hd := Lib.hid hd
      have Hbd := Lib.hid (HWb.out.trans (hbd.mono HWb.out.size))
      clear hd hbd
      rw [hWd]
      go_wp2_with fail
      refine HD.out.mono ?_
      rintro e w1 ⟨m, hm, rfl, ho1, hg1⟩
      have hbB : some B ≠ (Value.slice Aw s.wait.length cw).ownBlock := fun e => by have := (World.ownsRow.lt Hd.out.rw_ B e.symm).1; omega
      have hbox1 := Hd.out.box.grown hg1 hbB
      have hra1 := own_apart Hd.out.ra hg1 fun g h1 h2 => Hd.out.apart g h1 h2
      have z1 : w1.cell? ⟨B, 1, none⟩ = some (.slice Aw s.wait.length cw) := hbox1.cell 1
      have f1 := hbox1.frozen 1
      have hs1 := hg1.size
      -- behind the store
      obtain ⟨w2, hw2⟩ : ∃ w2, w1.setCell ⟨B, 1, none⟩ (.slice Aw m cw) = w2 := ⟨_, rfl⟩
      have hB2 : BxS B w2 s.acc (s.wait.filter (keepM b)) s.shut (.slice Aa s.acc.length ca) (.slice Aw m cw) := by
        rw [← hw2]
        refine ⟨by simpa using hbox1.set_ 1 (.slice Aw m cw), own_box hra1, ?_, by have := Hd.out.size; simp [World.setCell]; omega⟩
        rw [← hm]
        exact own_box ho1
      have hbs2 : Beside (BxN B (.slice Aa s.acc.length ca) (.slice Aw s.wait.length cw)) w w2 := by
        rw [← hw2]
        exact beside_set ((Beside.of_below Hbd.out).next (beside_grown (N := BxN B (.slice Aa s.acc.length ca) (.slice Aw s.wait.length cw)) hg1 fun k hk => .inr (.inr hk)) fun k _ hk => hk) (.inl rfl) 1 _
      have hs2 : w1.heap.size = w2.heap.size := by rw [← hw2]; simp [World.setCell]
      have u1 : w2.cell? ⟨B, 1, none⟩ = some (.slice Aw m cw) := hB2.box.cell 1
      have hli : LIn mlL 3 w2 w2.heap.size Aw m cw (s.wait.filter (keepM b)) := by
        obtain ⟨A3, c3, h3, h4⟩ := LIn.own mlL_len hB2.rw_
        injection h3 with e1 e2 e3
        subst e1 e3
        rw [← e2] at h4
        exact h4
      have HC := Lib.hid (copiedM_any Aw m cw w2.heap.size _ w2 hli (Nat.le_refl _) HM.out (by have := List.length_filter_le (keepM b) s.wait; have := Hwl.out; omega))
      have HB2 := Lib.hid hB2
      have Hbs2 := Lib.hid hbs2
      have Hm := Lib.hid hm
      have hw12 : w.heap.size ≤ w2.heap.size := hbs2.size
      clear ho1 hg1 hbox1 hra1 hB2 hbs2 hli HD hm hbB
      go_wp2_with fail
      refine HC.out.mono ?_
      rintro e w3 ⟨v, rfl, ho3, hb3⟩
      obtain ⟨A3, c3, rfl, hA3⟩ := own_form ho3
      have hB3 := HB2.out.below hb3
      have Hfin := Lib.hid (show FtPost B (.slice Aa s.acc.length ca) (.slice Aw s.wait.length cw) (fetchR s b) w (.returned (.tuple #[.slice A3 m c3, .int .i64 0])) w3 from by
        rw [HE.out, ← HF.out]
        have hm2 := Hm.out
        refine ⟨A3, c3, .slice Aa s.acc.length ca, .slice Aw m cw, by rw [← hm2], ?_, Hbs2.out.next (N' := fun _ => False) (Beside.of_below hb3) (fun _ _ h => h.elim), NewB.refl _ _, ?_, ?_, ?_⟩
        · show BxS B w3 s.acc (({ s with gone := max s.gone b.toNat } : Bs).wait) s.shut _ _
          rw [← HF.out]; exact hB3
        · intro g hg; exact .inl (by cases Aw <;> exact hg)
        · show w3.ownsRow w.heap.size 115 3 (.slice A3 (s.wait.filter (keepM b)).length c3) (s.wait.filter (keepM b)).length _
          rw [← hm2]
          exact own_le ho3 hw12
        · rw [← hm2]
          intro g hg hg'
          have k1 := (World.ownsRow.lt ho3 g hg).1
          have k2 := (World.ownsRow.lt HB2.out.rw_ g hg').2
          omega)
      clear ho3 hb3 hB3 hA3 HC
      go_wp2_with fail
      go_ret2
      exact Hfin.out
set_option maxHeartbeats 1000000 in
theorem shut_any (B : Nat) (s : Bs) (va vw : Value) (w : World) (h : BxS B w s.acc s.wait s.shut va vw) :
    Calls Try.prog 118 #[.pointer (some ⟨B, 0, none⟩)] w (SdPost B va vw (shutR s) w) := by
  have y1 : w.cell? ⟨B, 1, none⟩ = some vw := h.box.cell 1
  have y2 : w.cell? ⟨B, 2, none⟩ = some (.bool s.shut) := h.box.cell 2
  have f1 := h.box.frozen 1
  have f2 := h.box.frozen 2
  obtain ⟨Aw, cw, rfl, hAw⟩ := LIn.own mlL_len h.rw_
  have Hh := Lib.hid h
  clear h hAw
  cases hsh : s.shut with
  | true =>
    have HE := Lib.hid (show shutR s = (8, s) by unfold shutR; rw [if_pos hsh])
    rw [hsh] at y2
    clear hsh
    go_enter Try.func118, Try.ntmps118
    go_wp2_with fail
    go_ret
    rw [HE.out]
    exact SdPost.same Hh.out (Below.refl _ _)
  | false =>
    have HE := Lib.hid (show shutR s = (0, ⟨s.acc, s.acc.length, true⟩) by unfold shutR; rw [if_neg (by simp [hsh])])
    rw [hsh] at y2
    have Hfin := Lib.hid (show SdPost B va (.slice Aw s.wait.length cw) (shutR s) w (.returned (.int .i64 0)) ((w.setCell ⟨B, 1, none⟩ (.slice none 0 0)).setCell ⟨B, 2, none⟩ (.bool true)) from by
      rw [HE.out]
      have hb := (Hh.out.box.set_ 1 (.slice none 0 0)).set_ 2 (.bool true)
      refine ⟨va, .slice none 0 0, rfl, ⟨by simpa using hb, own_box (own_box Hh.out.ra), ?_, by simpa [World.setCell] using Hh.out.size⟩, beside_set (beside_set (Beside.refl _ w) (.inl rfl) 1 _) (.inl rfl) 2 _, NewB.refl _ _, ?_⟩
      · have e : (⟨s.acc, s.acc.length, true⟩ : Bs).wait = [] := by unfold Bs.wait; simp [mlF]
        rw [e]
        exact World.ownsRow_nil _ _ _ _
      · intro g hg; simp [Value.ownBlock] at hg)
    clear hsh
    go_enter Try.func118, Try.ntmps118
    go_wp2_with fail
    go_ret
    exact Hfin.out
theorem FtPost.of {B : Nat} {va vw : Value} {k : Int} {s' : Bs} {w w' : World} {e : Ending} (h : SdPost B va vw (k, s') w e w') : e = .returned (.int .i64 k) ∧ FtPost B va vw ([], k, s') w (.returned (.tuple #[.slice none 0 0, .int .i64 k])) w' := by
  obtain ⟨va', vw', rfl, h1, h2, h3, h4⟩ := h
  exact ⟨rfl, none, 0, va', vw', rfl, h1, h2, h3, h4, World.ownsRow_nil _ _ _ _, by intro g hg; simp [Value.ownBlock] at hg⟩
theorem FtPost.from {B : Nat} {va vw : Value} {X : List Ml × Int × Bs} {w W w' : World} {e : Ending} (hb : Below w.heap.size w W) (h : FtPost B va vw X W e w') : FtPost B va vw X w e w' := by
  obtain ⟨A, c, va', vw', h1, h2, h3, h4, h5, h6, h7⟩ := h
  exact ⟨A, c, va', vw', h1, h2, (Beside.of_below (N := BxN B va vw) hb).trans h3, fun g hg => (h4 g hg).imp id fun h => Nat.le_trans hb.size h, fun g hg => (h5 g hg).imp id fun h => Nat.le_trans hb.size h, own_le h6 hb.size, h7⟩
set_option maxHeartbeats 2000000 in
theorem execB_any (B : Nat) (s : Bs) (va vw : Value) (p : Pt) (w : World) (h : BxS B w s.acc s.wait s.shut va vw) (hok : s.ok) (hn : s.acc.length ≤ 500) (hfw : s.few) (hg : Gl w)
    (hf : p.frm.length ≤ 9223372036854775807) (hbd : p.body.length ≤ 9223372036854775807) :
    Calls Try.prog 98 #[.pointer (some ⟨B, 0, none⟩), .agg #[.int .i64 p.kind, str p.frm, .int .i64 p.txn, str p.body, .int .i64 p.since]] w (FtPost B va vw (execB s p) w) := by
  obtain ⟨W, hW⟩ : ∃ W, w.alloc (.cells #[.int .i64 p.kind, str p.frm, .int .i64 p.txn, str p.body, .int .i64 p.since] 76) = W := ⟨_, rfl⟩
  have hWB := Blk.new w 76 #[.int .i64 p.kind, str p.frm, .int .i64 p.txn, str p.body, .int .i64 p.since]
  have hWb : Below w.heap.size w W := by rw [← hW]; exact (Below.refl _ _).alloc (Nat.le_refl _) _
  rw [hW] at hWB
  have x0 : W.cell? ⟨w.heap.size, 0, none⟩ = some (.int .i64 p.kind) := hWB.cell 0
  have x1 : W.cell? ⟨w.heap.size, 1, none⟩ = some (str p.frm) := hWB.cell 1
  have x2 : W.cell? ⟨w.heap.size, 2, none⟩ = some (.int .i64 p.txn) := hWB.cell 2
  have x3 : W.cell? ⟨w.heap.size, 3, none⟩ = some (str p.body) := hWB.cell 3
  have x4 : W.cell? ⟨w.heap.size, 4, none⟩ = some (.int .i64 p.since) := hWB.cell 4
  have hWl := hWB.lt
  have HS := Lib.hid (send_any B s va vw p W (h.below hWb) hok hn (hg.below hWb) hf hbd)
  have HF := Lib.hid (fetch_any B s va vw p.since W (h.below hWb) hn hfw)
  have HU := Lib.hid (shut_any B s va vw W (h.below hWb))
  have HWb := Lib.hid hWb
  have Hh := Lib.hid h
  have H1 := Lib.hid (show p.kind = 1 → execB s p = ([], sendR s p) from fun e => by unfold execB; rw [if_pos e])
  have H2 := Lib.hid (show p.kind = 2 → execB s p = fetchR s p.since from fun e => by unfold execB; rw [if_neg (by omega), if_pos e])
  have H3 := Lib.hid (show p.kind = 3 → execB s p = ([], shutR s) from fun e => by unfold execB; rw [if_neg (by omega), if_neg (by omega), if_pos e])
  have H4 := Lib.hid (show p.kind ≠ 1 → p.kind ≠ 2 → p.kind ≠ 3 → execB s p = ([], 3, s) from fun e1 e2 e3 => by unfold execB; rw [if_neg e1, if_neg e2, if_neg e3])
  clear h hWB hWb hg hok hfw hf hbd
  generalize execB s p = X at *
  generalize sendR s p = Y at *
  generalize shutR s = Z at *
  obtain ⟨pk, pf, pn, pb, ps⟩ := p
  simp only at *
  by_cases k1 : pk = 1
  · subst k1
    have HE := Lib.hid (H1.out rfl)
    clear H1 H2 H3 H4 HF HU
    go_enter Try.func98, Try.ntmps98
    go_wp2_with fail
    refine HS.out.mono ?_
    rintro e w1 hp
    obtain ⟨rfl, hp2⟩ := FtPost.of (k := Y.1) (s' := Y.2) hp
    have Hp := Lib.hid (hp2.from HWb.out)
    clear hp hp2
    go_wp2_with fail
    go_ret2
    rw [HE.out]
    exact Hp.out
  · have b1 : (pk == 1) = false := by simpa using k1
    by_cases k2 : pk = 2
    · subst k2
      have HE := Lib.hid (H2.out rfl)
      clear H1 H2 H3 H4 HS HU b1 k1
      generalize fetchR s ps = Y2 at *
      go_enter Try.func98, Try.ntmps98
      go_wp2_with fail
      refine HF.out.mono ?_
      rintro e w1 hp
      have hp2 := hp
      obtain ⟨A, c, va', vw', rfl, -⟩ := hp
      have Hp := Lib.hid (hp2.from HWb.out)
      clear hp2
      obtain ⟨Y1, Y2, Y3⟩ := Y2
      simp only at *
      generalize Y1.length = n1 at *
      go_wp2_with fail
      go_ret2
      rw [HE.out]
      exact Hp.out
    · have b2 : (pk == 2) = false := by simpa using k2
      by_cases k3 : pk = 3
      · subst k3
        have HE := Lib.hid (H3.out rfl)
        clear H1 H2 H3 H4 HS HF b1 k1 b2 k2
        go_enter Try.func98, Try.ntmps98
        go_wp2_with fail
        refine HU.out.mono ?_
        rintro e w1 hp
        obtain ⟨rfl, hp2⟩ := FtPost.of (k := Z.1) (s' := Z.2) hp
        have Hp := Lib.hid (hp2.from HWb.out)
        clear hp hp2
        go_wp2_with fail
        go_ret2
        rw [HE.out]
        exact Hp.out
      · have b3 : (pk == 3) = false := by simpa using k3
        have HE := Lib.hid (H4.out k1 k2 k3)
        clear H1 H2 H3 H4 HS HF HU
        go_enter Try.func98, Try.ntmps98
        go_wp2_with fail
        go_ret2
        rw [HE.out]
        exact FtPost.same Hh.out HWb.out
end Go.Proofs.Ytmlgaedhfannmaa
