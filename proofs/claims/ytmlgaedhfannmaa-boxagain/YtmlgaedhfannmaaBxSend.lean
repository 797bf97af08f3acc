/- The message box: send. -/
import Derived.Test.YtmlgaedhfannmaaBxCop
namespace Go.Proofs.Ytmlgaedhfannmaa
set_option linter.unusedVariables false
set_option linter.unusedSimpArgs false
open Go.RowKit
theorem sendR_bad (s : Bs) {p : Pt} (h : checkB p ≠ 0) : sendR s p = (checkB p, s) := by
  unfold checkB at h ⊢
  unfold sendR
  split; · rfl
  rename_i h1; rw [if_neg h1] at h
  split; · rfl
  rename_i h2; rw [if_neg h2] at h
  split; · rfl
  rename_i h3; rw [if_neg h3] at h
  exact absurd rfl h
theorem sendR_ok (s : Bs) {p : Pt} (h : checkB p = 0) : sendR s p = if hadR s.acc p = true then (0, s) else if s.shut = true then (8, s) else if 10 ≤ s.acc.length - s.gone then (10, s) else (0, { s with acc := s.acc ++ [p] }) := by
  unfold checkB at h
  unfold sendR
  split at h; · cases h
  rename_i h1; rw [if_neg h1]
  split at h; · cases h
  rename_i h2; rw [if_neg h2]
  split at h; · cases h
  rename_i h3; rw [if_neg h3]
theorem wait_send {s : Bs} (h : s.ok) (p : Pt) : ({ s with acc := s.acc ++ [p] } : Bs).wait = s.wait ++ [⟨((s.acc.length + 1 : Nat) : Int), p.frm, p.body⟩] := by
  unfold Bs.ok at h
  unfold Bs.wait
  simp only
  rw [List.drop_append_of_le_length h, mlF_app, List.length_drop, show s.gone + (s.acc.length - s.gone) = s.acc.length by omega]
  simp [mlF]
/-- Where the box's rows lie behind a call. -/
def NewB (w : World) (v v' : Value) : Prop := ∀ g, v'.ownBlock = some g → v.ownBlock = some g ∨ w.heap.size ≤ g
theorem NewB.refl (w : World) (v : Value) : NewB w v v := fun _ h => .inl h
theorem NewB.trans {w w' : World} {v v' v'' : Value} (h : NewB w v v') (h' : NewB w' v' v'') (hs : w.heap.size ≤ w'.heap.size) : NewB w v v'' := fun g hg => by
  rcases h' g hg with h1 | h1
  · exact h g h1
  · exact .inr (Nat.le_trans hs h1)
def SdPost (B : Nat) (va vw : Value) (X : Int × Bs) (w : World) (e : Ending) (w' : World) : Prop :=
  ∃ va' vw', e = .returned (.int .i64 X.1) ∧ BxS B w' X.2.acc X.2.wait X.2.shut va' vw' ∧ Beside (BxN B va vw) w w' ∧ NewB w va va' ∧ NewB w vw vw'
theorem SdPost.same {B : Nat} {va vw : Value} {s : Bs} {k : Int} {w w' : World} (h : BxS B w s.acc s.wait s.shut va vw) (hb : Below w.heap.size w w') : SdPost B va vw (k, s) w (.returned (.int .i64 k)) w' :=
  ⟨va, vw, rfl, h.below hb, Beside.of_below hb, NewB.refl _ _, NewB.refl _ _⟩
set_option maxHeartbeats 8000000 in
set_option maxRecDepth 100000 in
theorem send_any (B : Nat) (s : Bs) (va vw : Value) (p : Pt) (w : World) (h : BxS B w s.acc s.wait s.shut va vw) (hok : s.ok) (hn : s.acc.length ≤ 500) (hg : Gl w)
    (hf : p.frm.length ≤ 9223372036854775807) (hbd : p.body.length ≤ 9223372036854775807) :
    Calls Try.prog 116 #[.pointer (some ⟨B, 0, none⟩), .agg #[.int .i64 p.kind, str p.frm, .int .i64 p.txn, str p.body, .int .i64 p.since]] w (SdPost B va vw (sendR s p) w) := by
  obtain ⟨Aa, ca, rfl, hAa⟩ := LIn.own msL_len h.ra
  obtain ⟨Aw, cw, rfl, hAw⟩ := LIn.own mlL_len h.rw_
  obtain ⟨W, hW⟩ : ∃ W, w.alloc (.cells #[.int .i64 p.kind, str p.frm, .int .i64 p.txn, str p.body, .int .i64 p.since] 76) = W := ⟨_, rfl⟩
  have hWB := Blk.new w 76 #[.int .i64 p.kind, str p.frm, .int .i64 p.txn, str p.body, .int .i64 p.since]
  have hWb : Below w.heap.size w W := by rw [← hW]; exact (Below.refl _ _).alloc (Nat.le_refl _) _
  have hWs : W.heap.size = w.heap.size + 1 := by rw [← hW]; simp
  rw [hW] at hWB
  have HC := Lib.hid (checkMessage_any p W hf hbd (hg.below hWb))
  have HB := Lib.hid (sendR_bad s (p := p))
  have HO := Lib.hid (sendR_ok s (p := p))
  have HW := Lib.hid (wait_send hok p)
  have Hwl := Lib.hid (show s.wait.length = s.acc.length - s.gone from Bs.wait_len)
  obtain ⟨pk, pf, pn, pb, ps⟩ := p
  simp only at *
  have x0 : W.cell? ⟨w.heap.size, 0, none⟩ = some (.int .i64 pk) := hWB.cell 0
  have x1 : W.cell? ⟨w.heap.size, 1, none⟩ = some (str pf) := hWB.cell 1
  have x2 : W.cell? ⟨w.heap.size, 2, none⟩ = some (.int .i64 pn) := hWB.cell 2
  have x3 : W.cell? ⟨w.heap.size, 3, none⟩ = some (str pb) := hWB.cell 3
  have x4 : W.cell? ⟨w.heap.size, 4, none⟩ = some (.int .i64 ps) := hWB.cell 4
  have Hh := Lib.hid h
  have HWB := Lib.hid hWB
  have HWb := Lib.hid hWb
  have HAa := Lib.hid hAa
  have HAw := Lib.hid hAw
  have hBs := h.size
  clear h hWB hWb hAa hAw hg hok
  generalize checkB ⟨pk, pf, pn, pb, ps⟩ = k at *
  obtain ⟨X, hX⟩ : ∃ X, sendR s ⟨pk, pf, pn, pb, ps⟩ = X := ⟨_, rfl⟩
  rw [hX] at HB HO ⊢
  clear hX
  go_enter Try.func116, Try.ntmps116
  go_wp2_with fail
  refine HC.out.mono ?_
  rintro e w1 ⟨rfl, hb1⟩
  clear HC
  have Hb1 := Lib.hid hb1
  have HbW1 := Lib.hid (HWb.out.trans (hb1.mono HWb.out.size))
  by_cases hk : k = 0
  · subst hk
    have HO2 := Lib.hid (HO.out rfl)
    clear HO HB
    have y1 : w1.cell? ⟨w.heap.size, 1, none⟩ = some (str pf) := (hb1.cell (by show w.heap.size < _; omega)).trans x1
    have y2 : w1.cell? ⟨w.heap.size, 2, none⟩ = some (.int .i64 pn) := (hb1.cell (by show w.heap.size < _; omega)).trans x2
    obtain ⟨W2, hW2⟩ : ∃ W2, w1.alloc (.cells #[str pf, .int .i64 pn] 223) = W2 := ⟨_, rfl⟩
    have hW2B := Blk.new w1 223 #[str pf, .int .i64 pn]
    have hW2b : Below w1.heap.size w1 W2 := by rw [← hW2]; exact (Below.refl _ _).alloc (Nat.le_refl _) _
    rw [hW2] at hW2B
    have z0 : W2.cell? ⟨w1.heap.size, 0, none⟩ = some (str pf) := hW2B.cell 0
    have z1 : W2.cell? ⟨w1.heap.size, 1, none⟩ = some (.int .i64 pn) := hW2B.cell 1
    have hbW2 := HbW1.out.trans (hW2b.mono HbW1.out.size)
    have HH := Lib.hid (hasAccepted_any B s.acc s.wait s.shut _ _ ⟨pk, pf, pn, pb, ps⟩ W2 (Hh.out.below hbW2) (by omega))
    have HbW2 := Lib.hid hbW2
    have hw1l : w.heap.size < w1.heap.size := by have := hb1.size; omega
    have HW2B := Lib.hid hW2B
    have HW2b := Lib.hid hW2b
    have hW2l := hW2B.lt
    clear hW2B hW2b hbW2 hb1
    simp only at HH
    obtain ⟨had, hhad⟩ : ∃ b, hadR s.acc ⟨pk, pf, pn, pb, ps⟩ = b := ⟨_, rfl⟩
    rw [hhad] at HH HO2
    clear hhad
    go_wp2_with fail
    refine HH.out.mono ?_
    rintro e w3 ⟨rfl, hb3⟩
    have hb03 := HbW2.out.trans (hb3.mono HbW2.out.size)
    have h3 := Hh.out.below hb03
    cases had with
    | true =>
      have HE := Lib.hid (show X = (0, s) by rw [HO2.out]; rfl)
      have Hb03 := Lib.hid hb03
      clear hb03 h3 hb3 HO2
      go_wp2_with fail
      go_ret
      rw [HE.out]
      exact SdPost.same Hh.out Hb03.out
    | false =>
      have v2 : w3.cell? ⟨B, 2, none⟩ = some (.bool s.shut) := h3.box.cell 2
      have v1 : w3.cell? ⟨B, 1, none⟩ = some (.slice Aw s.wait.length cw) := h3.box.cell 1
      have v0 : w3.cell? ⟨B, 0, none⟩ = some (.slice Aa s.acc.length ca) := h3.box.cell 0
      cases hsh : s.shut with
      | true =>
        rw [hsh] at v2
        have HE := Lib.hid (show X = (8, s) by rw [HO2.out, if_neg (by simp), if_pos hsh])
        have Hb03 := Lib.hid hb03
        have Hsh := Lib.hid hsh
        clear hb03 h3 hb3 HO2 hsh
        go_wp2_with fail
        go_ret
        rw [HE.out]
        exact SdPost.same Hh.out Hb03.out
      | false =>
        rw [hsh] at v2
        by_cases h10 : 10 ≤ s.wait.length
        · have HE := Lib.hid (show X = (10, s) by rw [HO2.out, if_neg (by simp), if_neg (by simp [hsh]), if_pos (by rw [← Hwl.out]; exact h10)])
          have Hb03 := Lib.hid hb03
          have h10i : (10 : Int) ≤ (s.wait.length : Int) := by omega
          clear hb03 h3 hb3 HO2 hsh
          go_wp2_with fail
          go_ret
          rw [HE.out]
          exact SdPost.same Hh.out Hb03.out
        · have HE := Lib.hid (show X = (0, { s with acc := s.acc ++ [⟨pk, pf, pn, pb, ps⟩] }) by rw [HO2.out, if_neg (by simp), if_neg (by simp [hsh]), if_neg (by rw [← Hwl.out]; exact h10)])
          have h10i : ¬ (10 : Int) ≤ (s.wait.length : Int) := by omega
          have hwn : s.wait.length + 1 ≤ 1048576 := by have := Hwl.out; omega
          -- all facts of the world in which the order is drawn
          obtain ⟨Wd, hWd⟩ : ∃ Wd, w3.drew = Wd := ⟨_, rfl⟩
          have hbd3 : Below w3.heap.size w3 Wd := by rw [← hWd]; exact below_drewN (Below.refl _ _) 1
          have hd := h3.below hbd3
          have hb0d := hb03.trans (hbd3.mono hb03.size)
          have hBlk : Blk Wd w1.heap.size 223 #[str pf, .int .i64 pn] := (HW2B.out.below hb3 hW2l).below hbd3 (by have := hb3.size; omega)
          have hpost : Blk Wd w.heap.size 76 #[.int .i64 pk, str pf, .int .i64 pn, str pb, .int .i64 ps] := (((HWB.out.below Hb1.out (by omega)).below HW2b.out hw1l).below hb3 (by omega)).below hbd3 (by have := hb3.size; omega)
          obtain ⟨v5, wf, hrun5, f0, f1, hB5, hbs5, hn5, hg5⟩ := hd.pushA ⟨pk, pf, pn, pb, ps⟩ #[str pf, .int .i64 pn] rfl (by omega)
          have hne : ∀ g, (Value.slice Aa s.acc.length ca).ownBlock = some g → g < w.heap.size := fun g hg => (World.ownsRow.lt Hh.out.ra g hg).2
          have hBlk5 := hBlk.grown hg5 (fun e => by have := hne _ e.symm; omega)
          have hpost5 := hpost.grown hg5 (fun e => by have := hne _ e.symm; omega)
          have hS0 : Wd.cell? ⟨B, 0, none⟩ = some (.slice Aa s.acc.length ca) ∧ Wd.cell? ⟨w1.heap.size, 0, none⟩ = some (str pf) ∧ Wd.cell? ⟨w1.heap.size, 1, none⟩ = some (.int .i64 pn) := ⟨hd.box.cell 0, hBlk.cell 0, hBlk.cell 1⟩
          have hS6 : (Wd.alloc (.cells #[str pf, .int .i64 pn] 223)).cell? ⟨B, 0, none⟩ = some (.slice Aa s.acc.length ca) ∧ (Wd.alloc (.cells #[str pf, .int .i64 pn] 223)).cell? ⟨w1.heap.size, 0, none⟩ = some (str pf) ∧ (Wd.alloc (.cells #[str pf, .int .i64 pn] 223)).cell? ⟨w1.heap.size, 1, none⟩ = some (.int .i64 pn) :=
            ⟨(hd.box.alloc _).cell 0, (hBlk.alloc _).cell 0, (hBlk.alloc _).cell 1⟩
          have hS7 : wf.cell? ⟨B, 0, none⟩ = some (.slice Aa s.acc.length ca) ∧ wf.cell? ⟨w1.heap.size, 0, none⟩ = some (str pf) ∧ wf.cell? ⟨w1.heap.size, 1, none⟩ = some (.int .i64 pn) := ⟨f0, hBlk5.cell 0, hBlk5.cell 1⟩
          -- the second append, in the world behind the first store
          obtain ⟨W6, hW6⟩ : ∃ W6, wf.setCell ⟨B, 0, none⟩ v5 = W6 := ⟨_, rfl⟩
          have hpost6 : Blk W6 w.heap.size 76 #[.int .i64 pk, str pf, .int .i64 pn, str pb, .int .i64 ps] := by rw [← hW6]; exact hpost5.far (by show w.heap.size ≠ B; omega) _
          rw [hW6] at hB5 hbs5
          obtain ⟨We, hWe⟩ : ∃ We, W6.drew = We := ⟨_, rfl⟩
          have hbe6 : Below W6.heap.size W6 We := by rw [← hWe]; exact below_drewN (Below.refl _ _) 1
          have he := hB5.below hbe6
          have hposte := hpost6.below hbe6 hpost6.lt
          obtain ⟨Ab, cb, hv5, -⟩ := LIn.own msL_len he.ra
          have hl1 : (s.acc ++ [(⟨pk, pf, pn, pb, ps⟩ : Pt)]).length = s.acc.length + 1 := by simp
          rw [hl1] at hv5
          subst hv5
          obtain ⟨v8, wg, hrun8, g0, g1, hB8, hbs8, hn8, hg8⟩ := he.pushW ⟨((s.acc.length + 1 : Nat) : Int), pf, pb⟩ #[.int .i64 ((s.acc.length + 1 : Nat) : Int), str pf, str pb] rfl hwn
          obtain ⟨A8, c8, hv8, -⟩ := LIn.own mlL_len hB8.rw_
          generalize (s.wait ++ [(⟨((s.acc.length + 1 : Nat) : Int), pf, pb⟩ : Ml)]).length = n8 at hv8
          subst hv8
          have hnw : ∀ g, (Value.slice Aw s.wait.length cw).ownBlock = some g → g < w.heap.size := fun g hg => (World.ownsRow.lt Hh.out.rw_ g hg).2
          have hposte8 := hposte.grown hg8 (fun e => by have := hnw _ e.symm; omega)
          have hboxe8 := he.box.grown hg8 (fun e => by have := (World.ownsRow.lt he.rw_ _ e.symm).1; omega)
          have hT0 : We.cell? ⟨B, 0, none⟩ = some (.slice Ab (s.acc.length + 1) cb) ∧ We.cell? ⟨B, 1, none⟩ = some (.slice Aw s.wait.length cw) ∧ We.cell? ⟨w.heap.size, 1, none⟩ = some (str pf) ∧ We.cell? ⟨w.heap.size, 3, none⟩ = some (str pb) :=
            ⟨he.box.cell 0, he.box.cell 1, hposte.cell 1, hposte.cell 3⟩
          have hT6 : (We.alloc (.cells #[.int .i64 ((s.acc.length + 1 : Nat) : Int), str pf, str pb] 115)).cell? ⟨B, 0, none⟩ = some (.slice Ab (s.acc.length + 1) cb) ∧ (We.alloc (.cells #[.int .i64 ((s.acc.length + 1 : Nat) : Int), str pf, str pb] 115)).cell? ⟨B, 1, none⟩ = some (.slice Aw s.wait.length cw) ∧
              (We.alloc (.cells #[.int .i64 ((s.acc.length + 1 : Nat) : Int), str pf, str pb] 115)).cell? ⟨w.heap.size, 1, none⟩ = some (str pf) ∧ (We.alloc (.cells #[.int .i64 ((s.acc.length + 1 : Nat) : Int), str pf, str pb] 115)).cell? ⟨w.heap.size, 3, none⟩ = some (str pb) :=
            ⟨(he.box.alloc _).cell 0, (he.box.alloc _).cell 1, (hposte.alloc _).cell 1, (hposte.alloc _).cell 3⟩
          have hT7 : wg.cell? ⟨B, 0, none⟩ = some (.slice Ab (s.acc.length + 1) cb) ∧ wg.cell? ⟨B, 1, none⟩ = some (.slice Aw s.wait.length cw) ∧ wg.cell? ⟨w.heap.size, 1, none⟩ = some (str pf) ∧ wg.cell? ⟨w.heap.size, 3, none⟩ = some (str pb) :=
            ⟨hboxe8.cell 0, hboxe8.cell 1, hposte8.cell 1, hposte8.cell 3⟩
          have Hfin := Lib.hid (show SdPost B (.slice Aa s.acc.length ca) (.slice Aw s.wait.length cw) X w (.returned (.int .i64 0)) (wg.setCell ⟨B, 1, none⟩ (.slice A8 n8 c8)) from by
            rw [HE.out]
            refine ⟨.slice Ab (s.acc.length + 1) cb, .slice A8 n8 c8, rfl, ?_, ?_, ?_, ?_⟩
            · have hB8' := hB8
              rw [← HW.out] at hB8'
              exact hB8'
            · have k1 : Beside (BxN B (.slice Aa s.acc.length ca) (.slice Aw s.wait.length cw)) w W6 := (Beside.of_below hb0d).trans hbs5
              refine k1.next ((Beside.of_below hbe6).trans hbs8) fun k hk hN => ?_
              rcases hN with e | e | e
              · exact .inl e
              · rcases hn5 k e with e | e
                · exact .inr (.inl e)
                · have := hb0d.size; omega
              · exact .inr (.inr e)
            · exact NewB.trans (NewB.refl _ _) hn5 hb0d.size
            · exact NewB.trans (NewB.refl _ _) hn8 (by have := hbs5.size; have := hb0d.size; have := hbe6.size; omega))
          have hrun8' := hrun8
          have hrun5' := hrun5
          clear hrun8 hrun5 hbd3 hb0d hBlk hpost hn5 hg5 hBlk5 hpost5 hne hnw hn8 hg8 hposte8 hboxe8 hB8 hbs8 hB5 hbs5 he hposte hd h3 hb03 hb3 hbe6 hpost6 hl1 HO2 f0 g0
          go_wp2_with fail
          refine region_S (fun w' => w'.cell? ⟨B, 0, none⟩ = some (.slice Aa s.acc.length ca) ∧ w'.cell? ⟨w1.heap.size, 0, none⟩ = some (str pf) ∧ w'.cell? ⟨w1.heap.size, 1, none⟩ = some (.int .i64 pn)) [10] (by kernel_rfl) ?_
          rw [hWd]
          refine anyS_take 0 (v := .pointer (some ⟨B, 0, none⟩)) rfl (by kernel_rfl) (by kernel_rfl) (by kernel_rfl) (by kernel_rfl) (fun _ _ _ h => h) (.inl ⟨by kernel_rfl, fun w' hS' => by kernel_rfl⟩) hS0 ?_
          refine anyS_take 1 (v := .pointer (some ⟨B, 0, none⟩)) rfl (by kernel_rfl) (by kernel_rfl) (by kernel_rfl) (by kernel_rfl) (fun _ _ _ h => h) (.inl ⟨by kernel_rfl, fun w' hS' => by kernel_rfl⟩) hS0 ?_
          refine anyS_take 2 (v := .pointer (some ⟨B, 0, none⟩)) rfl (by kernel_rfl) (by kernel_rfl) (by kernel_rfl) (by kernel_rfl) (fun _ _ _ h => h) (.inl ⟨by kernel_rfl, fun w' hS' => by go_simp⟩) hS0 ?_
          refine anyS_take 3 (v := .pointer (some ⟨B, 0, none⟩)) rfl (by kernel_rfl) (by kernel_rfl) (by kernel_rfl) (by kernel_rfl) (fun _ _ _ h => h) (.inl ⟨by kernel_rfl, fun w' hS' => by go_simp⟩) hS0 ?_
          refine anyS_take 4 (v := .slice Aa s.acc.length ca) rfl (by kernel_rfl) (by kernel_rfl) (by kernel_rfl) (by kernel_rfl) (fun _ _ _ h => h) (.inl ⟨by kernel_rfl, fun w' hS' => by obtain ⟨s0, s1, s2⟩ := hS'; go_simp⟩) hS0 ?_
          refine anyS_take 5 (v := .agg #[str pf, .int .i64 pn]) rfl (by kernel_rfl) (by kernel_rfl) (by kernel_rfl) (by kernel_rfl) (fun _ _ _ h => h) (.inl ⟨by kernel_rfl, fun w' hS' => by obtain ⟨s0, s1, s2⟩ := hS'; go_simp⟩) hS0 ?_
          refine anyS_one 6 rfl (by kernel_rfl) rfl ?_
          intro K6 hK6
          go_simp
          refine hK6 _ _ ⟨fun _ => hS6, ?_⟩
          refine anyS_one 7 rfl (by kernel_rfl) rfl ?_
          intro K7 hK7
          refine oper_app _ _ _ rfl _ _ (by rfl) (by rfl) hrun5' ?_
          refine hK7 _ _ ⟨fun _ => hS7, ?_⟩
          refine anyS_one 8 rfl (by kernel_rfl) rfl ?_
          intro K8 hK8
          go_simp
          refine hK8 _ _ ⟨fun _ => hS7, ?_⟩
          refine anyS_one 9 rfl (by kernel_rfl) rfl ?_
          intro K9 hK9
          go_simp
          refine hK9 _ _ ⟨fun _ => hS7, ?_⟩
          refine anyS_one 10 rfl (by kernel_rfl) rfl ?_
          intro K10 hK10
          have c0 := hS7.1
          go_simp
          refine hK10 _ _ ⟨fun h => absurd (List.mem_singleton.2 rfl) h, ?_⟩
          refine anyS_done (by kernel_rfl) ?_
          clear hK6 hK7 hK8 hK9 hK10 hS0 hS6 hS7 hrun5' hW6 c0
          go_wp2_with fail
          refine region_S (fun w' => w'.cell? ⟨B, 0, none⟩ = some (.slice Ab (s.acc.length + 1) cb) ∧ w'.cell? ⟨B, 1, none⟩ = some (.slice Aw s.wait.length cw) ∧ w'.cell? ⟨w.heap.size, 1, none⟩ = some (str pf) ∧ w'.cell? ⟨w.heap.size, 3, none⟩ = some (str pb)) [19] (by kernel_rfl) ?_
          rw [hWe]
          refine anyS_take 0 (v := .pointer (some ⟨B, 0, none⟩)) rfl (by kernel_rfl) (by kernel_rfl) (by kernel_rfl) (by kernel_rfl) (fun _ _ _ h => h) (.inl ⟨by kernel_rfl, fun w' hS' => by kernel_rfl⟩) hT0 ?_
          refine anyS_take 1 (v := .pointer (some ⟨B, 0, none⟩)) rfl (by kernel_rfl) (by kernel_rfl) (by kernel_rfl) (by kernel_rfl) (fun _ _ _ h => h) (.inl ⟨by kernel_rfl, fun w' hS' => by kernel_rfl⟩) hT0 ?_
          refine anyS_take 2 (v := .pointer (some ⟨B, 0, none⟩)) rfl (by kernel_rfl) (by kernel_rfl) (by kernel_rfl) (by kernel_rfl) (fun _ _ _ h => h) (.inl ⟨by kernel_rfl, fun w' hS' => by go_simp⟩) hT0 ?_
          refine anyS_take 3 (v := .pointer (some ⟨B, 1, none⟩)) rfl (by kernel_rfl) (by kernel_rfl) (by kernel_rfl) (by kernel_rfl) (fun _ _ _ h => h) (.inl ⟨by kernel_rfl, fun w' hS' => by go_simp⟩) hT0 ?_
          refine anyS_take 4 (v := .slice Aw s.wait.length cw) rfl (by kernel_rfl) (by kernel_rfl) (by kernel_rfl) (by kernel_rfl) (fun _ _ _ h => h) (.inl ⟨by kernel_rfl, fun w' hS' => by obtain ⟨s0, s1, s2, s3⟩ := hS'; go_simp⟩) hT0 ?_
          refine anyS_take 5 (v := .pointer (some ⟨B, 0, none⟩)) rfl (by kernel_rfl) (by kernel_rfl) (by kernel_rfl) (by kernel_rfl) (fun _ _ _ h => h) (.inl ⟨by kernel_rfl, fun w' hS' => by kernel_rfl⟩) hT0 ?_
          refine anyS_take 6 (v := .pointer (some ⟨B, 0, none⟩)) rfl (by kernel_rfl) (by kernel_rfl) (by kernel_rfl) (by kernel_rfl) (fun _ _ _ h => h) (.inl ⟨by kernel_rfl, fun w' hS' => by go_simp⟩) hT0 ?_
          refine anyS_take 7 (v := .pointer (some ⟨B, 0, none⟩)) rfl (by kernel_rfl) (by kernel_rfl) (by kernel_rfl) (by kernel_rfl) (fun _ _ _ h => h) (.inl ⟨by kernel_rfl, fun w' hS' => by go_simp⟩) hT0 ?_
          refine anyS_take 8 (v := .slice Ab (s.acc.length + 1) cb) rfl (by kernel_rfl) (by kernel_rfl) (by kernel_rfl) (by kernel_rfl) (fun _ _ _ h => h) (.inl ⟨by kernel_rfl, fun w' hS' => by obtain ⟨s0, s1, s2, s3⟩ := hS'; go_simp⟩) hT0 ?_
          refine anyS_take 9 (v := .int .i64 ((s.acc.length + 1 : Nat) : Int)) rfl (by kernel_rfl) (by kernel_rfl) (by kernel_rfl) (by kernel_rfl) (fun _ _ _ h => h) (.inl ⟨by kernel_rfl, fun w' hS' => by go_simp⟩) hT0 ?_
          refine anyS_take 10 (v := .pointer (some ⟨w.heap.size, 1, none⟩)) rfl (by kernel_rfl) (by kernel_rfl) (by kernel_rfl) (by kernel_rfl) (fun _ _ _ h => h) (.inl ⟨by kernel_rfl, fun w' hS' => by go_simp⟩) hT0 ?_
          refine anyS_take 11 (v := str pf) rfl (by kernel_rfl) (by kernel_rfl) (by kernel_rfl) (by kernel_rfl) (fun _ _ _ h => h) (.inl ⟨by kernel_rfl, fun w' hS' => by obtain ⟨s0, s1, s2, s3⟩ := hS'; go_simp⟩) hT0 ?_
          refine anyS_take 12 (v := .pointer (some ⟨w.heap.size, 3, none⟩)) rfl (by kernel_rfl) (by kernel_rfl) (by kernel_rfl) (by kernel_rfl) (fun _ _ _ h => h) (.inl ⟨by kernel_rfl, fun w' hS' => by go_simp⟩) hT0 ?_
          refine anyS_take 13 (v := str pb) rfl (by kernel_rfl) (by kernel_rfl) (by kernel_rfl) (by kernel_rfl) (fun _ _ _ h => h) (.inl ⟨by kernel_rfl, fun w' hS' => by obtain ⟨s0, s1, s2, s3⟩ := hS'; go_simp⟩) hT0 ?_
          refine anyS_one 14 rfl (by kernel_rfl) rfl ?_
          intro K6 hK6
          go_simp
          refine hK6 _ _ ⟨fun _ => hT0, ?_⟩
          refine anyS_one 15 rfl (by kernel_rfl) rfl ?_
          intro K7 hK7
          go_simp
          refine hK7 _ _ ⟨fun _ => hT6, ?_⟩
          refine anyS_one 16 rfl (by kernel_rfl) rfl ?_
          intro K8 hK8
          refine oper_app _ _ _ rfl _ _ (by rfl) (by rfl) hrun8' ?_
          refine hK8 _ _ ⟨fun _ => hT7, ?_⟩
          refine anyS_one 17 rfl (by kernel_rfl) rfl ?_
          intro K9 hK9
          go_simp
          refine hK9 _ _ ⟨fun _ => hT7, ?_⟩
          refine anyS_one 18 rfl (by kernel_rfl) rfl ?_
          intro K10 hK10
          go_simp
          refine hK10 _ _ ⟨fun _ => hT7, ?_⟩
          refine anyS_one 19 rfl (by kernel_rfl) rfl ?_
          intro K11 hK11
          have c0 := hT7.2.1
          go_simp
          refine hK11 _ _ ⟨fun h => absurd (List.mem_singleton.2 rfl) h, ?_⟩
          refine anyS_done (by kernel_rfl) ?_
          clear hK6 hK7 hK8 hK9 hK10 hK11 hT0 hT6 hT7 hrun8' c0
          go_wp2_with fail
          go_ret
          exact Hfin.out
  · have HE := Lib.hid (HB.out hk)
    have hk2 : (k != 0) = true := by simpa using hk
    clear HO HB hb1
    go_wp2_with fail
    go_ret
    rw [HE.out]
    exact SdPost.same Hh.out HbW1.out
end Go.Proofs.Ytmlgaedhfannmaa
