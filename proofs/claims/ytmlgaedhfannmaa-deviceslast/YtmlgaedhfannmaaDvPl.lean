/- Device lists: played, listing, Play. -/
import Derived.Test.YtmlgaedhfannmaaDvDo
namespace Go.Proofs.Ytmlgaedhfannmaa
set_option linter.unusedVariables false
set_option linter.unusedSimpArgs false
open Go.RowKit
theorem playD_step {c : Uc} {r us : List Uc} {ds : List Rw} (hc : okU c = true) :
    playD (c :: r) us ds = if (applyR us ds c).1 ≠ 0 then ((applyR us ds c).1, [], []) else playD r (applyR us ds c).2.1 (applyR us ds c).2.2 := by
  rw [playD, if_neg (by simp [hc])]
  unfold applyR
  by_cases h1 : eff ds c = false
  · rw [if_pos h1, if_pos h1]; simp
  · rw [if_neg h1, if_neg h1]
    by_cases h2 : 6 < (setR (rwU c) ds).length
    · rw [if_pos h2, if_pos h2]; simp
    · rw [if_neg h2, if_neg h2]; simp
theorem applyR_ok {c : Uc} {us : List Uc} {ds : List Rw} (hc : okU c = true) (hu : UsOk us) (hd : DsOk ds) : UsOk (applyR us ds c).2.1 ∧ DsOk (applyR us ds c).2.2 ∧ (applyR us ds c).2.1.length ≤ us.length + 1 := by
  unfold applyR
  split
  · exact ⟨hu, hd, by simp⟩
  · split
    · exact ⟨hu, hd, by simp⟩
    · rename_i h6
      exact ⟨hu.push hc, hd.step hc h6, by simp⟩
def PdPost (X : Int × List Uc × List Rw) (w : World) (e : Ending) (w' : World) : Prop :=
  (X.1 = 0 ∧ ∃ vu vd, e = .returned (.tuple #[.pointer (some ⟨w.heap.size, 0, none⟩), .int .i64 0]) ∧ DvS w.heap.size w' X.2.1 X.2.2 vu vd ∧ Below w.heap.size w w') ∨
  (X.1 ≠ 0 ∧ e = .returned (.tuple #[.pointer none, .int .i64 X.1]) ∧ Below w.heap.size w w')
def PdR (l : List Uc) (w : World) (n : Nat) (gk : Nat) (s15 : Value) (wr : World) : Prop :=
  ∃ k us ds vu vd, s15 = .int .i64 (k : Nat) ∧ k ≤ n ∧ gk = n - k ∧ DvS w.heap.size wr us ds vu vd ∧ UsOk us ∧ DsOk ds ∧ us.length ≤ k ∧ playD (l.drop k) us ds = playD l [] [] ∧ Below w.heap.size w wr
set_option maxHeartbeats 4000000 in
set_option maxRecDepth 100000 in
theorem played_any (A : Option Addr) (n c B : Nat) (l : List Uc) (w : World) (hl : LIn ucL 5 w B A n c l) (hB : B ≤ w.heap.size) (hn : n ≤ 9223372036854775807) (hok : ∀ p ∈ l, UcOk p) :
    Calls Try.prog 31 #[.slice A n c] w (PdPost (playL l) w) := by
  have hln := hl.1
  by_cases hbig : 100 < n
  · have HE := Lib.hid (show playL l = (1, [], []) by unfold playL; rw [if_pos (by omega)])
    have hb : (100 : Int) < (n : Int) := by omega
    clear hl hln
    go_enter Try.func31, Try.ntmps31
    go_wp2_with fail
    go_ret2
    rw [HE.out]
    exact .inr ⟨by decide, rfl, Below.refl _ _⟩
  · have HE := Lib.hid (show playL l = playD l [] [] by unfold playL; rw [if_neg (by omega)])
    have hb : ¬ (100 : Int) < (n : Int) := by omega
    have Hl := Lib.hid hl
    have Hln := Lib.hid hln
    have Hok := Lib.hid hok
    clear hl hln hok
    obtain ⟨w1, hw1⟩ : ∃ w1, w.alloc (.cells #[.slice none 0 0, .slice none 0 0] 85) = w1 := ⟨_, rfl⟩
    have hx1 := dvS0 w
    have hb1 : Below w.heap.size w w1 := by rw [← hw1]; exact (Below.refl _ _).alloc (Nat.le_refl _) _
    rw [hw1] at hx1
    have Hst := Lib.hid (show PdR l w n n (.int .i64 0) w1 from ⟨0, [], [], _, _, rfl, Nat.zero_le _, by omega, hx1, usOk_nil, dsOk_nil, Nat.le_refl _, rfl, hb1⟩)
    clear hx1 hb1
    go_enter Try.func31, Try.ntmps31
    go_wp2_with fail
    go_loopg [15] n (PdR l w n)
    case atStart => exact Hst.out
    case round =>
      clear Hst
      obtain ⟨k, us, ds, vu, vd, rfl, hk, hgk, hx, hu, hd, hul, hpl, hbe⟩ := hrel
      have Hgk := Lib.hid hgk
      have Hbe := Lib.hid hbe
      have Hpl := Lib.hid hpl
      have Hu := Lib.hid hu
      have Hd := Lib.hid hd
      have Hx := Lib.hid hx
      have hszx := hx.size
      clear hgk hbe hpl hx hu hd
      by_cases hkn : k < n
      · have hkl : k < l.length := by rw [Hln.out]; exact hkn
        obtain ⟨b, off, hA, hbB, d0, d1, d2, d3, d4⟩ := uc_at (Hl.out.below (Hbe.out.mono hB)) hkl
        subst hA
        have hak := Hok.out l[k] (List.getElem_mem hkl)
        have HT := Lib.hid (show playD (l[k] :: l.drop (k + 1)) us ds = playD l [] [] by rw [← List.drop_eq_getElem_cons hkl]; exact Hpl.out)
        generalize l[k] = p at *
        obtain ⟨W, hW⟩ : ∃ W, wr.alloc (.cells #[.int .i64 p.st, .int .i64 p.pv, str p.key, str p.val, .bool p.gone] 44) = W := ⟨_, rfl⟩
        have hWB := Blk.new wr 44 #[.int .i64 p.st, .int .i64 p.pv, str p.key, str p.val, .bool p.gone]
        have hWb : Below wr.heap.size wr W := by rw [← hW]; exact (Below.refl _ _).alloc (Nat.le_refl _) _
        rw [hW] at hWB
        have x0 : W.cell? ⟨wr.heap.size, 0, none⟩ = some (.int .i64 p.st) := hWB.cell 0
        have x1 : W.cell? ⟨wr.heap.size, 1, none⟩ = some (.int .i64 p.pv) := hWB.cell 1
        have x2 : W.cell? ⟨wr.heap.size, 2, none⟩ = some (str p.key) := hWB.cell 2
        have x3 : W.cell? ⟨wr.heap.size, 3, none⟩ = some (str p.val) := hWB.cell 3
        have x4 : W.cell? ⟨wr.heap.size, 4, none⟩ = some (.bool p.gone) := hWB.cell 4
        have HV := Lib.hid (isValid_any p W hak)
        have hbw : b < wr.heap.size := by have := Hbe.out.size; omega
        have hi1 : (k : Int) < (n : Int) := by omega
        have HWb := Lib.hid hWb
        have HWB := Lib.hid hWB
        clear hWb hWB hak Hpl
        cases hc : okU p with
        | false =>
          have HX := Lib.hid (show playD l [] [] = (4, [], []) by rw [← HT.out, playD, if_pos hc])
          rw [hc] at HV
          clear hc HT
          go_wp2_with fail
          refine HV.out.mono ?_
          rintro e w2 ⟨rfl, hb2⟩
          have Hb2 := Lib.hid (Hbe.out.trans ((HWb.out.trans (hb2.mono HWb.out.size)).mono Hbe.out.size))
          clear hb2 HV
          go_wp2_with fail
          go_ret2
          rw [HE.out, HX.out]
          exact .inr ⟨by simp, rfl, Hb2.out⟩
        | true =>
          rw [hc] at HV
          rw [playD_step hc] at HT
          have Hap := Lib.hid (applyR_ok hc Hu.out Hd.out)
          have HU := Lib.hid (fun w2 => used_any p w2 hc)
          have HA := Lib.hid (fun w2 (h : DvS w.heap.size w2 us ds vu vd) => apply_any w.heap.size us ds vu vd p w2 h Hd.out hc (by omega))
          generalize applyR us ds p = X at *
          obtain ⟨xe, xu, xd⟩ := X
          simp only at HT HA Hap
          clear hc
          go_wp2_with fail
          refine HV.out.mono ?_
          rintro e w2 ⟨rfl, hb2⟩
          have hbW2 := HWb.out.trans (hb2.mono HWb.out.size)
          obtain ⟨Wd, hWd⟩ : ∃ Wd, w2.drew = Wd := ⟨_, rfl⟩
          have hbd : Below w2.heap.size w2 Wd := by rw [← hWd]; exact below_drewN (Below.refl _ _) 1
          have hbWd := hbW2.trans (hbd.mono hbW2.size)
          have hBd := (HWB.out.below hb2 HWB.out.lt).below hbd (HWB.out.below hb2 HWB.out.lt).lt
          have HxD := Lib.hid (Hx.out.below hbWd)
          have HNo : Hid (¬ DvN w.heap.size vu vd wr.heap.size) := Lib.hid fun hN => by
            rcases hN with e | e | e
            · have := Hx.out.size; omega
            · have := (World.ownsRow.lt Hx.out.ru _ e).2; omega
            · have := (World.ownsRow.lt Hx.out.rd _ e).2; omega
          have HbD := Lib.hid (Hbe.out.trans (hbWd.mono Hbe.out.size))
          have hS0 : Blk Wd wr.heap.size 44 #[.int .i64 p.st, .int .i64 p.pv, str p.key, str p.val, .bool p.gone] := hBd
          have hlt := hS0.lt
          have HSk := Lib.hid (show ∀ w3, Below Wd.heap.size Wd w3 → Blk w3 wr.heap.size 44 #[.int .i64 p.st, .int .i64 p.pv, str p.key, str p.val, .bool p.gone] from fun w3 h => hBd.below h hBd.lt)
          clear hb2 HV hbW2 hbd hbWd hBd
          go_wp2_with fail
          refine region_S (fun w' => Blk w' wr.heap.size 44 #[.int .i64 p.st, .int .i64 p.pv, str p.key, str p.val, .bool p.gone]) [] (by kernel_rfl) ?_
          rw [hWd]
          refine anyS_take 0 (v := .pointer (some ⟨w.heap.size, 0, none⟩)) rfl (by kernel_rfl) (by kernel_rfl) (by kernel_rfl) (by kernel_rfl) (fun _ _ _ h => h) (.inl ⟨by kernel_rfl, fun w' hS' => by kernel_rfl⟩) hS0 ?_
          refine anyS_take 1 (v := .pointer (some ⟨wr.heap.size, 4, none⟩)) rfl (by kernel_rfl) (by kernel_rfl) (by kernel_rfl) (by kernel_rfl) (fun _ _ _ h => h) (.inl ⟨by kernel_rfl, fun w' hS' => by kernel_rfl⟩) hS0 ?_
          refine anyS_take 2 (v := .bool p.gone) rfl (by kernel_rfl) (by kernel_rfl) (by kernel_rfl) (by kernel_rfl) (fun _ _ _ h => h) (.inl ⟨by kernel_rfl, fun w' hS' => by have z0 := hS'.cell 0; have z1 := hS'.cell 1; have z2 := hS'.cell 2; have z3 := hS'.cell 3; have z4 := hS'.cell 4; simp at z0 z1 z2 z3 z4; go_simp⟩) hS0 ?_
          refine anyS_take 3 (v := .agg #[.int .i64 p.st, .int .i64 p.pv, str p.key, str p.val, .bool p.gone]) rfl (by kernel_rfl) (by kernel_rfl) (by kernel_rfl) (by kernel_rfl) (fun _ _ _ h => h) (.inl ⟨by kernel_rfl, fun w' hS' => by have z0 := hS'.cell 0; have z1 := hS'.cell 1; have z2 := hS'.cell 2; have z3 := hS'.cell 3; have z4 := hS'.cell 4; simp at z0 z1 z2 z3 z4; go_simp⟩) hS0 ?_
          refine anyS_one 4 rfl (by kernel_rfl) rfl ?_
          intro K4 hK4
          go_simp
          refine (HU.out Wd).mono ?_
          rintro e w3 ⟨rfl, hb3⟩
          refine hK4 _ _ ⟨fun _ => HSk.out w3 hb3, ?_⟩
          have HA3 := Lib.hid (HA.out w3 (HxD.out.below hb3))
          have Hb3 := Lib.hid (HbD.out.trans (hb3.mono HbD.out.size))
          refine anyS_one 5 rfl (by kernel_rfl) rfl ?_
          intro K5 hK5
          go_simp
          refine HA3.out.mono ?_
          rintro e w4 ⟨vu', vd', rfl, hx4, hb4⟩
          have hS4 : Blk w4 wr.heap.size 44 #[.int .i64 p.st, .int .i64 p.pv, str p.key, str p.val, .bool p.gone] := (hb4.block _ (HSk.out w3 hb3).lt HNo.out).trans (HSk.out w3 hb3)
          have hb4 := dvN_below (HxD.out.below hb3) hb4
          refine hK5 _ _ ⟨fun _ => hS4, ?_⟩
          refine anyS_one 6 rfl (by kernel_rfl) rfl ?_
          intro K6 hK6
          go_simp
          refine hK6 _ _ ⟨fun _ => hS4, ?_⟩
          refine anyS_done (by kernel_rfl) ?_
          have Hx4 := Lib.hid hx4
          have Hb4 := Lib.hid (Hb3.out.trans hb4)
          clear hK4 hK5 hK6 hx4 hb4 hS0 hS4 HSk HA3 HA HU HNo
          by_cases he : xe = 0
          · subst he
            have HT2 := Lib.hid (show playD (l.drop (k + 1)) xu xd = playD l [] [] by rw [← HT.out]; simp)
            clear HT
            go_wp2_with fail
            go_roundg (n - (k + 1))
            case measure => have := Hgk.out; omega
            case rel => exact ⟨k + 1, xu, xd, vu', vd', by go_num, by omega, rfl, Hx4.out, Hap.out.1, Hap.out.2.1, by have := Hap.out.2.2; omega, HT2.out, Hb4.out⟩
          · have HX := Lib.hid (show playD l [] [] = (xe, [], []) by rw [← HT.out, if_pos he])
            have hxe : (xe != 0) = true := by simpa using he
            clear HT
            go_wp2_with fail
            go_ret2
            rw [HE.out, HX.out]
            exact .inr ⟨he, rfl, Hb4.out⟩
      · have hi1 : ¬ (k : Int) < (n : Int) := by omega
        have HX := Lib.hid (show playD l [] [] = (0, us, ds) by rw [← Hpl.out, List.drop_eq_nil_of_le (by have := Hln.out; omega)]; rfl)
        clear Hpl
        go_wp2_with fail
        go_ret2
        rw [HE.out, HX.out]
        exact .inl ⟨rfl, vu, vd, rfl, Hx.out, Hbe.out⟩
end Go.Proofs.Ytmlgaedhfannmaa
