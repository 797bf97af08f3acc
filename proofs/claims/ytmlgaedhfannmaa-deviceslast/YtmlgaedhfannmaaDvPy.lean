/- Device lists: listing, Play. -/
import Derived.Test.YtmlgaedhfannmaaDvPl
namespace Go.Proofs.Ytmlgaedhfannmaa
set_option linter.unusedVariables false
set_option linter.unusedSimpArgs false
open Go.RowKit
theorem dev_box {W : World} {n : Nat} {u : Value} {l : List Rw} {r : Rw} {base : Nat} (ho : W.ownsRow base 42 2 u n (pcR l)) (hn : n + 1 ≤ 1048576) (hb : base ≤ W.heap.size) (cs : Array Value) (hcs : cs = #[str r.key, str r.val]) :
    ∃ v' wf, (Builtin.append_ #[23, 23] 23 #[u, .slice (some ⟨W.heap.size, 0, none⟩) 1 1]).run Try.prog (W.alloc (.cells cs 42)) = .ok v' wf ∧
      wf.ownsRow base 42 2 v' (n + 1) (pcR (l ++ [r])) ∧ W.grownBy wf u.ownBlock ∧ (v'.ownBlock = u.ownBlock ∨ v'.ownBlock = some (W.heap.size + 1)) := by
  obtain ⟨v', wf, h1, h2, h3, h4⟩ := run_app_el (P := Try.prog) (enc := rc) rc_len rc_one (by omega) Try.underlying23 info_dev rfl (by omega) W base n u l r cs (by rw [hcs]; rfl) ho hn hb
  exact ⟨v', wf, h1, h2, (World.grownBy_alloc W _ _).trans h3, h4⟩
theorem own_oth {w : World} {base e size n g j : Nat} {v u : Value} {xs : List Value} (h : w.ownsRow base e size v n xs) (hg : v.ownBlock ≠ some g) : (w.setCell ⟨g, j, none⟩ u).ownsRow base e size v n xs :=
  own_kept h fun k hk => Below.heap_setCell w _ _ k (by show k ≠ g; rintro rfl; exact hg hk)
/-- The end of a function whose one result is a list in memory. -/
theorem ret_lst {fn : Func} {R : Ending → World → Prop} {a : Act} {W : World} {g : Nat} {s1 : Tmp} {x0 x1 x2 : Value}
    (hf : fn.results = #[.cell s1 25]) (h1 : a.tmps.getD s1 undef = .pointer (some ⟨g, 0, none⟩))
    (hb : Blk W g 25 #[x0, x1, x2]) (hd : a.defers = []) (hR : R (.returned (.agg #[x0, x1, x2])) W) : bodyPost Try.prog fn R .ret a W := by
  refine bodyPost_ret ?_ hd hR
  have c0 := hb.cell 0
  have c1 := hb.cell 1
  have c2 := hb.cell 2
  simp only [Array.getD_eq_getD_getElem?] at h1
  simp [results, hf, h1, go_sem, c0, c1, c2]
theorem ret_lst3 {fn : Func} {R : Ending → World → Prop} {a : Act} {W : World} {g : Nat} {s0 s1 s2 : Tmp} {b0 b2 x0 x1 x2 : Value}
    (hf : fn.results = #[.tmp s0, .cell s1 25, .tmp s2]) (h1 : a.tmps.getD s1 undef = .pointer (some ⟨g, 0, none⟩)) (h0 : a.tmps.getD s0 undef = b0) (h2 : a.tmps.getD s2 undef = b2)
    (hb : Blk W g 25 #[x0, x1, x2]) (hd : a.defers = []) (hR : R (.returned (.tuple #[b0, .agg #[x0, x1, x2], b2])) W) : bodyPost Try.prog fn R .ret a W := by
  refine bodyPost_ret ?_ hd hR
  have c0 := hb.cell 0
  have c1 := hb.cell 1
  have c2 := hb.cell 2
  simp only [Array.getD_eq_getD_getElem?] at h1 h0 h2
  simp [results, hf, h1, h0, h2, go_sem, c0, c1, c2]
def LsR (ds : List Rw) (w : World) (n : Nat) (gk : Nat) (s3 s11 : Value) (wr : World) : Prop :=
  ∃ k : Nat, s11 = .int .i64 (k : Int) ∧ k ≤ n ∧ gk = n - k ∧ wr.ownsRow (w.heap.size + 1) 42 2 s3 k (pcR (ds.take k)) ∧ Blk wr w.heap.size 25 #[.int .i64 0, .bool false, .slice none 0 0] ∧ Below w.heap.size w wr
def LsPost (us : List Uc) (ds : List Rw) (w : World) (e : Ending) (w' : World) : Prop :=
  ∃ A c, e = .returned (.agg #[.int .i64 (us.length : Int), .bool false, .slice A ds.length c]) ∧ w'.ownsRow (w.heap.size + 1) 42 2 (.slice A ds.length c) ds.length (pcR ds) ∧ Below w.heap.size w w'
set_option maxHeartbeats 4000000 in
set_option maxRecDepth 100000 in
theorem listing_any (B : Nat) (us : List Uc) (ds : List Rw) (vu vd : Value) (w : World) (h : DvS B w us ds vu vd) (hd : DsOk ds) (hn : us.length ≤ 1000) :
    Calls Try.prog 32 #[.pointer (some ⟨B, 0, none⟩)] w (LsPost us ds w) := by
  have h6 := hd.few
  obtain ⟨Au, cu, rfl, -⟩ := LIn.own ucL_len h.ru
  obtain ⟨A, c, rfl, hA⟩ := LIn.own rc_len (show w.ownsRow (B + 1) 42 2 vd ds.length (pcK rc ds) from h.rd)
  obtain ⟨W, hW⟩ : ∃ W, w.alloc (.cells #[.int .i64 0, .bool false, .slice none 0 0] 25) = W := ⟨_, rfl⟩
  have hWB := Blk.new w 25 #[.int .i64 0, .bool false, .slice none 0 0]
  have hWb : Below w.heap.size w W := by rw [← hW]; exact (Below.refl _ _).alloc (Nat.le_refl _) _
  rw [hW] at hWB
  have hBw : B < w.heap.size := h.box.lt
  have x1 : w.cell? ⟨B, 1, none⟩ = some (.slice A ds.length c) := h.box.cell 1
  have y1 : W.cell? ⟨B, 1, none⟩ = some (.slice A ds.length c) := (h.below hWb).box.cell 1
  have x0 : w.cell? ⟨B, 0, none⟩ = some (.slice Au us.length cu) := h.box.cell 0
  have Hgood := Lib.hid hd.good
  have Hst := Lib.hid (show LsR ds w ds.length ds.length (.slice none 0 0) (.int .i64 0) W from ⟨0, rfl, Nat.zero_le _, by omega, by rw [List.take_zero]; exact World.ownsRow_nil _ _ _ _, hWB, hWb⟩)
  have HA := Lib.hid hA
  clear h hd hA hWB hWb
  obtain ⟨n, hn1⟩ : ∃ n, ds.length = n := ⟨_, rfl⟩
  have Hn := Lib.hid hn1
  simp only [hn1] at h6 x1 y1 Hst HA
  unfold LsPost
  rw [hn1]
  generalize us.length = m at *
  clear hn1
  go_enter Try.func32, Try.ntmps32
  go_wp2_with fail
  go_loopg [3, 11] n (LsR ds w n)
  case atStart => exact Hst.out
  case round =>
    clear Hst
    obtain ⟨k, rfl, hk, hgk, ho, hbl, hbe⟩ := hrel
    have Hgk := Lib.hid hgk
    have Hbe := Lib.hid hbe
    have Ho := Lib.hid ho
    have Hbl := Lib.hid hbl
    have hszw := hbe.size
    have hltl := hbl.lt
    clear hgk hbe ho hbl
    by_cases hkn : k < n
    · have hkl : k < ds.length := by rw [Hn.out]; exact hkn
      obtain ⟨b, off, hAd, hbB, c0, c1⟩ := dv_at (show LIn rc 2 wr w.heap.size A n c ds from HA.out.below Hbe.out) hkl
      subst hAd
      have hsh := Hgood.out ds[k] (List.getElem_mem _)
      have Htk := Lib.hid (List.take_succ_eq_append_getElem hkl)
      generalize ds[k] = r at *
      obtain ⟨rk, rv⟩ := r
      simp only at c0 c1 hsh
      have hi1 : ((k : Nat) : Int) < (n : Int) := by omega
      have hbw : b < wr.heap.size := by omega
      obtain ⟨W, hW⟩ : ∃ W, wr.alloc (.cells #[str rk, str rv] 42) = W := ⟨_, rfl⟩
      have hWb : Below wr.heap.size wr W := by rw [← hW]; exact (Below.refl _ _).alloc (Nat.le_refl _) _
      have hWB := Blk.new wr 42 #[str rk, str rv]
      rw [hW] at hWB
      have z0 : W.cell? ⟨wr.heap.size, 0, none⟩ = some (str rk) := hWB.cell 0
      have z1 : W.cell? ⟨wr.heap.size, 1, none⟩ = some (str rv) := hWB.cell 1
      have HC := Lib.hid (copiedD_any rk rv W hsh.2.2 hsh.2.1)
      have HWb := Lib.hid hWb
      clear hWb hWB hsh
      go_wp2_with fail
      refine HC.out.mono ?_
      rintro e w2 ⟨rfl, hb2⟩
      have hb3 := HWb.out.trans (hb2.mono HWb.out.size)
      have ho3 := own_below Ho.out hb3
      have hsz3 := hb3.size
      obtain ⟨v', wf, hrun, ho4, hg4, hor⟩ := dev_box (r := ⟨rk, rv⟩) ho3 (by omega) (by omega) #[str rk, str rv] rfl
      have hbf : Below w.heap.size w wf := (Hbe.out.trans (hb3.mono hszw)).grown hg4 (by omega) fun g hg => by have := (World.ownsRow.lt ho3 g hg).1; omega
      have hblf : Blk wf w.heap.size 25 #[.int .i64 0, .bool false, .slice none 0 0] := (Hbl.out.below hb3 hltl).grown hg4 (fun e => by have := (World.ownsRow.lt ho3 _ e.symm).1; omega)
      have Hrun := Lib.hid hrun
      have Ho4 := Lib.hid ho4
      have Hbf := Lib.hid hbf
      have Hblf := Lib.hid hblf
      clear hrun ho4 hg4 hor hbf hblf ho3 hb3 hb2 HC
      go_wp2_with (first | (at_builtin; refine dv_app rfl _ _ _ rfl _ _ (by rfl) (by rfl) Hrun.out ?_; clear Hrun) | fail)
      go_roundg (n - (k + 1))
      case measure => have := Hgk.out; omega
      case rel => exact ⟨k + 1, by go_num, by omega, rfl, by rw [Htk.out]; exact Ho4.out, Hblf.out, Hbf.out⟩
    · have hi1 : ¬ ((k : Nat) : Int) < (n : Int) := by omega
      have hkk : k = n := by omega
      subst hkk
      have ho := Ho.out
      rw [List.take_of_length_le (by have := Hn.out; omega)] at ho
      obtain ⟨A3, c3, rfl, -⟩ := own_form ho
      have u0 : wr.cell? ⟨B, 0, none⟩ = some (.slice Au m cu) := (Hbe.out.cell hBw).trans x0
      have b0 := Hbl.out.cell 0
      have b1 := Hbl.out.cell 1
      have b2 := Hbl.out.cell 2
      simp at b0 b1 b2
      have f0 := Hbl.out.frozen 0
      have f1 := Hbl.out.frozen 1
      have f2 := Hbl.out.frozen 2
      have HBx := Lib.hid (((Hbl.out.set_ 0 (.int .i64 (m : Int))).set_ 1 (.bool false)).set_ 2 (.slice A3 k c3))
      have Hw : Hid (Below w.heap.size w (((wr.setCell ⟨w.heap.size, 0, none⟩ (.int .i64 (m : Int))).setCell ⟨w.heap.size, 1, none⟩ (.bool false)).setCell ⟨w.heap.size, 2, none⟩ (.slice A3 k c3))) := Lib.hid (((Hbe.out.setCell (p := ⟨w.heap.size, 0, none⟩) (Nat.le_refl _) _).setCell (p := ⟨w.heap.size, 1, none⟩) (Nat.le_refl _) _).setCell (p := ⟨w.heap.size, 2, none⟩) (Nat.le_refl _) _)
      have hne : (Value.slice A3 k c3).ownBlock ≠ some w.heap.size := fun e => by have := (World.ownsRow.lt ho _ e).1; omega
      have Hof := Lib.hid (own_oth (j := 2) (u := .slice A3 k c3) (own_oth (j := 1) (u := .bool false) (own_oth (j := 0) (u := .int .i64 (m : Int)) ho hne) hne) hne)
      clear hne ho Ho
      go_wp2_with fail
      exact ret_lst (g := w.heap.size) (x0 := .int .i64 (m : Int)) (x1 := .bool false) (x2 := .slice A3 k c3) rfl (by rfl) (by simpa using HBx.out) rfl ⟨A3, c3, rfl, Hof.out, Hw.out⟩
def DPost (X : Int × List Uc × List Rw) (w : World) (e : Ending) (w' : World) : Prop :=
  ∃ A1 c1 A2 c2, e = .returned (.tuple #[.slice A1 X.2.1.length c1, .agg #[.int .i64 (X.2.1.length : Int), .bool false, .slice A2 X.2.2.length c2], .int .i64 X.1]) ∧ LIn ucL 5 w' w'.heap.size A1 X.2.1.length c1 X.2.1 ∧ LIn rc 2 w' w'.heap.size A2 X.2.2.length c2 X.2.2 ∧ Below w.heap.size w w'
set_option maxHeartbeats 4000000 in
set_option maxRecDepth 100000 in
theorem dplay_any (A : Option Addr) (n c B : Nat) (l : List Uc) (w : World) (hl : LIn ucL 5 w B A n c l) (hB : B ≤ w.heap.size) (hn : n ≤ 9223372036854775807) (hok : ∀ p ∈ l, UcOk p) :
    Calls Try.prog 13 #[.slice A n c] w (DPost (playL l) w) := by
  obtain ⟨W, hW⟩ : ∃ W, w.alloc (.cells #[.int .i64 0, .bool false, .slice none 0 0] 25) = W := ⟨_, rfl⟩
  have hWB := Blk.new w 25 #[.int .i64 0, .bool false, .slice none 0 0]
  have hWb : Below w.heap.size w W := by rw [← hW]; exact (Below.refl _ _).alloc (Nat.le_refl _) _
  rw [hW] at hWB
  have hWs : W.heap.size = w.heap.size + 1 := by rw [← hW]; simp
  have HC := Lib.hid (played_any A n c B l W (hl.below (hWb.mono hB)) (by omega) hn hok)
  have HWB := Lib.hid hWB
  have HWb := Lib.hid hWb
  have Hok := Lib.hid (playL_ok l)
  have Hlen := Lib.hid (playL_len l)
  have Hcode := Lib.hid (playL_code l)
  clear hl hok hWB hWb
  unfold PdPost at HC
  rw [hWs] at HC
  generalize playL l = X at *
  obtain ⟨xe, xu, xd⟩ := X
  simp only at Hok Hlen Hcode HC
  go_enter Try.func13, Try.ntmps13
  go_wp2_with fail
  refine HC.out.mono ?_
  rintro e w1 (⟨rfl, vu, vd, rfl, hx, hb1⟩ | ⟨he, rfl, hb1⟩)
  · have hbl1 : Blk w1 w.heap.size 25 #[.int .i64 0, .bool false, .slice none 0 0] := (hb1.block _ (Nat.lt_succ_self _)).trans HWB.out
    obtain ⟨Wd, hWd⟩ : ∃ Wd, w1.drew = Wd := ⟨_, rfl⟩
    have hbd : Below w1.heap.size w1 Wd := by rw [← hWd]; exact below_drewN (Below.refl _ _) 1
    have hxd := hx.below hbd
    obtain ⟨Au, cu, rfl, hAu⟩ := LIn.own ucL_len hxd.ru
    have hbld := hbl1.below hbd hbl1.lt
    have Hbd := Lib.hid (HWb.out.trans ((hb1.trans (hbd.mono (by have := hb1.size; omega))).mono (show w.heap.size ≤ w.heap.size + 1 by omega)))
    have HL := Lib.hid (listing_any (w.heap.size + 1) xu xd _ vd Wd hxd Hok.out.2 (by have := Hlen.out; omega))
    have hS0 : Wd.cell? ⟨w.heap.size + 1, 0, none⟩ = some (.slice Au xu.length cu) := hxd.box.cell 0
    have Hlt := Lib.hid hxd.box.lt
    have Hru := Lib.hid (show Wd.ownsRow (w.heap.size + 2) 44 5 (.slice Au xu.length cu) xu.length (pcK ucL xu) from hxd.ru)
    have Hbld := Lib.hid hbld
    clear hx hb1 hbl1 hbd hxd hAu hbld HC Hcode
    unfold LsPost at HL
    generalize hnu : xu.length = nu at *
    generalize hnd : xd.length = nd at *
    go_wp2_with fail
    refine region_S (fun w' => w'.cell? ⟨w.heap.size + 1, 0, none⟩ = some (.slice Au nu cu)) [7, 8] (by kernel_rfl) ?_
    rw [hWd]
    refine anyS_take 0 (v := .pointer (some ⟨w.heap.size + 1, 0, none⟩)) rfl (by kernel_rfl) (by kernel_rfl) (by kernel_rfl) (by kernel_rfl) (fun _ _ _ h => h) (.inl ⟨by kernel_rfl, fun w' hS' => by kernel_rfl⟩) hS0 ?_
    refine anyS_take 1 (v := .pointer (some ⟨w.heap.size + 1, 0, none⟩)) rfl (by kernel_rfl) (by kernel_rfl) (by kernel_rfl) (by kernel_rfl) (fun _ _ _ h => h) (.inl ⟨by kernel_rfl, fun w' hS' => by go_simp⟩) hS0 ?_
    refine anyS_take 2 (v := .pointer (some ⟨w.heap.size + 1, 0, none⟩)) rfl (by kernel_rfl) (by kernel_rfl) (by kernel_rfl) (by kernel_rfl) (fun _ _ _ h => h) (.inl ⟨by kernel_rfl, fun w' hS' => by go_simp⟩) hS0 ?_
    refine anyS_take 3 (v := .slice Au nu cu) rfl (by kernel_rfl) (by kernel_rfl) (by kernel_rfl) (by kernel_rfl) (fun _ _ _ h => h) (.inl ⟨by kernel_rfl, fun w' hS' => by go_simp⟩) hS0 ?_
    refine anyS_take 4 (v := .pointer (some ⟨w.heap.size + 1, 0, none⟩)) rfl (by kernel_rfl) (by kernel_rfl) (by kernel_rfl) (by kernel_rfl) (fun _ _ _ h => h) (.inl ⟨by kernel_rfl, fun w' hS' => by kernel_rfl⟩) hS0 ?_
    refine anyS_one 5 rfl (by kernel_rfl) rfl ?_
    intro K5 hK5
    go_simp
    refine HL.out.mono ?_
    rintro e w2 ⟨A2, c2, rfl, ho2, hb2⟩
    have hS2 : w2.cell? ⟨w.heap.size + 1, 0, none⟩ = some (.slice Au nu cu) := (hb2.cell (p := ⟨w.heap.size + 1, 0, none⟩) Hlt.out).trans hS0
    have hbl2 := Hbld.out.below hb2 Hbld.out.lt
    have b0 := hbl2.cell 0
    have b1 := hbl2.cell 1
    have b2 := hbl2.cell 2
    simp at b0 b1 b2
    have f0 := hbl2.frozen 0
    have f1 := hbl2.frozen 1
    have f2 := hbl2.frozen 2
    have HBx := Lib.hid (((hbl2.set_ 0 (.int .i64 (nu : Int))).set_ 1 (.bool false)).set_ 2 (.slice A2 nd c2))
    have hru2 := own_below Hru.out hb2
    have hne1 : (Value.slice Au nu cu).ownBlock ≠ some w.heap.size := fun e => by have := (World.ownsRow.lt hru2 _ e).1; omega
    have hne2 : (Value.slice A2 nd c2).ownBlock ≠ some w.heap.size := fun e => by have h1 := (World.ownsRow.lt ho2 _ e).1; have h2 := Hbld.out.lt; omega
    have Hu3 := Lib.hid (own_oth (j := 2) (u := .slice A2 nd c2) (own_oth (j := 1) (u := .bool false) (own_oth (j := 0) (u := .int .i64 (nu : Int)) hru2 hne1) hne1) hne1)
    have Hd3 := Lib.hid (own_oth (j := 2) (u := .slice A2 nd c2) (own_oth (j := 1) (u := .bool false) (own_oth (j := 0) (u := .int .i64 (nu : Int)) ho2 hne2) hne2) hne2)
    have Hw := Lib.hid ((((Hbd.out.trans (hb2.mono Hbd.out.size)).setCell (p := ⟨w.heap.size, 0, none⟩) (Nat.le_refl _) (.int .i64 (nu : Int))).setCell (p := ⟨w.heap.size, 1, none⟩) (Nat.le_refl _) (.bool false)).setCell (p := ⟨w.heap.size, 2, none⟩) (Nat.le_refl _) (.slice A2 nd c2))
    clear hbl2 hru2 hne1 hne2 ho2 hb2
    refine hK5 _ _ ⟨fun _ => hS2, ?_⟩
    refine anyS_one 6 rfl (by kernel_rfl) rfl ?_
    intro K6 hK6
    go_simp
    refine hK6 _ _ ⟨fun _ => hS2, ?_⟩
    refine anyS_one 7 rfl (by kernel_rfl) rfl ?_
    intro K7 hK7
    go_simp
    refine hK7 _ _ ⟨fun h => absurd (by simp) h, ?_⟩
    refine anyS_one 8 rfl (by kernel_rfl) rfl ?_
    intro K8 hK8
    go_simp
    refine hK8 _ _ ⟨fun h => absurd (by simp) h, ?_⟩
    refine anyS_done (by kernel_rfl) ?_
    clear hK5 hK6 hK7 hK8 hS0 hS2
    go_wp2_with fail
    refine ret_lst3 (g := w.heap.size) (b0 := .slice Au nu cu) (b2 := .int .i64 0) (x0 := .int .i64 (nu : Int)) (x1 := .bool false) (x2 := .slice A2 nd c2) rfl (by rfl) (by rfl) (by rfl) (by simpa using HBx.out) rfl ?_
    unfold DPost
    simp only
    rw [hnu, hnd]
    exact ⟨Au, cu, A2, c2, rfl, own_lin ucL_len (show World.ownsRow _ _ _ _ (.slice Au nu cu) nu (pcK ucL xu) from Hu3.out) hnu, own_lin rc_len (show World.ownsRow _ _ _ _ (.slice A2 nd c2) nd (pcK rc xd) from Hd3.out) hnd, Hw.out⟩
  · have hXX : xu = [] ∧ xd = [] := by
      rcases Hcode.out with h | ⟨_, h⟩
      · exact absurd h he
      · injection h with h1 h2; exact ⟨h1, h2⟩
    obtain ⟨rfl, rfl⟩ := hXX
    have hbl1 : Blk w1 w.heap.size 25 #[.int .i64 0, .bool false, .slice none 0 0] := (hb1.block _ (Nat.lt_succ_self _)).trans HWB.out
    have hxe : (xe != 0) = true := by simpa using he
    have b0 := hbl1.cell 0
    have b1 := hbl1.cell 1
    have b2 := hbl1.cell 2
    simp at b0 b1 b2
    have f0 := hbl1.frozen 0
    have f1 := hbl1.frozen 1
    have f2 := hbl1.frozen 2
    have HBx := Lib.hid (((hbl1.set_ 0 (.int .i64 0)).set_ 1 (.bool false)).set_ 2 (.slice none 0 0))
    have Hw := Lib.hid ((((HWb.out.trans (hb1.mono (show w.heap.size ≤ w.heap.size + 1 by omega))).setCell (p := ⟨w.heap.size, 0, none⟩) (Nat.le_refl _) (.int .i64 0)).setCell (p := ⟨w.heap.size, 1, none⟩) (Nat.le_refl _) (.bool false)).setCell (p := ⟨w.heap.size, 2, none⟩) (Nat.le_refl _) (.slice none 0 0))
    clear hbl1 hb1 HC Hcode
    go_wp2_with fail
    exact ret_lst3 (g := w.heap.size) (b0 := .slice none 0 0) (b2 := .int .i64 xe) (x0 := .int .i64 0) (x1 := .bool false) (x2 := .slice none 0 0) rfl (by rfl) (by rfl) (by rfl) (by simpa using HBx.out) rfl ⟨none, 0, none, 0, rfl, LIn.empty, LIn.empty, Hw.out⟩
end Go.Proofs.Ytmlgaedhfannmaa
