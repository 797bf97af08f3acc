/- Device lists: lastOnes, Since. -/
import Derived.Test.YtmlgaedhfannmaaDvPy
namespace Go.Proofs.Ytmlgaedhfannmaa
set_option linter.unusedVariables false
set_option linter.unusedSimpArgs false
open Go.RowKit
theorem sameId_any (q : Uc) (key : List UInt8) (g : Nat) (w : World) (c2 : w.cell? ⟨g, 2, none⟩ = some (str key)) (hg : g < w.heap.size) :
    Calls Try.prog 53 #[.agg #[.int .i64 q.st, .int .i64 q.pv, str q.key, str q.val, .bool q.gone], .pointer (some ⟨g, 0, none⟩)] w fun e w' => e = .returned (.bool (q.key == key)) ∧ Below w.heap.size w w' := by
  have Hb := Lib.hid ((Below.refl _ w).alloc (Nat.le_refl _) (.cells #[.int .i64 q.st, .int .i64 q.pv, str q.key, str q.val, .bool q.gone] 44))
  go_enter Try.func53, Try.ntmps53
  go_wp2_with fail
  go_ret
  exact ⟨rfl, Hb.out⟩
def hasU (l : List Uc) (key : List UInt8) : Bool := l.any (fun v => v.key == key)
def IfU (w : World) (l : List Uc) (key : List UInt8) (n : Nat) (gk : Nat) (vi : Value) (wr : World) : Prop :=
  ∃ k : Nat, vi = .int .i64 (k : Int) ∧ k ≤ n ∧ gk = n - k ∧ hasU (l.take k) key = false ∧ Below w.heap.size w wr
set_option maxHeartbeats 1000000 in
theorem indexU_any (A : Option Addr) (n c B : Nat) (l : List Uc) (key : List UInt8) (g : Nat) (w : World) (hl : LIn ucL 5 w B A n c l) (hB : B ≤ w.heap.size) (hn : n ≤ 9223372036854775807)
    (c2 : w.cell? ⟨g, 2, none⟩ = some (str key)) (hg : g < w.heap.size) :
    Calls Try.prog 76 #[.slice A n c, .func (.func 53) #[] #[.pointer (some ⟨g, 0, none⟩)]] w fun e w' => ∃ i : Int, e = .returned (.int .i64 i) ∧ decide (0 ≤ i) = hasU l key ∧ Below w.heap.size w w' := by
  have Hln := Lib.hid hl.1
  have Hl := Lib.hid hl
  clear hl
  go_enter Try.func76, Try.ntmps76
  go_wp2
  go_loopg [8] n (IfU w l key n)
  case atStart => exact ⟨0, rfl, Nat.zero_le _, by omega, rfl, Below.refl _ _⟩
  case round =>
    obtain ⟨k, rfl, hk, hgk, hall, hbe⟩ := hrel
    have Hgk := Lib.hid hgk
    have Hall := Lib.hid hall
    have Hbe := Lib.hid hbe
    have hszw := hbe.size
    have d0 := (hbe.cell (p := ⟨g, 2, none⟩) hg).trans c2
    clear hgk hall hbe
    by_cases hkn : k < n
    · have hkl : k < l.length := by rw [Hln.out]; exact hkn
      obtain ⟨b, off, hA, hbB, e0, e1, e2, e3, e4⟩ := uc_at (Hl.out.below (Hbe.out.mono hB)) hkl
      subst hA
      have H1 := Lib.hid (sameId_any l[k] key g wr d0 (by omega))
      have Ht := Lib.hid (show hasU (l.take (k + 1)) key = (l[k].key == key) by
        unfold hasU at *
        rw [List.take_succ_eq_append_getElem hkl, List.any_append, Hall.out]; simp)
      have Hm := Lib.hid (show (l[k].key == key) = true → hasU l key = true from fun h => List.any_eq_true.2 ⟨_, List.getElem_mem hkl, h⟩)
      generalize l[k] = q at *
      have hi1 : (k : Int) < (n : Int) := by omega
      cases hb : (q.key == key)
      · rw [hb] at Ht H1
        clear hb Hm
        go_wp2_with fail
        refine H1.out.mono ?_
        rintro e w1 ⟨rfl, hb1⟩
        have Hb1 := Lib.hid (Hbe.out.trans (hb1.mono hszw))
        clear hb1 H1
        go_wp2
        go_roundg (n - (k + 1))
        case measure => have := Hgk.out; omega
        case rel => exact ⟨k + 1, by go_num, by omega, rfl, Ht.out, Hb1.out⟩
      · rw [hb] at Hm H1
        have HG := Lib.hid (show decide ((0 : Int) ≤ (k : Int)) = hasU l key by rw [decide_eq_true (by omega), Hm.out rfl])
        clear hb Ht Hm
        go_wp2_with fail
        refine H1.out.mono ?_
        rintro e w1 ⟨rfl, hb1⟩
        have Hb1 := Lib.hid (Hbe.out.trans (hb1.mono hszw))
        clear hb1 H1
        go_wp2
        go_ret
        exact ⟨k, rfl, HG.out, Hb1.out⟩
    · have hkn' : k = l.length := by have := Hln.out; omega
      have HG := Lib.hid (show decide ((0 : Int) ≤ (-1 : Int)) = hasU l key by
        have := Hall.out
        rw [hkn', List.take_length] at this
        rw [this]; rfl)
      clear hkn'
      go_wp2
      go_ret
      exact ⟨-1, rfl, HG.out, Hbe.out⟩
theorem containsU_any (A : Option Addr) (n c B : Nat) (l : List Uc) (key : List UInt8) (g : Nat) (w : World) (hl : LIn ucL 5 w B A n c l) (hB : B ≤ w.heap.size) (hn : n ≤ 9223372036854775807)
    (c2 : w.cell? ⟨g, 2, none⟩ = some (str key)) (hg : g < w.heap.size) :
    Calls Try.prog 54 #[.slice A n c, .func (.func 53) #[] #[.pointer (some ⟨g, 0, none⟩)]] w fun e w' => e = .returned (.bool (hasU l key)) ∧ Below w.heap.size w w' := by
  have H0 := Lib.hid (indexU_any A n c B l key g w hl hB hn c2 hg)
  clear hl c2
  go_enter Try.func54, Try.ntmps54
  go_wp2_with fail
  refine H0.out.mono ?_
  rintro e w1 ⟨i, rfl, h3, hb⟩
  go_wp2
  go_ret
  exact ⟨ret_bool (by rw [← h3]), hb⟩
/-- One update more behind a row of the call's own. -/
theorem upd_box {W : World} {n : Nat} {u : Value} {l : List Uc} {r : Uc} {base : Nat} (ho : W.ownsRow base 44 5 u n (pcK ucL l)) (hn : n + 1 ≤ 1048576) (hb : base ≤ W.heap.size) (cs : Array Value) (hcs : cs = #[.int .i64 r.st, .int .i64 r.pv, str r.key, str r.val, .bool r.gone]) :
    ∃ v' wf, (Builtin.append_ #[22, 22] 22 #[u, .slice (some ⟨W.heap.size, 0, none⟩) 1 1]).run Try.prog (W.alloc (.cells cs 44)) = .ok v' wf ∧
      wf.ownsRow base 44 5 v' (n + 1) (pcK ucL (l ++ [r])) ∧ W.grownBy wf u.ownBlock ∧ (v'.ownBlock = u.ownBlock ∨ v'.ownBlock = some (W.heap.size + 1)) := by
  obtain ⟨v', wf, h1, h2, h3, h4⟩ := run_app_el (P := Try.prog) (enc := ucL) ucL_len ucL_one (by omega) Try.underlying22 info_upd rfl (by omega) W base n u l r cs (by rw [hcs]; rfl) ho hn hb
  exact ⟨v', wf, h1, h2, (World.grownBy_alloc W _ _).trans h3, h4⟩
def LoR (l : List Uc) (w : World) (n : Nat) (gk : Nat) (s3 s9 : Value) (wr : World) : Prop :=
  ∃ (k : Nat) (o : List Uc), s9 = .int .i64 (k : Int) ∧ k ≤ n ∧ gk = n - k ∧ wr.ownsRow w.heap.size 44 5 s3 o.length (pcK ucL o) ∧ o.length ≤ k ∧ o ++ lastOnes (l.drop k) = lastOnes l ∧ Below w.heap.size w wr
set_option maxHeartbeats 4000000 in
set_option maxRecDepth 100000 in
theorem lastOnes_any (A : Option Addr) (n c B : Nat) (l : List Uc) (w : World) (hl : LIn ucL 5 w B A n c l) (hB : B ≤ w.heap.size) (hn : n ≤ 1000) :
    Calls Try.prog 35 #[.slice A n c] w fun e w' => ∃ v, e = .returned v ∧ w'.ownsRow w.heap.size 44 5 v (lastOnes l).length (pcK ucL (lastOnes l)) ∧ Below w.heap.size w w' := by
  obtain ⟨i0, hi0, hz0, hzs, hzb⟩ := info_parts info_upd
  have hnc := hl.2.1
  have Hl := Lib.hid hl
  have Hln := Lib.hid hl.1
  clear hl
  go_enter Try.func35, Try.ntmps35
  go_wp2
  go_loopg [3, 9] n (LoR l w n)
  case atStart => exact ⟨0, [], rfl, Nat.zero_le _, by omega, World.ownsRow_nil _ _ _ _, Nat.le_refl _, rfl, Below.refl _ _⟩
  case round =>
    obtain ⟨k, o, rfl, hk, hgk, ho, hol, heq, hbe⟩ := hrel
    have Hgk := Lib.hid hgk
    have Hbe := Lib.hid hbe
    have Ho := Lib.hid ho
    have Heq := Lib.hid heq
    have hszw := hbe.size
    clear hgk hbe ho heq
    by_cases hkn : k < n
    · have hkl : k < l.length := by rw [Hln.out]; exact hkn
      obtain ⟨b, off, hA, hbB, c0, c1, c2, c3, c4⟩ := uc_at (Hl.out.below (Hbe.out.mono hB)) hkl
      have hbw : b < wr.heap.size := by omega
      have hlo : lastOnes (l.drop k) = if hasU (l.drop (k + 1)) l[k].key = true then lastOnes (l.drop (k + 1)) else l[k] :: lastOnes (l.drop (k + 1)) := by rw [List.drop_eq_getElem_cons hkl]; rfl
      have Hlo := Lib.hid hlo
      have hdr := LIn.drop ucL_len (Hl.out.below (Hbe.out.mono hB)) (k + 1) (by omega)
      subst hA
      obtain ⟨A', c', hA', hc'⟩ : ∃ A' c', A' = cutAt (some ⟨b, off, none⟩) c (k + 1) 5 ∧ c' = c - (k + 1) := ⟨_, _, rfl, rfl⟩
      have s3 := fun W => run_cut_l (P := Try.prog) W 22 44 i0 Try.underlying22 hi0 (some ⟨b, off, none⟩) n c .i64 ((k : Int) + 1) (k + 1) (by omega) (by omega)
      rw [hzs, ← hA', ← hc'] at s3
      rw [← hA', ← hc'] at hdr
      generalize l[k] = q at *
      have hi1 : (k : Int) < (n : Int) := by omega
      obtain ⟨W, hW⟩ : ∃ W, wr.alloc (.cells #[.int .i64 q.st, .int .i64 q.pv, str q.key, str q.val, .bool q.gone] 44) = W := ⟨_, rfl⟩
      have hWB := Blk.new wr 44 #[.int .i64 q.st, .int .i64 q.pv, str q.key, str q.val, .bool q.gone]
      have hWb : Below wr.heap.size wr W := by rw [← hW]; exact (Below.refl _ _).alloc (Nat.le_refl _) _
      rw [hW] at hWB
      have HC := Lib.hid (containsU_any A' (n - (k + 1)) c' B (l.drop (k + 1)) q.key wr.heap.size W (hdr.below (hWb.mono (by omega))) (by have := hWb.size; omega) (by omega) (hWB.cell 2) hWB.lt)
      have HWb := Lib.hid hWb
      have HWB := Lib.hid hWB
      clear hdr hWb hWB hlo hA' hc'
      cases hh : hasU (l.drop (k + 1)) q.key with
      | true =>
        have HE := Lib.hid (show o ++ lastOnes (l.drop (k + 1)) = lastOnes l by rw [← Heq.out, Hlo.out, if_pos hh])
        rw [hh] at HC
        clear hh Hlo Heq
        go_wp2_with fail
        refine HC.out.mono ?_
        rintro e w2 ⟨rfl, hb2⟩
        have hb3 := HWb.out.trans (hb2.mono HWb.out.size)
        have Ho3 := Lib.hid (own_below Ho.out hb3)
        have Hb3 := Lib.hid (Hbe.out.trans (hb3.mono hszw))
        clear hb2 hb3 HC
        go_wp2_with fail
        go_roundg (n - (k + 1))
        case measure => have := Hgk.out; omega
        case rel => exact ⟨k + 1, o, by go_num, by omega, rfl, Ho3.out, by omega, HE.out, Hb3.out⟩
      | false =>
        have HE := Lib.hid (show (o ++ [q]) ++ lastOnes (l.drop (k + 1)) = lastOnes l by rw [← Heq.out, Hlo.out, if_neg (by simp [hh])]; simp)
        rw [hh] at HC
        clear hh Hlo Heq
        go_wp2_with fail
        refine HC.out.mono ?_
        rintro e w2 ⟨rfl, hb2⟩
        have hb3 := HWb.out.trans (hb2.mono HWb.out.size)
        have ho3 := own_below Ho.out hb3
        have hsz3 := hb3.size
        have hB2 := HWB.out.below hb2 HWB.out.lt
        have z0 : w2.cell? ⟨wr.heap.size, 0, none⟩ = some (.int .i64 q.st) := hB2.cell 0
        have z1 : w2.cell? ⟨wr.heap.size, 1, none⟩ = some (.int .i64 q.pv) := hB2.cell 1
        have z2 : w2.cell? ⟨wr.heap.size, 2, none⟩ = some (str q.key) := hB2.cell 2
        have z3 : w2.cell? ⟨wr.heap.size, 3, none⟩ = some (str q.val) := hB2.cell 3
        have z4 : w2.cell? ⟨wr.heap.size, 4, none⟩ = some (.bool q.gone) := hB2.cell 4
        obtain ⟨v', wf, hrun, ho4, hg4, hor⟩ := upd_box (r := q) ho3 (by omega) (by omega) #[.int .i64 q.st, .int .i64 q.pv, str q.key, str q.val, .bool q.gone] rfl
        have Hbf := Lib.hid ((Hbe.out.trans (hb3.mono hszw)).grown hg4 (by omega) fun g hg => (World.ownsRow.lt ho3 g hg).1)
        have Hrun := Lib.hid hrun
        have Ho4 := Lib.hid ho4
        have Hl1 := Lib.hid (show (o ++ [q]).length = o.length + 1 by simp)
        clear hrun ho4 hg4 hor ho3 hb3 hb2 HC hB2
        go_wp2_with (first | (at_builtin; refine dv_app rfl _ _ _ rfl _ _ (by rfl) (by rfl) Hrun.out ?_; clear Hrun) | fail)
        go_roundg (n - (k + 1))
        case measure => have := Hgk.out; omega
        case rel => exact ⟨k + 1, o ++ [q], by go_num, by omega, rfl, by rw [Hl1.out]; exact Ho4.out, by have := Hl1.out; omega, HE.out, Hbf.out⟩
    · have hi1 : ¬ (k : Int) < (n : Int) := by omega
      have HE := Lib.hid (show o = lastOnes l by rw [← Heq.out, List.drop_eq_nil_of_le (by have := Hln.out; omega)]; simp [lastOnes])
      clear Heq
      go_wp2_with fail
      go_ret
      exact ⟨_, rfl, by rw [← HE.out]; exact Ho.out, Hbe.out⟩
def SPost (X : Int × List Uc) (w : World) (e : Ending) (w' : World) : Prop :=
  ∃ A c, e = .returned (.tuple #[.slice A X.2.length c, .int .i64 X.1]) ∧ LIn ucL 5 w' w'.heap.size A X.2.length c X.2 ∧ Below w.heap.size w w'
theorem sPost_err {w w' : World} {x : Int} (hb : Below w.heap.size w w') : SPost (x, []) w (.returned (.tuple #[.slice none 0 0, .int .i64 x])) w' := ⟨none, 0, rfl, LIn.empty, hb⟩
set_option maxHeartbeats 4000000 in
set_option maxRecDepth 100000 in
theorem since_any (A : Option Addr) (n c B : Nat) (l : List Uc) (at_ : Int) (w : World) (hl : LIn ucL 5 w B A n c l) (hB : B ≤ w.heap.size) (hn : n ≤ 9223372036854775807) (hok : ∀ p ∈ l, UcOk p) :
    Calls Try.prog 17 #[.slice A n c, .int .i64 at_] w (SPost (sinceL l at_) w) := by
  obtain ⟨i0, hi0, hz0, hzs, hzb⟩ := info_parts info_upd
  have HC := Lib.hid (played_any A n c B l w hl hB hn hok)
  have Hlen := Lib.hid (playL_len l)
  have HS := Lib.hid (show sinceL l at_ = if (playL l).1 ≠ 0 then ((playL l).1, []) else if at_ < 0 ∨ ((playL l).2.1.length : Int) < at_ then (2, []) else (0, lastOnes ((playL l).2.1.drop at_.toNat)) from rfl)
  unfold PdPost at HC
  generalize playL l = X at *
  obtain ⟨xe, xu, xd⟩ := X
  simp only at HC Hlen HS
  generalize sinceL l at_ = Y at *
  clear hl hok
  go_enter Try.func17, Try.ntmps17
  go_wp2_with fail
  refine HC.out.mono ?_
  rintro e w1 (⟨rfl, vu, vd, rfl, hx, hb1⟩ | ⟨he, rfl, hb1⟩)
  · obtain ⟨Au, cu, rfl, hAu⟩ := LIn.own ucL_len hx.ru
    have x0 : w1.cell? ⟨w.heap.size, 0, none⟩ = some (.slice Au xu.length cu) := hx.box.cell 0
    have HAu := Lib.hid hAu
    have Hb1 := Lib.hid hb1
    have hnc : xu.length ≤ cu := hAu.2.1
    clear hx hb1 hAu HC
    by_cases h1 : at_ < 0
    · have HX := Lib.hid (show Y = (2, []) by rw [HS.out, if_neg (by simp), if_pos (.inl h1)])
      clear HS
      go_wp2_with fail
      go_ret2
      rw [HX.out]
      exact sPost_err Hb1.out
    · by_cases h2 : (xu.length : Int) < at_
      · have HX := Lib.hid (show Y = (2, []) by rw [HS.out, if_neg (by simp), if_pos (.inr h2)])
        clear HS
        go_wp2_with fail
        go_ret2
        rw [HX.out]
        exact sPost_err Hb1.out
      · obtain ⟨a, rfl⟩ := Int.eq_ofNat_of_zero_le (show 0 ≤ at_ by omega)
        have HX := Lib.hid (show Y = (0, lastOnes (xu.drop a)) by rw [HS.out, if_neg (by simp), if_neg (by omega)]; simp)
        have hal : a ≤ xu.length := by omega
        have hdr := LIn.drop ucL_len HAu.out a hal
        have s3 := fun W => run_cut_l (P := Try.prog) W 22 44 i0 Try.underlying22 hi0 Au xu.length cu .i64 (a : Int) a rfl (by omega)
        rw [hzs] at s3
        obtain ⟨A', c', hA', hc'⟩ : ∃ A' c', A' = cutAt Au cu a 5 ∧ c' = cu - a := ⟨_, _, rfl, rfl⟩
        rw [← hA', ← hc'] at s3 hdr
        have HL := Lib.hid (lastOnes_any A' (xu.length - a) c' _ (xu.drop a) w1 hdr (Nat.le_refl _) (by have := Hlen.out; omega))
        clear hdr hA' hc' HS
        generalize xu.length = m at *
        go_wp2_with fail
        refine HL.out.mono ?_
        rintro e w2 ⟨v, rfl, ho2, hb2⟩
        obtain ⟨A3, c3, rfl, hA3⟩ := LIn.own ucL_len ho2
        have Hli := Lib.hid hA3
        have Hb2 := Lib.hid (Hb1.out.trans (hb2.mono Hb1.out.size))
        clear ho2 hb2 HL hA3
        generalize hnl : (lastOnes (xu.drop a)).length = nl at *
        go_wp2_with fail
        go_ret2
        rw [HX.out]
        exact ⟨A3, c3, by rw [← hnl]; rfl, by show LIn _ _ _ _ _ (lastOnes (xu.drop a)).length _ _; rw [hnl]; exact Hli.out, Hb2.out⟩
  · have hxe : (xe != 0) = true := by simpa using he
    have HX := Lib.hid (show Y = (xe, []) by rw [HS.out, if_pos he])
    have Hb1 := Lib.hid hb1
    clear hb1 HC HS
    go_wp2_with fail
    go_ret2
    rw [HX.out]
    exact sPost_err Hb1.out
end Go.Proofs.Ytmlgaedhfannmaa
