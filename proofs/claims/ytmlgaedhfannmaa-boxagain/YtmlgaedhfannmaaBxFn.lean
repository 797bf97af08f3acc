/- The message box: checkMessage; has a message been accepted? -/
import Derived.Test.YtmlgaedhfannmaaBxMem
import Derived.Test.YtmlgaedhfannmaaNServ
import Derived.Test.YtmlgaedhfannmaaBunA
import Derived.Laws.StructEq
import Derived.BigQuiet
namespace Go.Proofs.Ytmlgaedhfannmaa
set_option linter.unusedVariables false
set_option linter.unusedSimpArgs false
open Go.RowKit
theorem eq_strS (a b : List UInt8) (d : Nat) (w : World) : (Op.equalIn (d + 1) 9 (str a) (str b)).run Try.prog w = .ok (a == b) w := by
  unfold str; rw [run_equalIn_string w d 9 _ _ Try.underlying9]
  simp [ByteArray.toList_eq]
theorem eq_msg (a b : List UInt8) (t u : Int) (w : World) : (Op.equalIn 10000 223 (.agg #[str a, .int .i64 t]) (.agg #[str b, .int .i64 u])).run Try.prog w = .ok (a == b && decide (t = u)) w := by
  have u9 := Try.underlying9
  have e9 := fun (x y : List UInt8) (d : Nat) => eq_strS x y d w
  rw [show (10000 : Nat) = 9999 + 1 from rfl, run_equalIn_agg w 9999 223 _ _ (by kernel_rfl) (by kernel_rfl)]
  cases hab : (a == b)
  · go_simp
  · by_cases htu : t = u
    · subst htu
      go_simp
    · have h2 : (t == u) = false := by simpa using htu
      go_simp
theorem gd_msg (op : BinOp) (x y : Operand) (a b : List UInt8) (t u : Int) (w : World) : (eqGuard op 223 x y (.agg #[str a, .int .i64 t]) (.agg #[str b, .int .i64 u])).run Try.prog w = .ok () w := run_eqGuard_agg w op 223 x y _ _ (by kernel_rfl)
def checkB (p : Pt) : Int := if p.txn < 0 then 2 else if user p.frm = none then 6 else if 20 < p.body.length then 1 else 0
set_option maxHeartbeats 2000000 in
theorem checkMessage_any (p : Pt) (w : World) (hf : p.frm.length ≤ 9223372036854775807) (hb : p.body.length ≤ 9223372036854775807) (hg : Gl w) :
    Calls Try.prog 133 #[.agg #[.int .i64 p.kind, str p.frm, .int .i64 p.txn, str p.body, .int .i64 p.since]] w fun e w' => e = .returned (.int .i64 (checkB p)) ∧ Below w.heap.size w w' := by
  obtain ⟨pk, pf, pn, pb, ps⟩ := p
  simp only at hf hb ⊢
  obtain ⟨W, hW⟩ : ∃ W, w.alloc (.cells #[.int .i64 pk, str pf, .int .i64 pn, str pb, .int .i64 ps] 76) = W := ⟨_, rfl⟩
  have hWB := Blk.new w 76 #[.int .i64 pk, str pf, .int .i64 pn, str pb, .int .i64 ps]
  have hWb : Below w.heap.size w W := by rw [← hW]; exact (Below.refl _ _).alloc (Nat.le_refl _) _
  rw [hW] at hWB
  have x1 : W.cell? ⟨w.heap.size, 1, none⟩ = some (str pf) := hWB.cell 1
  have x2 : W.cell? ⟨w.heap.size, 2, none⟩ = some (.int .i64 pn) := hWB.cell 2
  have x3 : W.cell? ⟨w.heap.size, 3, none⟩ = some (str pb) := hWB.cell 3
  have hWl := hWB.lt
  have HU := Lib.hid (user_any pf W (by unfold maxLen; omega) (hg.below hWb))
  have HWb := Lib.hid hWb
  have HWB := Lib.hid hWB
  clear hWB hWb hg
  by_cases h1 : pn < 0
  · have HE := Lib.hid (show checkB ⟨pk, pf, pn, pb, ps⟩ = 2 by unfold checkB; rw [if_pos h1])
    go_enter Try.func133, Try.ntmps133
    go_wp2_with fail
    go_ret
    rw [HE.out]
    exact ⟨rfl, HWb.out⟩
  · have H1 := Lib.hid h1
    go_enter Try.func133, Try.ntmps133
    go_wp2_with fail
    refine HU.out.mono ?_
    rintro e w1 ⟨rfl, hb1⟩
    have y3 : w1.cell? ⟨w.heap.size, 3, none⟩ = some (str pb) := (hb1.cell hWl).trans x3
    have Hb1 := Lib.hid (HWb.out.trans (hb1.mono HWb.out.size))
    cases hu : user pf with
    | none =>
      have HE := Lib.hid (show checkB ⟨pk, pf, pn, pb, ps⟩ = 6 by unfold checkB; rw [if_neg (show ¬ pn < 0 by omega), if_pos hu])
      clear hb1 hu HU
      unfold pairV
      go_wp2_with fail
      go_ret
      rw [HE.out]
      exact ⟨rfl, Hb1.out⟩
    | some ab =>
      obtain ⟨a, b⟩ := ab
      have hun : user pf ≠ none := by rw [hu]; simp
      by_cases h2 : 20 < pb.length
      · have HE := Lib.hid (show checkB ⟨pk, pf, pn, pb, ps⟩ = 1 by unfold checkB; rw [if_neg (show ¬ pn < 0 by omega), if_neg hun, if_pos h2])
        have h2i : (20 : Int) < (pb.length : Int) := by omega
        clear hb1 hu hun HU
        unfold pairV
        go_wp2_with fail
        go_ret
        rw [HE.out]
        exact ⟨rfl, Hb1.out⟩
      · have HE := Lib.hid (show checkB ⟨pk, pf, pn, pb, ps⟩ = 0 by unfold checkB; rw [if_neg (show ¬ pn < 0 by omega), if_neg hun, if_neg h2])
        have h2i : ¬ (20 : Int) < (pb.length : Int) := by omega
        clear hb1 hu hun HU
        unfold pairV
        go_wp2_with fail
        go_ret
        rw [HE.out]
        exact ⟨rfl, Hb1.out⟩
/-- The closure of hasAccepted. -/
def eqM (q p : Pt) : Bool := q.frm == p.frm && decide (q.txn = p.txn)
theorem was_any (a b : List UInt8) (t u : Int) (g : Nat) (w : World) (c0 : w.cell? ⟨g, 0, none⟩ = some (str b)) (c1 : w.cell? ⟨g, 1, none⟩ = some (.int .i64 u)) (hg : g < w.heap.size) :
    Calls Try.prog 164 #[.agg #[str a, .int .i64 t], .pointer (some ⟨g, 0, none⟩)] w fun e w' => e = .returned (.bool (a == b && decide (t = u))) ∧ Below w.heap.size w w' := by
  have heq := fun W => eq_msg a b t u W
  have hgd := fun op x y W => gd_msg op x y a b t u W
  have Hb := Lib.hid ((Below.refl _ w).alloc (Nat.le_refl _) (.cells #[str a, .int .i64 t] 223))
  generalize (a == b && decide (t = u)) = r at *
  go_enter Try.func164, Try.ntmps164
  go_wp2_with fail
  go_ret
  exact ⟨rfl, Hb.out⟩
def IfM (w : World) (l : List Pt) (p : Pt) (n : Nat) (gk : Nat) (vi : Value) (wr : World) : Prop :=
  ∃ k : Nat, vi = .int .i64 (k : Int) ∧ k ≤ n ∧ gk = n - k ∧ hadR (l.take k) p = false ∧ Below w.heap.size w wr
set_option maxHeartbeats 1000000 in
theorem indexM_any (A : Option Addr) (n c B : Nat) (l : List Pt) (p : Pt) (g : Nat) (w : World) (hl : LIn msL 2 w B A n c l) (hB : B ≤ w.heap.size) (hn : n ≤ 9223372036854775807)
    (c0 : w.cell? ⟨g, 0, none⟩ = some (str p.frm)) (c1 : w.cell? ⟨g, 1, none⟩ = some (.int .i64 p.txn)) (hg : g < w.heap.size) :
    Calls Try.prog 182 #[.slice A n c, .func (.func 164) #[] #[.pointer (some ⟨g, 0, none⟩)]] w fun e w' => ∃ i : Int, e = .returned (.int .i64 i) ∧ decide (0 ≤ i) = hadR l p ∧ Below w.heap.size w w' := by
  have Hln := Lib.hid hl.1
  have Hl := Lib.hid hl
  clear hl
  go_enter Try.func182, Try.ntmps182
  go_wp2
  go_loopg [8] n (IfM w l p n)
  case atStart => exact ⟨0, rfl, Nat.zero_le _, by omega, rfl, Below.refl _ _⟩
  case round =>
    obtain ⟨k, rfl, hk, hgk, hall, hbe⟩ := hrel
    have Hgk := Lib.hid hgk
    have Hall := Lib.hid hall
    have Hbe := Lib.hid hbe
    have hszw := hbe.size
    have d0 := (hbe.cell (p := ⟨g, 0, none⟩) hg).trans c0
    have d1 := (hbe.cell (p := ⟨g, 1, none⟩) hg).trans c1
    clear hgk hall hbe
    by_cases hkn : k < n
    · have hkl : k < l.length := by rw [Hln.out]; exact hkn
      obtain ⟨b, off, hA, hbB, e0, e1⟩ := ms_at (Hl.out.below (Hbe.out.mono hB)) hkl
      subst hA
      have H1 := Lib.hid (was_any l[k].frm p.frm l[k].txn p.txn g wr d0 d1 (by omega))
      have Ht := Lib.hid (show hadR (l.take (k + 1)) p = eqM l[k] p by
        unfold hadR eqM at *
        rw [List.take_succ_eq_append_getElem hkl, List.any_append, Hall.out]; simp)
      have Hm := Lib.hid (show eqM l[k] p = true → hadR l p = true from fun h => List.any_eq_true.2 ⟨_, List.getElem_mem hkl, h⟩)
      obtain ⟨r, hr⟩ : ∃ r, (l[k].frm == p.frm && decide (l[k].txn = p.txn)) = r := ⟨_, rfl⟩
      have hr2 : eqM l[k] p = r := hr
      rw [hr] at H1
      rw [hr2] at Ht Hm
      clear hr hr2
      generalize l[k] = q at *
      have hi1 : (k : Int) < (n : Int) := by omega
      cases hb : r
      · rw [hb] at Ht H1
        clear hb Hm
        go_wp2_with fail
        refine H1.out.mono ?_
        rintro e w1 ⟨rfl, hb1⟩
        have Hb1 := Lib.hid (Hbe.out.trans (hb1.mono hszw))
        clear hb1 H1
        go_wp2
        go_roundg (n - (k + 1))
        case measure => have := Hgk.out; omega
        case rel => exact ⟨k + 1, by go_num, by omega, rfl, Ht.out, Hb1.out⟩
      · rw [hb] at Hm H1
        have HG := Lib.hid (show decide ((0 : Int) ≤ (k : Int)) = hadR l p by rw [decide_eq_true (by omega), Hm.out rfl])
        clear hb Ht Hm
        go_wp2_with fail
        refine H1.out.mono ?_
        rintro e w1 ⟨rfl, hb1⟩
        have Hb1 := Lib.hid (Hbe.out.trans (hb1.mono hszw))
        clear hb1 H1
        go_wp2
        go_ret
        exact ⟨k, rfl, HG.out, Hb1.out⟩
    · have hkn' : k = l.length := by have := Hln.out; omega
      have HG := Lib.hid (show decide ((0 : Int) ≤ (-1 : Int)) = hadR l p by
        have := Hall.out
        rw [hkn', List.take_length] at this
        rw [this]; rfl)
      clear hkn'
      go_wp2
      go_ret
      exact ⟨-1, rfl, HG.out, Hbe.out⟩
theorem containsM_any (A : Option Addr) (n c B : Nat) (l : List Pt) (p : Pt) (g : Nat) (w : World) (hl : LIn msL 2 w B A n c l) (hB : B ≤ w.heap.size) (hn : n ≤ 9223372036854775807)
    (c0 : w.cell? ⟨g, 0, none⟩ = some (str p.frm)) (c1 : w.cell? ⟨g, 1, none⟩ = some (.int .i64 p.txn)) (hg : g < w.heap.size) :
    Calls Try.prog 163 #[.slice A n c, .func (.func 164) #[] #[.pointer (some ⟨g, 0, none⟩)]] w fun e w' => e = .returned (.bool (hadR l p)) ∧ Below w.heap.size w w' := by
  have H0 := Lib.hid (indexM_any A n c B l p g w hl hB hn c0 c1 hg)
  clear hl c0 c1
  go_enter Try.func163, Try.ntmps163
  go_wp2_with fail
  refine H0.out.mono ?_
  rintro e w1 ⟨i, rfl, h3, hb⟩
  go_wp2
  go_ret
  exact ⟨ret_bool (by rw [← h3]), hb⟩
set_option maxHeartbeats 1000000 in
theorem hasAccepted_any (B : Nat) (acc : List Pt) (wt : List Ml) (sh : Bool) (va vw : Value) (p : Pt) (w : World) (h : BxS B w acc wt sh va vw) (hn : acc.length ≤ 1000) :
    Calls Try.prog 134 #[.pointer (some ⟨B, 0, none⟩), .agg #[str p.frm, .int .i64 p.txn]] w fun e w' => e = .returned (.bool (hadR acc p)) ∧ Below w.heap.size w w' := by
  obtain ⟨A, c, rfl, hA⟩ := LIn.own msL_len h.ra
  obtain ⟨W, hW⟩ : ∃ W, w.alloc (.cells #[str p.frm, .int .i64 p.txn] 223) = W := ⟨_, rfl⟩
  have hWB := Blk.new w 223 #[str p.frm, .int .i64 p.txn]
  have hWb : Below w.heap.size w W := by rw [← hW]; exact (Below.refl _ _).alloc (Nat.le_refl _) _
  rw [hW] at hWB
  have y0 : W.cell? ⟨B, 0, none⟩ = some (.slice A acc.length c) := (h.below hWb).box.cell 0
  have H0 := Lib.hid (containsM_any A acc.length c w.heap.size acc p w.heap.size W (hA.below hWb) hWb.size (by omega) (hWB.cell 0) (hWB.cell 1) hWB.lt)
  have HWb := Lib.hid hWb
  have hB := h.size
  clear h hA hWB hWb
  generalize hadR acc p = r at *
  generalize acc.length = n at *
  go_enter Try.func134, Try.ntmps134
  go_wp2_with fail
  refine H0.out.mono ?_
  rintro e w1 ⟨rfl, hb⟩
  go_wp2
  go_ret
  exact ⟨rfl, HWb.out.trans (hb.mono HWb.out.size)⟩
end Go.Proofs.Ytmlgaedhfannmaa
