/- json.Check and json.Text: what each call returns. -/
import Derived.Test.YtbdbcffnjibjoaaGreatDoorJWrite
namespace Go.Proofs.YtbdbcffnjibjoaaGreatDoor
set_option linter.unusedVariables false
set_option linter.unusedSimpArgs false
open Go.RowKit

/-- What Check answers. -/
def checkN (v : JV) : Int := if fault 0 v ≠ 0 then fault 0 v else if 100 < count v ∨ 600 < (jtext v).length then 1 else 0

theorem Tab.here {B : Nat} {w : World} (h : Tab B w) : Tab w.heap.size w := Lib.tabBelow_of_tabIs (Lib.TabBelow.here h)

set_option maxRecDepth 100000 in
set_option maxHeartbeats 2000000 in
theorem Check_any (v : JV) (cs : List Value) (w : World) (B : Nat) (hB : B ≤ w.heap.size) (hv : VIn w B v cs) (htab : Tab w.heap.size w) (hcnt : count v ≤ 1073741824) :
    Calls Tryz.prog 13 #[.agg cs.toArray] w fun e w' => e = .returned (.int .i64 (checkN v)) ∧ Below w.heap.size w w' := by
  obtain ⟨k, n, t, Ak, nk, ck, Ap, np, cp, rfl⟩ : ∃ k n t Ak nk ck Ap np cp, cs = [.int .i64 k, .int .i64 n, str t, .slice Ak nk ck, .slice Ap np cp] := by
    cases v; unfold VIn at hv; obtain ⟨Ak, ck, Ap, cp, pc, rfl, _⟩ := hv; exact ⟨_, _, _, _, _, _, _, _, _, rfl⟩
  have Hc := Lib.hid (show checkN v = if fault 0 v ≠ 0 then fault 0 v else if 100 < count v ∨ 600 < (jtext v).length then 1 else 0 from rfl)
  generalize hbx : (#[.int .i64 k, .int .i64 n, str t, .slice Ak nk ck, .slice Ap np cp] : Array Value) = bx
  go_enter Tryz.func13, Tryz.ntmps13
  subst hbx
  go_wp2_with fail
  have hW : Below w.heap.size w ((w.alloc (.cells #[.int .i64 k, .int .i64 n, str t, .slice Ak nk ck, .slice Ap np cp] 25)).alloc (.cells #[.int .i64 0] 3)) :=
    ((Below.refl _ _).alloc (Nat.le_refl _) _).alloc (by simp) _
  have hbox := (Blk.new w 25 #[.int .i64 k, .int .i64 n, str t, .slice Ak nk ck, .slice Ap np cp]).alloc (.cells #[.int .i64 0] 3)
  have hnb := Blk.new (w.alloc (.cells #[.int .i64 k, .int .i64 n, str t, .slice Ak nk ck, .slice Ap np cp] 25)) 3 #[.int .i64 0]
  have hsz : (w.alloc (.cells #[.int .i64 k, .int .i64 n, str t, .slice Ak nk ck, .slice Ap np cp] 25)).heap.size = w.heap.size + 1 := by simp
  rw [hsz] at hnb
  refine (check_any 7 v 0 (w.heap.size + 1) 0 _ _ (by omega) (by omega) ((VIn.wider (show B ≤ w.heap.size + 1 by omega) _ _ (hv.below (hW.mono hB)))) hnb (by omega)).mono ?_
  rintro e w1 ⟨rfl, ⟨m, hbm, hm⟩, hon⟩
  have hw1 : Below w.heap.size w w1 := hW.trans (below_only hon (by omega) (by simp; omega))
  have hbox1 := hbox.grown hon (by simp)
  have c0 : w1.cell? ⟨w.heap.size, 0, none⟩ = some (.int .i64 k) := hbox1.cell 0
  have c1 : w1.cell? ⟨w.heap.size, 1, none⟩ = some (.int .i64 n) := hbox1.cell 1
  have c2 : w1.cell? ⟨w.heap.size, 2, none⟩ = some (str t) := hbox1.cell 2
  have c3 : w1.cell? ⟨w.heap.size, 3, none⟩ = some (.slice Ak nk ck) := hbox1.cell 3
  have c4 : w1.cell? ⟨w.heap.size, 4, none⟩ = some (.slice Ap np cp) := hbox1.cell 4
  have cn : w1.cell? ⟨w.heap.size + 1, 0, none⟩ = some (.int .i64 m) := hbm.cell 0
  have Hm := Lib.hid hm
  clear hm hsz hon hbox hnb hW
  by_cases hf : fault 0 v = 0
  · have hmc := Hm.out hf
    simp only [Nat.zero_add, Int.natCast_zero, Int.zero_add] at hmc
    subst hmc
    have Hf := Lib.hid hf
    rw [hf]
    have Hc2 := Lib.hid (show checkN v = if 100 < count v ∨ 600 < (jtext v).length then 1 else 0 by rw [Hc.out, if_neg (by simpa using hf)])
    clear Hc hf Hm
    by_cases h100 : 100 < count v
    · have h100b : decide ((100 : Int) < (count v : Int)) = true := by simp; omega
      go_wp2_with fail
      go_ret
      exact ⟨by rw [Hc2.out, if_pos (.inl h100)]; rfl, hw1⟩
    · have h100b : decide ((100 : Int) < (count v : Int)) = false := by simp; omega
      go_wp2_with fail
      refine (write_any 7 v 0 _ _ [] w1.heap.size w1 (by omega) (by omega) Hf.out (VIn.wider (Nat.le_trans hB hw1.size) _ _ (hv.below (hw1.mono hB))) (Own.nil _ _) (Nat.le_refl _) (htab.on hw1).here (by simp; omega)).mono ?_
      rintro e w2 ⟨v2, rfl, hown2, hfr2⟩
      obtain ⟨A2, c2, rfl, hA2⟩ := hown2.form
      have hw2 : Below w.heap.size w w2 := hw1.trans (hfr2.1.mono hw1.size)
      have hiff : 600 < (wr [] v).length ↔ 600 < (jtext v).length := by
        rcases wr_nil v with h | ⟨h1, h2⟩
        · rw [h]
        · exact ⟨fun _ => h2, fun _ => h1⟩
      have Hiff := Lib.hid hiff
      clear hiff
      generalize (wr [] v).length = L at *
      by_cases h600 : 600 < L
      · go_wp2_with fail
        go_ret
        exact ⟨by rw [Hc2.out, if_pos (.inr (Hiff.out.1 h600))]; rfl, hw2⟩
      · have h600' : L ≤ 600 := by omega
        go_wp2_with fail
        go_ret
        exact ⟨by rw [Hc2.out, if_neg (fun h => h.elim h100 (fun h => h600 (Hiff.out.2 h)))]; rfl, hw2⟩
  · have Hc2 := Lib.hid (show checkN v = fault 0 v by rw [Hc.out, if_pos hf])
    clear Hc
    generalize fault 0 v = a at *
    have hab : (a != 0) = true := by simpa using hf
    go_wp2_with fail
    go_ret
    exact ⟨by rw [Hc2.out]; rfl, hw1⟩

/-- What Text answers. -/
def textR (v : JV) : Value := .tuple #[if checkN v = 0 then str (jtext v) else str [], .int .i64 (checkN v)]
attribute [local go_sem high] str_mk
set_option maxRecDepth 100000 in
set_option maxHeartbeats 2000000 in
theorem Text_any (v : JV) (cs : List Value) (w : World) (B : Nat) (hB : B ≤ w.heap.size) (hv : VIn w B v cs) (htab : Tab w.heap.size w) (hcnt : count v ≤ 1073741824) :
    Calls Tryz.prog 44 #[.agg cs.toArray] w fun e w' => e = .returned (textR v) ∧ Below w.heap.size w w' := by
  obtain ⟨k, n, t, Ak, nk, ck, Ap, np, cp, rfl⟩ : ∃ k n t Ak nk ck Ap np cp, cs = [.int .i64 k, .int .i64 n, str t, .slice Ak nk ck, .slice Ap np cp] := by
    cases v; unfold VIn at hv; obtain ⟨Ak, ck, Ap, cp, pc, rfl, _⟩ := hv; exact ⟨_, _, _, _, _, _, _, _, _, rfl⟩
  have HT := Lib.hid (show textR v = .tuple #[if checkN v = 0 then str (jtext v) else str [], .int .i64 (checkN v)] from rfl)
  have Hck := Lib.hid (show checkN v = if fault 0 v ≠ 0 then fault 0 v else if 100 < count v ∨ 600 < (jtext v).length then 1 else 0 from rfl)
  go_enter Tryz.func44, Tryz.ntmps44
  go_wp2_with fail
  have hW : Below w.heap.size w (w.alloc (.cells #[.int .i64 k, .int .i64 n, str t, .slice Ak nk ck, .slice Ap np cp] 25)) := (Below.refl _ _).alloc (Nat.le_refl _) _
  have hbox := (Blk.new w 25 #[.int .i64 k, .int .i64 n, str t, .slice Ak nk ck, .slice Ap np cp])
  refine (Check_any v _ _ B (Nat.le_trans hB hW.size) (hv.below (hW.mono hB)) (htab.on hW).here hcnt).mono ?_
  rintro e w1 ⟨rfl, hb1⟩
  have hw1 : Below w.heap.size w w1 := hW.trans (hb1.mono hW.size)
  have hbox1 := hbox.below hb1 (by simp)
  have c0 : w1.cell? ⟨w.heap.size, 0, none⟩ = some (.int .i64 k) := hbox1.cell 0
  have c1 : w1.cell? ⟨w.heap.size, 1, none⟩ = some (.int .i64 n) := hbox1.cell 1
  have c2 : w1.cell? ⟨w.heap.size, 2, none⟩ = some (str t) := hbox1.cell 2
  have c3 : w1.cell? ⟨w.heap.size, 3, none⟩ = some (.slice Ak nk ck) := hbox1.cell 3
  have c4 : w1.cell? ⟨w.heap.size, 4, none⟩ = some (.slice Ap np cp) := hbox1.cell 4
  clear hb1 hbox
  by_cases hf : checkN v = 0
  · have h3 : fault 0 v = 0 ∧ ¬ (100 < count v ∨ 600 < (jtext v).length) := by
      have h := Hck.out
      rw [hf] at h
      by_cases h1 : fault 0 v = 0
      · refine ⟨h1, fun h2 => ?_⟩
        rw [if_neg (by simpa using h1), if_pos h2] at h
        cases h
      · rw [if_pos h1] at h; exact absurd h.symm h1
    have hlen : (jtext v).length ≤ 600 := by omega
    have h100 : count v ≤ 100 := by omega
    have Hf := Lib.hid h3.1
    have Hwr := Lib.hid (show wr [] v = jtext v by
      rcases wr_nil v with h | ⟨_, h2⟩
      · exact h
      · omega)
    rw [if_pos hf, hf] at HT
    clear h3 Hck
    rw [hf]
    go_wp2_with fail
    refine (write_any 7 v 0 _ _ [] w1.heap.size w1 (by omega) (by omega) Hf.out (VIn.wider (Nat.le_trans hB hw1.size) _ _ (hv.below (hw1.mono hB))) (Own.nil _ _) (Nat.le_refl _) (htab.on hw1).here (by simp; omega)).mono ?_
    rintro e w2 ⟨v2, rfl, hown2, hfr2⟩
    rw [Hwr.out] at hown2
    obtain ⟨A2, c2, rfl, hA2⟩ := hown2.form
    have hw2 : Below w.heap.size w w2 := hw1.trans (hfr2.1.mono hw1.size)
    have hcv := run_convert_bytes (P := Tryz.prog) (c := c2) 40 9 5 Tryz.underlying40 Tryz.underlying5 Tryz.underlying9 hown2.holds (fun h => (hA2 h).1)
    go_wp2_with fail
    go_ret2
    exact ⟨by rw [HT.out]; rfl, hw2⟩
  · rw [if_neg hf] at HT
    clear Hck
    generalize checkN v = a at *
    have hab : (a != 0) = true := by simpa using hf
    go_wp2_with fail
    go_ret2
    exact ⟨by rw [HT.out]; rfl, hw1⟩
end Go.Proofs.YtbdbcffnjibjoaaGreatDoor
