/- Joined texts: DvLs, DvSm, DvLt. -/
import Derived.Test.YtmlgaedhfannmaaBunVD
import Derived.Test.YtmlgaedhfannmaaBunVE
import Derived.Test.YtmlgaedhfannmaaRgA
import Derived.BigQuiet
/- Device lists: copiedUpdates, listed. -/
namespace Go.Proofs.Ytmlgaedhfannmaa
set_option linter.unusedVariables false
set_option linter.unusedSimpArgs false
open Go.RowKit
/-- A copy of a list of changes: its run. -/
theorem ups_copy {W : World} {B n c : Nat} {A : Option Addr} {ps : List Uc} (h : LIn ucL 5 W B A n c ps) (hn : n ≤ 1048576) :
    ∃ v' wf, (Builtin.append_ #[22, 22] 22 #[.slice none 0 0, .slice A n c]).run Try.prog W = .ok v' wf ∧ wf.ownsRow W.heap.size 44 5 v' n (pcK ucL ps) ∧ Below W.heap.size W wf := by
  obtain ⟨i0, hi0, hz0, hzs, hzb⟩ := info_parts info_upd
  obtain ⟨h1, h2, h3, h4⟩ := h
  obtain ⟨v', wf, k1, k2, k3, k4⟩ := run_app_all (P := Try.prog) W 22 22 W.heap.size 44 i0 _ 5 56 Try.underlying22 hi0 hz0 hzs hzb rfl (by decide) (.slice none 0 0) 0 [] (World.ownsRow_nil _ _ _ _) B A n c (pcK ucL ps) h3 h4 (pcK_one ucL_one ps) (by omega) (by decide) (Nat.le_refl _)
  exact ⟨v', wf, k1, by simpa using k2, below_own (Below.refl W.heap.size W) k3 (World.ownsRow_nil W W.heap.size 44 5) (Nat.le_refl _) (Nat.le_refl _)⟩
/-- A copy of a list of changes behind another list of the call's own: its run. -/
theorem ups_more {W w : World} {B0 B n c k : Nat} {v : Value} {A : Option Addr} {bs ps : List Uc} (ho : W.ownsRow B0 44 5 v k (pcK ucL bs)) (h : LIn ucL 5 W B A n c ps) (hb : Below B0 w W) (h0 : B0 ≤ w.heap.size) (hn : k + n ≤ 1048576) :
    ∃ v' wf, (Builtin.append_ #[22, 22] 22 #[v, .slice A n c]).run Try.prog W = .ok v' wf ∧ wf.ownsRow B0 44 5 v' (k + n) (pcK ucL (bs ++ ps)) ∧ Below B0 w wf := by
  obtain ⟨i0, hi0, hz0, hzs, hzb⟩ := info_parts info_upd
  obtain ⟨h1, h2, h3, h4⟩ := h
  obtain ⟨v', wf, k1, k2, k3, k4⟩ := run_app_all (P := Try.prog) W 22 22 B0 44 i0 _ 5 56 Try.underlying22 hi0 hz0 hzs hzb rfl (by decide) v k (pcK ucL bs) ho B A n c (pcK ucL ps) h3 h4 (pcK_one ucL_one ps) hn (by decide) (Nat.le_trans h0 hb.size)
  exact ⟨v', wf, k1, by rw [pcK_app]; exact k2, below_own hb k3 ho (Nat.le_refl _) (Nat.le_trans h0 hb.size)⟩
set_option maxHeartbeats 1000000 in
theorem copU_any (A : Option Addr) (n c B : Nat) (l : List Uc) (w : World) (hl : LIn ucL 5 w B A n c l) (hn : n ≤ 1048576) :
    Calls Try.prog 23 #[.slice A n c] w fun e w' => ∃ v, e = .returned v ∧ w'.ownsRow w.heap.size 44 5 v n (pcK ucL l) ∧ Below w.heap.size w w' := by
  obtain ⟨v', wf, hrun, ho, hbf⟩ := ups_copy hl hn
  have Hrun := Lib.hid hrun
  have Ho := Lib.hid ho
  have Hbf := Lib.hid hbf
  clear hl hrun hbf ho
  go_enter Try.func23, Try.ntmps23
  go_wp2_with (first | (at_builtin; refine dv_app rfl _ _ _ rfl _ _ (by rfl) (by rfl) Hrun.out ?_; clear Hrun) | fail)
  go_ret
  exact ⟨_, rfl, Ho.out, Hbf.out⟩
def ucA : Uc := ⟨0, 0, [97], [120], false⟩
theorem uc_one : playL [ucA] = (0, [⟨1, 0, [97], [120], false⟩], [⟨[97], [120]⟩]) := by kernel_rfl
theorem six_ok {u : Uc} (h : Six u) : UcOk u ∨ u.gone = true := by
  by_cases hg : u.gone = true
  · exact .inr hg
  · left
    have h1 := okU_len h.1
    have h2 := vl_len h.1
    unfold vl at h2
    rw [if_neg hg] at h2
    exact ⟨by omega, by omega⟩
def LdPost (ps : List Uc) (w : World) (e : Ending) (w' : World) : Prop :=
  ∃ A1 c1 A2 c2, e = .returned (.tuple #[.slice A1 (upsD ps).length c1, .slice A2 (tabD ps).length c2, .bool true]) ∧ LIn ucL 5 w' w'.heap.size A1 (upsD ps).length c1 (upsD ps) ∧ LIn rc 2 w' w'.heap.size A2 (tabD ps).length c2 (tabD ps) ∧ Below w.heap.size w w'
set_option maxHeartbeats 4000000 in
set_option maxRecDepth 100000 in
theorem listed_any (A : Option Addr) (n c B : Nat) (ps : List Uc) (w : World) (hl : LIn ucL 5 w B A n c ps) (hB : B ≤ w.heap.size) (hn : n ≤ 100) (h6 : ∀ p ∈ ps, Six p) (hok : ∀ p ∈ ps, UcOk p) :
    Calls Try.prog 20 #[.slice A n c] w (LdPost ps w) := by
  have hln := hl.1
  have HC := Lib.hid (copU_any A n c B ps w hl (by omega))
  have HP := Lib.hid (fun (W : World) (A1 : Option Addr) (c1 : Nat) (h : LIn ucL 5 W W.heap.size A1 n c1 ps) => dplay_any A1 n c1 W.heap.size ps W h (Nat.le_refl _) (by omega) hok)
  unfold DPost at HP
  rw [playL_six h6 (by omega)] at HP
  have hun : (upsD ps).length ≤ n := by have := upsD_len ps; omega
  unfold LdPost
  generalize upsD ps = U at *
  generalize tabD ps = T at *
  simp only at HP
  obtain ⟨u, hu⟩ : ∃ u, U.length = u := ⟨_, rfl⟩
  obtain ⟨m, hm⟩ : ∃ m, T.length = m := ⟨_, rfl⟩
  rw [hu, hm] at HP ⊢
  rw [hu] at hun
  have huu : ((u : Int) == (u : Int)) = true := by simp
  have Hln := Lib.hid hln
  clear hl h6 hok hu hm hln
  go_enter Try.func20, Try.ntmps20
  go_wp2_with fail
  refine HC.out.mono ?_
  rintro e w0 ⟨v0, rfl, ho, hb0⟩
  rw [← Hln.out] at ho
  obtain ⟨A1, c1, rfl, hin⟩ := LIn.own ucL_len ho
  rw [Hln.out] at hin ⊢
  have H1 := Lib.hid (HP.out w0 A1 c1 hin)
  have Hb0 := Lib.hid hb0
  clear ho hb0 hin HC HP
  go_wp2_with fail
  refine H1.out.mono ?_
  rintro e w1 ⟨A2, c2, A3, c3, rfl, ht1, ht2, hb1⟩
  obtain ⟨V, hV⟩ : ∃ V, w1.alloc (.cells #[.int .i64 (u : Int), .bool false, .slice A3 m c3] 25) = V := ⟨_, rfl⟩
  have hVB := Blk.new w1 25 #[.int .i64 (u : Int), .bool false, .slice A3 m c3]
  have hVb : Below w1.heap.size w1 V := by rw [← hV]; exact (Below.refl _ _).alloc (Nat.le_refl _) _
  rw [hV] at hVB
  have Hb1 := Lib.hid ((Hb0.out.trans (hb1.mono Hb0.out.size)).trans (hVb.mono (Hb0.out.trans (hb1.mono Hb0.out.size)).size))
  have Ht1 := Lib.hid ((ht1.below hVb).wider hVb.size)
  have Ht2 := Lib.hid ((ht2.below hVb).wider hVb.size)
  have HVB := Lib.hid hVB
  obtain ⟨gV, hgV⟩ : ∃ g, w1.heap.size = g := ⟨_, rfl⟩
  obtain ⟨W, hW⟩ : ∃ W, V.alloc (.cells #[.int .i64 0, .int .i64 0, .string ⟨#[97]⟩, .string ⟨#[120]⟩, .bool false] 44) = W := ⟨_, rfl⟩
  have hWb : Below V.heap.size V W := by rw [← hW]; exact (Below.refl _ _).alloc (Nat.le_refl _) _
  have hWB := Blk.new V 44 #[.int .i64 0, .int .i64 0, .string ⟨#[97]⟩, .string ⟨#[120]⟩, .bool false]
  rw [hW] at hWB
  have hlit : LIn ucL 5 W W.heap.size (some ⟨V.heap.size, 0, none⟩) 1 1 [ucA] := by
    refine ⟨rfl, by omega, (fun h => by cases h), rfl, fun _ => ⟨V.heap.size, 0, rfl, hWB.lt, fun j u hu => ?_⟩⟩
    rw [Nat.zero_add, hWB.cell j]
    simpa [pcK, ucL, ucA, str] using hu
  have H2 := Lib.hid (dplay_any _ 1 1 W.heap.size [ucA] W hlit (Nat.le_refl _) (by omega) (by intro p hp; simp at hp; subst hp; simp [UcOk, ucA]))
  unfold DPost at H2
  rw [uc_one] at H2
  have Hb2 := Lib.hid (Hb1.out.trans (hWb.mono Hb1.out.size))
  have HWb := Lib.hid hWb
  clear ht1 ht2 hb1 hVb hVB H1 hlit hWb hWB
  go_wp2_with fail
  refine H2.out.mono ?_
  rintro e w2 ⟨A4, c4, A5, c5, rfl, ht4, ht5, hb2⟩
  obtain ⟨b4, off4, hA4, hbb4, k0, -, -, -, -⟩ := uc_at ht4 (i := 0) (by simp)
  subst hA4
  obtain ⟨X, hX⟩ : ∃ X, w2.alloc (.cells #[.int .i64 1, .bool false, .slice A5 1 c5] 25) = X := ⟨_, rfl⟩
  have hXb : Below w2.heap.size w2 X := by rw [← hX]; exact (Below.refl _ _).alloc (Nat.le_refl _) _
  have hVX := (HWb.out.trans (hb2.mono HWb.out.size)).trans (hXb.mono (HWb.out.trans (hb2.mono HWb.out.size)).size)
  have z0 : X.cell? ⟨gV, 0, none⟩ = some (.int .i64 (u : Int)) := by have := (HVB.out.below hVX HVB.out.lt).cell 0; rw [hgV] at this; exact this
  have z1 : X.cell? ⟨gV, 1, none⟩ = some (.bool false) := by have := (HVB.out.below hVX HVB.out.lt).cell 1; rw [hgV] at this; exact this
  have z2 : X.cell? ⟨gV, 2, none⟩ = some (.slice A3 m c3) := by have := (HVB.out.below hVX HVB.out.lt).cell 2; rw [hgV] at this; exact this
  have z4 : X.cell? ⟨b4, off4, none⟩ = some (.int .i64 1) := (hXb.cell hbb4).trans k0
  have Hb3 := Lib.hid (Hb1.out.trans (hVX.mono Hb1.out.size))
  have Ht3 := Lib.hid ((Ht1.out.below hVX).wider hVX.size)
  have Ht4 := Lib.hid ((Ht2.out.below hVX).wider hVX.size)
  clear ht4 ht5 hb2 H2 Ht1 Ht2 hbb4 hXb hVX
  dsimp only [List.length_cons, List.length_nil]
  go_wp2_with fail
  go_quiet (fail)
  go_wp2_with fail
  go_ret3
  exact ⟨A2, c2, A3, c3, rfl, Ht3.out.below (below_drewN (Below.refl _ _) _), Ht4.out.below (below_drewN (Below.refl _ _) _), below_drewN Hb3.out _⟩
end Go.Proofs.Ytmlgaedhfannmaa

/- Device lists compared: two that are the same. -/
namespace Go.Proofs.Ytmlgaedhfannmaa
set_option linter.unusedVariables false
set_option linter.unusedSimpArgs false
open Go.RowKit
theorem eq_dev2 (a b : List UInt8) (d : Nat) (w : World) : (Op.equalIn (d + 2) 42 (.agg #[str a, str b]) (.agg #[str a, str b])).run Try.prog w = .ok true w := by
  have e9 : ∀ (l : List UInt8) (d : Nat), (Op.equalIn (d + 1) 9 (str l) (str l)).run Try.prog w = .ok true w := fun l d => by
    rw [eq_strD]; simp
  rw [show d + 2 = (d + 1) + 1 from rfl, run_equalIn_agg w (d + 1) 42 _ _ (by kernel_rfl) (by kernel_rfl)]
  go_simp
theorem eq_upd (s p : Int) (a b : List UInt8) (g : Bool) (w : World) : (Op.equalIn 10000 44 (.agg #[.int .i64 s, .int .i64 p, str a, str b, .bool g]) (.agg #[.int .i64 s, .int .i64 p, str a, str b, .bool g])).run Try.prog w = .ok true w := by
  have e9 : ∀ (l : List UInt8) (d : Nat), (Op.equalIn (d + 1) 9 (str l) (str l)).run Try.prog w = .ok true w := fun l d => by
    rw [eq_strD]; simp
  have e8 := fun d => eq_dev2 a b d w
  rw [show (10000 : Nat) = 9999 + 1 from rfl, run_equalIn_agg w 9999 44 _ _ (by kernel_rfl) (by kernel_rfl)]
  go_simp
theorem gd_upd (op : BinOp) (x y : Operand) (s p : Int) (a b : List UInt8) (g : Bool) (w : World) : (eqGuard op 44 x y (.agg #[.int .i64 s, .int .i64 p, str a, str b, .bool g]) (.agg #[.int .i64 s, .int .i64 p, str a, str b, .bool g])).run Try.prog w = .ok () w := run_eqGuard_agg w op 44 x y _ _ (by kernel_rfl)
def SmR (w : World) (n : Nat) (gk : Nat) (i : Value) (wr : World) : Prop :=
  ∃ k q : Nat, i = .int .i64 (k : Int) ∧ k ≤ n ∧ gk = n - k ∧ wr = w.drewN q
set_option maxHeartbeats 1000000 in
theorem refSameD_any (A A' : Option Addr) (n c c' B B' : Nat) (l : List Rw) (w : World) (h1 : LIn rc 2 w B A n c l) (h2 : LIn rc 2 w B' A' n c' l) (hn : n ≤ 1048576) :
    Calls Try.prog 16 #[.slice A n c, .slice A' n c'] w fun e w' => e = .returned (.bool true) ∧ ∃ k, w' = w.drewN k := by
  have hln := h1.1
  have hb : ((n : Int) != (n : Int)) = false := by simp
  go_enter Try.func16, Try.ntmps16
  go_wp2
  go_loopg [13] n (SmR w n)
  case atStart => exact ⟨0, 0, rfl, by omega, by omega, rfl⟩
  case round =>
    obtain ⟨k, q, rfl, hk, hg, rfl⟩ := hrel
    have Hg := Lib.hid hg
    clear hg
    by_cases hlt : k < n
    · have hkl : k < l.length := by omega
      obtain ⟨b, off, hA, _, c0, c1⟩ := dv_at h1 hkl
      obtain ⟨b', off', hA', _, d0, d1⟩ := dv_at h2 hkl
      subst hA hA'
      clear h1 h2
      generalize l[k] = r at *
      obtain ⟨rk, rv⟩ := r
      simp only at c0 c1 d0 d1
      have hki : (k : Int) < (n : Int) := by omega
      have heq := fun W => eq_dev2 rk rv 9998 W
      have hgd := fun x y W => gd_dev BinOp.neq x y rk rv rk rv W
      go_wp2_with fail
      go_quiet (fail)
      go_wp2
      go_roundg (n - (k + 1))
      case measure => have := Hg.out; omega
      case rel => exact ⟨k + 1, _, by go_num, by omega, rfl, rfl⟩
    · have hki : ¬ (k : Int) < (n : Int) := by omega
      go_wp2
      go_ret
      exact ⟨rfl, _, rfl⟩
set_option maxHeartbeats 1000000 in
theorem refSameU_any (A A' : Option Addr) (n c c' B B' : Nat) (l : List Uc) (w : World) (h1 : LIn ucL 5 w B A n c l) (h2 : LIn ucL 5 w B' A' n c' l) (hn : n ≤ 1048576) :
    Calls Try.prog 15 #[.slice A n c, .slice A' n c'] w fun e w' => e = .returned (.bool true) ∧ ∃ k, w' = w.drewN k := by
  have hln := h1.1
  have hb : ((n : Int) != (n : Int)) = false := by simp
  go_enter Try.func15, Try.ntmps15
  go_wp2
  go_loopg [13] n (SmR w n)
  case atStart => exact ⟨0, 0, rfl, by omega, by omega, rfl⟩
  case round =>
    obtain ⟨k, q, rfl, hk, hg, rfl⟩ := hrel
    have Hg := Lib.hid hg
    clear hg
    by_cases hlt : k < n
    · have hkl : k < l.length := by omega
      obtain ⟨b, off, hA, _, c0, c1, c2, c3, c4⟩ := uc_at h1 hkl
      obtain ⟨b', off', hA', _, d0, d1, d2, d3, d4⟩ := uc_at h2 hkl
      subst hA hA'
      clear h1 h2
      generalize l[k] = r at *
      obtain ⟨rs, rp, rk, rv, rg⟩ := r
      simp only at c0 c1 c2 c3 c4 d0 d1 d2 d3 d4
      have hki : (k : Int) < (n : Int) := by omega
      have heq := fun W => eq_upd rs rp rk rv rg W
      have hgd := fun x y W => gd_upd BinOp.neq x y rs rp rk rv rg W
      go_wp2_with fail
      go_quiet (fail)
      go_wp2
      go_roundg (n - (k + 1))
      case measure => have := Hg.out; omega
      case rel => exact ⟨k + 1, _, by go_num, by omega, rfl, rfl⟩
    · have hki : ¬ (k : Int) < (n : Int) := by omega
      go_wp2
      go_ret
      exact ⟨rfl, _, rfl⟩
set_option maxHeartbeats 1000000 in
theorem sameDev_any (A A' : Option Addr) (n c c' B B' : Nat) (l : List Rw) (w : World) (h1 : LIn rc 2 w B A n c l) (h2 : LIn rc 2 w B' A' n c' l) (hn : n ≤ 1048576) :
    Calls Try.prog 21 #[.slice A n c, .slice A' n c'] w fun e w' => e = .returned (.bool true) ∧ ∃ k, w' = w.drewN k := by
  have hln := h1.1
  have hb : ((n : Int) != (n : Int)) = false := by simp
  go_enter Try.func21, Try.ntmps21
  go_wp2
  go_loopg [5] n (SmR w n)
  case atStart => exact ⟨0, 0, rfl, by omega, by omega, rfl⟩
  case round =>
    obtain ⟨k, q, rfl, hk, hg, rfl⟩ := hrel
    have Hg := Lib.hid hg
    clear hg
    by_cases hlt : k < n
    · have hkl : k < l.length := by omega
      obtain ⟨b, off, hA, _, c0, c1⟩ := dv_at h1 hkl
      obtain ⟨b', off', hA', _, d0, d1⟩ := dv_at h2 hkl
      subst hA hA'
      clear h1 h2
      generalize l[k] = r at *
      obtain ⟨rk, rv⟩ := r
      simp only at c0 c1 d0 d1
      have hki : (k : Int) < (n : Int) := by omega
      have heq := fun W => eq_dev2 rk rv 9998 W
      have hgd := fun x y W => gd_dev BinOp.neq x y rk rv rk rv W
      go_wp2_with fail
      go_quiet (fail)
      go_wp2
      go_roundg (n - (k + 1))
      case measure => have := Hg.out; omega
      case rel => exact ⟨k + 1, _, by go_num, by omega, rfl, rfl⟩
    · have hki : ¬ (k : Int) < (n : Int) := by omega
      go_wp2
      go_ret
      exact ⟨rfl, _, rfl⟩
end Go.Proofs.Ytmlgaedhfannmaa

/- Device lists: what the statements on drawn changes share. -/
namespace Go.Proofs.Ytmlgaedhfannmaa
set_option linter.unusedVariables false
set_option linter.unusedSimpArgs false
open Go.RowKit
theorem uc_ok {u : Uc} (h : okU u = true) (hg : u.gone = true → u.val = []) : UcOk u := by
  have h1 := okU_len h
  have h2 := vl_len h
  unfold vl at h2
  by_cases hb : u.gone = true
  · refine ⟨by omega, ?_⟩
    rw [hg hb]; simp
  · rw [if_neg hb] at h2
    exact ⟨by omega, by omega⟩
theorem dru_ok {u : Uc} (h : Dru u) : UcOk u := uc_ok h.1.1 h.2.2.2
theorem ups_ok {us : List Uc} (h : UsOk us) : ∀ u ∈ us, UcOk u := fun u hu => uc_ok (h.good u hu).1 (h.good u hu).2
theorem tabD_len {l : List Uc} (h : ∀ c ∈ l, Six c) (hn : l.length ≤ 100) : (tabD l).length ≤ 6 := by
  have h1 := (playL_ok l).2.few
  rw [playL_six h hn] at h1
  exact h1
/-- Since at a list of six devices. -/
theorem sinceL_six {l : List Uc} (h : ∀ c ∈ l, Six c) (hn : l.length ≤ 100) (k : Nat) (hk : k ≤ (upsD l).length) : sinceL l (k : Int) = (0, lastOnes ((upsD l).drop k)) := by
  unfold sinceL
  rw [playL_six h hn]
  have h1 : ¬ ((k : Int) < 0) := by omega
  have h2 : ¬ (((upsD l).length : Int) < (k : Int)) := by omega
  simp [h1, h2]
end Go.Proofs.Ytmlgaedhfannmaa
