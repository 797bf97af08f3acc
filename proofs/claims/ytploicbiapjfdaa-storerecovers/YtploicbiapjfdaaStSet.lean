/- The store: settled. -/
import Derived.Test.YtploicbiapjfdaaStMore
namespace Go.Proofs.Ytploicbiapjfdaa
set_option linter.unusedVariables false
set_option linter.unusedSimpArgs false
open Go.RowKit
/-- Two rows of rows, in different blocks. -/
def Two (w : World) (base : Nat) (v1 v2 : Value) (l1 l2 : List Rw) : Prop :=
  w.ownsRow base 50 2 v1 l1.length (pcR l1) ∧ w.ownsRow base 50 2 v2 l2.length (pcR l2) ∧ (v1.ownBlock = none ∨ v1.ownBlock ≠ v2.ownBlock)
theorem Two.sym {w : World} {base : Nat} {v1 v2 : Value} {l1 l2 : List Rw} (h : Two w base v1 v2 l1 l2) : Two w base v2 v1 l2 l1 := by
  refine ⟨h.2.1, h.1, ?_⟩
  rcases h.2.2 with h | h
  · cases h2 : v2.ownBlock with
    | none => exact .inl rfl
    | some k => rw [h]; exact .inr (by simp)
  · exact .inr (fun e => h e.symm)
theorem Two.below {w w' : World} {base : Nat} {v1 v2 : Value} {l1 l2 : List Rw} (h : Two w base v1 v2 l1 l2) (hb : Below w.heap.size w w') : Two w' base v1 v2 l1 l2 :=
  ⟨rowR_below h.1 hb, rowR_below h.2.1 hb, h.2.2⟩
/-- One row put behind the first. -/
theorem Two.put {W : World} {base : Nat} {v1 v2 : Value} {l1 l2 : List Rw} (h : Two W base v1 v2 l1 l2) (r : Rw) (hn : l1.length + 1 ≤ 1048576) (hb : base ≤ W.heap.size) :
    ∃ v' wf, (Builtin.append_ #[29, 29] 29 #[v1, .slice (some ⟨W.heap.size, 0, none⟩) 1 1]).run Try.prog (W.alloc (.cells #[str r.key, str r.val] 50)) = .ok v' wf ∧
      Two wf base v' v2 (l1 ++ [r]) l2 ∧ ∀ B a, Below B a W → B ≤ base → B ≤ W.heap.size → Below B a wf := by
  obtain ⟨v', wf, h1, h2, h3, h4⟩ := run_app_row4 W base l1.length v1 l1 r h.1 hn hb
  have ho2 := h.2.1.alloc (.cells #[str r.key, str r.val] 50)
  refine ⟨v', wf, h1, ⟨by simpa using h2, World.ownsRow.kept ho2 h3 h.sym.2.2, ?_⟩, fun B a hB hbb hBW => below_own (hB.alloc hBW _) h3 (h.1.alloc _) hbb (by simp; omega)⟩
  rcases h4 with h4 | h4
  · rw [h4]; exact h.2.2
  · refine .inr fun e => ?_
    have := (World.ownsRow.lt h.2.1 (W.heap.size + 1) (by rw [← e, h4])).2
    omega
theorem Two.both {W : World} {base : Nat} {v1 v2 : Value} {l1 l2 : List Rw} (h : Two W base v1 v2 l1 l2) (hn : l1.length + l2.length ≤ 1048576) (hb : base ≤ W.heap.size) :
    ∃ v' wf, (Builtin.append_ #[29, 29] 29 #[v1, v2]).run Try.prog W = .ok v' wf ∧ wf.ownsRow base 50 2 v' (l1 ++ l2).length (pcR (l1 ++ l2)) ∧ ∀ B a, Below B a W → B ≤ base → B ≤ W.heap.size → Below B a wf := by
  obtain ⟨i0, hi0, hz0, hzs, hzb⟩ := info_parts info_row
  obtain ⟨A2, c2, rfl, hA⟩ := own_form h.2.1
  obtain ⟨v', wf, h1, h2, h3, h4⟩ := run_app_all (P := Try.prog) W 29 29 base 50 i0 _ 2 32 Try.underlying29 hi0 hz0 hzs hzb rfl (by decide) v1 l1.length (pcR l1) h.1 W.heap.size A2 l2.length c2 (pcR l2) (fun h => (hA h).2) (Holds.own h.2.1) (pcR_one l2) hn (by decide) hb
  exact ⟨v', wf, h1, by rw [pcR_app, List.length_append]; exact h2, fun B a hB hbb hBW => below_own hB h3 h.1 hbb hBW⟩
def SetlR (cs : List Rw) (w : World) (n : Nat) (gk : Nat) (s3 s4 s10 : Value) (wr : World) : Prop :=
  ∃ (k : Nat) (R P : List Rw), s10 = .int .i64 (k : Int) ∧ k ≤ n ∧ gk = n - k ∧ R ++ (keepL (cs.drop k)).filter gone = (keepL cs).filter gone ∧ P ++ (keepL (cs.drop k)).filter (fun r => !gone r) = (keepL cs).filter (fun r => !gone r) ∧
    R.length ≤ k ∧ P.length ≤ k ∧ Two wr w.heap.size s3 s4 R P ∧ Below w.heap.size w wr
set_option maxHeartbeats 2000000 in
set_option maxRecDepth 100000 in
theorem settled_any (A : Option Addr) (n c B : Nat) (cs : List Rw) (w : World) (hl : RIn w B A n c cs) (hB : B ≤ w.heap.size) (hn : n ≤ 1000) :
    Calls Try.prog 64 #[.slice A n c] w fun e w' => ∃ v, e = .returned v ∧ w'.ownsRow w.heap.size 50 2 v (settledR cs).length (pcR (settledR cs)) ∧ Below w.heap.size w w' := by
  have Hln := Lib.hid hl.1
  have Hl := Lib.hid hl
  obtain ⟨i0, hi0, hz0, hzs, hzb⟩ := info_parts info_row
  have hnc := hl.2.1
  clear hl
  go_enter Try.func64, Try.ntmps64
  go_wp2
  go_loopg [3, 4, 10] n (SetlR cs w n)
  case atStart => exact ⟨0, [], [], rfl, Nat.zero_le _, by omega, rfl, rfl, by simp, by simp, ⟨World.ownsRow_nil _ _ _ _, World.ownsRow_nil _ _ _ _, .inl rfl⟩, Below.refl _ _⟩
  case round =>
    obtain ⟨k, R, P, rfl, hk, hgk, hR, hP, hrl, hpl, htw, hbe⟩ := hrel
    obtain ⟨A3, c3, rfl, _⟩ := own_form htw.1
    obtain ⟨A4, c4, rfl, _⟩ := own_form htw.2.1
    have Hgk := Lib.hid hgk
    have Hbe := Lib.hid hbe
    have Htw := Lib.hid htw
    have HR := Lib.hid hR
    have HP := Lib.hid hP
    have hszw := hbe.size
    clear hgk hbe htw hR hP
    by_cases hkn : k < n
    · have hkl : k < cs.length := by rw [Hln.out]; exact hkn
      obtain ⟨b, off, hA, hbB, c0, c1⟩ := (Hl.out.below (Hbe.out.mono hB)).at_ hkl
      have hcut := RIn.cut (Hl.out.below (Hbe.out.mono hB)) (lo := k + 1) (hg := n) (by omega) (Nat.le_refl _)
      rw [show (cs.take n).drop (k + 1) = cs.drop (k + 1) by rw [List.take_of_length_le (by have := Hln.out; omega)]] at hcut
      have hrcut := fun W' => run_cut_l (P := Try.prog) W' 29 50 i0 Try.underlying29 hi0 A n c .i64 ((k : Int) + 1) (k + 1) (by omega) (by omega)
      simp only [hzs] at hrcut
      have hdrop : cs.drop k = cs[k] :: cs.drop (k + 1) := List.drop_eq_getElem_cons hkl
      have HR2 := HR.out
      have HP2 := HP.out
      rw [hdrop] at HR2 HP2
      clear HR HP
      subst hA
      obtain ⟨W, hW⟩ : ∃ W, wr.alloc (.cells #[str cs[k].key, str cs[k].val] 50) = W := ⟨_, rfl⟩
      have hWB := Blk.new wr 50 #[str cs[k].key, str cs[k].val]
      have hWb : Below wr.heap.size wr W := by rw [← hW]; exact (Below.refl _ _).alloc (Nat.le_refl _) _
      rw [hW] at hWB
      have hWl := hWB.lt
      have HC := Lib.hid (containsM_any _ _ _ B wr.heap.size cs[k].key (cs.drop (k + 1)) W (hcut.below (hWb.mono (by omega))) (by have := hWb.size; omega) (by omega) hWl (hWB.cell 0))
      have Htw2 := Lib.hid (Htw.out.below hWb)
      have Hbe2 := Lib.hid (Hbe.out.trans (hWb.mono hszw))
      have HWB := Lib.hid hWB
      generalize cs[k] = r at *
      have hi1 : (k : Int) < (n : Int) := by omega
      obtain ⟨Ac, hAc⟩ : ∃ Ac, cutAt (some ⟨b, off, none⟩) c (k + 1) 2 = Ac := ⟨_, rfl⟩
      obtain ⟨nc, hnc'⟩ : ∃ nc, n - (k + 1) = nc := ⟨_, rfl⟩
      obtain ⟨cc, hcc⟩ : ∃ cc, c - (k + 1) = cc := ⟨_, rfl⟩
      rw [hAc, hnc', hcc] at HC
      simp only [hAc, hnc', hcc] at hrcut
      clear hcut hAc hcc hdrop hWB hWb Hbe Htw
      replace HC : Hid (Calls Try.prog _ _ W _) := HC
      obtain ⟨rk, rv⟩ := r
      simp only at c0 c1 hW HC
      have HC' : Hid (Calls Try.prog 52 #[.slice Ac nc cc, .func (.func 87) #[] #[.pointer (some ⟨wr.heap.size, 0, none⟩)]] W fun e w' => e = .returned (.bool (more ⟨rk, rv⟩ (cs.drop (k + 1)))) ∧ Below W.heap.size W w') := HC
      clear HC
      cases hm : more ⟨rk, rv⟩ (cs.drop (k + 1))
      · rw [hm] at HC'
        rw [keepL, if_neg (by rw [hm]; decide)] at HR2 HP2
        by_cases hv : rv = []
        · have hg : gone ⟨rk, rv⟩ = true := by unfold gone; rw [hv]; rfl
          rw [List.filter_cons_of_pos hg] at HR2
          rw [List.filter_cons_of_neg (by simp [hg])] at HP2
          have HR3 := Lib.hid (show (R ++ [⟨rk, rv⟩]) ++ (keepL (cs.drop (k + 1))).filter gone = (keepL cs).filter gone by rw [List.append_assoc]; exact HR2)
          have HP3 := Lib.hid HP2
          have hve : rv.isEmpty = true := by rw [hv]; rfl
          clear HR2 HP2 hm hg hv
          go_wp2_with fail
          refine HC'.out.mono ?_
          rintro e w1 ⟨rfl, hb1⟩
          have hB1 := HWB.out.below hb1 hWl
          have x0 : w1.cell? ⟨wr.heap.size, 0, none⟩ = some (str rk) := hB1.cell 0
          have x1 : w1.cell? ⟨wr.heap.size, 1, none⟩ = some (str rv) := hB1.cell 1
          have hbe1 := Hbe2.out.trans (hb1.mono Hbe2.out.size)
          obtain ⟨v', wf, hrun, htw', hbf⟩ := (Htw2.out.below hb1).put ⟨rk, rv⟩ (by omega) (by have := hbe1.size; omega)
          have Hrun := Lib.hid hrun
          have Htw' := Lib.hid htw'
          have Hbf := Lib.hid (hbf _ _ hbe1 (Nat.le_refl _) (by have := hbe1.size; omega))
          clear hrun htw' hbf hB1 HC' Htw2 HWB
          go_wp2_with (first | (at_builtin; refine rw_app rfl _ _ _ rfl _ _ (by rfl) (by rfl) Hrun.out ?_; clear Hrun) | fail)
          go_roundg (n - (k + 1))
          case measure => have := Hgk.out; omega
          case rel => exact ⟨k + 1, _, _, by go_num, by omega, rfl, HR3.out, HP3.out, by simp; omega, by omega, Htw'.out, Hbf.out⟩
        · have hg : gone ⟨rk, rv⟩ = false := by unfold gone; simpa using hv
          rw [List.filter_cons_of_neg (by simp [hg])] at HR2
          rw [List.filter_cons_of_pos (by simp [hg])] at HP2
          have HP3 := Lib.hid (show (P ++ [⟨rk, rv⟩]) ++ (keepL (cs.drop (k + 1))).filter (fun r => !gone r) = (keepL cs).filter (fun r => !gone r) by rw [List.append_assoc]; exact HP2)
          have HR3 := Lib.hid HR2
          have hve : rv.isEmpty = false := by simpa using hv
          clear HR2 HP2 hm hg hv
          go_wp2_with fail
          refine HC'.out.mono ?_
          rintro e w1 ⟨rfl, hb1⟩
          have hB1 := HWB.out.below hb1 hWl
          have x0 : w1.cell? ⟨wr.heap.size, 0, none⟩ = some (str rk) := hB1.cell 0
          have x1 : w1.cell? ⟨wr.heap.size, 1, none⟩ = some (str rv) := hB1.cell 1
          have hbe1 := Hbe2.out.trans (hb1.mono Hbe2.out.size)
          obtain ⟨v', wf, hrun, htw', hbf⟩ := (Htw2.out.below hb1).sym.put ⟨rk, rv⟩ (by omega) (by have := hbe1.size; omega)
          have Hrun := Lib.hid hrun
          have Htw' := Lib.hid htw'.sym
          have Hbf := Lib.hid (hbf _ _ hbe1 (Nat.le_refl _) (by have := hbe1.size; omega))
          clear hrun htw' hbf hB1 HC' Htw2 HWB
          go_wp2_with (first | (at_builtin; refine rw_app rfl _ _ _ rfl _ _ (by rfl) (by rfl) Hrun.out ?_; clear Hrun) | fail)
          go_roundg (n - (k + 1))
          case measure => have := Hgk.out; omega
          case rel => exact ⟨k + 1, _, _, by go_num, by omega, rfl, HR3.out, HP3.out, by omega, by simp; omega, Htw'.out, Hbf.out⟩
      · rw [hm] at HC'
        rw [keepL, if_pos hm] at HR2 HP2
        have HR3 := Lib.hid HR2
        have HP3 := Lib.hid HP2
        clear HR2 HP2 hm
        go_wp2_with fail
        refine HC'.out.mono ?_
        rintro e w1 ⟨rfl, hb1⟩
        have Hbe1 := Lib.hid (Hbe2.out.trans (hb1.mono Hbe2.out.size))
        have Htw' := Lib.hid (Htw2.out.below hb1)
        clear hb1 HC' Htw2 HWB
        go_wp2_with fail
        go_roundg (n - (k + 1))
        case measure => have := Hgk.out; omega
        case rel => exact ⟨k + 1, _, _, by go_num, by omega, rfl, HR3.out, HP3.out, by omega, by omega, Htw'.out, Hbe1.out⟩
    · have hke : k = cs.length := by have := Hln.out; omega
      have hdr : cs.drop k = [] := by rw [hke]; exact List.drop_length
      have HR2 := HR.out
      have HP2 := HP.out
      rw [hdr, keepL, List.filter_nil, List.append_nil] at HR2 HP2
      obtain ⟨v', wf, hrun, hof, hbf⟩ := Htw.out.both (by omega) hszw
      have HS := Lib.hid (show settledR cs = R ++ P by unfold settledR; rw [HR2, HP2])
      have Hrun := Lib.hid hrun
      have Hof := Lib.hid hof
      have Hbf := Lib.hid (hbf _ _ Hbe.out (Nat.le_refl _) hszw)
      clear hrun hof hbf HR2 HP2 hdr hke HR HP
      go_wp2_with (first | (at_builtin; refine rw_app rfl _ _ _ rfl _ _ (by rfl) (by rfl) Hrun.out ?_; clear Hrun) | fail)
      go_ret
      exact ⟨v', rfl, by rw [HS.out]; exact Hof.out, Hbf.out⟩
end Go.Proofs.Ytploicbiapjfdaa
