/- Joined texts: RwSetR, RwSetQ. -/
import Derived.Test.YtploicbiapjfdaaRwSet
import Derived.Test.YtploicbiapjfdaaBunRA
import Derived.Deep.Cut
/- Sorted tables, the reference: rowsSet, rowsChanges, RowsSet. -/
namespace Go.Proofs.Ytploicbiapjfdaa
set_option linter.unusedVariables false
set_option linter.unusedSimpArgs false
open Go.RowKit
/-- One row more behind a row of the call's own: what stays. -/
theorem app_step (W : World) (base n : Nat) (v : Value) (l : List Rw) (r : Rw) (hown : W.ownsRow base 50 2 v n (pcR l)) (hn : n + 1 ≤ 1048576) (hb : base ≤ W.heap.size) :
    ∃ v' wf, (Builtin.append_ #[29, 29] 29 #[v, .slice (some ⟨W.heap.size, 0, none⟩) 1 1]).run Try.prog (W.alloc (.cells #[str r.key, str r.val] 50)) = .ok v' wf ∧
      wf.ownsRow base 50 2 v' (n + 1) (pcR (l ++ [r])) ∧ Below base W wf ∧ W.heap.size ≤ wf.heap.size ∧ (∀ g t cs, Blk W g t cs → some g ≠ v.ownBlock → Blk wf g t cs) ∧ (∀ g, g < W.heap.size → some g ≠ v.ownBlock → some g ≠ v'.ownBlock) := by
  obtain ⟨i0, hi0, hz0, hzs, hzb⟩ := info_parts info_row
  have hB := Blk.new W 50 #[str r.key, str r.val]
  have hh : Holds (W.alloc (.cells #[str r.key, str r.val] 50)) (W.heap.size + 1) 2 (some ⟨W.heap.size, 0, none⟩) 1 (rc r) := by
    refine ⟨rfl, fun _ => ⟨W.heap.size, 0, rfl, by omega, fun j u hu => ?_⟩⟩
    rw [Nat.zero_add, hB.cell j]
    simpa [rc] using hu
  obtain ⟨v', wf, h1, h2, h3, h4⟩ := run_app_all (P := Try.prog) (W.alloc (.cells #[str r.key, str r.val] 50)) 29 29 base 50 i0 _ 2 32 Try.underlying29 hi0 hz0 hzs hzb rfl (by decide) v n (pcR l) (hown.alloc _) (W.heap.size + 1) (some ⟨W.heap.size, 0, none⟩) 1 1 (rc r) (fun h => by cases h) hh (rc_one r) hn (by decide) (by simp; omega)
  refine ⟨v', wf, h1, by rw [pcR_app]; simpa [pcR] using h2, ?_, ?_, ?_, ?_⟩
  · exact below_own ((Below.refl base W).alloc hb _) h3 (hown.alloc _) (Nat.le_refl _) (by simp; omega)
  · have := h3.size; simp at this; omega
  · intro g t cs hg hne
    exact (hg.alloc _).grown h3 hne
  · intro g hg hne e
    rcases h4 with h4 | h4
    · rw [h4] at e; exact hne e
    · rw [h4] at e
      injection e with e
      simp at e; omega
/-- The loop of rowsSet. -/
def RwInL (l : List Rw) (c : Rw) (w : World) (n : Nat) (gk : Nat) (s5 s6 s14 : Value) (wr : World) : Prop :=
  ∃ (j : Nat) (o : List Rw) (b : Bool), s6 = .bool b ∧ s14 = .int .i64 (j : Int) ∧ j ≤ n ∧ gk = n - j ∧ o.length ≤ 2 * j ∧ wr.ownsRow (w.heap.size + 1) 50 2 s5 o.length (pcR o) ∧
    Blk wr w.heap.size 50 #[str c.key, str c.val] ∧ Below w.heap.size w wr ∧ o ++ insG b c (l.drop j) = insG c.val.isEmpty c l
theorem insG_drop {l : List Rw} {j : Nat} (hj : j < l.length) (b : Bool) (c : Rw) :
    insG b c (l.drop j) = (if b = false ∧ Op.bytesLess c.key l[j].key = true then [c] else []) ++ (if l[j].key = c.key then [] else [l[j]]) ++ insG (b || Op.bytesLess c.key l[j].key) c (l.drop (j + 1)) := by
  rw [List.drop_eq_getElem_cons hj]; rfl
set_option maxHeartbeats 2000000 in
set_option maxRecDepth 100000 in
theorem rowsSet_any (A : Option Addr) (n c B : Nat) (l : List Rw) (r : Rw) (w : World) (hl : RIn w B A n c l) (hB : B ≤ w.heap.size) (hs : srt l) (hn : n ≤ 1000) :
    Calls Try.prog 40 #[.slice A n c, .agg #[str r.key, str r.val]] w fun e w' => ∃ v, e = .returned v ∧ w'.ownsRow w.heap.size 50 2 v (setR r l).length (pcR (setR r l)) ∧ Below w.heap.size w w' := by
  rw [← insG_eq r hs]
  obtain ⟨k, x⟩ := r
  simp only
  have Hl := Lib.hid hl
  have Hln := Lib.hid hl.1
  have hW0 := (Below.refl w.heap.size w).alloc (Nat.le_refl _) (.cells #[str k, str x] 50)
  have hB0 := Blk.new w 50 #[str k, str x]
  have HW0 := Lib.hid hW0
  have HB0 := Lib.hid hB0
  clear hl hs hW0 hB0
  go_enter Try.func40, Try.ntmps40
  go_wp2
  go_loopg [5, 6, 14] n (RwInL l ⟨k, x⟩ w n)
  case atStart => exact ⟨0, [], x.isEmpty, rfl, rfl, Nat.zero_le _, by omega, Nat.le_refl _, World.ownsRow_nil _ _ _ _, HB0.out, HW0.out, rfl⟩
  case round =>
    obtain ⟨j, o, b, rfl, rfl, hj, hgk, hol, ho, hbx, hbe, heq⟩ := hrel
    have Hgk := Lib.hid hgk
    have Ho := Lib.hid ho
    have Hbe := Lib.hid hbe
    have Heq := Lib.hid heq
    have Hbx := Lib.hid hbx
    have hszw := hbe.size
    have hgl := hbx.lt
    clear hgk ho hbe heq hbx
    by_cases hjn : j < n
    · have hjl : j < l.length := by rw [Hln.out]; exact hjn
      obtain ⟨b1, off, hA, hbB, c0, c1⟩ := (Hl.out.below (Hbe.out.mono hB)).at_ hjl
      subst hA
      have hbw : b1 < wr.heap.size := by omega
      have Hins := Lib.hid (insG_drop hjl b ⟨k, x⟩)
      generalize l[j] = r at *
      obtain ⟨rk, rv⟩ := r
      simp only at c0 c1
      have hi1 : (j : Int) < (n : Int) := by omega
      obtain ⟨W, hW⟩ : ∃ W, W = wr.alloc (.cells #[str rk, str rv] 50) := ⟨_, rfl⟩
      have HW := Lib.hid hW
      have hWo : W.ownsRow (w.heap.size + 1) 50 2 u5 o.length (pcR o) := by rw [hW]; exact Ho.out.alloc _
      have hWb : Below w.heap.size w W := by rw [hW]; exact Hbe.out.alloc hszw _
      have hWx : Blk W w.heap.size 50 #[str k, str x] := by rw [hW]; exact Hbx.out.alloc _
      have hWr : Blk W wr.heap.size 50 #[str rk, str rv] := by rw [hW]; exact Blk.new wr _ _
      have hWs : W.heap.size = wr.heap.size + 1 := by rw [hW]; simp
      have hne1 : some w.heap.size ≠ u5.ownBlock := fun e => by have := (World.ownsRow.lt Ho.out w.heap.size e.symm).1; omega
      have hne2 : some wr.heap.size ≠ u5.ownBlock := fun e => by have := (World.ownsRow.lt Ho.out wr.heap.size e.symm).2; omega
      have y0 : W.cell? ⟨w.heap.size, 0, none⟩ = some (str k) := hWx.cell 0
      have y1 : W.cell? ⟨w.heap.size, 1, none⟩ = some (str x) := hWx.cell 1
      have z0 : W.cell? ⟨wr.heap.size, 0, none⟩ = some (str rk) := hWr.cell 0
      have z1 : W.cell? ⟨wr.heap.size, 1, none⟩ = some (str rv) := hWr.cell 1
      clear hW
      cases b
      · cases hls : Op.bytesLess k rk
        · by_cases he : rk = k
          · skip
            have hkb : (rk == k) = true := by simpa using he
            have HE := Lib.hid (show o ++ insG false ⟨k, x⟩ (l.drop (j + 1)) = insG x.isEmpty ⟨k, x⟩ l by
              have hl0 : Op.bytesLess k rk = false := by rw [he, bl_irrefl]
              rw [← Heq.out, Hins.out]; simp only [hl0, Bool.or_false]; simp [he])
            clear he Hins Heq
            go_upto_region 6 with (fail)
            rw [← HW.out]
            go_wp2_with fail
            go_roundg (n - (j + 1))
            case measure => have := Hgk.out; omega
            case rel => exact ⟨j + 1, o, false, rfl, rfl, by omega, rfl, by omega, hWo, hWx, hWb, HE.out⟩
          · skip
            have hkb : (rk == k) = false := by simpa using he
            have HE := Lib.hid (show (o ++ [(⟨rk, rv⟩ : Rw)]) ++ insG false ⟨k, x⟩ (l.drop (j + 1)) = insG x.isEmpty ⟨k, x⟩ l by
              rw [← Heq.out, Hins.out]; simp only [hls]; simp [he])
            obtain ⟨v', wf, hrun, ho', hb', hs', hk', hn'⟩ := app_step W (w.heap.size + 1) o.length u5 o ⟨rk, rv⟩ hWo (by omega) (by omega)
            have Hrun := Lib.hid hrun
            have Ho' := Lib.hid ho'
            have Hb' := Lib.hid (hWb.trans (hb'.mono (by omega)))
            have HX' := Lib.hid (hk' _ _ _ hWx hne1)
            clear he Hins Heq hrun ho' hb' hk' hn' hWs
            go_upto_region 6 with (fail)
            rw [← HW.out]
            go_wp2_with (first | (at_builtin; refine rw_app rfl _ _ _ rfl _ _ (by rfl) (by rfl) Hrun.out ?_; clear Hrun) | fail)
            go_roundg (n - (j + 1))
            case measure => have := Hgk.out; omega
            case rel => exact ⟨j + 1, o ++ [⟨rk, rv⟩], false, rfl, rfl, by omega, rfl, by simp; omega, by rw [List.length_append, List.length_singleton]; exact Ho'.out, HX'.out, Hb'.out, HE.out⟩
        · skip
          have hne : ¬ rk = k := fun e => by rw [e, bl_irrefl] at hls; cases hls
          have hkb : (rk == k) = false := by simpa using hne
          have HE := Lib.hid (show (o ++ [(⟨k, x⟩ : Rw)] ++ [(⟨rk, rv⟩ : Rw)]) ++ insG true ⟨k, x⟩ (l.drop (j + 1)) = insG x.isEmpty ⟨k, x⟩ l by
            rw [← Heq.out, Hins.out]; simp only [hls]; simp [hne])
          obtain ⟨v1, wf1, hrun1, ho1, hb1, hs1, hk1, hn1⟩ := app_step W (w.heap.size + 1) o.length u5 o ⟨k, x⟩ hWo (by omega) (by omega)
          have x1 := hk1 _ _ _ hWx hne1
          have r1 := hk1 _ _ _ hWr hne2
          obtain ⟨v2, wf2, hrun2, ho2, hb2, hs2, hk2, hn2⟩ := app_step wf1 (w.heap.size + 1) (o.length + 1) v1 (o ++ [⟨k, x⟩]) ⟨rk, rv⟩ ho1 (by omega) (by omega)
          have a0 : wf1.cell? ⟨w.heap.size, 0, none⟩ = some (str k) := x1.cell 0
          have a2 : wf1.cell? ⟨wr.heap.size, 0, none⟩ = some (str rk) := r1.cell 0
          have a3 : wf1.cell? ⟨wr.heap.size, 1, none⟩ = some (str rv) := r1.cell 1
          have hrs := r1.lt
          have Hrun1 := Lib.hid hrun1
          have Hrun2 := Lib.hid hrun2
          have Ho' := Lib.hid ho2
          have Hb' := Lib.hid ((hWb.trans (hb1.mono (by omega))).trans (hb2.mono (by omega)))
          have HX' := Lib.hid (hk2 _ _ _ x1 (hn1 _ (by omega) hne1))
          clear hWs hne Hins Heq hrun1 ho1 hb1 hk1 hn1 hrun2 ho2 hb2 hk2 hn2 x1 r1
          go_upto_region 6 with (fail)
          rw [← HW.out]
          go_wp2_with (first | (at_builtin; refine rw_app rfl _ _ _ rfl _ _ (by rfl) (by rfl) Hrun1.out ?_; clear Hrun1) | (at_builtin; refine rw_app rfl _ _ _ rfl _ _ (by rfl) (by rfl) Hrun2.out ?_; clear Hrun2) | fail)
          go_roundg (n - (j + 1))
          case measure => have := Hgk.out; omega
          case rel => exact ⟨j + 1, o ++ [⟨k, x⟩] ++ [⟨rk, rv⟩], true, rfl, rfl, by omega, rfl, by simp; omega, by rw [List.length_append, List.length_append, List.length_singleton, List.length_singleton]; exact Ho'.out, HX'.out, Hb'.out, HE.out⟩
      · by_cases he : rk = k
        · skip
          have hkb : (rk == k) = true := by simpa using he
          have HE := Lib.hid (show o ++ insG true ⟨k, x⟩ (l.drop (j + 1)) = insG x.isEmpty ⟨k, x⟩ l by
            have hl0 : Op.bytesLess k rk = false := by rw [he, bl_irrefl]
            rw [← Heq.out, Hins.out]; simp [he])
          clear he Hins Heq
          go_upto_region 6 with (fail)
          rw [← HW.out]
          go_wp2_with fail
          go_roundg (n - (j + 1))
          case measure => have := Hgk.out; omega
          case rel => exact ⟨j + 1, o, true, rfl, rfl, by omega, rfl, by omega, hWo, hWx, hWb, HE.out⟩
        · skip
          have hkb : (rk == k) = false := by simpa using he
          have HE := Lib.hid (show (o ++ [(⟨rk, rv⟩ : Rw)]) ++ insG true ⟨k, x⟩ (l.drop (j + 1)) = insG x.isEmpty ⟨k, x⟩ l by
            rw [← Heq.out, Hins.out]; simp [he])
          obtain ⟨v', wf, hrun, ho', hb', hs', hk', hn'⟩ := app_step W (w.heap.size + 1) o.length u5 o ⟨rk, rv⟩ hWo (by omega) (by omega)
          have Hrun := Lib.hid hrun
          have Ho' := Lib.hid ho'
          have Hb' := Lib.hid (hWb.trans (hb'.mono (by omega)))
          have HX' := Lib.hid (hk' _ _ _ hWx hne1)
          clear he Hins Heq hrun ho' hb' hk' hn' hWs
          go_upto_region 6 with (fail)
          rw [← HW.out]
          go_wp2_with (first | (at_builtin; refine rw_app rfl _ _ _ rfl _ _ (by rfl) (by rfl) Hrun.out ?_; clear Hrun) | fail)
          go_roundg (n - (j + 1))
          case measure => have := Hgk.out; omega
          case rel => exact ⟨j + 1, o ++ [⟨rk, rv⟩], true, rfl, rfl, by omega, rfl, by simp; omega, by rw [List.length_append, List.length_singleton]; exact Ho'.out, HX'.out, Hb'.out, HE.out⟩
    · have hjl : j = l.length := by have := Hln.out; omega
      have Heq' := Lib.hid Heq.out
      rw [hjl, List.drop_length] at Heq'
      have y0 : wr.cell? ⟨w.heap.size, 0, none⟩ = some (str k) := Hbx.out.cell 0
      have y1 : wr.cell? ⟨w.heap.size, 1, none⟩ = some (str x) := Hbx.out.cell 1
      clear Heq
      cases b
      · obtain ⟨v', wf, hrun, ho', hb', _, _, _⟩ := app_step wr (w.heap.size + 1) o.length u5 o ⟨k, x⟩ Ho.out (by omega) (by omega)
        have Hrun := Lib.hid hrun
        have HE := Lib.hid (show o ++ [(⟨k, x⟩ : Rw)] = insG x.isEmpty ⟨k, x⟩ l from Heq'.out)
        have Ho' := Lib.hid ho'
        have Hb' := Lib.hid (Hbe.out.trans (hb'.mono (by omega)))
        clear hrun ho' hb' hjl
        go_wp2_with (first | (at_builtin; refine rw_app rfl _ _ _ rfl _ _ (by rfl) (by rfl) Hrun.out ?_) | fail)
        go_ret
        refine ⟨v', rfl, ?_, Hb'.out⟩
        rw [← HE.out, List.length_append, List.length_singleton]
        exact rw_le Ho'.out (by omega)
      · have HE := Lib.hid (show o = insG x.isEmpty ⟨k, x⟩ l by rw [← Heq'.out]; simp [insG])
        clear hjl
        go_wp2
        go_ret
        refine ⟨_, rfl, ?_, Hbe.out⟩
        rw [← HE.out]
        exact rw_le Ho.out (by omega)
end Go.Proofs.Ytploicbiapjfdaa

/- Sorted tables, the reference: rowsChanges, RowsSet at every table and changes. -/
namespace Go.Proofs.Ytploicbiapjfdaa
set_option linter.unusedVariables false
set_option linter.unusedSimpArgs false
open Go.RowKit
def ChgL (l cs : List Rw) (w : World) (n : Nat) (gk : Nat) (s6 s15 : Value) (wr : World) : Prop :=
  ∃ (k : Nat) (An : Option Addr) (cn : Nat), s6 = .slice An (sets l (cs.take k)).length cn ∧ s15 = .int .i64 (k : Int) ∧ k ≤ n ∧ gk = n - k ∧ RIn wr wr.heap.size An (sets l (cs.take k)).length cn (sets l (cs.take k)) ∧ goodC (cs.take k) = true ∧ Below w.heap.size w wr
/-- What it returns: a list of rows, somewhere. -/
def SetPost (X : List Rw × Int) (w : World) (e : Ending) (w' : World) : Prop :=
  ∃ (A : Option Addr) (c : Nat), e = .returned (.tuple #[.slice A X.1.length c, .int .i64 X.2]) ∧ RIn w' w'.heap.size A X.1.length c X.1 ∧ Below w.heap.size w w'
theorem goodC_bad {cs : List Rw} {k : Nat} (hk : k < cs.length) (h : sizedR cs[k] = false) : goodC cs = false := by
  cases hg : goodC cs with
  | false => rfl
  | true => have := List.all_eq_true.1 hg _ (List.getElem_mem hk); rw [h] at this; cases this
theorem setPost_err {w w' : World} {x : Int} (hb : Below w.heap.size w w') : SetPost ([], x) w (.returned (.tuple #[.slice none 0 0, .int .i64 x])) w' := ⟨none, 0, rfl, RIn.empty, hb⟩
set_option maxHeartbeats 2000000 in
set_option maxRecDepth 100000 in
theorem rowsChanges_any (A A' : Option Addr) (n c n' c' B B' : Nat) (l cs : List Rw) (w : World) (hl : RIn w B A n c l) (hB : B ≤ w.heap.size) (hf : Fit l)
    (hl' : RIn w B' A' n' c' cs) (hB' : B' ≤ w.heap.size) (hs' : Short cs) (hn' : n' ≤ 9223372036854775807) :
    Calls Try.prog 35 #[.slice A n c, .slice A' n' c'] w (SetPost (setN l cs) w) := by
  have h0 : chkT l = 0 := hf.chk
  have hln := hl.1
  have hln' := hl'.1
  have hn40 : n ≤ 40 := by have := hf.len; omega
  have Hl := Lib.hid hl
  have Hl' := Lib.hid hl'
  have Hs' := Lib.hid hs'
  have HF := Lib.hid hf
  have H0 := Lib.hid h0
  have Hln := Lib.hid hln
  have Hln' := Lib.hid hln'
  clear hl hl' hs' hf h0
  by_cases h60 : 60 < n'
  · have HR := Lib.hid (show setN l cs = ([], 1) by unfold setN; rw [if_neg (by simp [H0.out]), if_pos (.inl (by omega))])
    have h6 : (60 : Int) < (n' : Int) := by omega
    clear hln hln'
    go_enter Try.func35, Try.ntmps35
    go_wp2
    go_ret2
    rw [HR.out]
    exact setPost_err (Below.refl _ _)
  · have h6 : ¬ (60 : Int) < (n' : Int) := by omega
    clear hln hln'
    go_enter Try.func35, Try.ntmps35
    go_wp2
    go_loopg [6, 15] n' (ChgL l cs w n')
    case atStart =>
      refine ⟨0, A, c, ?_, rfl, Nat.zero_le _, by omega, ?_, rfl, Below.refl _ _⟩
      · rw [List.take_zero]; show _ = Value.slice A l.length c; rw [Hln.out]
      · rw [List.take_zero]; show RIn w w.heap.size A l.length c l; rw [Hln.out]; exact Hl.out.wider hB
    case round =>
      obtain ⟨k, An, cn, rfl, rfl, hk, hgk, hin, hgc, hbe⟩ := hrel
      have Hgk := Lib.hid hgk
      have Hin := Lib.hid hin
      have Hgc := Lib.hid hgc
      have Hbe := Lib.hid hbe
      have hszw := hbe.size
      clear hgk hin hgc hbe
      by_cases hkn : k < n'
      · have hkl : k < cs.length := by rw [Hln'.out]; exact hkn
        obtain ⟨b, off, hA, hbB, c0, c1⟩ := (Hl'.out.below (Hbe.out.mono hB')).at_ hkl
        subst hA
        have hbw : b < wr.heap.size := by omega
        have hsl := sets_len (l := l) (cs := cs.take k)
        rw [List.length_take, Hln.out] at hsl
        have HT := Lib.hid (show sets l (cs.take (k + 1)) = setR cs[k] (sets l (cs.take k)) by rw [List.take_succ_eq_append_getElem hkl, sets_app]; rfl)
        have Hbad := Lib.hid (fun h => goodC_bad hkl h)
        have Hgood := Lib.hid (show goodC (cs.take (k + 1)) = sizedR cs[k] by
          rw [List.take_succ_eq_append_getElem hkl]; unfold goodC at *; rw [List.all_append, Hgc.out]; simp)
        have hsh := Hs'.out cs[k] (List.getElem_mem hkl)
        generalize cs[k] = r at *
        have htst := sized_tests r
        have HW := Lib.hid (Hbe.out.alloc hszw (.cells #[str r.key, str r.val] 50))
        have HC := Lib.hid (rowsSet_any An _ cn _ (sets l (cs.take k)) r (wr.alloc (.cells #[str r.key, str r.val] 50)) (Hin.out.below ((Below.refl _ _).alloc (Nat.le_refl _) _)) (by simp) (srt_sets HF.out.srt) (by omega))
        rw [← HT.out] at HC
        obtain ⟨rk, rv⟩ := r
        simp only at c0 c1 hsh htst
        have hi1 : (k : Int) < (n' : Int) := by omega
        clear hsl HT Hin
        have HR : sizedR ⟨rk, rv⟩ = false → Hid (setN l cs = ([], 1)) := fun h => Lib.hid (by unfold setN; rw [if_neg (by simp [H0.out]), if_pos (.inr (Hbad.out h))])
        generalize (sets l (cs.take k)).length = N at *
        rcases htst with ⟨h1, hsz⟩ | ⟨h1, h2, hsz⟩ | ⟨h1, h2, h3, hsz⟩ | ⟨h1, h2, h3, hsz⟩
        · replace HR := HR hsz
          have h1i : (rk.length : Int) < 1 := by omega
          clear hsz h1 HC Hbad Hgood
          go_wp2_with fail
          go_ret2
          rw [HR.out]
          exact setPost_err HW.out
        · replace HR := HR hsz
          have h1i : ¬ (rk.length : Int) < 1 := by omega
          have h2i : (20 : Int) < (rk.length : Int) := by omega
          clear hsz h1 h2 HC Hbad Hgood
          go_wp2_with fail
          go_ret2
          rw [HR.out]
          exact setPost_err HW.out
        · replace HR := HR hsz
          have h1i : ¬ (rk.length : Int) < 1 := by omega
          have h2i : ¬ (20 : Int) < (rk.length : Int) := by omega
          have h3i : (20 : Int) < (rv.length : Int) := by omega
          clear hsz h1 h2 h3 HC Hbad Hgood
          go_wp2_with fail
          go_ret2
          rw [HR.out]
          exact setPost_err HW.out
        · clear HR
          have h1i : ¬ (rk.length : Int) < 1 := by omega
          have h2i : ¬ (20 : Int) < (rk.length : Int) := by omega
          have h3i : ¬ (20 : Int) < (rv.length : Int) := by omega
          rw [hsz] at Hgood
          clear hsz h1 h2 h3 Hbad
          go_wp2_with fail
          refine HC.out.mono ?_
          rintro e w4 ⟨v4, rfl, ho4, hb4⟩
          obtain ⟨A4, c4, rfl, hin4⟩ := RIn.own ho4
          have Hin4 := Lib.hid hin4
          have Hb4 := Lib.hid (HW.out.trans (hb4.mono HW.out.size))
          clear ho4 hb4 HC hin4
          go_wp2_with fail
          go_roundg (n' - (k + 1))
          case measure => have := Hgk.out; omega
          case rel => exact ⟨k + 1, A4, c4, rfl, rfl, by omega, rfl, Hin4.out, Hgood.out, Hb4.out⟩
      · have hkl : k = cs.length := by have := Hln'.out; omega
        have Hin' := Lib.hid Hin.out
        have Hgc' := Lib.hid Hgc.out
        rw [hkl, List.take_length] at Hin' Hgc'
        rw [hkl, List.take_length]
        clear Hin Hgc
        subst hkl
        by_cases h40 : 40 < (sets l cs).length
        · have HR := Lib.hid (show setN l cs = ([], 10) by unfold setN; rw [if_neg (by simp [H0.out]), if_neg (by rw [Hgc'.out, Hln'.out]; simp; omega), if_pos h40])
          generalize (sets l cs).length = N at *
          have h4 : (40 : Int) < (N : Int) := by omega
          go_wp2_with fail
          go_ret2
          rw [HR.out]
          exact setPost_err Hbe.out
        · have HR := Lib.hid (show setN l cs = (sets l cs, 0) by unfold setN; rw [if_neg (by simp [H0.out]), if_neg (by rw [Hgc'.out, Hln'.out]; simp; omega), if_neg h40])
          have HP := Lib.hid (show SetPost (sets l cs, 0) w (.returned (.tuple #[.slice An (sets l cs).length cn, .int .i64 0])) wr from ⟨An, cn, rfl, Hin'.out, Hbe.out⟩)
          have h4 : ¬ (40 : Int) < ((sets l cs).length : Int) := by omega
          generalize (sets l cs).length = N at *
          go_wp2_with fail
          go_ret2
          rw [HR.out]
          exact HP.out
end Go.Proofs.Ytploicbiapjfdaa
