/- Device lists, the reference: deviceChanged. -/
import Derived.Test.YtmlgaedhfannmaaDvPy
namespace Go.Proofs.Ytmlgaedhfannmaa
set_option linter.unusedVariables false
set_option linter.unusedSimpArgs false
open Go.RowKit
/-- One device more behind a row of the call's own: what stays. -/
theorem dev_step (W : World) (base n : Nat) (v : Value) (l : List Rw) (r : Rw) (hown : W.ownsRow base 42 2 v n (pcR l)) (hn : n + 1 ≤ 1048576) (hb : base ≤ W.heap.size) :
    ∃ v' wf, (Builtin.append_ #[23, 23] 23 #[v, .slice (some ⟨W.heap.size, 0, none⟩) 1 1]).run Try.prog (W.alloc (.cells #[str r.key, str r.val] 42)) = .ok v' wf ∧
      wf.ownsRow base 42 2 v' (n + 1) (pcR (l ++ [r])) ∧ Below base W wf ∧ W.heap.size ≤ wf.heap.size ∧ (∀ g t cs, Blk W g t cs → some g ≠ v.ownBlock → Blk wf g t cs) ∧ (∀ g, g < W.heap.size → some g ≠ v.ownBlock → some g ≠ v'.ownBlock) := by
  obtain ⟨v', wf, h1, h2, h3, h4⟩ := dev_box (r := r) hown hn hb #[str r.key, str r.val] rfl
  refine ⟨v', wf, h1, h2, (Below.refl _ _).grown h3 hb fun g hg => (World.ownsRow.lt hown g hg).1, h3.size, fun g t cs hg hne => hg.grown h3 hne, fun g hg hne e => ?_⟩
  rcases h4 with h4 | h4
  · rw [h4] at e; exact hne e
  · rw [h4] at e; injection e with e; omega
def DcPost (A : Option Addr) (c : Nat) (l : List Rw) (u : Uc) (w : World) (e : Ending) (w' : World) : Prop :=
  ∃ A' c', e = .returned (.tuple #[.slice A' (setR (rwU u) l).length c', .bool (eff l u)]) ∧ ((eff l u = false ∧ A' = A ∧ c' = c) ∨ w'.ownsRow (w.heap.size + 1) 42 2 (.slice A' (setR (rwU u) l).length c') (setR (rwU u) l).length (pcR (setR (rwU u) l))) ∧ Below w.heap.size w w'
/-- The loop of deviceChanged. -/
def DcR (l : List Rw) (c : Uc) (w : World) (n : Nat) (gk : Nat) (s8 s9 s10 s11 s17 : Value) (wr : World) : Prop :=
  ∃ (j : Nat) (o : List Rw) (b s h : Bool), s9 = .bool b ∧ s10 = .bool s ∧ s11 = .bool h ∧ s17 = .int .i64 (j : Int) ∧ j ≤ n ∧ gk = n - j ∧ o.length ≤ 2 * j ∧ wr.ownsRow (w.heap.size + 1) 42 2 s8 o.length (pcR o) ∧
    Blk wr w.heap.size 42 #[str c.key, str (vl c)] ∧ Below w.heap.size w wr ∧ o ++ insG b (rwU c) (l.drop j) = insG c.gone (rwU c) l ∧ smG s c (l.drop j) = smG false c l ∧ (h || hadD (l.drop j) c.key) = hadD l c.key
theorem insD_drop {l : List Rw} {j : Nat} (hj : j < l.length) (b : Bool) (c : Rw) :
    insG b c (l.drop j) = (if b = false ∧ Op.bytesLess c.key l[j].key = true then [c] else []) ++ (if l[j].key = c.key then [] else [l[j]]) ++ insG (b || Op.bytesLess c.key l[j].key) c (l.drop (j + 1)) := by
  rw [List.drop_eq_getElem_cons hj]; rfl
set_option maxHeartbeats 4000000 in
set_option maxRecDepth 100000 in
theorem devChg_any (A : Option Addr) (n c B : Nat) (l : List Rw) (u : Uc) (w : World) (hl : LIn rc 2 w B A n c l) (hB : B ≤ w.heap.size) (hd : DsOk l) (hc : okU u = true) :
    Calls Try.prog 34 #[.slice A n c, .agg #[str u.key, str (vl u)], .bool u.gone] w (DcPost A c l u w) := by
  have hln := hl.1
  have h6 := hd.few
  have hgood : ∀ r ∈ l, r.val ≠ [] := fun r hr => (hd.good r hr).1
  have heff := eff_ref hd.srt hgood hc
  have hins := ins_ref hd.srt hc
  have Hsame := Lib.hid (fun h => setR_same (c := u) hd.srt hgood h)
  have Hl := Lib.hid hl
  have Hln := Lib.hid hln
  have hW0 := (Below.refl w.heap.size w).alloc (Nat.le_refl _) (.cells #[str u.key, str (vl u)] 42)
  have hB0 := Blk.new w 42 #[str u.key, str (vl u)]
  have Hst := Lib.hid (show DcR l u w n n (.slice none 0 0) (.bool u.gone) (.bool false) (.bool false) (.int .i64 0) (w.alloc (.cells #[str u.key, str (vl u)] 42)) from
    ⟨0, [], u.gone, false, false, rfl, rfl, rfl, rfl, Nat.zero_le _, by omega, Nat.le_refl _, World.ownsRow_nil _ _ _ _, hB0, hW0, rfl, rfl, by simp⟩)
  have Heff := Lib.hid heff
  have Hins := Lib.hid hins
  clear hl hd hW0 hB0 heff hins hgood hc
  have hn6 : n ≤ 6 := by omega
  have hku : (rwU u).key = u.key := rfl
  obtain ⟨k, hk⟩ : ∃ k, u.key = k := ⟨_, rfl⟩
  obtain ⟨x, hx⟩ : ∃ x, vl u = x := ⟨_, rfl⟩
  obtain ⟨g, hg⟩ : ∃ g, u.gone = g := ⟨_, rfl⟩
  have Hk := Lib.hid hk
  have Hx := Lib.hid hx
  have Hg := Lib.hid hg
  have Hru := Lib.hid (show rwU u = ⟨k, x⟩ by unfold rwU; rw [hk, hx])
  rw [hk, hx, hg]
  rw [hk, hx, hg] at Hst
  clear hk hx hg hku
  go_enter Try.func34, Try.ntmps34
  go_wp2_with fail
  go_loopg [8, 9, 10, 11, 17] n (DcR l u w n)
  case atStart => exact Hst.out
  case round =>
    clear Hst
    obtain ⟨j, o, b, s, h, rfl, rfl, rfl, rfl, hj, hgk, hol, ho, hbx, hbe, heq, hsm, hha⟩ := hrel
    have Hgk := Lib.hid hgk
    have Ho := Lib.hid ho
    have Hbe := Lib.hid hbe
    have hbx : Blk wr w.heap.size 42 #[str k, str x] := by rw [Hk.out, Hx.out] at hbx; exact hbx
    have Hbx := Lib.hid hbx
    have Heq := Lib.hid heq
    have Hsm := Lib.hid hsm
    have Hha := Lib.hid hha
    have hszw := hbe.size
    have hgl := hbx.lt
    clear hgk ho hbe hbx heq hsm hha
    by_cases hjn : j < n
    · have hjl : j < l.length := by rw [Hln.out]; exact hjn
      obtain ⟨b1, off, hA, hbB, c0, c1⟩ := dv_at (Hl.out.below (Hbe.out.mono hB)) hjl
      subst hA
      have hbw : b1 < wr.heap.size := by omega
      have Hin := Lib.hid (insD_drop hjl b (rwU u))
      have Hs1 := Lib.hid (show smG s u (l.drop j) = smG (if l[j].key = u.key then l[j].val == vl u else s) u (l.drop (j + 1)) by rw [List.drop_eq_getElem_cons hjl]; rfl)
      have Hh1 := Lib.hid (show hadD (l.drop j) u.key = (l[j].key == u.key || hadD (l.drop (j + 1)) u.key) by rw [List.drop_eq_getElem_cons hjl]; rfl)
      generalize l[j] = r at *
      obtain ⟨rk, rv⟩ := r
      simp only at c0 c1
      simp only at Hin Hs1 Hh1
      have hi1 : (j : Int) < (n : Int) := by omega
      obtain ⟨W, hW⟩ : ∃ W, wr.alloc (.cells #[str rk, str rv] 42) = W := ⟨_, rfl⟩
      have hWo : W.ownsRow (w.heap.size + 1) 42 2 u8 o.length (pcR o) := by rw [← hW]; exact Ho.out.alloc _
      have hWb : Below w.heap.size w W := by rw [← hW]; exact Hbe.out.alloc hszw _
      have hWx : Blk W w.heap.size 42 #[str k, str x] := by rw [← hW]; exact Hbx.out.alloc _
      have hWr : Blk W wr.heap.size 42 #[str rk, str rv] := by rw [← hW]; exact Blk.new wr _ _
      have hWs : W.heap.size = wr.heap.size + 1 := by rw [← hW]; simp
      have hne1 : some w.heap.size ≠ u8.ownBlock := fun e => by have := (World.ownsRow.lt Ho.out w.heap.size e.symm).1; omega
      have hne2 : some wr.heap.size ≠ u8.ownBlock := fun e => by have := (World.ownsRow.lt Ho.out wr.heap.size e.symm).2; omega
      have y0 : W.cell? ⟨w.heap.size, 0, none⟩ = some (str k) := hWx.cell 0
      have y1 : W.cell? ⟨w.heap.size, 1, none⟩ = some (str x) := hWx.cell 1
      have z0 : W.cell? ⟨wr.heap.size, 0, none⟩ = some (str rk) := hWr.cell 0
      have z1 : W.cell? ⟨wr.heap.size, 1, none⟩ = some (str rv) := hWr.cell 1
      by_cases he : rk = k
      · have hkb : (rk == k) = true := by simpa using he
        have HE := Lib.hid (show o ++ insG b (rwU u) (l.drop (j + 1)) = insG u.gone (rwU u) l by
          have hl0 : Op.bytesLess k rk = false := by rw [he, bl_irrefl]
          have h1 := Heq.out
          rw [Hin.out, Hru.out] at h1
          rw [Hru.out, ← h1]; simp only [hl0, Bool.or_false]; simp [he])
        have HS := Lib.hid (show smG (rv == x) u (l.drop (j + 1)) = smG false u l by rw [← Hsm.out, Hs1.out, if_pos (he.trans Hk.out.symm), Hx.out])
        have HH := Lib.hid (show (true || hadD (l.drop (j + 1)) u.key) = hadD l u.key by rw [← Hha.out, Hh1.out, Hk.out, hkb]; simp)
        have Hbx' := Lib.hid (show Blk W w.heap.size 42 #[str u.key, str (vl u)] by rw [Hk.out, Hx.out]; exact hWx)
        clear he Hin Heq Hs1 Hsm Hh1 Hha hWx
        generalize hrb : (rv == x) = rb at *
        go_wp2_with fail
        go_roundg (n - (j + 1))
        case measure => have := Hgk.out; omega
        case rel => exact ⟨j + 1, o, b, rb, true, rfl, rfl, rfl, by go_num, by omega, rfl, by omega, hWo, Hbx'.out, hWb, HE.out, HS.out, HH.out⟩
      · have hkb : (rk == k) = false := by simpa using he
        have HS := Lib.hid (show smG s u (l.drop (j + 1)) = smG false u l by rw [← Hsm.out, Hs1.out, if_neg (by rw [Hk.out]; exact he)])
        have HH := Lib.hid (show (h || hadD (l.drop (j + 1)) u.key) = hadD l u.key by rw [← Hha.out, Hh1.out, Hk.out, hkb]; simp)
        clear Hs1 Hsm Hh1 Hha
        by_cases hbl : b = false ∧ Op.bytesLess k rk = true
        · obtain ⟨rfl, hls⟩ := hbl
          have HE := Lib.hid (show (o ++ [(⟨k, x⟩ : Rw)] ++ [(⟨rk, rv⟩ : Rw)]) ++ insG true (rwU u) (l.drop (j + 1)) = insG u.gone (rwU u) l by
            have h1 := Heq.out
            rw [Hin.out, Hru.out] at h1
            rw [Hru.out, ← h1]; simp only [hls]; simp [he])
          obtain ⟨v1, wf1, hrun1, ho1, hb1, hs1, hk1, hn1⟩ := dev_step W (w.heap.size + 1) o.length u8 o ⟨k, x⟩ hWo (by omega) (by omega)
          have x1 := hk1 _ _ _ hWx hne1
          have r1 := hk1 _ _ _ hWr hne2
          obtain ⟨v2, wf2, hrun2, ho2, hb2, hs2, hk2, hn2⟩ := dev_step wf1 (w.heap.size + 1) (o.length + 1) v1 (o ++ [⟨k, x⟩]) ⟨rk, rv⟩ ho1 (by omega) (by omega)
          have a0 : wf1.cell? ⟨w.heap.size, 0, none⟩ = some (str k) := x1.cell 0
          have a2 : wf1.cell? ⟨wr.heap.size, 0, none⟩ = some (str rk) := r1.cell 0
          have a3 : wf1.cell? ⟨wr.heap.size, 1, none⟩ = some (str rv) := r1.cell 1
          have hrs := r1.lt
          have Hrun1 := Lib.hid hrun1
          have Hrun2 := Lib.hid hrun2
          have Ho' := Lib.hid ho2
          have Hb' := Lib.hid ((hWb.trans (hb1.mono (by omega))).trans (hb2.mono (by omega)))
          have HX' := Lib.hid (show Blk wf2 w.heap.size 42 #[str u.key, str (vl u)] by rw [Hk.out, Hx.out]; exact hk2 _ _ _ x1 (hn1 _ (by omega) hne1))
          clear hWs he Hin Heq hrun1 ho1 hb1 hk1 hn1 hrun2 ho2 hb2 hk2 hn2 x1 r1
          go_wp2_with (first | (at_builtin; refine dv_app rfl _ _ _ rfl _ _ (by rfl) (by rfl) Hrun1.out ?_; clear Hrun1) | (at_builtin; refine dv_app rfl _ _ _ rfl _ _ (by rfl) (by rfl) Hrun2.out ?_; clear Hrun2) | fail)
          go_roundg (n - (j + 1))
          case measure => have := Hgk.out; omega
          case rel => exact ⟨j + 1, o ++ [⟨k, x⟩] ++ [⟨rk, rv⟩], true, s, h, rfl, rfl, rfl, by go_num, by omega, rfl, by simp; omega, by rw [List.length_append, List.length_append, List.length_singleton, List.length_singleton]; exact Ho'.out, HX'.out, Hb'.out, HE.out, HS.out, HH.out⟩
        · have HE := Lib.hid (show (o ++ [(⟨rk, rv⟩ : Rw)]) ++ insG b (rwU u) (l.drop (j + 1)) = insG u.gone (rwU u) l by
            have h1 := Heq.out
            rw [Hin.out, Hru.out] at h1
            rw [Hru.out, ← h1, if_neg hbl, if_neg he]
            have hb2 : (b || Op.bytesLess k rk) = b := by
              cases b
              · simp at hbl; simpa using hbl
              · rfl
            rw [hb2]; simp)
          obtain ⟨v', wf, hrun, ho', hb', hs', hk', hn'⟩ := dev_step W (w.heap.size + 1) o.length u8 o ⟨rk, rv⟩ hWo (by omega) (by omega)
          have Hrun := Lib.hid hrun
          have Ho' := Lib.hid ho'
          have Hb' := Lib.hid (hWb.trans (hb'.mono (by omega)))
          have HX' := Lib.hid (show Blk wf w.heap.size 42 #[str u.key, str (vl u)] by rw [Hk.out, Hx.out]; exact hk' _ _ _ hWx hne1)
          clear he Hin Heq hrun ho' hb' hk' hn' hWs
          cases b with
          | true =>
            clear hbl
            go_wp2_with (first | (at_builtin; refine dv_app rfl _ _ _ rfl _ _ (by rfl) (by rfl) Hrun.out ?_; clear Hrun) | fail)
            go_roundg (n - (j + 1))
            case measure => have := Hgk.out; omega
            case rel => exact ⟨j + 1, o ++ [⟨rk, rv⟩], true, s, h, rfl, rfl, rfl, by go_num, by omega, rfl, by simp; omega, by rw [List.length_append, List.length_singleton]; exact Ho'.out, HX'.out, Hb'.out, HE.out, HS.out, HH.out⟩
          | false =>
            have hls : Op.bytesLess k rk = false := by simpa using hbl
            clear hbl
            go_wp2_with (first | (at_builtin; refine dv_app rfl _ _ _ rfl _ _ (by rfl) (by rfl) Hrun.out ?_; clear Hrun) | fail)
            go_roundg (n - (j + 1))
            case measure => have := Hgk.out; omega
            case rel => exact ⟨j + 1, o ++ [⟨rk, rv⟩], false, s, h, rfl, rfl, rfl, by go_num, by omega, rfl, by simp; omega, by rw [List.length_append, List.length_singleton]; exact Ho'.out, HX'.out, Hb'.out, HE.out, HS.out, HH.out⟩
    · have hjl : j = l.length := by have := Hln.out; omega
      have hjn2 : ¬ (j : Int) < (n : Int) := by omega
      have hs2 : s = smG false u l := by have := Hsm.out; rw [hjl, List.drop_length] at this; exact this
      have hh2 : h = hadD l u.key := by have := Hha.out; rw [hjl, List.drop_length] at this; simpa [hadD] using this
      have He := Lib.hid (show eff l u = !((g && !h) || (!g && s)) by rw [Heff.out, Hg.out, ← hs2, ← hh2])
      have Hi := Lib.hid (show o ++ (if b = true then [] else [(⟨k, x⟩ : Rw)]) = setR (rwU u) l by
        have h1 := Heq.out
        rw [hjl, List.drop_length, Hins.out] at h1
        rw [← h1, Hru.out]; rfl)
      have y0 : wr.cell? ⟨w.heap.size, 0, none⟩ = some (str k) := Hbx.out.cell 0
      have y1 : wr.cell? ⟨w.heap.size, 1, none⟩ = some (str x) := Hbx.out.cell 1
      clear hs2 hh2 Hsm Hha Heq Heff Hins hjl
      obtain ⟨X, hXs⟩ : ∃ X, setR (rwU u) l = X := ⟨_, rfl⟩
      obtain ⟨ee, hee⟩ : ∃ ee, eff l u = ee := ⟨_, rfl⟩
      rw [hXs] at Hi
      rw [hee] at He
      have HF := Lib.hid (show ∀ w9, Below w.heap.size w w9 → ee = false → X.length = n ∧ LIn rc 2 w9 w9.heap.size A n c X from fun w9 h9 e => by
        have h1 := Hsame.out (hee.trans e)
        rw [hXs] at h1
        have h2 := (Hl.out.below (h9.mono hB)).wider (Nat.le_trans hB h9.size)
        rw [h1]; exact ⟨Hln.out, h2⟩)
      have HXs := Lib.hid hXs
      have Hee := Lib.hid hee
      clear hXs hee Hsame
      cases b with
      | true =>
        have hX : o = X := by have := Hi.out; simpa using this
        subst hX
        obtain ⟨A2, c2, rfl, hA2⟩ := LIn.own rc_len (show wr.ownsRow (w.heap.size + 1) 42 2 u8 o.length (pcK rc o) from Ho.out)
        have HA2 := Lib.hid (show wr.ownsRow (w.heap.size + 1) 42 2 (.slice A2 o.length c2) o.length (pcR o) from Ho.out)
        have Hb' := Hbe
        clear hA2 Hi Ho
        obtain ⟨m, hm⟩ : ∃ m, o.length = m := ⟨_, rfl⟩
        have Hm := Lib.hid hm
        rw [hm] at HA2
        clear hm
        cases g with
        | true =>
          cases h with
          | true =>
            have hee : ee = true := by rw [He.out]; rfl
            subst hee
            clear He
            go_wp2_with fail
            go_ret2
            unfold DcPost
            rw [HXs.out, Hee.out, Hm.out]
            exact ⟨A2, c2, rfl, .inr HA2.out, Hb'.out⟩
          | false =>
            have hee : ee = false := by rw [He.out]; rfl
            subst hee
            clear He
            go_wp2_with fail
            go_ret2
            unfold DcPost
            rw [HXs.out, Hee.out, Hm.out]
            obtain ⟨h1, h2⟩ := HF.out _ Hb'.out (by simp)
            have h3 := Hm.out.symm.trans h1
            subst h3
            exact ⟨A, c, rfl, .inl ⟨rfl, rfl, rfl⟩, Hb'.out⟩
        | false =>
          cases s with
          | true =>
            have hee : ee = false := by rw [He.out]; rfl
            subst hee
            clear He
            go_wp2_with fail
            go_ret2
            unfold DcPost
            rw [HXs.out, Hee.out, Hm.out]
            obtain ⟨h1, h2⟩ := HF.out _ Hb'.out (by simp)
            have h3 := Hm.out.symm.trans h1
            subst h3
            exact ⟨A, c, rfl, .inl ⟨rfl, rfl, rfl⟩, Hb'.out⟩
          | false =>
            have hee : ee = true := by rw [He.out]; rfl
            subst hee
            clear He
            go_wp2_with fail
            go_ret2
            unfold DcPost
            rw [HXs.out, Hee.out, Hm.out]
            exact ⟨A2, c2, rfl, .inr HA2.out, Hb'.out⟩
      | false =>
        obtain ⟨v', wf, hrun, ho', hb', _, _, _⟩ := dev_step wr (w.heap.size + 1) o.length u8 o ⟨k, x⟩ Ho.out (by omega) (by omega)
        have hX : o ++ [(⟨k, x⟩ : Rw)] = X := by have := Hi.out; simpa using this
        have hol' : o.length + 1 = X.length := by rw [← hX]; simp
        rw [hX, hol'] at ho'
        obtain ⟨A2, c2, rfl, hA2⟩ := LIn.own rc_len (show wf.ownsRow (w.heap.size + 1) 42 2 v' X.length (pcK rc X) from ho')
        have HA2 := Lib.hid (show wf.ownsRow (w.heap.size + 1) 42 2 (.slice A2 X.length c2) X.length (pcR X) from ho')
        have Hrun := Lib.hid hrun
        have Hb' := Lib.hid (Hbe.out.trans (hb'.mono (by omega)))
        clear hrun ho' hb' hA2 Hi Ho hX hol'
        obtain ⟨m, hm⟩ : ∃ m, X.length = m := ⟨_, rfl⟩
        have Hm := Lib.hid hm
        rw [hm] at HA2
        rw [hm] at Hrun
        clear hm
        cases g with
        | true =>
          cases h with
          | true =>
            have hee : ee = true := by rw [He.out]; rfl
            subst hee
            clear He
            go_wp2_with (first | (at_builtin; refine dv_app rfl _ _ _ rfl _ _ (by rfl) (by rfl) Hrun.out ?_; clear Hrun) | fail)
            go_ret2
            unfold DcPost
            rw [HXs.out, Hee.out, Hm.out]
            exact ⟨A2, c2, rfl, .inr HA2.out, Hb'.out⟩
          | false =>
            have hee : ee = false := by rw [He.out]; rfl
            subst hee
            clear He
            go_wp2_with (first | (at_builtin; refine dv_app rfl _ _ _ rfl _ _ (by rfl) (by rfl) Hrun.out ?_; clear Hrun) | fail)
            go_ret2
            unfold DcPost
            rw [HXs.out, Hee.out, Hm.out]
            obtain ⟨h1, h2⟩ := HF.out _ Hb'.out (by simp)
            have h3 := Hm.out.symm.trans h1
            subst h3
            exact ⟨A, c, rfl, .inl ⟨rfl, rfl, rfl⟩, Hb'.out⟩
        | false =>
          cases s with
          | true =>
            have hee : ee = false := by rw [He.out]; rfl
            subst hee
            clear He
            go_wp2_with (first | (at_builtin; refine dv_app rfl _ _ _ rfl _ _ (by rfl) (by rfl) Hrun.out ?_; clear Hrun) | fail)
            go_ret2
            unfold DcPost
            rw [HXs.out, Hee.out, Hm.out]
            obtain ⟨h1, h2⟩ := HF.out _ Hb'.out (by simp)
            have h3 := Hm.out.symm.trans h1
            subst h3
            exact ⟨A, c, rfl, .inl ⟨rfl, rfl, rfl⟩, Hb'.out⟩
          | false =>
            have hee : ee = true := by rw [He.out]; rfl
            subst hee
            clear He
            go_wp2_with (first | (at_builtin; refine dv_app rfl _ _ _ rfl _ _ (by rfl) (by rfl) Hrun.out ?_; clear Hrun) | fail)
            go_ret2
            unfold DcPost
            rw [HXs.out, Hee.out, Hm.out]
            exact ⟨A2, c2, rfl, .inr HA2.out, Hb'.out⟩
end Go.Proofs.Ytmlgaedhfannmaa
