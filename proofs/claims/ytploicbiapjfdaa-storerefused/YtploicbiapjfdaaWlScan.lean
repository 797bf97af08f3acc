/- Package wal: bytes.Clone; the reader of frames; Scan. -/
import Derived.Test.YtploicbiapjfdaaWlFirst
import Derived.Test.YtploicbiapjfdaaWlSt
import Derived.Lib.SliceRun
namespace Go.Proofs.Ytploicbiapjfdaa
set_option linter.unusedVariables false
set_option linter.unusedSimpArgs false
open Go.RowKit
theorem wl_eql_nil (w : World) (a : Option Addr) (n c n' c' : Nat) : (binOp .eql 24 (.slice a n c) (.slice none n' c')).run Try.prog w = .ok (.bool a.isNone) w := Lib.run_eql_slice_nil w _ _ a n c n' c' Try.underlying24
theorem wl_neq_nil (w : World) (a : Option Addr) (n c : Nat) : (binOp .neq 24 (.slice a n c) (.slice none 0 0)).run Try.prog w = .ok (.bool a.isSome) w := by
  simp only [binOp]
  simp [Op.equal, Op.maxDepth, Lib.run_equalIn_slice_nil w 9999 24 _ a n c 0 0 Try.underlying24]
theorem clone_any (ad : Addr) (n c B : Nat) (l : List UInt8) (w : World) (hh : Holds w B 1 (some ad) n (l.map bv)) (hn : n ≤ 1048576) :
    Calls Try.prog 48 #[.slice (some ad) n c] w fun e w' => ∃ v', e = .returned v' ∧ Own w' w.heap.size v' l ∧ Below w.heap.size w w' := by
  obtain ⟨i0, hi0, hz0, hz1, hz2⟩ := info_parts info_u8
  have hl := hh.len
  have q22 := wl_eql_nil
  have hB : (Holds (w.alloc (.cells #[] 5)) B 1 (some ad) n (l.map bv)) := by
    refine ⟨hh.1, fun hn => ?_⟩
    obtain ⟨b, off, e, hb, hc⟩ := hh.2 hn
    refine ⟨b, off, e, hb, fun j u hu => ?_⟩
    exact Lib.cell?_alloc_some _ (hc j u hu)
  have HB := Lib.hid hB
  have hown := World.ownsRow_made (base := w.heap.size) (size := 1) (e := 5) w #[] 0 (Nat.le_refl _) (Nat.zero_le _) rfl
  have Hown := Lib.hid hown
  have hb0 := (Below.refl w.heap.size w).alloc (Nat.le_refl _) (.cells #[] 5)
  have Hb0 := Lib.hid hb0
  have hs0 := hb0.size
  have hlen : 0 + n ≤ 1048576 := by omega
  clear hh hB hown hb0
  go_enter Try.func48, Try.ntmps48
  go_wp2_with (at_builtin; refine wpList_append_all _ (by rfl) _ _ 24 (by rfl) w.heap.size 5 i0 _ 1 1 Try.underlying24 hi0 hz0 hz1 hz2 rfl (by decide) _ _ _ (by rfl) Hown.out B (some ad) n c _ (by rfl) (fun h => by cases h) HB.out (bv_one _) hlen (by decide) hs0 ?_; intro v1 w1 ho1 hg1 _; have Ho1 := Lib.hid ho1; have Hb1 := Lib.hid (Hb0.out.grown hg1 hs0 (fun k hk => (Hown.out.lt k hk).1)); clear ho1 hg1)
  go_ret
  refine ⟨v1, rfl, ?_, Hb1.out⟩
  have := Ho1.out
  unfold Own
  rw [hl]
  simpa using this
/-- The reader: its box g holds the bytes that are not yet read. -/
def Rdr (w : World) (g B : Nat) (l : List UInt8) : Prop :=
  ∃ A n c, Blk w g 24 #[.slice A n c] ∧ Holds w B 1 A n (l.map bv) ∧ n ≤ c ∧ n ≤ 1200
theorem Rdr.below {w w' : World} {g B C : Nat} {l : List UInt8} (h : Rdr w g B l) (hb : Below C w w') (hg : g < C) (hB : B ≤ C) : Rdr w' g B l := by
  obtain ⟨A, n, c, h1, h2, h3⟩ := h
  exact ⟨A, n, c, h1.below hb hg, h2.below (hb.mono hB), h3⟩
/-- The frame that the reader has returned, where b was ahead of it. -/
def FrameV (w : World) (g B : Nat) (b : List UInt8) (v : Value) : Prop :=
  match ff b with
  | none => v = .slice none 0 0
  | some (r, last, b') => ∃ ad c, v = .slice (some ad) (r.length + 4) c ∧ r.length + 4 ≤ c ∧ Holds w B 1 (some ad) (r.length + 4) ((frm (if last then 1 else 0) r).map bv) ∧ Rdr w g B b'
theorem frameV_mk {w : World} {g B b off n c m n' c' : Nat} {A' : Option Addr} {l r b' : List UInt8} {last : Bool} {cs : Array Value} (hf : ff l = some (r, last, b')) (hm : r.length + 4 = m) (hk : Blk w g 24 cs) (hcs : cs.size = 1)
    (hh : Holds w B 1 (some ⟨b, off, none⟩) n (l.map bv)) (hB : B ≤ g) (hc : m ≤ c) (hr : Holds w B 1 A' n' (b'.map bv)) (hn : n' ≤ c') (hn2 : n' ≤ 1200) :
    FrameV (w.setCell ⟨g, 0, none⟩ (.slice A' n' c')) g B l (.slice (some ⟨b, off, none⟩) m c) := by
  have hb : Below B w (w.setCell ⟨g, 0, none⟩ (.slice A' n' c')) := (Below.refl B w).setCell (p := ⟨g, 0, none⟩) hB _
  obtain ⟨_, hl⟩ := ff_some hf
  have hlen := ff_len hf
  have hhl := hh.len
  unfold FrameV
  rw [hf]
  refine ⟨⟨b, off, none⟩, c, by rw [hm], by omega, ?_, A', n', c', ?_, hr.below hb, hn, hn2⟩
  · have h1 := (hh.below hb).first (k := r.length + 4) (by omega)
    rw [hl, List.take_append_of_le_length (by rw [frm_len]; omega), List.take_of_length_le (by rw [frm_len]; omega)] at h1
    exact h1
  · have h2 := hk.set_ 0 (.slice A' n' c')
    have e : cs.setIfInBounds 0 (.slice A' n' c') = #[.slice A' n' c'] := by
      obtain ⟨cl⟩ := cs
      match cl, hcs with
      | [x], _ => rfl
    rw [e] at h2
    exact h2
set_option maxHeartbeats 1000000 in
theorem next_any (g B : Nat) (l : List UInt8) (w : World) (h : Rdr w g B l) (hB : B ≤ g) :
    Calls Try.prog 69 #[.pointer (some ⟨g, 0, none⟩)] w fun e w' => ∃ v, e = .returned v ∧ FrameV w' g B l v ∧ w.grownBy w' (some g) := by
  obtain ⟨A, n, c, hblk, hh, hnc, hn⟩ := h
  have hg := hblk.lt
  have c0 : w.cell? ⟨g, 0, none⟩ = some (.slice A n c) := hblk.cell 0
  have hl := hh.len
  have H0 := Lib.hid (firstFrame_any A n c l w (hh.wider (by omega)) hn hnc)
  have Hb := Lib.hid hblk
  have Hh := Lib.hid hh
  have Hl := Lib.hid hl
  clear hblk hh hl
  cases hf : ff l with
  | none =>
    rw [ffV_none hf] at H0
    have HF := Lib.hid hf
    clear hf
    go_enter Try.func69, Try.ntmps69
    go_wp2_with fail
    refine H0.out.mono ?_
    rintro e w1 ⟨rfl, hb1⟩
    have hblk1 := Hb.out.below hb1 hg
    have c1 : w1.cell? ⟨g, 0, none⟩ = some (.slice A n c) := hblk1.cell 0
    have f1 := hblk1.frozen 0
    have Hb1 := Lib.hid hb1
    clear hblk1 hb1
    go_wp2
    all_goals
      go_ret
      refine ⟨_, rfl, ?_, only_setCell (only_below Hb1.out (some g)) (.inl rfl) _⟩
      unfold FrameV
      rw [HF.out]
      rfl
  | some x =>
    obtain ⟨r, last, b'⟩ := x
    rw [ffV_some hf] at H0
    have hlen := ff_len hf
    obtain ⟨hr, hb'⟩ := ff_some hf
    have HF := Lib.hid hf
    have Hb' := Lib.hid hb'
    have hr4 : r.length + 4 ≤ n := by have := Hl.out; omega
    obtain ⟨hr1, hr2⟩ := hr
    obtain ⟨b, off, rfl, hbb, _⟩ := Hh.out.2 (by omega)
    obtain ⟨m, hm⟩ : ∃ m, r.length + 4 = m := ⟨_, rfl⟩
    rw [hm] at H0 hr4
    have Hm := Lib.hid hm
    have hm5 : 5 ≤ m := by omega
    clear hf hb' hm
    go_enter Try.func69, Try.ntmps69
    go_wp2_with fail
    refine H0.out.mono ?_
    rintro e w1 ⟨rfl, hb1⟩
    have hblk1 := Hb.out.below hb1 hg
    have c1 : w1.cell? ⟨g, 0, none⟩ = some (.slice (some ⟨b, off, none⟩) n c) := hblk1.cell 0
    have f1 := hblk1.frozen 0
    have Hb1 := Lib.hid hb1
    have Hk1 := Lib.hid hblk1
    clear hblk1 hb1
    go_wp2
    · go_ret
      have hh1 : Holds w1 B 1 (some ⟨b, off, none⟩) n (l.map bv) := Hh.out.below (Hb1.out.mono (by omega))
      have hb0 : b' = [] := List.eq_nil_of_length_eq_zero (by have := Hl.out; have := Hm.out; omega)
      refine ⟨_, rfl, frameV_mk HF.out Hm.out Hk1.out rfl hh1 hB (by omega) ?_ (by omega) (by omega), only_setCell (only_below Hb1.out (some g)) (.inl rfl) _⟩
      rw [hb0, show n - m = 0 by omega]
      exact Holds.empty
    · go_ret
      have hh1 : Holds w1 B 1 (some ⟨b, off, none⟩) n (l.map bv) := Hh.out.below (Hb1.out.mono (by omega))
      refine ⟨_, rfl, frameV_mk HF.out Hm.out Hk1.out rfl hh1 hB (by omega) ?_ (by omega) (by omega), only_setCell (only_below Hb1.out (some g)) (.inl rfl) _⟩
      have hb'' := Hb'.out
      have hbb' : b < B := by
        obtain ⟨_, _, e, h, _⟩ := Hh.out.2 (by omega)
        cases e; exact h
      refine ⟨by rw [List.length_map]; have := Hl.out; have := Hm.out; omega, fun _ => ⟨b, off + m, rfl, hbb', fun j u hu => ?_⟩⟩
      obtain ⟨_, _, e, _, hc⟩ := hh1.2 (by omega)
      injection e with e
      injection e with e1 e2
      subst e1 e2
      rw [Nat.add_assoc]
      refine hc (m + j) u ?_
      rw [hb'', List.map_append, List.getElem?_append_right (by rw [List.length_map, frm_len]; have := Hm.out; omega)]
      rw [List.length_map, frm_len, Hm.out, Nat.add_sub_cancel_left]
      exact hu
def ScR (w : World) (l : List UInt8) (gk : Nat) (vB vU vC vR vF : Value) (wr : World) : Prop :=
  ∃ (b : List UInt8) (read used : Nat) (cur : List (List UInt8)) (acc : List (List (List UInt8))),
    vU = .int .i64 used ∧ vR = .int .i64 read ∧ gk = b.length ∧ scn b read used cur acc = scan l ∧ read + b.length = l.length ∧ used ≤ read ∧ cur.length ≤ read ∧ acc.length ≤ read ∧
    FrameV wr w.heap.size w.heap.size b vF ∧ ScSt wr (w.heap.size + 1) vB vC acc cur ∧ Below w.heap.size w wr ∧ w.heap.size + 1 ≤ wr.heap.size
theorem frameReader_any (A : Option Addr) (n c : Nat) (w : World) :
    Calls Try.prog 47 #[.slice A n c] w fun e w' => e = .returned (.func (.func 69) #[] #[.pointer (some ⟨w.heap.size, 0, none⟩)]) ∧ w' = w.alloc (.cells #[.slice A n c] 24) := by
  go_enter Try.func47, Try.ntmps47
  go_wp2
  go_ret
  exact ⟨rfl, rfl⟩
def scanR (l : List UInt8) : List (List (List UInt8)) × Nat × Int := if 1200 < l.length then ([], 0, 1) else ((scan l).1, (scan l).2, 0)
def newB (w w' : World) : Nat → Prop := fun b => w.heap.size ≤ b ∧ b < w'.heap.size
set_option maxHeartbeats 2000000 in
theorem wlScan_any (A : Option Addr) (n c : Nat) (l : List UInt8) (w : World) (hh : Holds w w.heap.size 1 A n (l.map bv)) (hnc : n ≤ c) (hn : n ≤ 9223372036854775807) :
    Calls Try.prog 32 #[.slice A n c] w fun e w' => ∃ v, e = .returned (.tuple #[v, .int .i64 (scanR l).2.1, .int .i64 (scanR l).2.2]) ∧ In3 w' (newB w w') (scanR l).1 v ∧ Below w.heap.size w w' := by
  have hl := hh.len
  by_cases hbig : (1200 : Int) < n
  · have H := Lib.hid (show scanR l = ([], 0, 1) by unfold scanR; rw [if_pos (by omega)])
    clear hl
    go_enter Try.func32, Try.ntmps32
    go_wp2
    go_ret3
    refine ⟨_, by rw [H.out]; rfl, ?_, Below.refl _ _⟩
    rw [H.out]
    exact ⟨none, 0, [], rfl, by simp, fun _ => rfl, HoldsS.nil, Ats.nil⟩
  · have H := Lib.hid (show scanR l = ((scan l).1, (scan l).2, 0) by unfold scanR; rw [if_neg (by omega)])
    have hR : Rdr (w.alloc (.cells #[.slice A n c] 24)) w.heap.size w.heap.size l :=
      ⟨A, n, c, Blk.new w _ _, hh.alloc (Nat.le_refl _) _, hnc, by omega⟩
    have HR := Lib.hid hR
    have Hl := Lib.hid hl
    have q23 := wl_neq_nil
    have hl12 : l.length ≤ 1200 := by omega
    have hb0 := (Below.refl w.heap.size w).alloc (Nat.le_refl _) (.cells #[.slice A n c] 24)
    have Hb0 := Lib.hid hb0
    have hs0 : w.heap.size + 1 ≤ (w.alloc (.cells #[.slice A n c] 24)).heap.size := by simp
    clear hR hl hb0 hh
    go_enter Try.func32, Try.ntmps32
    go_wp2_with fail
    refine (frameReader_any A n c w).mono ?_
    rintro e w1 ⟨rfl, hw1⟩
    rw [← hw1] at HR Hb0 hs0
    clear hw1
    go_wp2_with fail
    refine (next_any w.heap.size w.heap.size l w1 HR.out (Nat.le_refl _)).mono ?_
    rintro e w2 ⟨vF, rfl, hF, hb2⟩
    have HF := Lib.hid hF
    have Hb2 := Lib.hid (Hb0.out.trans (below_only hb2 (Nat.le_refl _) (by omega)))
    have hs2 : w.heap.size + 1 ≤ w2.heap.size := Nat.le_trans hs0 hb2.size
    clear hF hb2 HR
    go_wp2
    go_loopg [2, 3, 5, 6, 8] l.length (ScR w l)
    case atStart => exact ⟨l, 0, 0, [], [], rfl, rfl, rfl, rfl, by omega, by omega, by simp, by simp, HF.out, ScSt.empty _ _, Hb2.out, hs2⟩
    case round =>
      obtain ⟨b, read, used, cur, acc, rfl, rfl, rfl, hsc, hrb, hur, hcr, har, hfr, hst, hbe, hsz⟩ := hrel
      cases hf : ff b with
      | none =>
        have hv := hfr
        unfold FrameV at hv
        rw [hf] at hv
        replace hv : _ = Value.slice none 0 0 := hv
        subst hv
        rw [scn_none hf] at hsc
        have Hst := Lib.hid hst
        have Hbe := Lib.hid hbe
        have Hsc := Lib.hid hsc
        clear hst hbe hsc hf hfr
        go_wp2
        go_ret3
        refine ⟨_, by rw [H.out, ← Hsc.out]; rfl, ?_, Hbe.out⟩
        rw [H.out, ← Hsc.out]
        exact stays3.2 _ _ _ _ _ Hst.out.built fun b hb => ⟨by have := hb.1; omega, hb.2⟩
      | some x =>
        obtain ⟨r, last, b'⟩ := x
        have hfr' := hfr
        unfold FrameV at hfr'
        rw [hf] at hfr'
        obtain ⟨ad, cF, rfl, hcF, hhF, hRd⟩ := hfr'
        rw [scn_some hf] at hsc
        obtain ⟨⟨hr1, hr2⟩, _⟩ := ff_some hf
        have hlb := ff_len hf
        have hhl := hhF.len
        obtain ⟨b0, off, e0, hb0, hcell⟩ := hhF.2 (by omega)
        injection e0 with e0
        subst e0
        have Hhr := Lib.hid (show Holds wr w.heap.size 1 (some ⟨b0, off + 2, none⟩) r.length (r.map bv) from ⟨by simp, fun _ => ⟨b0, off + 2, rfl, hb0, fun j u hu => by
          rw [Nat.add_assoc]
          refine hcell (2 + j) u ?_
          rw [Nat.add_comm 2 j]
          simp only [frm, List.cons_append, List.map_cons, List.getElem?_cons_succ]
          rw [List.map_append, List.getElem?_append_left (by have := (List.getElem?_eq_some_iff.1 hu).1; simpa using this)]
          exact hu⟩⟩)
        have Hst := Lib.hid hst
        have Hbe := Lib.hid hbe
        have hfr' := hfr
        clear hf hfr hhF
        cases last
        · simp only [Bool.false_eq_true, if_false] at hsc hcell hhl
          have Hsc := Lib.hid hsc
          have hflag : wr.cell? ⟨b0, off + 1, none⟩ = some (.int .u8 0) := by
            have := hcell 1 (bv 0) (by simp [frm])
            exact this
          have HRd := Lib.hid hRd
          clear hsc hRd hst hbe hcell hfr' hhl
          go_wp2_with fail
          refine (clone_any _ _ _ w.heap.size r wr Hhr.out (by omega)).mono ?_
          rintro e w3 ⟨v3, rfl, ho3, hb3⟩
          obtain ⟨A3, c3, rfl, _⟩ := own_form ho3
          have hflag3 : w3.cell? ⟨b0, off + 1, none⟩ = some (.int .u8 0) := (hb3.cell (p := ⟨b0, off + 1, none⟩) (by show b0 < wr.heap.size; omega)).trans hflag
          have Hst3 := Lib.hid (Hst.out.below hb3)
          have Hin3 := Lib.hid (Hst3.out.in1 ho3 hsz)
          have Hb3 := Lib.hid (Hbe.out.trans (hb3.mono (by omega)))
          have HR3 := Lib.hid (HRd.out.below hb3 (by omega) (by omega))
          have hs3 : w.heap.size + 1 ≤ w3.heap.size := Nat.le_trans hsz hb3.size
          have hlen4 : cur.length + 1 ≤ 1048576 := by omega
          have hlen5 : acc.length + 1 ≤ 1048576 := by omega
          clear ho3 hb3 Hst Hbe HRd hflag
          go_wp2_with (first
            | (at_builtin; refine wpList_scPush (by rfl) _ _ (by rfl) (w.heap.size + 1) _ _ acc cur (by rfl) Hst3.out r _ Hin3.out (by rfl) hlen4 hs3 ?_; clear Hin3 Hst3; intro v4 w4 hst4 hb4 _; obtain ⟨A4, c4, hv4⟩ := hst4.formC; rw [List.length_append, List.length_singleton] at hv4; subst hv4; have Hst4 := Lib.hid hst4; have hb4' : Below (w.heap.size + 1) w3 w4 := hb4; have hs4 : w.heap.size + 1 ≤ w4.heap.size := Nat.le_trans hs3 hb4.size; have hflag4 : w4.cell? ⟨b0, off + 1, none⟩ = some (.int .u8 0) := (hb4.cell (p := ⟨b0, off + 1, none⟩) (by show b0 < w.heap.size + 1; omega)).trans hflag3; clear hst4 hb4)
)
          refine (next_any w.heap.size w.heap.size b' w4 (HR3.out.below (hb4') (by omega) (by omega)) (Nat.le_refl _)).mono ?_
          rintro e w6 ⟨v6, rfl, hF6, hb6⟩
          have Hb6 := Lib.hid (Hb3.out.trans ((hb4'.mono (Nat.le_succ _)).trans (below_only hb6 (Nat.le_refl _) (by omega))))
          have hs6 : w.heap.size + 1 ≤ w6.heap.size := Nat.le_trans hs4 hb6.size
          have Hst6 := Lib.hid (Hst4.out.only hb6 (Nat.lt_succ_self _))
          go_wp2
          go_roundg b'.length
          case measure => omega
          case rel => exact ⟨b', read + (r.length + 4), used, cur ++ [r], acc, rfl, by go_num, rfl, Hsc.out, by omega, by omega, by simp; omega, by omega, hF6, Hst6.out, Hb6.out, hs6⟩
        · simp only [if_true] at hsc hcell hhl
          have Hsc := Lib.hid hsc
          have hflag : wr.cell? ⟨b0, off + 1, none⟩ = some (.int .u8 1) := by
            have := hcell 1 (bv 1) (by simp [frm])
            exact this
          have HRd := Lib.hid hRd
          clear hsc hRd hst hbe hcell hfr' hhl
          go_wp2_with fail
          refine (clone_any _ _ _ w.heap.size r wr Hhr.out (by omega)).mono ?_
          rintro e w3 ⟨v3, rfl, ho3, hb3⟩
          obtain ⟨A3, c3, rfl, _⟩ := own_form ho3
          have hflag3 : w3.cell? ⟨b0, off + 1, none⟩ = some (.int .u8 1) := (hb3.cell (p := ⟨b0, off + 1, none⟩) (by show b0 < wr.heap.size; omega)).trans hflag
          have Hst3 := Lib.hid (Hst.out.below hb3)
          have Hin3 := Lib.hid (Hst3.out.in1 ho3 hsz)
          have Hb3 := Lib.hid (Hbe.out.trans (hb3.mono (by omega)))
          have HR3 := Lib.hid (HRd.out.below hb3 (by omega) (by omega))
          have hs3 : w.heap.size + 1 ≤ w3.heap.size := Nat.le_trans hsz hb3.size
          have hlen4 : cur.length + 1 ≤ 1048576 := by omega
          have hlen5 : acc.length + 1 ≤ 1048576 := by omega
          clear ho3 hb3 Hst Hbe HRd hflag
          go_wp2_with (first
            | (at_builtin; refine wpList_scPush (by rfl) _ _ (by rfl) (w.heap.size + 1) _ _ acc cur (by rfl) Hst3.out r _ Hin3.out (by rfl) hlen4 hs3 ?_; clear Hin3 Hst3; intro v4 w4 hst4 hb4 _; obtain ⟨A4, c4, hv4⟩ := hst4.formC; rw [List.length_append, List.length_singleton] at hv4; subst hv4; have Hst4 := Lib.hid hst4; have hb4' : Below (w.heap.size + 1) w3 w4 := hb4; have hs4 : w.heap.size + 1 ≤ w4.heap.size := Nat.le_trans hs3 hb4.size; have hflag4 : w4.cell? ⟨b0, off + 1, none⟩ = some (.int .u8 1) := (hb4.cell (p := ⟨b0, off + 1, none⟩) (by show b0 < w.heap.size + 1; omega)).trans hflag3; clear hst4 hb4)
            | (at_builtin; refine wpList_scFlush (by rfl) _ _ (by rfl) (w.heap.size + 1) _ _ acc (cur ++ [r]) (by rfl) Hst4.out (by rfl) hlen5 hs4 ?_; clear Hst4; intro v5 w5 hst5 hb5 _; have Hst5 := Lib.hid hst5; have hb5' : Below (w.heap.size + 1) w3 w5 := hb4'.trans hb5; have hs5 : w.heap.size + 1 ≤ w5.heap.size := Nat.le_trans hs4 hb5.size; clear hst5 hb5))
          refine (next_any w.heap.size w.heap.size b' w5 (HR3.out.below (hb5') (by omega) (by omega)) (Nat.le_refl _)).mono ?_
          rintro e w6 ⟨v6, rfl, hF6, hb6⟩
          have Hb6 := Lib.hid (Hb3.out.trans ((hb5'.mono (Nat.le_succ _)).trans (below_only hb6 (Nat.le_refl _) (by omega))))
          have hs6 : w.heap.size + 1 ≤ w6.heap.size := Nat.le_trans hs5 hb6.size
          have Hst6 := Lib.hid (Hst5.out.only hb6 (Nat.lt_succ_self _))
          go_wp2
          go_roundg b'.length
          case measure => omega
          case rel => exact ⟨b', read + (r.length + 4), read + (r.length + 4), [], acc ++ [cur ++ [r]], by go_num, by go_num, rfl, Hsc.out, by omega, by omega, by simp, by simp; omega, hF6, Hst6.out, Hb6.out, hs6⟩
end Go.Proofs.Ytploicbiapjfdaa
