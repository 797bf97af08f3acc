/- json.hasUnused, checkAlone and check: what each call returns. -/
import Derived.Test.YtbdbcffnjibjoaaGreatDoorJIncr
namespace Go.Proofs.YtbdbcffnjibjoaaGreatDoor
set_option linter.unusedVariables false
set_option linter.unusedSimpArgs false
open Go.RowKit

def unusedB (k n : Int) (t : List UInt8) (nk np : Nat) : Bool :=
  (n != 0 && k != 4) || (!t.isEmpty && k != 5) || (decide (0 < nk) && k != 7) || (decide (0 < np) && (k != 6 && k != 7))
theorem bcell {W w1 : World} (hb : Below W.heap.size W w1) : (∀ b o, b < W.heap.size → w1.cell? ⟨b, o, none⟩ = W.cell? ⟨b, o, none⟩) ∧ (∀ b o, b < W.heap.size → w1.frozen? ⟨b, o, none⟩ = W.frozen? ⟨b, o, none⟩) :=
  ⟨fun b o h => hb.cell (p := ⟨b, o, none⟩) h, fun b o h => hb.frozen (p := ⟨b, o, none⟩) h⟩

section
attribute [local go_sem high] str_mk
set_option maxHeartbeats 1000000 in
theorem unused_any (k n : Int) (t : List UInt8) (Ak : Option Addr) (nk ck : Nat) (Ap : Option Addr) (np cp : Nat) (w : World) :
    Calls Tryz.prog 81 #[.agg #[.int .i64 k, .int .i64 n, str t, .slice Ak nk ck, .slice Ap np cp]] w fun e w' => e = .returned (.bool (unusedB k n t nk np)) ∧ Below w.heap.size w w' := by
  go_enter Tryz.func81, Tryz.ntmps81
  go_wp2
  all_goals go_ret
  all_goals refine ⟨ret_bool ?_, (Below.refl _ _).alloc (Nat.le_refl _) _⟩
  all_goals simp_all [unusedB]
end

theorem alone_eq (k n : Int) (t : List UInt8) (ks : List (List UInt8)) (ps : List JV) (d : Nat) : alone (.mk k n t ks ps) d =
   (if 6 ≤ d then (5 : Int) else if k < 1 ∨ 7 < k then 3 else if unusedB k n t ks.length ps.length = true then 4
    else if k = 7 ∧ (ks.length ≠ ps.length ∨ incr ks = false) then 4
    else if n ≤ -9007199254740992 ∨ 9007199254740992 ≤ n then 2 else 0) := rfl

set_option maxHeartbeats 1000000 in
theorem alone_any (k n : Int) (t : List UInt8) (ks : List (List UInt8)) (ps : List JV) (Ak : Option Addr) (ck : Nat) (Ap : Option Addr) (cp d : Nat) (w : World) (B : Nat) (hB : B ≤ w.heap.size)
    (hh : Holds w B 1 Ak ks.length (ks.map str)) (hl : ks.length ≤ 1048576) :
    Calls Tryz.prog 60 #[.agg #[.int .i64 k, .int .i64 n, str t, .slice Ak ks.length ck, .slice Ap ps.length cp], .int .i64 d] w fun e w' => e = .returned (.int .i64 (alone (.mk k n t ks ps) d)) ∧ Below w.heap.size w w' := by
  have Ha := Lib.hid (alone_eq k n t ks ps d)
  by_cases hd : 6 ≤ d
  · go_enter Tryz.func60, Tryz.ntmps60
    go_wp2_with fail
    go_ret
    exact ⟨by rw [Ha.out, if_pos hd]; rfl, (Below.refl _ _).alloc (Nat.le_refl _) _⟩
  by_cases hk1 : k < 1
  · have hd' : d < 6 := by omega
    go_enter Tryz.func60, Tryz.ntmps60
    go_wp2_with fail
    go_ret
    exact ⟨by rw [Ha.out, if_neg hd, if_pos (.inl hk1)]; rfl, (Below.refl _ _).alloc (Nat.le_refl _) _⟩
  by_cases hk7 : 7 < k
  · have hd' : d < 6 := by omega
    have hk1' : 1 ≤ k := by omega
    go_enter Tryz.func60, Tryz.ntmps60
    go_wp2_with fail
    go_ret
    exact ⟨by rw [Ha.out, if_neg hd, if_pos (.inr hk7)]; rfl, (Below.refl _ _).alloc (Nat.le_refl _) _⟩
  have hd' : d < 6 := by omega
  have hk1' : 1 ≤ k := by omega
  have hk7' : k ≤ 7 := by omega
  have Hhead := Lib.hid (show alone (.mk k n t ks ps) d = (if unusedB k n t ks.length ps.length = true then 4
    else if k = 7 ∧ (ks.length ≠ ps.length ∨ incr ks = false) then 4
    else if n ≤ -9007199254740992 ∨ 9007199254740992 ≤ n then 2 else 0) by rw [Ha.out, if_neg hd, if_neg (by omega)])
  clear Ha
  go_enter Tryz.func60, Tryz.ntmps60
  go_wp2_with fail
  refine (unused_any _ _ _ _ _ _ _ _ _ _).mono ?_
  rintro e w1 ⟨rfl, hb1⟩
  have hb := ((Below.refl w.heap.size w).alloc (Nat.le_refl _) _).trans (hb1.mono (by simp))
  obtain ⟨hcl, hfr⟩ := bcell hb1
  have hz : w.heap.size < w1.heap.size := by have := hb1.size; simp at this; omega
  have hh1 : Holds w1 B 1 Ak ks.length (ks.map str) := hh.below (hb.mono hB)
  cases hu : unusedB k n t ks.length ps.length
  · by_cases h7 : k = 7
    · subst h7
      by_cases hlen : ks.length = ps.length
      · have Hlen := Lib.hid hlen
        have hlb : ((ks.length : Int) != (ps.length : Int)) = false := by rw [hlen]; simp
        clear hlen
        go_wp2_with fail
        refine (incr_any Ak ck ks _ B hh1 hl).mono ?_
        rintro e w2 ⟨rfl, nq, rfl⟩
        cases hi : incr ks
        · go_wp2_with fail
          go_ret
          exact ⟨by rw [Hhead.out, if_neg (by rw [hu]; simp), if_pos (by simp [hi])]; rfl, below_drewN hb _⟩
        · have Hh2 := Lib.hid (show alone (.mk 7 n t ks ps) d = if n ≤ -9007199254740992 ∨ 9007199254740992 ≤ n then 2 else 0 by
            rw [Hhead.out, if_neg (by rw [hu]; simp), if_neg (by rw [hi]; simp [Hlen.out])])
          go_wp2_with fail
          all_goals go_ret
          all_goals refine ⟨?_, below_drewN hb _⟩
          all_goals (rw [Hh2.out]; first | (rw [if_pos (by omega)]; rfl) | (rw [if_neg (by omega)]; rfl))
      · have Hh2 := Lib.hid (show alone (.mk 7 n t ks ps) d = 4 by rw [Hhead.out, if_neg (by rw [hu]; simp), if_pos ⟨rfl, .inl hlen⟩])
        have hlb : ((ks.length : Int) != (ps.length : Int)) = true := by simp; omega
        go_wp2_with fail
        go_ret
        exact ⟨by rw [Hh2.out]; rfl, hb⟩
    · have Hh2 := Lib.hid (show alone (.mk k n t ks ps) d = if n ≤ -9007199254740992 ∨ 9007199254740992 ≤ n then 2 else 0 by
        rw [Hhead.out, if_neg (by rw [hu]; simp), if_neg (by simp [h7])])
      have h7b : (k == 7) = false := by simpa using h7
      go_wp2_with fail
      all_goals go_ret
      all_goals refine ⟨?_, hb⟩
      all_goals (rw [Hh2.out]; first | (rw [if_pos (by omega)]; rfl) | (rw [if_neg (by omega)]; rfl))
  · go_wp2_with fail
    go_ret
    exact ⟨by rw [Hhead.out, if_pos hu]; rfl, hb⟩

/-- What check leaves: the counter at g has gone on by the values, if there is no error. -/
def CheckPost (g : Nat) (nodes : Nat) (r : Int) (cnt : Nat) (w : World) (e : Ending) (w' : World) : Prop :=
  e = .returned (.int .i64 r) ∧ (∃ m : Int, Blk w' g 3 #[.int .i64 m] ∧ (r = 0 → m = nodes + cnt)) ∧ w.grownBy w' (some g)

/-- The loop over the parts. -/
def CheckR (ps : List JV) (d g nodes : Nat) (w : World) (gk : Nat) (i : Value) (wr : World) : Prop :=
  ∃ k : Nat, i = .int .i64 k ∧ k ≤ ps.length ∧ gk = ps.length - k ∧ faults d ps = faults d (ps.drop k) ∧ ∃ m : Nat, Blk wr g 3 #[.int .i64 (m : Int)] ∧ m + counts (ps.drop k) = nodes + counts ps ∧ w.grownBy wr (some g)

theorem counts_drop (ps : List JV) (k : Nat) (hk : k < ps.length) : counts (ps.drop k) = count ps[k] + counts (ps.drop (k + 1)) := by
  rw [List.drop_eq_getElem_cons hk, counts]
theorem faults_drop (d : Nat) (ps : List JV) (k : Nat) (hk : k < ps.length) : faults d (ps.drop k) = if fault d ps[k] ≠ 0 then fault d ps[k] else faults d (ps.drop (k + 1)) := by
  rw [List.drop_eq_getElem_cons hk, faults]

set_option maxHeartbeats 4000000 in
theorem check_any (f : Nat) : ∀ (v : JV) (d g nodes : Nat) (cs : List Value) (w : World), 6 < d + f → d ≤ 6 → VIn w g v cs → Blk w g 3 #[.int .i64 (nodes : Int)] → nodes + count v ≤ 1099511627776 →
    Calls Tryz.prog 34 #[.agg cs.toArray, .int .i64 d, .pointer (some ⟨g, 0, none⟩)] w (CheckPost g nodes (fault d v) (count v) w) := by
  induction f with
  | zero => intro v d g nodes cs w h1 h2; omega
  | succ f ih =>
    intro v d g nodes cs w hdf hd6 hv hblk hcnt
    cases v with
    | mk k n t ks ps =>
    unfold VIn at hv
    obtain ⟨Ak, ck, Ap, cp, pc, rfl, hk1, hn1, ht, hks, hps, hkl, hck, hcp, hh1, hh2, hpin⟩ := hv
    have hg := hblk.lt
    have Ha := Lib.hid (show fault d (.mk k n t ks ps) = if alone (.mk k n t ks ps) d ≠ 0 then alone (.mk k n t ks ps) d else faults (d + 1) ps by rw [fault])
    have Hc := Lib.hid (show count (.mk k n t ks ps) = 1 + counts ps by rw [count])
    rw [Hc.out] at hcnt ⊢
    have hc0 : w.cell? ⟨g, 0, none⟩ = some (.int .i64 (nodes : Int)) := hblk.cell 0
    have hf0 : w.frozen? ⟨g, 0, none⟩ = false := hblk.frozen 0
    go_enter Tryz.func34, Tryz.ntmps34
    go_wp2_with fail
    refine (alone_any k n t ks ps Ak ck Ap cp d _ g ?_ ?_ hks).mono ?_
    · simp; omega
    · exact hh1.alloc (by omega) _
    rintro e w1 ⟨rfl, hb1⟩
    have hbw : Below w.heap.size w w1 := ((Below.refl w.heap.size w).alloc (Nat.le_refl _) _).trans (hb1.mono (by simp))
    have hblk1 := hblk.below hbw hg
    have hbox := (Blk.new w 25 #[.int .i64 k, .int .i64 n, str t, .slice Ak ks.length ck, .slice Ap ps.length cp]).below hb1 (by simp)
    have hc1 : w1.cell? ⟨g, 0, none⟩ = some (.int .i64 (nodes : Int)) := hblk1.cell 0
    have hf1 : w1.frozen? ⟨g, 0, none⟩ = false := hblk1.frozen 0
    have hbc4 : w1.cell? ⟨w.heap.size, 4, none⟩ = some (.slice Ap ps.length cp) := hbox.cell 4
    have hne : ¬ w.heap.size = g := by omega
    have honly1 : w.grownBy w1 (some g) := only_below hbw _
    clear hc0 hf0 hbox
    by_cases ha : alone (.mk k n t ks ps) d = 0
    · have Hf := Lib.hid (show fault d (.mk k n t ks ps) = faults (d + 1) ps by rw [Ha.out, if_neg (by simpa using ha)])
      have hd5 : d < 6 := (alone_facts ha).1
      clear Ha Hc
      rw [ha]
      go_wp2_with fail
      have hn1' : ((nodes : Int) + 1) = ((nodes + 1 : Nat) : Int) := by omega
      rw [hn1']
      have hst : Blk (w1.setCell ⟨g, 0, none⟩ (.int .i64 ((nodes + 1 : Nat) : Int))) g 3 #[.int .i64 ((nodes + 1 : Nat) : Int)] := hblk1.set_ 0 _
      have honly2 := only_setCell honly1 (p := ⟨g, 0, none⟩) (.inl rfl) (.int .i64 ((nodes + 1 : Nat) : Int))
      have Hst := Lib.hid hst
      have Honly := Lib.hid honly2
      clear hst honly2 hn1' hc1 hf1 hbc4 honly1 hblk1 hb1 hbw
      generalize w1.setCell ⟨g, 0, none⟩ (.int .i64 ((nodes + 1 : Nat) : Int)) = w2 at *
      go_loopg [25] ps.length (CheckR ps (d + 1) g (nodes + 1) w)
      case atStart => exact ⟨0, rfl, by omega, by omega, by simp, nodes + 1, Hst.out, by simp, Honly.out⟩
      case round =>
        obtain ⟨k', rfl, hk', hgk, hft, m, hbm, hcm, honm⟩ := hrel
        have Hft := Lib.hid hft
        have Hgk := Lib.hid hgk
        have Hcm := Lib.hid hcm
        have hsz : w.heap.size ≤ wr.heap.size := honm.size
        have hbel : Below g w wr := below_only honm (Nat.le_refl _) (by omega)
        clear hft hgk hcm
        by_cases hlt : k' < ps.length
        · obtain ⟨b, off, k2, n2, t2, Ak2, nk2, ck2, Ap2, np2, cp2, rfl, hb, hv, c0, c1, c2, c3, c4⟩ := part_cells (hh2.below hbel) (hpin.below hbel) k' hlt
          go_wp2_with fail
          have hpart : VIn (wr.alloc (.cells #[.int .i64 k2, .int .i64 n2, str t2, .slice Ak2 nk2 ck2, .slice Ap2 np2 cp2] 25)) g ps[k'] [.int .i64 k2, .int .i64 n2, str t2, .slice Ak2 nk2 ck2, .slice Ap2 np2 cp2] :=
            VIn.kept (fun p hp => World.cell?_alloc_lt _ _ p (by omega)) _ _ hv
          refine (ih ps[k'] (d + 1) g m _ _ (by omega) (by omega) hpart (hbm.alloc _) ?_).mono ?_
          · have h1 := Hcm.out
            rw [counts_drop ps k' hlt] at h1
            omega
          rintro e w3 ⟨rfl, ⟨m', hbm', hm'⟩, hon3⟩
          have hon4 := only_trans (only_alloc honm _) hon3
          have Hfd := Lib.hid (faults_drop (d + 1) ps k' hlt)
          have Hcd := Lib.hid (counts_drop ps k' hlt)
          by_cases hz : fault (d + 1) ps[k'] = 0
          · have Hm' := Lib.hid (hm' hz)
            have Hfn := Lib.hid (show faults (d + 1) ps = faults (d + 1) (ps.drop (k' + 1)) by rw [Hft.out, Hfd.out, if_neg (by simpa using hz)])
            clear hm'
            rw [hz]
            go_wp2_with fail
            go_roundg (ps.length - (k' + 1))
            case measure => have := Hgk.out; omega
            case rel =>
              refine ⟨k' + 1, by go_num, by omega, rfl, Hfn.out, m + count ps[k'], ?_, ?_, hon4⟩
              · rw [Hm'.out] at hbm'; exact_mod_cast hbm'
              · have h1 := Hcm.out; have h2 := Hcd.out; omega
          · have Hfn := Lib.hid (show faults (d + 1) ps = fault (d + 1) ps[k'] by rw [Hft.out, Hfd.out, if_pos hz])
            clear Hfd
            generalize fault (d + 1) ps[k'] = a at *
            have hab : (a != 0) = true := by simpa using hz
            go_wp2_with fail
            go_ret
            exact ⟨by rw [Hf.out, Hfn.out]; rfl, ⟨_, hbm', fun h => absurd ((Hf.out.trans Hfn.out).symm.trans h) hz⟩, hon4⟩
        · have Hend := Lib.hid (show faults (d + 1) ps = 0 by rw [Hft.out, List.drop_of_length_le (by omega), faults])
          have Hce := Lib.hid (show m = nodes + 1 + counts ps by have := Hcm.out; rw [List.drop_of_length_le (by omega), counts] at this; omega)
          go_wp2_with fail
          go_ret
          refine ⟨by rw [Hf.out, Hend.out]; rfl, ⟨_, hbm, fun _ => ?_⟩, honm⟩
          have := Hce.out
          omega
    · have Hf := Lib.hid (show fault d (.mk k n t ks ps) = alone (.mk k n t ks ps) d by rw [Ha.out, if_pos ha])
      clear Ha
      generalize alone (.mk k n t ks ps) d = a at *
      have hab : (a != 0) = true := by simpa using ha
      go_wp2_with fail
      go_ret
      exact ⟨by rw [Hf.out]; rfl, ⟨_, hblk1, fun h => absurd (Hf.out.symm.trans h) ha⟩, honly1⟩
end Go.Proofs.YtbdbcffnjibjoaaGreatDoor
