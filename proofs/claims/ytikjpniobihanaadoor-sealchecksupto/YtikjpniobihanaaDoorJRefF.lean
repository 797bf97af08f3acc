/- The document's own jsonCount and jsonFault: what each call returns. -/
import Derived.Test.YtikjpniobihanaaDoorJRefT
import Derived.Test.YtikjpniobihanaaDoorJCheck
namespace Go.Proofs.YtikjpniobihanaaDoor
set_option linter.unusedVariables false
set_option linter.unusedSimpArgs false
open Go.RowKit
attribute [local go_sem high] str_mk

theorem len_counts : ∀ ps : List JV, ps.length ≤ counts ps
  | [] => by simp
  | p :: r => by have := len_counts r; cases p; simp [counts, count]; omega
def RcR (ps : List JV) (w : World) (gk : Nat) (n i : Value) (wr : World) : Prop :=
  ∃ (k m : Nat), n = .int .i64 (m : Int) ∧ i = .int .i64 k ∧ k ≤ ps.length ∧ gk = ps.length - k ∧ m + counts (ps.drop k) = counts ps ∧ Below w.heap.size w wr
set_option maxRecDepth 100000 in
set_option maxHeartbeats 2000000 in
theorem refCount_any (f : Nat) : ∀ (ps : List JV) (pc : List Value) (A : Option Addr) (c : Nat) (w : World) (B : Nat), counts ps ≤ f → counts ps ≤ 4611686018427387904 → B ≤ w.heap.size → Holds w B 5 A ps.length pc → PIn w B ps pc →
    Calls Tryd.prog 48 #[.slice A ps.length c] w fun e w' => e = .returned (.int .i64 (counts ps)) ∧ Below w.heap.size w w' := by
  induction f with
  | zero =>
    intro ps pc A c w B hf _ hB hh hp
    have h0 : ps = [] := by
      cases ps with
      | nil => rfl
      | cons p r => cases p; simp [counts, count] at hf
    subst h0
    go_enter Tryd.func48, Tryd.ntmps48
    go_wp2_with fail
    go_loopg [3, 8] 0 (RcR [] w)
    case atStart => exact ⟨0, 0, rfl, rfl, by simp, by simp, by simp, Below.refl _ _⟩
    case round =>
      obtain ⟨k, m, rfl, rfl, hk, hgk, hm, hbw⟩ := hrel
      have hk0 : k = 0 := by simpa using hk
      have hm0 : m = 0 := by simp [counts] at hm; exact hm
      subst hk0 hm0
      clear hgk hm
      go_wp2_with fail
      go_ret
      exact ⟨by simp [counts], hbw⟩
  | succ f ih =>
    intro ps pc A c w B hf hmax hB hh hp
    have Hf := Lib.hid hf
    have Hmax := Lib.hid hmax
    clear hf hmax
    go_enter Tryd.func48, Tryd.ntmps48
    go_wp2_with fail
    go_loopg [3, 8] ps.length (RcR ps w)
    case atStart => exact ⟨0, 0, rfl, rfl, by omega, by omega, by simp, Below.refl _ _⟩
    case round =>
      obtain ⟨k, m, rfl, rfl, hk, hgk, hm, hbw⟩ := hrel
      have Hgk := Lib.hid hgk
      have Hm := Lib.hid hm
      clear hgk hm
      by_cases hlt : k < ps.length
      · have hbB := hbw.mono hB
        obtain ⟨b, off, k2, n2, t2, Ak2, nk2, ck2, Ap2, np2, cp2, rfl, hb, hv, c0, c1, c2, c3, c4⟩ := part_cells (hh.below hbB) (hp.below hbB) k hlt
        have Hcd := Lib.hid (counts_drop ps k hlt)
        have hszr := hbw.size
        cases hq : ps[k] with
        | mk k3 n3 t3 ks3 qs =>
        rw [hq] at hv Hcd
        unfold VIn at hv
        obtain ⟨Ak3, ck3, Ap3, cp3, qc, hcs, _, _, _, _, _, _, _, _, _, hh3, hp3⟩ := hv
        injection hcs with e0 hcs; injection hcs with e1 hcs; injection hcs with e2 hcs; injection hcs with e3 hcs; injection hcs with e4 _
        injection e4 with e5 e6 e7
        subst e5 e6 e7
        have Hq := Lib.hid hq
        clear hq e0 e1 e2 e3
        have hsum : m + (1 + counts qs) ≤ counts ps := by
          have h1 := Hm.out; rw [Hcd.out] at h1; simp only [count] at h1; omega
        have hq1 : counts qs ≤ f := by have := Hf.out; omega
        have hmx := Hmax.out
        have hlc := len_counts ps
        have hk9 : (k : Int) + 1 ≤ 4611686018427387904 := by omega
        have hcq : (counts qs : Int) + 1 ≤ 9223372036854775807 := by omega
        have hcm : (m : Int) + (1 + (counts qs : Int)) ≤ 9223372036854775807 := by omega
        have hcm2 : (1 : Int) + (counts qs : Int) ≤ 9223372036854775807 := by omega
        have hh4 := fun o => hh3.alloc (Nat.le_trans hB hszr) o
        have hp4 := fun o => PIn.kept (w' := wr.alloc o) (fun p hp => World.cell?_alloc_lt _ _ p (by omega)) _ _ hp3
        go_wp2_with fail
        refine (ih qs qc Ap2 cp2 _ B hq1 (by omega) (by simp; omega) (hh4 _) (hp4 _)).mono ?_
        rintro e w3 ⟨rfl, hb3⟩
        have hw3 : Below w.heap.size w w3 := (hbw.alloc hszr _).trans (hb3.mono (by simp; omega))
        have Hn := Lib.hid (show (m + (1 + counts qs)) + counts (ps.drop (k + 1)) = counts ps by
          have h1 := Hm.out; rw [Hcd.out] at h1; simp only [count] at h1; omega)
        generalize counts qs = cq at *
        go_wp2_with fail
        go_roundg (ps.length - (k + 1))
        case measure => have := Hgk.out; omega
        case rel => exact ⟨k + 1, m + (1 + cq), by go_num, by go_num, by omega, rfl, Hn.out, hw3⟩
      · have Hfin := Lib.hid (show m = counts ps by have h1 := Hm.out; rw [List.drop_eq_nil_of_le (by omega)] at h1; simpa [counts] using h1)
        go_wp2_with fail
        go_ret
        exact ⟨by rw [← Hfin.out]; rfl, hbw⟩

/-! ### jsonFault -/
def RfK (ks : List (List UInt8)) (w : World) (gk : Nat) (i : Value) (wr : World) : Prop :=
  ∃ k q : Nat, i = .int .i64 k ∧ 1 ≤ k ∧ (k = 1 ∨ k ≤ ks.length) ∧ gk = ks.length + 1 - k ∧ incr ks = incr (ks.drop (k - 1)) ∧ wr = w.drewN q
def RfP (ps : List JV) (d : Nat) (w : World) (gk : Nat) (i : Value) (wr : World) : Prop :=
  ∃ k : Nat, i = .int .i64 k ∧ k ≤ ps.length ∧ gk = ps.length - k ∧ faults d ps = faults d (ps.drop k) ∧ Below w.heap.size w wr
theorem fault_eq (k n : Int) (t : List UInt8) (ks : List (List UInt8)) (ps : List JV) (d : Nat) : fault d (.mk k n t ks ps) =
   (if 6 ≤ d then (5 : Int) else if k < 1 ∨ 7 < k then 3 else if unusedB k n t ks.length ps.length = true then 4
    else if k = 7 ∧ (ks.length ≠ ps.length ∨ incr ks = false) then 4
    else if n ≤ -9007199254740992 ∨ 9007199254740992 ≤ n then 2 else faults (d + 1) ps) := by
  rw [fault, alone_eq]
  repeat' split
  all_goals first | rfl | (exfalso; simp_all; done) | simp_all

set_option maxRecDepth 100000 in
set_option maxHeartbeats 4000000 in
theorem refFault_any (f : Nat) : ∀ (v : JV) (d : Nat) (cs : List Value) (w : World) (B : Nat), 6 < d + f → d ≤ 6 → B ≤ w.heap.size → VIn w B v cs →
    Calls Tryd.prog 47 #[.agg cs.toArray, .int .i64 d] w fun e w' => e = .returned (.int .i64 (fault d v)) ∧ Below w.heap.size w w' := by
  induction f with
  | zero => intro v d cs w B h1 h2; omega
  | succ f ih =>
    intro v d cs w B hdf hd6 hB hv
    cases v with
    | mk k n t ks ps =>
    unfold VIn at hv
    obtain ⟨Ak, ck, Ap, cp, pc, rfl, hk1, hn1, ht, hks, hps, hkl, hck, hcp, hh1, hh2, hpin⟩ := hv
    have Hfe := Lib.hid (fault_eq k n t ks ps d)
    have HW := Lib.hid (show Below w.heap.size w (w.alloc (.cells #[.int .i64 k, .int .i64 n, str t, .slice Ak ks.length ck, .slice Ap ps.length cp] 25)) from (Below.refl _ _).alloc (Nat.le_refl _) _)
    by_cases hd : 6 ≤ d
    · have hd5 : (5 : Int) < (d : Int) := by omega
      go_enter Tryd.func47, Tryd.ntmps47
      go_wp2_with fail
      go_ret
      exact ⟨by rw [Hfe.out, if_pos hd]; rfl, HW.out⟩
    rw [if_neg hd] at Hfe
    have hd5 : ¬ (5 : Int) < (d : Int) := by omega
    have hdb : decide ((5 : Int) < (d : Int)) = false := by simp; omega
    have Hd := Lib.hid hd
    clear hd
    by_cases hk : k < 1
    · have hkb : decide (k < 1) = true := by simpa using hk
      go_enter Tryd.func47, Tryd.ntmps47
      go_wp2_with fail
      go_ret
      exact ⟨by rw [Hfe.out, if_pos (.inl hk)]; rfl, HW.out⟩
    by_cases hk2 : 7 < k
    · have hkb : decide (k < 1) = false := by simpa using hk
      have hkb2 : decide (7 < k) = true := by simpa using hk2
      go_enter Tryd.func47, Tryd.ntmps47
      go_wp2_with fail
      go_ret
      exact ⟨by rw [Hfe.out, if_pos (.inr hk2)]; rfl, HW.out⟩
    rw [if_neg (by omega)] at Hfe
    have hkb : decide (k < 1) = false := by simpa using hk
    have hkb2 : decide (7 < k) = false := by simpa using hk2
    by_cases h7 : k = 7
    · subst h7
      by_cases hn0 : n = 0
      rotate_left
      · have hb : (n != 0) = true := by simpa using hn0
        go_enter Tryd.func47, Tryd.ntmps47
        go_wp2_with fail
        go_ret
        exact ⟨by rw [Hfe.out, if_pos (by simp [unusedB, hn0])]; rfl, HW.out⟩
      subst hn0
      by_cases ht0 : t = []
      rotate_left
      · have hb : (t == []) = false := by simpa using ht0
        go_enter Tryd.func47, Tryd.ntmps47
        go_wp2_with fail
        go_ret
        exact ⟨by rw [Hfe.out, if_pos (by simp [unusedB, ht0])]; rfl, HW.out⟩
      subst ht0
      rw [if_neg (by simp [unusedB])] at Hfe
      by_cases hlen : ks.length = ps.length
      rotate_left
      · have hlb : ((ks.length : Int) != (ps.length : Int)) = true := by rw [bne_iff_ne]; omega
        have Hlen := Lib.hid hlen
        clear hlen
        go_enter Tryd.func47, Tryd.ntmps47
        go_wp2_with fail
        go_ret
        exact ⟨by rw [Hfe.out, if_pos ⟨by first | rfl | trivial, .inl Hlen.out⟩]; rfl, HW.out⟩
      have hlb : ((ks.length : Int) != (ps.length : Int)) = false := by rw [bne_eq_false_iff_eq]; omega
      have Hf2 := Lib.hid (show fault d (.mk 7 0 [] ks ps) = if incr ks = false then 4 else if (0 : Int) ≤ -9007199254740992 ∨ 9007199254740992 ≤ (0 : Int) then 2 else faults (d + 1) ps by
        rw [Hfe.out]
        by_cases hi : incr ks = false
        · rw [if_pos ⟨by first | rfl | trivial, .inr hi⟩, if_pos hi]
        · rw [if_neg (by rintro ⟨_, h | h⟩; exact h hlen; exact hi h), if_neg hi])
      clear hlen
      have hbA0 := Blk.new w 25 #[.int .i64 7, .int .i64 0, str [], .slice Ak ks.length ck, .slice Ap ps.length cp]
      have HbA := Lib.hid hbA0
      clear hbA0
      go_enter Tryd.func47, Tryd.ntmps47
      go_wp2_with fail
      have hW := HW.out
      have hbA := HbA.out
      have hszW : (w.alloc (.cells #[.int .i64 7, .int .i64 0, str [], .slice Ak ks.length ck, .slice Ap ps.length cp] 25)).heap.size = w.heap.size + 1 := by simp
      generalize (w.alloc (.cells #[.int .i64 7, .int .i64 0, str [], .slice Ak ks.length ck, .slice Ap ps.length cp] 25)) = W0 at *
      clear HW HbA
      have hh1w := hh1.below (hW.mono hB)
      have a1 : W0.cell? ⟨w.heap.size, 1, none⟩ = some (.int .i64 0) := hbA.cell 1
      have a3 : W0.cell? ⟨w.heap.size, 3, none⟩ = some (.slice Ak ks.length ck) := hbA.cell 3
      have a4 : W0.cell? ⟨w.heap.size, 4, none⟩ = some (.slice Ap ps.length cp) := hbA.cell 4
      go_loopg [5] ks.length (RfK ks W0)
      case atStart => exact ⟨1, 0, rfl, by omega, .inl rfl, by omega, by simp, rfl⟩
      case round =>
        obtain ⟨i, q, rfl, h1, hi, hgk, hin, rfl⟩ := hrel
        have Hgk := Lib.hid hgk
        have Hin0 := Lib.hid hin
        clear hgk hin
        by_cases hlt : i < ks.length
        · obtain ⟨b, off, hl1, rfl, hb, hc1⟩ := hh1w.str hlt
          obtain ⟨b', off', hl0, he, hb', hc0⟩ := hh1w.str (k := i - 1) (by omega)
          injection he with he
          injection he with he1 he2
          subst he1 he2
          have Hin := Lib.hid (Hin0.out.trans (incr_drop ks i h1 hlt))
          generalize ks[i - 1] = sa at *
          generalize ks[i] = sb at *
          have e1 : ((i : Int) - 1).toNat = i - 1 := by omega
          have e2 : (0 : Int) ≤ (i : Int) - 1 := by omega
          have e3 : (i : Int) - 1 < (ks.length : Int) := by omega
          go_wp2_with fail
          go_quiet (fail)
          cases hlt2 : Op.bytesLess sa sb
          · go_wp2_with fail
            go_ret
            exact ⟨by rw [Hf2.out, if_pos (by rw [Hin.out, hlt2]; rfl)]; rfl, below_drewN (below_drewN hW _) _⟩
          · go_wp2_with fail
            go_roundg (ks.length - i)
            case measure => have := Hgk.out; omega
            case rel => exact ⟨i + 1, _, by go_num, by omega, .inr (by omega), by omega, by rw [Hin.out, hlt2]; simp, rfl⟩
        · have Hin := Lib.hid (Hin0.out.trans (incr_end ks (i - 1) (by omega)))
          rw [if_neg (by rw [Hin.out]; simp)] at Hf2
          have hWq : Below w.heap.size w (W0.drewN q) := below_drewN hW q
          have hbAq : Blk (W0.drewN q) w.heap.size 25 #[.int .i64 7, .int .i64 0, str [], .slice Ak ks.length ck, .slice Ap ps.length cp] := hbA
          have hszq : (W0.drewN q).heap.size = w.heap.size + 1 := hszW
          rw [if_neg (by omega)] at Hf2
          go_wp2_with fail
          generalize W0.drewN q = W1 at *
          clear a1 a3 a4 hh1w hbA hW
          go_loopg [106] ps.length (RfP ps (d + 1) W1)
          case atStart => exact ⟨0, rfl, by omega, by omega, by simp, Below.refl _ _⟩
          case round =>
            obtain ⟨j, rfl, hj, hgj, hft, hbw⟩ := hrel
            have Hgj := Lib.hid hgj
            have Hft := Lib.hid hft
            clear hgj hft
            have hwr : Below w.heap.size w wr := hWq.trans (hbw.mono hWq.size)
            have hszr := hwr.size
            by_cases hltp : j < ps.length
            · obtain ⟨b, off, k2, n2, t2, Ak2, nk2, ck2, Ap2, np2, cp2, rfl, hb, hv, c0, c1, c2, c3, c4⟩ := part_cells (hh2.below (hwr.mono hB)) (hpin.below (hwr.mono hB)) j hltp
              have Hfd := Lib.hid (faults_drop (d + 1) ps j hltp)
              have hpart : VIn (wr.alloc (.cells #[.int .i64 k2, .int .i64 n2, str t2, .slice Ak2 nk2 ck2, .slice Ap2 np2 cp2] 25)) B ps[j] [.int .i64 k2, .int .i64 n2, str t2, .slice Ak2 nk2 ck2, .slice Ap2 np2 cp2] :=
                VIn.kept (fun p hp => World.cell?_alloc_lt _ _ p (by omega)) _ _ hv
              have hbal : Below W1.heap.size W1 (wr.alloc (.cells #[.int .i64 k2, .int .i64 n2, str t2, .slice Ak2 nk2 ck2, .slice Ap2 np2 cp2] 25)) := hbw.alloc hbw.size _
              have Hih := Lib.hid (ih ps[j] (d + 1) _ _ B (by omega) (by have := Hd.out; omega) (by simp; omega) hpart)
              clear hpart hv
              generalize fault (d + 1) ps[j] = fa at *
              go_wp2_with fail
              refine Hih.out.mono ?_
              rintro e w3 ⟨rfl, hb3⟩
              have hw3 := hbal.trans (hb3.mono hbal.size)
              by_cases hz : fa = 0
              · subst hz
                have Hfn := Lib.hid (show faults (d + 1) ps = faults (d + 1) (ps.drop (j + 1)) by rw [Hft.out, Hfd.out, if_neg (by simp)])
                go_wp2_with fail
                go_roundg (ps.length - (j + 1))
                case measure => have := Hgj.out; omega
                case rel => exact ⟨j + 1, by go_num, by omega, rfl, Hfn.out, hw3⟩
              · have Hfn := Lib.hid (show faults (d + 1) ps = fa by rw [Hft.out, Hfd.out, if_pos hz])
                have hab : (fa != 0) = true := by simpa using hz
                go_wp2_with fail
                go_ret
                exact ⟨by rw [Hf2.out, Hfn.out]; rfl, hWq.trans (hw3.mono hWq.size)⟩
            · have Hend := Lib.hid (show faults (d + 1) ps = 0 by rw [Hft.out, List.drop_of_length_le (by omega), faults])
              go_wp2_with fail
              go_ret
              exact ⟨by rw [Hf2.out, Hend.out]; rfl, hwr⟩
    by_cases h6 : k = 6
    · subst h6
      by_cases hn0 : n = 0
      rotate_left
      · have hb : (n != 0) = true := by simpa using hn0
        go_enter Tryd.func47, Tryd.ntmps47
        go_wp2_with fail
        go_ret
        exact ⟨by rw [Hfe.out, if_pos (by simp [unusedB, hn0])]; rfl, HW.out⟩
      subst hn0
      by_cases ht0 : t = []
      rotate_left
      · have hb : (t == []) = false := by simpa using ht0
        go_enter Tryd.func47, Tryd.ntmps47
        go_wp2_with fail
        go_ret
        exact ⟨by rw [Hfe.out, if_pos (by simp [unusedB, ht0])]; rfl, HW.out⟩
      subst ht0
      by_cases hks0 : ks.length = 0
      rotate_left
      · have hb : decide ((0 : Int) < (ks.length : Int)) = true := decide_eq_true (by omega)
        have hpos : 0 < ks.length := by omega
        clear hks0
        go_enter Tryd.func47, Tryd.ntmps47
        go_wp2_with fail
        go_ret
        exact ⟨by rw [Hfe.out, if_pos (by unfold unusedB; rw [decide_eq_true hpos]; simp)]; rfl, HW.out⟩
      have hksb : decide ((0 : Int) < (ks.length : Int)) = false := decide_eq_false (by omega)
      have hksn : ¬ 0 < ks.length := by omega
      have Hks0 := Lib.hid hks0
      clear hks0
      rw [if_neg (by unfold unusedB; rw [decide_eq_false hksn]; simp)] at Hfe
      have hks1 : ks = [] := List.eq_nil_of_length_eq_zero Hks0.out
      have Hf2 := Lib.hid (show fault d (.mk 6 0 [] ks ps) = if incr ks = false then 4 else if (0 : Int) ≤ -9007199254740992 ∨ 9007199254740992 ≤ (0 : Int) then 2 else faults (d + 1) ps by
        rw [Hfe.out, if_neg (fun h => absurd h.1 (by first | decide | exact h7)), if_neg (show ¬ incr ks = false by rw [hks1]; simp [incr])])
      clear hks1
      have hbA0 := Blk.new w 25 #[.int .i64 6, .int .i64 0, str [], .slice Ak ks.length ck, .slice Ap ps.length cp]
      have HbA := Lib.hid hbA0
      clear hbA0
      go_enter Tryd.func47, Tryd.ntmps47
      go_wp2_with fail
      have hW := HW.out
      have hbA := HbA.out
      have hszW : (w.alloc (.cells #[.int .i64 6, .int .i64 0, str [], .slice Ak ks.length ck, .slice Ap ps.length cp] 25)).heap.size = w.heap.size + 1 := by simp
      generalize (w.alloc (.cells #[.int .i64 6, .int .i64 0, str [], .slice Ak ks.length ck, .slice Ap ps.length cp] 25)) = W0 at *
      clear HW HbA
      have hh1w := hh1.below (hW.mono hB)
      have a1 : W0.cell? ⟨w.heap.size, 1, none⟩ = some (.int .i64 0) := hbA.cell 1
      have a3 : W0.cell? ⟨w.heap.size, 3, none⟩ = some (.slice Ak ks.length ck) := hbA.cell 3
      have a4 : W0.cell? ⟨w.heap.size, 4, none⟩ = some (.slice Ap ps.length cp) := hbA.cell 4
      go_loopg [5] ks.length (RfK ks W0)
      case atStart => exact ⟨1, 0, rfl, by omega, .inl rfl, by omega, by simp, rfl⟩
      case round =>
        obtain ⟨i, q, rfl, h1, hi, hgk, hin, rfl⟩ := hrel
        have Hgk := Lib.hid hgk
        have Hin0 := Lib.hid hin
        clear hgk hin
        by_cases hlt : i < ks.length
        · exact absurd (show 0 < ks.length by omega) hksn
        · have Hin := Lib.hid (Hin0.out.trans (incr_end ks (i - 1) (by omega)))
          rw [if_neg (by rw [Hin.out]; simp)] at Hf2
          have hWq : Below w.heap.size w (W0.drewN q) := below_drewN hW q
          have hbAq : Blk (W0.drewN q) w.heap.size 25 #[.int .i64 6, .int .i64 0, str [], .slice Ak ks.length ck, .slice Ap ps.length cp] := hbA
          have hszq : (W0.drewN q).heap.size = w.heap.size + 1 := hszW
          rw [if_neg (by omega)] at Hf2
          go_wp2_with fail
          generalize W0.drewN q = W1 at *
          clear a1 a3 a4 hh1w hbA hW
          go_loopg [106] ps.length (RfP ps (d + 1) W1)
          case atStart => exact ⟨0, rfl, by omega, by omega, by simp, Below.refl _ _⟩
          case round =>
            obtain ⟨j, rfl, hj, hgj, hft, hbw⟩ := hrel
            have Hgj := Lib.hid hgj
            have Hft := Lib.hid hft
            clear hgj hft
            have hwr : Below w.heap.size w wr := hWq.trans (hbw.mono hWq.size)
            have hszr := hwr.size
            by_cases hltp : j < ps.length
            · obtain ⟨b, off, k2, n2, t2, Ak2, nk2, ck2, Ap2, np2, cp2, rfl, hb, hv, c0, c1, c2, c3, c4⟩ := part_cells (hh2.below (hwr.mono hB)) (hpin.below (hwr.mono hB)) j hltp
              have Hfd := Lib.hid (faults_drop (d + 1) ps j hltp)
              have hpart : VIn (wr.alloc (.cells #[.int .i64 k2, .int .i64 n2, str t2, .slice Ak2 nk2 ck2, .slice Ap2 np2 cp2] 25)) B ps[j] [.int .i64 k2, .int .i64 n2, str t2, .slice Ak2 nk2 ck2, .slice Ap2 np2 cp2] :=
                VIn.kept (fun p hp => World.cell?_alloc_lt _ _ p (by omega)) _ _ hv
              have hbal : Below W1.heap.size W1 (wr.alloc (.cells #[.int .i64 k2, .int .i64 n2, str t2, .slice Ak2 nk2 ck2, .slice Ap2 np2 cp2] 25)) := hbw.alloc hbw.size _
              have Hih := Lib.hid (ih ps[j] (d + 1) _ _ B (by omega) (by have := Hd.out; omega) (by simp; omega) hpart)
              clear hpart hv
              generalize fault (d + 1) ps[j] = fa at *
              go_wp2_with fail
              refine Hih.out.mono ?_
              rintro e w3 ⟨rfl, hb3⟩
              have hw3 := hbal.trans (hb3.mono hbal.size)
              by_cases hz : fa = 0
              · subst hz
                have Hfn := Lib.hid (show faults (d + 1) ps = faults (d + 1) (ps.drop (j + 1)) by rw [Hft.out, Hfd.out, if_neg (by simp)])
                go_wp2_with fail
                go_roundg (ps.length - (j + 1))
                case measure => have := Hgj.out; omega
                case rel => exact ⟨j + 1, by go_num, by omega, rfl, Hfn.out, hw3⟩
              · have Hfn := Lib.hid (show faults (d + 1) ps = fa by rw [Hft.out, Hfd.out, if_pos hz])
                have hab : (fa != 0) = true := by simpa using hz
                go_wp2_with fail
                go_ret
                exact ⟨by rw [Hf2.out, Hfn.out]; rfl, hWq.trans (hw3.mono hWq.size)⟩
            · have Hend := Lib.hid (show faults (d + 1) ps = 0 by rw [Hft.out, List.drop_of_length_le (by omega), faults])
              go_wp2_with fail
              go_ret
              exact ⟨by rw [Hf2.out, Hend.out]; rfl, hwr⟩
    by_cases h5 : k = 5
    · subst h5
      by_cases hn0 : n = 0
      rotate_left
      · have hb : (n != 0) = true := by simpa using hn0
        go_enter Tryd.func47, Tryd.ntmps47
        go_wp2_with fail
        go_ret
        exact ⟨by rw [Hfe.out, if_pos (by simp [unusedB, hn0])]; rfl, HW.out⟩
      subst hn0
      by_cases hks0 : ks.length = 0
      rotate_left
      · have hb : decide ((0 : Int) < (ks.length : Int)) = true := decide_eq_true (by omega)
        have hpos : 0 < ks.length := by omega
        clear hks0
        go_enter Tryd.func47, Tryd.ntmps47
        go_wp2_with fail
        go_ret
        exact ⟨by rw [Hfe.out, if_pos (by unfold unusedB; rw [decide_eq_true hpos]; simp)]; rfl, HW.out⟩
      have hksb : decide ((0 : Int) < (ks.length : Int)) = false := decide_eq_false (by omega)
      have hksn : ¬ 0 < ks.length := by omega
      have Hks0 := Lib.hid hks0
      clear hks0
      by_cases hps0 : ps.length = 0
      rotate_left
      · have hb : decide ((0 : Int) < (ps.length : Int)) = true := decide_eq_true (by omega)
        have hpos : 0 < ps.length := by omega
        clear hps0
        go_enter Tryd.func47, Tryd.ntmps47
        go_wp2_with fail
        go_ret
        exact ⟨by rw [Hfe.out, if_pos (by unfold unusedB; rw [decide_eq_true hpos]; simp)]; rfl, HW.out⟩
      have hpsb : decide ((0 : Int) < (ps.length : Int)) = false := decide_eq_false (by omega)
      have hpsn : ¬ 0 < ps.length := by omega
      clear hps0
      rw [if_neg (by unfold unusedB; rw [decide_eq_false hksn, decide_eq_false hpsn]; simp)] at Hfe
      have hks1 : ks = [] := List.eq_nil_of_length_eq_zero Hks0.out
      have Hf2 := Lib.hid (show fault d (.mk 5 0 t ks ps) = if incr ks = false then 4 else if (0 : Int) ≤ -9007199254740992 ∨ 9007199254740992 ≤ (0 : Int) then 2 else faults (d + 1) ps by
        rw [Hfe.out, if_neg (fun h => absurd h.1 (by first | decide | exact h7)), if_neg (show ¬ incr ks = false by rw [hks1]; simp [incr])])
      clear hks1
      have hbA0 := Blk.new w 25 #[.int .i64 5, .int .i64 0, str t, .slice Ak ks.length ck, .slice Ap ps.length cp]
      have HbA := Lib.hid hbA0
      clear hbA0
      go_enter Tryd.func47, Tryd.ntmps47
      go_wp2_with fail
      have hW := HW.out
      have hbA := HbA.out
      have hszW : (w.alloc (.cells #[.int .i64 5, .int .i64 0, str t, .slice Ak ks.length ck, .slice Ap ps.length cp] 25)).heap.size = w.heap.size + 1 := by simp
      generalize (w.alloc (.cells #[.int .i64 5, .int .i64 0, str t, .slice Ak ks.length ck, .slice Ap ps.length cp] 25)) = W0 at *
      clear HW HbA
      have hh1w := hh1.below (hW.mono hB)
      have a1 : W0.cell? ⟨w.heap.size, 1, none⟩ = some (.int .i64 0) := hbA.cell 1
      have a3 : W0.cell? ⟨w.heap.size, 3, none⟩ = some (.slice Ak ks.length ck) := hbA.cell 3
      have a4 : W0.cell? ⟨w.heap.size, 4, none⟩ = some (.slice Ap ps.length cp) := hbA.cell 4
      go_loopg [5] ks.length (RfK ks W0)
      case atStart => exact ⟨1, 0, rfl, by omega, .inl rfl, by omega, by simp, rfl⟩
      case round =>
        obtain ⟨i, q, rfl, h1, hi, hgk, hin, rfl⟩ := hrel
        have Hgk := Lib.hid hgk
        have Hin0 := Lib.hid hin
        clear hgk hin
        by_cases hlt : i < ks.length
        · exact absurd (show 0 < ks.length by omega) hksn
        · have Hin := Lib.hid (Hin0.out.trans (incr_end ks (i - 1) (by omega)))
          rw [if_neg (by rw [Hin.out]; simp)] at Hf2
          have hWq : Below w.heap.size w (W0.drewN q) := below_drewN hW q
          have hbAq : Blk (W0.drewN q) w.heap.size 25 #[.int .i64 5, .int .i64 0, str t, .slice Ak ks.length ck, .slice Ap ps.length cp] := hbA
          have hszq : (W0.drewN q).heap.size = w.heap.size + 1 := hszW
          rw [if_neg (by omega)] at Hf2
          go_wp2_with fail
          generalize W0.drewN q = W1 at *
          clear a1 a3 a4 hh1w hbA hW
          go_loopg [106] ps.length (RfP ps (d + 1) W1)
          case atStart => exact ⟨0, rfl, by omega, by omega, by simp, Below.refl _ _⟩
          case round =>
            obtain ⟨j, rfl, hj, hgj, hft, hbw⟩ := hrel
            have Hgj := Lib.hid hgj
            have Hft := Lib.hid hft
            clear hgj hft
            have hwr : Below w.heap.size w wr := hWq.trans (hbw.mono hWq.size)
            have hszr := hwr.size
            by_cases hltp : j < ps.length
            · exact absurd (show 0 < ps.length by omega) hpsn
            · have Hend := Lib.hid (show faults (d + 1) ps = 0 by rw [Hft.out, List.drop_of_length_le (by omega), faults])
              go_wp2_with fail
              go_ret
              exact ⟨by rw [Hf2.out, Hend.out]; rfl, hwr⟩
    by_cases h4 : k = 4
    · subst h4
      by_cases ht0 : t = []
      rotate_left
      · have hb : (t == []) = false := by simpa using ht0
        go_enter Tryd.func47, Tryd.ntmps47
        go_wp2_with fail
        go_ret
        exact ⟨by rw [Hfe.out, if_pos (by simp [unusedB, ht0])]; rfl, HW.out⟩
      subst ht0
      by_cases hks0 : ks.length = 0
      rotate_left
      · have hb : decide ((0 : Int) < (ks.length : Int)) = true := decide_eq_true (by omega)
        have hpos : 0 < ks.length := by omega
        clear hks0
        go_enter Tryd.func47, Tryd.ntmps47
        go_wp2_with fail
        go_ret
        exact ⟨by rw [Hfe.out, if_pos (by unfold unusedB; rw [decide_eq_true hpos]; simp)]; rfl, HW.out⟩
      have hksb : decide ((0 : Int) < (ks.length : Int)) = false := decide_eq_false (by omega)
      have hksn : ¬ 0 < ks.length := by omega
      have Hks0 := Lib.hid hks0
      clear hks0
      by_cases hps0 : ps.length = 0
      rotate_left
      · have hb : decide ((0 : Int) < (ps.length : Int)) = true := decide_eq_true (by omega)
        have hpos : 0 < ps.length := by omega
        clear hps0
        go_enter Tryd.func47, Tryd.ntmps47
        go_wp2_with fail
        go_ret
        exact ⟨by rw [Hfe.out, if_pos (by unfold unusedB; rw [decide_eq_true hpos]; simp)]; rfl, HW.out⟩
      have hpsb : decide ((0 : Int) < (ps.length : Int)) = false := decide_eq_false (by omega)
      have hpsn : ¬ 0 < ps.length := by omega
      clear hps0
      rw [if_neg (by unfold unusedB; rw [decide_eq_false hksn, decide_eq_false hpsn]; simp)] at Hfe
      have hks1 : ks = [] := List.eq_nil_of_length_eq_zero Hks0.out
      have Hf2 := Lib.hid (show fault d (.mk 4 n [] ks ps) = if incr ks = false then 4 else if n ≤ -9007199254740992 ∨ 9007199254740992 ≤ n then 2 else faults (d + 1) ps by
        rw [Hfe.out, if_neg (fun h => absurd h.1 (by first | decide | exact h7)), if_neg (show ¬ incr ks = false by rw [hks1]; simp [incr])])
      clear hks1
      have hbA0 := Blk.new w 25 #[.int .i64 4, .int .i64 n, str [], .slice Ak ks.length ck, .slice Ap ps.length cp]
      have HbA := Lib.hid hbA0
      clear hbA0
      go_enter Tryd.func47, Tryd.ntmps47
      go_wp2_with fail
      have hW := HW.out
      have hbA := HbA.out
      have hszW : (w.alloc (.cells #[.int .i64 4, .int .i64 n, str [], .slice Ak ks.length ck, .slice Ap ps.length cp] 25)).heap.size = w.heap.size + 1 := by simp
      generalize (w.alloc (.cells #[.int .i64 4, .int .i64 n, str [], .slice Ak ks.length ck, .slice Ap ps.length cp] 25)) = W0 at *
      clear HW HbA
      have hh1w := hh1.below (hW.mono hB)
      have a1 : W0.cell? ⟨w.heap.size, 1, none⟩ = some (.int .i64 n) := hbA.cell 1
      have a3 : W0.cell? ⟨w.heap.size, 3, none⟩ = some (.slice Ak ks.length ck) := hbA.cell 3
      have a4 : W0.cell? ⟨w.heap.size, 4, none⟩ = some (.slice Ap ps.length cp) := hbA.cell 4
      go_loopg [5] ks.length (RfK ks W0)
      case atStart => exact ⟨1, 0, rfl, by omega, .inl rfl, by omega, by simp, rfl⟩
      case round =>
        obtain ⟨i, q, rfl, h1, hi, hgk, hin, rfl⟩ := hrel
        have Hgk := Lib.hid hgk
        have Hin0 := Lib.hid hin
        clear hgk hin
        by_cases hlt : i < ks.length
        · exact absurd (show 0 < ks.length by omega) hksn
        · have Hin := Lib.hid (Hin0.out.trans (incr_end ks (i - 1) (by omega)))
          rw [if_neg (by rw [Hin.out]; simp)] at Hf2
          have hWq : Below w.heap.size w (W0.drewN q) := below_drewN hW q
          have hbAq : Blk (W0.drewN q) w.heap.size 25 #[.int .i64 4, .int .i64 n, str [], .slice Ak ks.length ck, .slice Ap ps.length cp] := hbA
          have hszq : (W0.drewN q).heap.size = w.heap.size + 1 := hszW
          by_cases hnr1 : 9007199254740991 < (n : Int)
          · have hnb : decide (9007199254740991 < (n : Int)) = true := decide_eq_true hnr1
            go_wp2_with fail
            go_ret
            exact ⟨by rw [Hf2.out, if_pos (.inr (by omega))]; rfl, hWq⟩
          by_cases hnr2 : (n : Int) < -9007199254740991
          · have hnb : decide (9007199254740991 < (n : Int)) = false := decide_eq_false hnr1
            have hnb2 : decide ((n : Int) < -9007199254740991) = true := decide_eq_true hnr2
            go_wp2_with fail
            go_ret
            exact ⟨by rw [Hf2.out, if_pos (.inl (by omega))]; rfl, hWq⟩
          have hnb : decide (9007199254740991 < (n : Int)) = false := decide_eq_false hnr1
          have hnb2 : decide ((n : Int) < -9007199254740991) = false := decide_eq_false hnr2
          rw [if_neg (by omega)] at Hf2
          go_wp2_with fail
          generalize W0.drewN q = W1 at *
          clear a1 a3 a4 hh1w hnb hnb2 hbA hW
          go_loopg [106] ps.length (RfP ps (d + 1) W1)
          case atStart => exact ⟨0, rfl, by omega, by omega, by simp, Below.refl _ _⟩
          case round =>
            obtain ⟨j, rfl, hj, hgj, hft, hbw⟩ := hrel
            have Hgj := Lib.hid hgj
            have Hft := Lib.hid hft
            clear hgj hft
            have hwr : Below w.heap.size w wr := hWq.trans (hbw.mono hWq.size)
            have hszr := hwr.size
            by_cases hltp : j < ps.length
            · exact absurd (show 0 < ps.length by omega) hpsn
            · have Hend := Lib.hid (show faults (d + 1) ps = 0 by rw [Hft.out, List.drop_of_length_le (by omega), faults])
              go_wp2_with fail
              go_ret
              exact ⟨by rw [Hf2.out, Hend.out]; rfl, hwr⟩
    have g4 : (k != 4) = true := by simpa using h4
    have g5 : (k != 5) = true := by simpa using h5
    have g6 : (k != 6) = true := by simpa using h6
    have g7 : (k != 7) = true := by simpa using h7
    have g7b : (k == 7) = false := by simpa using h7
    by_cases hn0 : n = 0
    rotate_left
    · have hb : (n != 0) = true := by simpa using hn0
      go_enter Tryd.func47, Tryd.ntmps47
      go_wp2_with fail
      go_ret
      exact ⟨by rw [Hfe.out, if_pos (by simp [unusedB, hn0, h4, h5, h6, h7])]; rfl, HW.out⟩
    subst hn0
    by_cases ht0 : t = []
    rotate_left
    · have hb : (t == []) = false := by simpa using ht0
      go_enter Tryd.func47, Tryd.ntmps47
      go_wp2_with fail
      go_ret
      exact ⟨by rw [Hfe.out, if_pos (by simp [unusedB, ht0, h4, h5, h6, h7])]; rfl, HW.out⟩
    subst ht0
    by_cases hks0 : ks.length = 0
    rotate_left
    · have hb : decide ((0 : Int) < (ks.length : Int)) = true := decide_eq_true (by omega)
      have hpos : 0 < ks.length := by omega
      clear hks0
      go_enter Tryd.func47, Tryd.ntmps47
      go_wp2_with fail
      go_ret
      exact ⟨by rw [Hfe.out, if_pos (by unfold unusedB; rw [decide_eq_true hpos]; simp [h4, h5, h6, h7])]; rfl, HW.out⟩
    have hksb : decide ((0 : Int) < (ks.length : Int)) = false := decide_eq_false (by omega)
    have hksn : ¬ 0 < ks.length := by omega
    have Hks0 := Lib.hid hks0
    clear hks0
    by_cases hps0 : ps.length = 0
    rotate_left
    · have hb : decide ((0 : Int) < (ps.length : Int)) = true := decide_eq_true (by omega)
      have hpos : 0 < ps.length := by omega
      clear hps0
      go_enter Tryd.func47, Tryd.ntmps47
      go_wp2_with fail
      go_ret
      exact ⟨by rw [Hfe.out, if_pos (by unfold unusedB; rw [decide_eq_true hpos]; simp [h4, h5, h6, h7])]; rfl, HW.out⟩
    have hpsb : decide ((0 : Int) < (ps.length : Int)) = false := decide_eq_false (by omega)
    have hpsn : ¬ 0 < ps.length := by omega
    clear hps0
    rw [if_neg (by unfold unusedB; rw [decide_eq_false hksn, decide_eq_false hpsn]; simp [h4, h5, h6, h7])] at Hfe
    have hks1 : ks = [] := List.eq_nil_of_length_eq_zero Hks0.out
    have Hf2 := Lib.hid (show fault d (.mk k 0 [] ks ps) = if incr ks = false then 4 else if (0 : Int) ≤ -9007199254740992 ∨ 9007199254740992 ≤ (0 : Int) then 2 else faults (d + 1) ps by
      rw [Hfe.out, if_neg (fun h => absurd h.1 (by first | decide | exact h7)), if_neg (show ¬ incr ks = false by rw [hks1]; simp [incr])])
    clear hks1
    have hbA0 := Blk.new w 25 #[.int .i64 k, .int .i64 0, str [], .slice Ak ks.length ck, .slice Ap ps.length cp]
    have HbA := Lib.hid hbA0
    clear hbA0
    go_enter Tryd.func47, Tryd.ntmps47
    go_wp2_with fail
    have hW := HW.out
    have hbA := HbA.out
    have hszW : (w.alloc (.cells #[.int .i64 k, .int .i64 0, str [], .slice Ak ks.length ck, .slice Ap ps.length cp] 25)).heap.size = w.heap.size + 1 := by simp
    generalize (w.alloc (.cells #[.int .i64 k, .int .i64 0, str [], .slice Ak ks.length ck, .slice Ap ps.length cp] 25)) = W0 at *
    clear HW HbA
    have hh1w := hh1.below (hW.mono hB)
    have a1 : W0.cell? ⟨w.heap.size, 1, none⟩ = some (.int .i64 0) := hbA.cell 1
    have a3 : W0.cell? ⟨w.heap.size, 3, none⟩ = some (.slice Ak ks.length ck) := hbA.cell 3
    have a4 : W0.cell? ⟨w.heap.size, 4, none⟩ = some (.slice Ap ps.length cp) := hbA.cell 4
    go_loopg [5] ks.length (RfK ks W0)
    case atStart => exact ⟨1, 0, rfl, by omega, .inl rfl, by omega, by simp, rfl⟩
    case round =>
      obtain ⟨i, q, rfl, h1, hi, hgk, hin, rfl⟩ := hrel
      have Hgk := Lib.hid hgk
      have Hin0 := Lib.hid hin
      clear hgk hin
      by_cases hlt : i < ks.length
      · exact absurd (show 0 < ks.length by omega) hksn
      · have Hin := Lib.hid (Hin0.out.trans (incr_end ks (i - 1) (by omega)))
        rw [if_neg (by rw [Hin.out]; simp)] at Hf2
        have hWq : Below w.heap.size w (W0.drewN q) := below_drewN hW q
        have hbAq : Blk (W0.drewN q) w.heap.size 25 #[.int .i64 k, .int .i64 0, str [], .slice Ak ks.length ck, .slice Ap ps.length cp] := hbA
        have hszq : (W0.drewN q).heap.size = w.heap.size + 1 := hszW
        rw [if_neg (by omega)] at Hf2
        go_wp2_with fail
        generalize W0.drewN q = W1 at *
        clear a1 a3 a4 hh1w hbA hW
        go_loopg [106] ps.length (RfP ps (d + 1) W1)
        case atStart => exact ⟨0, rfl, by omega, by omega, by simp, Below.refl _ _⟩
        case round =>
          obtain ⟨j, rfl, hj, hgj, hft, hbw⟩ := hrel
          have Hgj := Lib.hid hgj
          have Hft := Lib.hid hft
          clear hgj hft
          have hwr : Below w.heap.size w wr := hWq.trans (hbw.mono hWq.size)
          have hszr := hwr.size
          by_cases hltp : j < ps.length
          · exact absurd (show 0 < ps.length by omega) hpsn
          · have Hend := Lib.hid (show faults (d + 1) ps = 0 by rw [Hft.out, List.drop_of_length_le (by omega), faults])
            go_wp2_with fail
            go_ret
            exact ⟨by rw [Hf2.out, Hend.out]; rfl, hwr⟩
end Go.Proofs.YtikjpniobihanaaDoor
