/- seal.find and seal.isBlocked: what each call returns. -/
import Derived.Test.YtbdbcffnjibjoaaGreatDoorSlText
import Derived.Test.YtbdbcffnjibjoaaGreatDoorJBin
namespace Go.Proofs.YtbdbcffnjibjoaaGreatDoor
set_option linter.unusedVariables false
set_option linter.unusedSimpArgs false
open Go.RowKit
attribute [local go_sem high] str_mk

def zcells : Array Value := #[.int .i64 0, .int .i64 0, str [], .slice none 0 0, .slice none 0 0]
/-- What find answers: of a value that is not there all cells are zero. -/
def FindPost (B : Nat) (o : Option JV) (w : World) (e : Ending) (w' : World) : Prop :=
  Below w.heap.size w w' ∧ ((o = none ∧ e = .returned (.tuple #[.agg #[.int .i64 0, .int .i64 0, str [], .slice none 0 0, .slice none 0 0], .bool false])) ∨
    ∃ p cs', o = some p ∧ e = .returned (.tuple #[.agg cs'.toArray, .bool true]) ∧ VIn w' B p cs' ∧ Fine p)
def FindR (keys : List (List UInt8)) (v : JV) (B : Nat) (w : World) (gk : Nat) (i : Value) (wr : World) : Prop :=
  ∃ (j : Nat) (u : JV) (cu : List Value), i = .int .i64 j ∧ j ≤ keys.length ∧ gk = keys.length - j ∧ getAt (keys.drop j) u = getAt keys v ∧ Fine u ∧ VIn wr B u cu ∧
    Blk wr w.heap.size 25 cu.toArray ∧ Blk wr (w.heap.size + 1) 25 #[.int .i64 0, .int .i64 0, str [], .slice none 0 0, .slice none 0 0] ∧ Below w.heap.size w wr
theorem getAt_miss {k : List UInt8} {r : List (List UInt8)} {kd n : Int} {t : List UInt8} {ks : List (List UInt8)} {ps : List JV} (h : k ∉ ks) : getAt (k :: r) (.mk kd n t ks ps) = none := by rw [getAt, if_neg h]
theorem getAt_hit {k : List UInt8} {r : List (List UInt8)} {kd n : Int} {t : List UInt8} {ks : List (List UInt8)} {ps : List JV} (h : k ∈ ks) (hp : place ks k < ps.length) : getAt (k :: r) (.mk kd n t ks ps) = getAt r ps[place ks k] := by
  rw [getAt, if_pos h, List.getElem?_eq_getElem hp]
theorem set5_below {w : World} {B g : Nat} (h : B ≤ g) (b0 b1 b2 b3 b4 : Value) : Below B w (((((w.setCell ⟨g, 0, none⟩ b0).setCell ⟨g, 1, none⟩ b1).setCell ⟨g, 2, none⟩ b2).setCell ⟨g, 3, none⟩ b3).setCell ⟨g, 4, none⟩ b4) :=
  sl_below5 (Below.refl _ _) h _ _ _ _ _

set_option maxRecDepth 100000 in
set_option maxHeartbeats 4000000 in
theorem find_any (v : JV) (cs : List Value) (keys : List (List UInt8)) (A : Option Addr) (c : Nat) (w : World) (B : Nat) (hB : B ≤ w.heap.size) (hv : VIn w B v cs) (hfv : Fine v) (hh : Holds w w.heap.size 1 A keys.length (keys.map str)) (hl : keys.length ≤ 1048576) :
    Calls Tryz.prog 24 #[.agg cs.toArray, .slice A keys.length c] w (FindPost B (getAt keys v) w) := by
  obtain ⟨k, n, t, Ak, nk, ck, Ap, np, cp, rfl⟩ := hv.form
  have Hfv := Lib.hid hfv
  have Hv := Lib.hid hv
  have HW := Lib.hid (show Below w.heap.size w ((w.alloc (.cells #[.int .i64 k, .int .i64 n, str t, .slice Ak nk ck, .slice Ap np cp] 25)).alloc (.cells #[.int .i64 0, .int .i64 0, str [], .slice none 0 0, .slice none 0 0] 25)) from
    ((Below.refl _ _).alloc (Nat.le_refl _) _).alloc (by simp) _)
  have H1 := Lib.hid ((Blk.new w 25 #[.int .i64 k, .int .i64 n, str t, .slice Ak nk ck, .slice Ap np cp]).alloc (.cells #[.int .i64 0, .int .i64 0, str [], .slice none 0 0, .slice none 0 0] 25))
  have b2 := Blk.new (w.alloc (.cells #[.int .i64 k, .int .i64 n, str t, .slice Ak nk ck, .slice Ap np cp] 25)) 25 #[.int .i64 0, .int .i64 0, str [], .slice none 0 0, .slice none 0 0]
  rw [show (w.alloc (.cells #[.int .i64 k, .int .i64 n, str t, .slice Ak nk ck, .slice Ap np cp] 25)).heap.size = w.heap.size + 1 by simp] at b2
  have H2 := Lib.hid b2
  clear b2 hfv hv
  go_enter Tryz.func24, Tryz.ntmps24
  go_wp2_with fail
  go_loopg [12] keys.length (FindR keys v B w)
  case atStart => exact ⟨0, v, _, rfl, by omega, by omega, by simp, Hfv.out, Hv.out.below (HW.out.mono hB), H1.out, H2.out, HW.out⟩
  case round =>
    clear HW H1 H2 Hv Hfv
    obtain ⟨j, u, cu, rfl, hj, hgk, hget, hfu, hvu, hb1, hb2, hbw⟩ := hrel
    cases u with
    | mk k' n' t' ks ps =>
    have hvu' := hvu
    unfold VIn at hvu'
    obtain ⟨Ak', ck', Ap', cp', pc, rfl, hk1, hn1, ht, hks, hps, hkl, hck, hcp, hh1, hh2, hpin⟩ := hvu'
    obtain ⟨hle, hinc, hfps, _, _⟩ := fine_obj hfu
    have Hgk := Lib.hid hgk
    have Hget := Lib.hid hget
    have Hfu := Lib.hid hfu
    have Hvu := Lib.hid hvu
    have Hinc := Lib.hid hinc
    have Hfps := Lib.hid hfps
    have hsz : w.heap.size + 1 < wr.heap.size := hb2.lt
    obtain ⟨v0, v1, v2, v3, v4, f0, f1, f2, f3, f4⟩ := sl_box hb1
    obtain ⟨q0, q1, q2, q3, q4, r0, r1, r2, r3, r4⟩ := sl_box hb2
    clear hgk hget hfu hvu hinc hfps
    by_cases hlt : j < keys.length
    · obtain ⟨b, off, hkl1, rfl, hb, hc⟩ := (hh.below hbw).str hlt
      have Hdrop := Lib.hid (List.drop_eq_getElem_cons hkl1)
      generalize keys[j] = y at *
      go_wp2_with fail
      refine (bin_any Ak' ck' ks y _ B hh1 hks Hinc.out).mono ?_
      rintro e w1 ⟨rfl, q, rfl⟩
      by_cases hm : y ∈ ks
      · have hpk := place_in Hinc.out hm
        have hpp : place ks y < ps.length := by omega
        have Hg := Lib.hid (getAt_hit (r := keys.drop (j + 1)) (kd := k') (n := n') (t := t') hm hpp)
        have Hd := Lib.hid (show decide (y ∈ ks) = true from decide_eq_true hm)
        rw [Hd.out]
        have hh2q : Holds (wr.drewN q) B 5 Ap' ps.length pc := hh2
        have hpinq : PIn (wr.drewN q) B ps pc := hpin.below (below_drewN (Below.refl _ _) q)
        obtain ⟨bp, offp, k2, n2, t2, Ak2, nk2, ck2, Ap2, np2, cp2, rfl, hbp, hv2, x0, x1, x2, x3, x4⟩ := part_cells hh2q hpinq (place ks y) hpp
        have Hfp := Lib.hid (fines_at (i := place ks y) (p := ps[place ks y]) Hfps.out (List.getElem?_eq_getElem hpp))
        have Hv2 := Lib.hid hv2
        generalize ps[place ks y] = p at *
        generalize place ks y = m at *
        have hmI : (m : Int) < (ps.length : Int) := by omega
        clear hm hv2
        have c4 : (wr.drewN q).cell? ⟨w.heap.size, 4, none⟩ = some (.slice (some ⟨bp, offp, none⟩) ps.length cp') := v4
        have g0 : (wr.drewN q).cell? ⟨w.heap.size, 0, none⟩ = some (.int .i64 k') := v0
        have g1 : (wr.drewN q).cell? ⟨w.heap.size, 1, none⟩ = some (.int .i64 n') := v1
        have g2 : (wr.drewN q).cell? ⟨w.heap.size, 2, none⟩ = some (str t') := v2
        have g3 : (wr.drewN q).cell? ⟨w.heap.size, 3, none⟩ = some (.slice Ak' ks.length ck') := v3
        have e0 : (wr.drewN q).frozen? ⟨w.heap.size, 0, none⟩ = false := f0
        have e1 : (wr.drewN q).frozen? ⟨w.heap.size, 1, none⟩ = false := f1
        have e2 : (wr.drewN q).frozen? ⟨w.heap.size, 2, none⟩ = false := f2
        have e3 : (wr.drewN q).frozen? ⟨w.heap.size, 3, none⟩ = false := f3
        have e4 : (wr.drewN q).frozen? ⟨w.heap.size, 4, none⟩ = false := f4
        have hb1q : Blk (wr.drewN q) w.heap.size 25 #[.int .i64 k', .int .i64 n', str t', .slice Ak' ks.length ck', .slice (some ⟨bp, offp, none⟩) ps.length cp'] := hb1
        have hb2q : Blk (wr.drewN q) (w.heap.size + 1) 25 #[.int .i64 0, .int .i64 0, str [], .slice none 0 0, .slice none 0 0] := hb2
        have hbwq : Below w.heap.size w (wr.drewN q) := below_drewN hbw q
        clear v0 v1 v2 v3 v4 f0 f1 f2 f3 f4 q0 q1 q2 q3 q4 r0 r1 r2 r3 r4 hb1 hb2 hbw
        generalize wr.drewN q = W at *
        go_wp2_with fail
        go_roundg (keys.length - (j + 1))
        case measure => have := Hgk.out; omega
        case rel =>
          refine ⟨j + 1, p, [.int .i64 k2, .int .i64 n2, str t2, .slice Ak2 nk2 ck2, .slice Ap2 np2 cp2], by go_num, by omega, rfl, ?_, Hfp.out, Hv2.out.below (set5_below hB _ _ _ _ _), sl_set5 hb1q _ _ _ _ _, sl_far5 hb2q (by omega) _ _ _ _ _, sl_below5 hbwq (Nat.le_refl _) _ _ _ _ _⟩
          rw [← Hget.out, Hdrop.out, Hg.out]
      · have Hg := Lib.hid (getAt_miss (r := keys.drop (j + 1)) (kd := k') (n := n') (t := t') (ps := ps) hm)
        have Hd := Lib.hid (show decide (y ∈ ks) = false from decide_eq_false hm)
        rw [Hd.out]
        clear hm
        have g0 : (wr.drewN q).cell? ⟨w.heap.size + 1, 0, none⟩ = some (.int .i64 0) := q0
        have g1 : (wr.drewN q).cell? ⟨w.heap.size + 1, 1, none⟩ = some (.int .i64 0) := q1
        have g2 : (wr.drewN q).cell? ⟨w.heap.size + 1, 2, none⟩ = some (str []) := q2
        have g3 : (wr.drewN q).cell? ⟨w.heap.size + 1, 3, none⟩ = some (.slice none 0 0) := q3
        have g4 : (wr.drewN q).cell? ⟨w.heap.size + 1, 4, none⟩ = some (.slice none 0 0) := q4
        have e0 : (wr.drewN q).frozen? ⟨w.heap.size + 1, 0, none⟩ = false := r0
        have e1 : (wr.drewN q).frozen? ⟨w.heap.size + 1, 1, none⟩ = false := r1
        have e2 : (wr.drewN q).frozen? ⟨w.heap.size + 1, 2, none⟩ = false := r2
        have e3 : (wr.drewN q).frozen? ⟨w.heap.size + 1, 3, none⟩ = false := r3
        have e4 : (wr.drewN q).frozen? ⟨w.heap.size + 1, 4, none⟩ = false := r4
        have hb2q : Blk (wr.drewN q) (w.heap.size + 1) 25 #[.int .i64 0, .int .i64 0, str [], .slice none 0 0, .slice none 0 0] := hb2
        have hbwq : Below w.heap.size w (wr.drewN q) := below_drewN hbw q
        clear v0 v1 v2 v3 v4 f0 f1 f2 f3 f4 q0 q1 q2 q3 q4 r0 r1 r2 r3 r4 hb1 hb2 hbw
        generalize wr.drewN q = W at *
        go_wp2_with fail
        refine ret_v2 (by rfl) (by rfl) (by rfl) (sl_set5 hb2q _ _ _ _ _) (by rfl) ?_
        refine ⟨sl_below5 hbwq (by omega) _ _ _ _ _, .inl ⟨?_, rfl⟩⟩
        rw [← Hget.out, Hdrop.out, Hg.out]
    · have hjb : decide ((j : Int) < (keys.length : Int)) = false := by simp; omega
      have Hg := Lib.hid (show getAt keys v = some (.mk k' n' t' ks ps) by rw [← Hget.out, List.drop_of_length_le (by omega), getAt])
      go_wp2_with fail
      refine ret_v2 (by rfl) (by rfl) (by rfl) (sl_set5 hb2 _ _ _ _ _) (by rfl) ?_
      refine ⟨sl_below5 hbw (by omega) _ _ _ _ _, .inr ⟨_, [.int .i64 k', .int .i64 n', str t', .slice Ak' ks.length ck', .slice Ap' ps.length cp'], Hg.out, rfl, Hvu.out.below (set5_below (by omega) _ _ _ _ _), Hfu.out⟩⟩
end Go.Proofs.YtbdbcffnjibjoaaGreatDoor
