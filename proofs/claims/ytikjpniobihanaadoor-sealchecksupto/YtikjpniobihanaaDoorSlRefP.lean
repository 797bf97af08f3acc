/- partOf and sealNames of the reference: what each call returns. -/
import Derived.Test.YtikjpniobihanaaDoorSlRefT
namespace Go.Proofs.YtikjpniobihanaaDoor
set_option linter.unusedVariables false
set_option linter.unusedSimpArgs false
open Go.RowKit
attribute [local go_sem high] str_mk
theorem bless_irrefl : ∀ a : List UInt8, Op.bytesLess a a = false
  | [] => rfl
  | a :: r => by simp [Op.bytesLess, bless_irrefl r]
theorem incr_at : ∀ {ks : List (List UInt8)} {k : List UInt8} {j : Nat}, incr ks = true → ks[j]? = some k → place ks k = j
  | [], k, j, _, h => by simp at h
  | a :: r, k, 0, _, h => by
    simp at h; subst h
    rw [place_cons, if_neg (by simp [bless_irrefl])]
  | a :: r, k, j + 1, hi, h => by
    obtain ⟨h1, h2⟩ := incr_cons.1 hi
    have h' : r[j]? = some k := by simpa using h
    rw [place_cons, if_pos (h1 k (List.mem_of_getElem? h')), incr_at h2 h']
/-- A value whose keys may be looked up. -/
def PO (v : JV) : Prop := v.keys.length ≤ v.parts.length ∧ incr v.keys = true ∧ (v.keys ≠ [] → v.kind = 7)
theorem po_fine {v : JV} (h : Fine v) : PO v := by
  cases v with
  | mk k n t ks ps =>
    obtain ⟨h1, h2, _, _, h5⟩ := fine_obj h
    exact ⟨h1, h2, fun hk => Classical.byContradiction fun hc => hk (h5 hc)⟩
theorem po_zero : PO zeroJ := ⟨Nat.le_refl _, rfl, fun h => absurd rfl h⟩
def PartPost (B : Nat) (o : Option JV) (w : World) (e : Ending) (w' : World) : Prop :=
  Below w.heap.size w w' ∧ ((o = none ∧ e = .returned (.tuple #[.agg #[.int .i64 0, .int .i64 0, str [], .slice none 0 0, .slice none 0 0], .bool false])) ∨
    ∃ p cs', o = some p ∧ e = .returned (.tuple #[.agg cs'.toArray, .bool true]) ∧ VIn w' B p cs')
def PartR (ks : List (List UInt8)) (key : List UInt8) (cs : Array Value) (w : World) (gk : Nat) (i : Value) (wr : World) : Prop :=
  ∃ j : Nat, i = .int .i64 j ∧ j ≤ ks.length ∧ gk = ks.length - j ∧ key ∉ ks.take j ∧ Blk wr w.heap.size 25 cs ∧
    Blk wr (w.heap.size + 1) 25 #[.int .i64 0, .int .i64 0, str [], .slice none 0 0, .slice none 0 0] ∧ Below w.heap.size w wr
set_option maxRecDepth 100000 in
set_option maxHeartbeats 2000000 in
theorem partOf_any (v : JV) (cs : List Value) (key : List UInt8) (w : World) (B : Nat) (hB : B ≤ w.heap.size) (hv : VIn w B v cs) (hpo : PO v) :
    Calls Tryd.prog 31 #[.agg cs.toArray, str key] w (PartPost B (getAt [key] v) w) := by
  cases v with
  | mk k n t ks ps =>
  have hv' := hv
  unfold VIn at hv'
  obtain ⟨Ak, ck, Ap, cp, pc, rfl, hk1, hn1, ht, hks, hps, hkl, hck, hcp, hh1, hh2, hpin⟩ := hv'
  obtain ⟨p1, p2, p3⟩ := hpo
  have Hp1 := Lib.hid (show ks.length ≤ ps.length from p1)
  have Hp2 := Lib.hid (show incr ks = true from p2)
  have Hp3 := Lib.hid (show ks ≠ [] → k = 7 from p3)
  have HW := Lib.hid (show Below w.heap.size w ((w.alloc (.cells #[.int .i64 k, .int .i64 n, str t, .slice Ak ks.length ck, .slice Ap ps.length cp] 25)).alloc (.cells #[.int .i64 0, .int .i64 0, str [], .slice none 0 0, .slice none 0 0] 25)) from
    ((Below.refl _ _).alloc (Nat.le_refl _) _).alloc (by simp) _)
  have H1 := Lib.hid ((Blk.new w 25 #[.int .i64 k, .int .i64 n, str t, .slice Ak ks.length ck, .slice Ap ps.length cp]).alloc (.cells #[.int .i64 0, .int .i64 0, str [], .slice none 0 0, .slice none 0 0] 25))
  have b2 := Blk.new (w.alloc (.cells #[.int .i64 k, .int .i64 n, str t, .slice Ak ks.length ck, .slice Ap ps.length cp] 25)) 25 #[.int .i64 0, .int .i64 0, str [], .slice none 0 0, .slice none 0 0]
  rw [show (w.alloc (.cells #[.int .i64 k, .int .i64 n, str t, .slice Ak ks.length ck, .slice Ap ps.length cp] 25)).heap.size = w.heap.size + 1 by simp] at b2
  have H2 := Lib.hid b2
  clear b2 p1 p2 p3 hv
  go_enter Tryd.func31, Tryd.ntmps31
  go_wp2_with fail
  go_loopg [11] ks.length (PartR ks key #[.int .i64 k, .int .i64 n, str t, .slice Ak ks.length ck, .slice Ap ps.length cp] w)
  case atStart => exact ⟨0, rfl, by omega, by omega, by simp, H1.out, H2.out, HW.out⟩
  case round =>
    clear HW H1 H2
    obtain ⟨j, rfl, hj, hgk, hnot, hb1, hb2, hbw⟩ := hrel
    have Hgk := Lib.hid hgk
    have Hnot := Lib.hid hnot
    have hsz : w.heap.size + 1 < wr.heap.size := hb2.lt
    obtain ⟨v0, v1, v2, v3, v4, f0, f1, f2, f3, f4⟩ := sl_box hb1
    obtain ⟨q0, q1, q2, q3, q4, r0, r1, r2, r3, r4⟩ := sl_box hb2
    have hh2r := hh2.below (hbw.mono hB)
    have hpr := hpin.below (hbw.mono hB)
    clear hgk hnot
    by_cases hlt : j < ks.length
    · obtain ⟨b, off, hkl1, rfl, hb, hc⟩ := (hh1.below (hbw.mono hB)).str hlt
      have hltp : j < ps.length := by have := Hp1.out; omega
      by_cases hy : ks[j] = key
      · have hk7 : k = 7 := Hp3.out (by intro h; rw [h] at hlt; simp at hlt)
        subst hk7
        have hpl : place ks key = j := incr_at Hp2.out (by rw [List.getElem?_eq_getElem hkl1, hy])
        have Hg := Lib.hid (show getAt [key] (.mk 7 n t ks ps) = some ps[j] by
          have hm : key ∈ ks := by rw [← hy]; exact List.getElem_mem hkl1
          rw [getAt, if_pos hm, hpl, List.getElem?_eq_getElem hltp]; simp [getAt])
        obtain ⟨bp, offp, k2, n2, t2, Ak2, nk2, ck2, Ap2, np2, cp2, rfl, hbp, hv2, x0, x1, x2, x3, x4⟩ := part_cells hh2r hpr j hltp
        have Hv2 := Lib.hid hv2
        have hyb : (ks[j] == key) = true := by rw [hy]; simp
        generalize ks[j] = y at *
        generalize ps[j] = p at *
        have hjI : (j : Int) < (ps.length : Int) := by omega
        clear hv2 hpl hy
        go_wp2_with fail
        refine ret_v2 (by rfl) (by rfl) (by rfl) (sl_set5 hb2 _ _ _ _ _) (by rfl) ?_
        exact ⟨sl_below5 hbw (by omega) _ _ _ _ _, .inr ⟨p, [.int .i64 k2, .int .i64 n2, str t2, .slice Ak2 nk2 ck2, .slice Ap2 np2 cp2], Hg.out, rfl, Hv2.out.below (set5_below (by omega) _ _ _ _ _)⟩⟩
      · have hyb : (ks[j] == key) = false := by simpa using hy
        have Hs := Lib.hid (not_take_succ Hnot.out hkl1 (fun h => hy h.symm))
        generalize ks[j] = y at *
        clear hy
        go_wp2_with fail
        go_roundg (ks.length - (j + 1))
        case measure => have := Hgk.out; omega
        case rel => exact ⟨j + 1, by go_num, by omega, rfl, Hs.out, hb1, hb2, hbw⟩
    · have hjn : j = ks.length := by omega
      have Hg := Lib.hid (show getAt [key] (.mk k n t ks ps) = none by
        refine getAt_miss ?_
        have := Hnot.out; rw [hjn, List.take_length] at this; exact this)
      have hjb : decide ((j : Int) < (ks.length : Int)) = false := by simp; omega
      clear hjn
      go_wp2_with fail
      refine ret_v2 (by rfl) (by rfl) (by rfl) (sl_set5 hb2 _ _ _ _ _) (by rfl) ?_
      exact ⟨sl_below5 hbw (by omega) _ _ _ _ _, .inl ⟨Hg.out, rfl⟩⟩
set_option maxRecDepth 100000 in
theorem sealNames_any (u k : List UInt8) (w : World) (hu : u.length ≤ maxLen) (hk : k.length ≤ maxLen) :
    Calls Tryd.prog 30 #[str u, str k] w fun e w' => e = .returned (.bool (nameOk u k)) ∧ Below w.heap.size w w' := by
  go_enter Tryd.func30, Tryd.ntmps30
  go_wp2_with fail
  refine (refUser_any u _ hu).mono ?_
  rintro e w1 ⟨rfl, n1, rfl⟩
  obtain ⟨ua, ub, hua⟩ := pairV_form (user u)
  rw [hua]
  clear hua
  go_wp2_with fail
  refine (refKey_any k _ hk).mono ?_
  rintro e w2 ⟨rfl, n2, rfl⟩
  obtain ⟨ka, kb, hka⟩ := pairV_form (key k)
  rw [hka]
  clear hka
  have hbl : Below w.heap.size w (w.drewN (n1 + n2)) := below_drewN (Below.refl _ _) (n1 + n2)
  have Hbl := Lib.hid hbl
  clear hbl
  have HN := Lib.hid (show nameOk u k = ((user u).isSome && (key k).isSome) from rfl)
  cases h1 : (user u).isSome
  · have e1 : errOf (user u) = 4 := by unfold errOf; rw [h1]; rfl
    rw [e1]
    go_wp2_with fail
    go_ret
    exact ⟨ret_bool (by rw [HN.out, h1]; rfl), Hbl.out⟩
  · have e1 : errOf (user u) = 0 := by unfold errOf; rw [h1]; rfl
    rw [e1]
    cases h2 : (key k).isSome
    · have e2 : errOf (key k) = 4 := by unfold errOf; rw [h2]; rfl
      rw [e2]
      go_wp2_with fail
      go_ret
      exact ⟨ret_bool (by rw [HN.out, h1, h2]; rfl), Hbl.out⟩
    · have e2 : errOf (key k) = 0 := by unfold errOf; rw [h2]; rfl
      rw [e2]
      go_wp2_with fail
      go_ret
      exact ⟨ret_bool (by rw [HN.out, h1, h2]; rfl), Hbl.out⟩
end Go.Proofs.YtikjpniobihanaaDoor
