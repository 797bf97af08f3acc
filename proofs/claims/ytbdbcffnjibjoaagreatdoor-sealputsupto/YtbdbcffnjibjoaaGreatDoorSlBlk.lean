/- seal.isBlocked: what the call returns. -/
import Derived.Test.YtbdbcffnjibjoaaGreatDoorSlFind
import Derived.Deep.RegionWith
import Derived.Deep.DeepFit
namespace Go.Proofs.YtbdbcffnjibjoaaGreatDoor
set_option linter.unusedVariables false
set_option linter.unusedSimpArgs false
open Go.RowKit
attribute [local go_sem high] str_mk
def blockedP (p : List (List UInt8)) (v : JV) : Bool := badAt (p.take 0) v || badAt (p.take 1) v || badAt (p.take 2) v
theorem path_len : Tryz.prog.arrayLen 32 = 3 := by kernel_rfl
theorem path_slice (g j : Nat) (hj : j ≤ 3) (W : World) : (Instr.sliceAt 32 (.pointer (some ⟨g, 0, none⟩)) none (some (.int .i64 (j : Int))) none).run Tryz.prog W = .ok (.slice (some ⟨g, 0, none⟩) j 3) W := by
  have hu : Tryz.prog.underlying 32 = some (.array 3 9) := by kernel_rfl
  obtain ⟨i0, hi0, hz0, hz1, hz2⟩ := info_parts sl_info_str
  simp [Instr.sliceAt, Instr.sureAddr, run_underlying hu, Instr.sliceBounds, run_sliceBound, sizeOf, typeInfo, hi0, (by omega : (j : Int) ≤ 3), Addr.add]
theorem find_none {v : JV} {cs : List Value} {keys : List (List UInt8)} {A : Option Addr} {c : Nat} {w : World} {B : Nat} (hB : B ≤ w.heap.size) (hv : VIn w B v cs) (hfv : Fine v) (hh : Holds w w.heap.size 1 A keys.length (keys.map str)) (hl : keys.length ≤ 1048576) (hg : getAt keys v = none) :
    Calls Tryz.prog 24 #[.agg cs.toArray, .slice A keys.length c] w fun e w' => e = .returned (.tuple #[.agg #[.int .i64 0, .int .i64 0, str [], .slice none 0 0, .slice none 0 0], .bool false]) ∧ Below w.heap.size w w' := by
  refine (find_any v cs keys A c w B hB hv hfv hh hl).mono ?_
  rintro e w' ⟨hb, ⟨_, rfl⟩ | ⟨p, cs', h, _⟩⟩
  · exact ⟨rfl, hb⟩
  · rw [hg] at h; cases h
def FoundPost (B : Nat) (p : JV) (w : World) (e : Ending) (w' : World) : Prop :=
  ∃ n2 t2 Ak2 nk2 ck2 Ap2 np2 cp2, e = .returned (.tuple #[.agg #[.int .i64 p.kind, .int .i64 n2, str t2, .slice Ak2 nk2 ck2, .slice Ap2 np2 cp2], .bool true]) ∧
    VIn w' B p [.int .i64 p.kind, .int .i64 n2, str t2, .slice Ak2 nk2 ck2, .slice Ap2 np2 cp2] ∧ Below w.heap.size w w'
theorem find_some {v p : JV} {cs : List Value} {keys : List (List UInt8)} {A : Option Addr} {c : Nat} {w : World} {B : Nat} (hB : B ≤ w.heap.size) (hv : VIn w B v cs) (hfv : Fine v) (hh : Holds w w.heap.size 1 A keys.length (keys.map str)) (hl : keys.length ≤ 1048576) (hg : getAt keys v = some p) :
    Calls Tryz.prog 24 #[.agg cs.toArray, .slice A keys.length c] w (FoundPost B p w) := by
  refine (find_any v cs keys A c w B hB hv hfv hh hl).mono ?_
  rintro e w' ⟨hb, ⟨h, _⟩ | ⟨p', cs', h, rfl, hv', _⟩⟩
  · rw [hg] at h; cases h
  · rw [hg] at h; injection h with h; subst h
    obtain ⟨k, n, t, Ak, nk, ck, Ap, np, cp, rfl⟩ := hv'.form
    have hk := hv'.kind
    subst hk
    exact ⟨n, t, Ak, nk, ck, Ap, np, cp, rfl, hv', hb⟩
theorem take3 (a b c : List UInt8) (j : Nat) (hj : j ≤ 3) : ([a, b, c].take j).length = j := by simp; omega
theorem path_holds {w : World} {g : Nat} {t : TypeId} {a b c : List UInt8} (h : Blk w g t #[str a, str b, str c]) (j : Nat) (hj : j ≤ 3) : Holds w w.heap.size 1 (some ⟨g, 0, none⟩) ([a, b, c].take j).length (([a, b, c].take j).map str) := by
  refine ⟨by simp, fun _ => ⟨g, 0, rfl, h.lt, fun i u hu => ?_⟩⟩
  rw [Nat.zero_add, h.cell i]
  rw [List.map_take, List.getElem?_take] at hu
  split at hu
  · simpa using hu
  · cases hu
theorem blocked_of {a b c : List UInt8} {v : JV} (h : ∀ m, m < 3 → badAt ([a, b, c].take m) v = false) : blockedP [a, b, c] v = false := by
  unfold blockedP; rw [h 0 (by omega), h 1 (by omega), h 2 (by omega)]; rfl
theorem blocked_at {a b c : List UInt8} {v : JV} {j : Nat} (hj : j < 3) (h : badAt ([a, b, c].take j) v = true) : blockedP [a, b, c] v = true := by
  unfold blockedP
  rcases (by omega : j = 0 ∨ j = 1 ∨ j = 2) with rfl | rfl | rfl
  · rw [h]; rfl
  · rw [h]; simp
  · rw [h]; simp
def BlkR (a b c : List UInt8) (v : JV) (cs : Array Value) (w : World) (gk : Nat) (i : Value) (wr : World) : Prop :=
  ∃ j : Nat, i = .int .i64 j ∧ j ≤ 3 ∧ gk = 3 - j ∧ (∀ m, m < j → badAt ([a, b, c].take m) v = false) ∧
    Blk wr w.heap.size 25 cs ∧ Blk wr (w.heap.size + 1) 32 #[str a, str b, str c] ∧ Below w.heap.size w wr
set_option maxRecDepth 100000 in
set_option maxHeartbeats 4000000 in
theorem isBlocked_any (v : JV) (cs : List Value) (a b c : List UInt8) (w : World) (B : Nat) (hB : B ≤ w.heap.size) (hv : VIn w B v cs) (hfv : Fine v) :
    Calls Tryz.prog 8 #[.agg cs.toArray, .agg #[str a, str b, str c]] w fun e w' => e = .returned (.bool (blockedP [a, b, c] v)) ∧ Below w.heap.size w w' := by
  obtain ⟨k, n, t, Ak, nk, ck, Ap, np, cp, rfl⟩ := hv.form
  have Hfv := Lib.hid hfv
  have Hv := Lib.hid hv
  have HW := Lib.hid (show Below w.heap.size w ((w.alloc (.cells #[.int .i64 k, .int .i64 n, str t, .slice Ak nk ck, .slice Ap np cp] 25)).alloc (.cells #[str a, str b, str c] 32)) from
    ((Below.refl _ _).alloc (Nat.le_refl _) _).alloc (by simp) _)
  have H1 := Lib.hid ((Blk.new w 25 #[.int .i64 k, .int .i64 n, str t, .slice Ak nk ck, .slice Ap np cp]).alloc (.cells #[str a, str b, str c] 32))
  have b2 := Blk.new (w.alloc (.cells #[.int .i64 k, .int .i64 n, str t, .slice Ak nk ck, .slice Ap np cp] 25)) 32 #[str a, str b, str c]
  rw [show (w.alloc (.cells #[.int .i64 k, .int .i64 n, str t, .slice Ak nk ck, .slice Ap np cp] 25)).heap.size = w.heap.size + 1 by simp] at b2
  have H2 := Lib.hid b2
  clear b2 hfv hv
  go_enter Tryz.func8, Tryz.ntmps8
  go_wp2_with fail
  go_loopg [8] 3 (BlkR a b c v #[.int .i64 k, .int .i64 n, str t, .slice Ak nk ck, .slice Ap np cp] w)
  case atStart => exact ⟨0, rfl, by omega, by omega, fun m h => absurd h (by omega), H1.out, H2.out, HW.out⟩
  case round =>
    clear HW H1 H2
    obtain ⟨j, rfl, hj, hgk, hall, hb1, hb2, hbw⟩ := hrel
    have Hgk := Lib.hid hgk
    have Hall := Lib.hid hall
    have hsz : w.heap.size + 1 < wr.heap.size := hb2.lt
    have hsz0 : w.heap.size < wr.heap.size := by omega
    obtain ⟨v0, v1, v2, v3, v4, f0, f1, f2, f3, f4⟩ := sl_box hb1
    clear hgk hall
    by_cases hlt : j < 3
    · have hltI : (j : Int) < 3 := by omega
      have hsl := path_slice (w.heap.size + 1) j (by omega)
      have hzA : Below wr.heap.size wr wr.drew := (Below.refl _ _).drew
      have hzB : Below wr.heap.size wr (wr.alloc (.cells #[.int .i64 0, .int .i64 0, str [], .slice none 0 0, .slice none 0 0] 25)).drew := ((Below.refl _ _).alloc (Nat.le_refl _) _).drew
      have hnB : Blk (wr.alloc (.cells #[.int .i64 0, .int .i64 0, str [], .slice none 0 0, .slice none 0 0] 25)).drew wr.heap.size 25 #[.int .i64 0, .int .i64 0, str [], .slice none 0 0, .slice none 0 0] := Blk.new wr _ _
      have hv1 : ∀ W, Below wr.heap.size wr W → B ≤ W.heap.size ∧ VIn W B v [.int .i64 k, .int .i64 n, str t, .slice Ak nk ck, .slice Ap np cp] ∧ Holds W W.heap.size 1 (some ⟨w.heap.size + 1, 0, none⟩) ([a, b, c].take j).length (([a, b, c].take j).map str) := by
        intro W hW
        have h1 : Below w.heap.size w W := hbw.trans (hW.mono hbw.size)
        exact ⟨Nat.le_trans hB h1.size, Hv.out.below (h1.mono hB), path_holds (hb2.below hW hb2.lt) j (by omega)⟩
      have Hn : getAt ([a, b, c].take j) v = none → ∀ W, Below wr.heap.size wr W → Calls Tryz.prog 24 #[.agg #[.int .i64 k, .int .i64 n, str t, .slice Ak nk ck, .slice Ap np cp], .slice (some ⟨w.heap.size + 1, 0, none⟩) j 3] W
          fun e w' => e = .returned (.tuple #[.agg #[.int .i64 0, .int .i64 0, str [], .slice none 0 0, .slice none 0 0], .bool false]) ∧ Below W.heap.size W w' ∧ Below wr.heap.size wr w' := by
        intro hg W hW
        have h := find_none (c := 3) (hv1 W hW).1 (hv1 W hW).2.1 Hfv.out (hv1 W hW).2.2 (by rw [take3 a b c j (by omega)]; omega) hg
        rw [take3 a b c j (by omega)] at h
        exact h.mono fun e w' ⟨h1, h2⟩ => ⟨h1, h2, hW.trans (h2.mono hW.size)⟩
      have Hs : ∀ p, getAt ([a, b, c].take j) v = some p → ∀ W, Below wr.heap.size wr W → Calls Tryz.prog 24 #[.agg #[.int .i64 k, .int .i64 n, str t, .slice Ak nk ck, .slice Ap np cp], .slice (some ⟨w.heap.size + 1, 0, none⟩) j 3] W
          fun e w' => ∃ n2 t2 Ak2 nk2 ck2 Ap2 np2 cp2, e = .returned (.tuple #[.agg #[.int .i64 p.kind, .int .i64 n2, str t2, .slice Ak2 nk2 ck2, .slice Ap2 np2 cp2], .bool true]) ∧ Below W.heap.size W w' ∧ Below wr.heap.size wr w' := by
        intro p hg W hW
        have h := find_some (p := p) (c := 3) (hv1 W hW).1 (hv1 W hW).2.1 Hfv.out (hv1 W hW).2.2 (by rw [take3 a b c j (by omega)]; omega) hg
        rw [take3 a b c j (by omega)] at h
        exact h.mono fun e w' ⟨n2, t2, Ak2, nk2, ck2, Ap2, np2, cp2, h1, _, h2⟩ => ⟨n2, t2, Ak2, nk2, ck2, Ap2, np2, cp2, h1, h2, hW.trans (h2.mono hW.size)⟩
      clear hv1
      have Hrel : badAt ([a, b, c].take j) v = false → ∀ W, Below wr.heap.size wr W → BlkR a b c v #[.int .i64 k, .int .i64 n, str t, .slice Ak nk ck, .slice Ap np cp] w (3 - (j + 1)) (.int .i64 ((j : Int) + 1)) W := by
        intro hbad W hW
        refine ⟨j + 1, by go_num, by omega, rfl, fun m hm => ?_, hb1.below hW hb1.lt, hb2.below hW hb2.lt, hbw.trans (hW.mono hbw.size)⟩
        rcases Nat.lt_succ_iff_lt_or_eq.1 hm with h | rfl
        · exact Hall.out m h
        · exact hbad
      cases hg : getAt ([a, b, c].take j) v with
      | none =>
        have HR := Lib.hid (Hrel (by unfold badAt; rw [hg]))
        have HFA := Lib.hid (Hn hg _ hzA)
        have HFB := Lib.hid (Hn hg _ hzB)
        clear Hn Hs hg Hrel
        go_wp2_with fail
        go_region_with (first
            | (go_at_call 24; go_fit (HFA.out); rintro e w1 ⟨rfl, hb3, hb4⟩)
            | (go_at_call 24; go_fit (HFB.out); rintro e w1 ⟨rfl, hb3, hb4⟩; have hbx := hnB.below hb3 (by simp); obtain ⟨s0, s1, s2, s3, s4, z0, z1, z2, z3, z4⟩ := sl_box hbx))
        all_goals
          go_wp2_with fail
          go_roundg (3 - (j + 1))
          case measure => have := Hgk.out; omega
          case rel => exact HR.out _ (by first | (have hB := s0; exact sl_below5 hb4 (Nat.le_refl _) _ _ _ _ _) | exact hb4.alloc hb4.size _)
      | some p =>
        have HFA := Lib.hid (Hs p hg _ hzA)
        have HFB := Lib.hid (Hs p hg _ hzB)
        by_cases h7 : p.kind = 7
        · have HR := Lib.hid (Hrel (by unfold badAt; rw [hg]; simp [h7]))
          rw [h7] at HFA HFB
          clear Hn Hs hg Hrel h7
          go_wp2_with fail
          go_region_with (first
              | (go_at_call 24; go_fit (HFA.out); rintro e w1 ⟨n2, t2, Ak2, nk2, ck2, Ap2, np2, cp2, rfl, hb3, hb4⟩)
              | (go_at_call 24; go_fit (HFB.out); rintro e w1 ⟨n2, t2, Ak2, nk2, ck2, Ap2, np2, cp2, rfl, hb3, hb4⟩; have hbx := hnB.below hb3 (by simp); obtain ⟨s0, s1, s2, s3, s4, z0, z1, z2, z3, z4⟩ := sl_box hbx))
          all_goals
            go_wp2_with fail
            go_roundg (3 - (j + 1))
            case measure => have := Hgk.out; omega
            case rel => exact HR.out _ (by first | (have hB := s0; exact sl_below5 hb4 (Nat.le_refl _) _ _ _ _ _) | exact hb4.alloc hb4.size _)
        · have HR := Lib.hid (blocked_at (a := a) (b := b) (c := c) (v := v) hlt (by unfold badAt; rw [hg]; simpa using h7))
          generalize p.kind = pk at *
          have h7b : (pk != 7) = true := by simpa using h7
          clear Hn Hs hg Hrel h7
          go_wp2_with fail
          go_region_with (first
              | (go_at_call 24; go_fit (HFA.out); rintro e w1 ⟨n2, t2, Ak2, nk2, ck2, Ap2, np2, cp2, rfl, hb3, hb4⟩)
              | (go_at_call 24; go_fit (HFB.out); rintro e w1 ⟨n2, t2, Ak2, nk2, ck2, Ap2, np2, cp2, rfl, hb3, hb4⟩; have hbx := hnB.below hb3 (by simp); obtain ⟨s0, s1, s2, s3, s4, z0, z1, z2, z3, z4⟩ := sl_box hbx))
          all_goals
            go_wp2_with fail
            go_ret
            exact ⟨ret_bool HR.out.symm, hbw.trans (show Below w.heap.size wr _ from (by first | (have hB := s0; exact (sl_below5 hb4 (Nat.le_refl _) _ _ _ _ _).mono hbw.size) | exact (hb4.alloc hb4.size _).mono hbw.size))⟩
    · have hjb : decide ((j : Int) < 3) = false := by simp; omega
      have Hb := Lib.hid (blocked_of (v := v) (a := a) (b := b) (c := c) (fun m hm => Hall.out m (by omega)))
      go_wp2_with fail
      go_ret
      exact ⟨ret_bool Hb.out.symm, hbw⟩
end Go.Proofs.YtbdbcffnjibjoaaGreatDoor
