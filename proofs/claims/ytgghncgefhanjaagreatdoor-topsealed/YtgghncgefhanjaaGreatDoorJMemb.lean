/- json's reader: member, over what 'value' does. -/
import Derived.Test.YtgghncgefhanjaaGreatDoorJVal
namespace Go.Proofs.YtgghncgefhanjaaGreatDoor
set_option linter.unusedVariables false
set_option linter.unusedSimpArgs false
open Go.RowKit

/-- A key, a colon and a value. -/
def memR (n : Nat) (r : List UInt8) : Option (List UInt8 × JV × List UInt8) :=
  match r with
  | 34 :: r0 =>
    match strR r0 with
    | none => none
    | some (key, r1) =>
      match skip r1 with
      | 58 :: r2 => (pv n (skip r2)).map fun z => (key, z.1, z.2)
      | _ => none
  | _ => none
theorem memR_noquote {n : Nat} {r : List UInt8} (h : ¬ r.head? = some 34) : memR n r = none := by
  unfold memR
  split
  · simp at h
  · rfl
theorem memR_badStr {n : Nat} {r0 : List UInt8} (h : strR r0 = none) : memR n (34 :: r0) = none := by simp only [memR, h]
theorem memR_badColon {n : Nat} {r0 r1 key : List UInt8} (h : strR r0 = some (key, r1)) (h2 : ¬ (skip r1).head? = some 58) : memR n (34 :: r0) = none := by
  simp only [memR, h]
  split
  · rename_i e; rw [e] at h2; simp at h2
  · rfl
theorem memR_val {n : Nat} {r0 r1 r2 key : List UInt8} (h : strR r0 = some (key, r1)) (h2 : skip r1 = 58 :: r2) : memR n (34 :: r0) = (pv n (skip r2)).map fun z => (key, z.1, z.2) := by
  simp only [memR, h, h2]
/-- What the object's reader makes of a member. -/
theorem objL_memNone {n k : Nat} {ks : List (List UInt8)} {ps : List JV} {r : List UInt8} (h : memR n r = none) : objL (pv n) (k + 1) ks ps r = none := by
  by_cases h1 : r.head? = some 34
  · obtain ⟨r0, rfl⟩ := head_cons h1
    cases h2 : strR r0 with
    | none => exact objL_badStr h2
    | some x =>
      obtain ⟨key, r1⟩ := x
      by_cases h3 : (skip r1).head? = some 58
      · obtain ⟨r2, h3⟩ := head_cons h3
        rw [memR_val h2 h3] at h
        simp at h
        exact objL_badVal h2 h3 h
      · exact objL_badColon h2 h3
  · exact objL_noquote h1
theorem memR_some {n : Nat} {r key q : List UInt8} {v : JV} (h : memR n r = some (key, v, q)) : ∃ r0 r1 r2, r = 34 :: r0 ∧ strR r0 = some (key, r1) ∧ skip r1 = 58 :: r2 ∧ pv n (skip r2) = some (v, q) := by
  by_cases h1 : r.head? = some 34
  · obtain ⟨r0, rfl⟩ := head_cons h1
    cases h2 : strR r0 with
    | none => rw [memR_badStr h2] at h; cases h
    | some x =>
      obtain ⟨key', r1⟩ := x
      by_cases h3 : (skip r1).head? = some 58
      · obtain ⟨r2, h3⟩ := head_cons h3
        rw [memR_val h2 h3] at h
        simp only [Option.map_eq_some_iff] at h
        obtain ⟨z, hz, he⟩ := h
        simp at he
        obtain ⟨rfl, rfl, rfl⟩ := he
        exact ⟨r0, r1, r2, rfl, h2, h3, hz⟩
      · rw [memR_badColon h2 h3] at h; cases h
  · rw [memR_noquote h1] at h; cases h
theorem memR_len {n : Nat} {r key q : List UInt8} {v : JV} (h : memR n r = some (key, v, q)) : q.length < r.length ∧ key.length < r.length := by
  obtain ⟨r0, r1, r2, rfl, h1, h2, h3⟩ := memR_some h
  have e1 := strR_len _ _ _ h1
  have e2 := skip_cons_len h2
  have e3 := pv_shrinks n _ _ _ h3
  simp; omega

def MemPost (g : Nat) (s : List UInt8) (o : Option (List UInt8 × JV × List UInt8)) (w : World) (e : Ending) (w' : World) : Prop :=
  (∃ key v r cs, o = some (key, v, r) ∧ e = .returned (.tuple #[str key, .agg cs.toArray, .bool true]) ∧ VInS w' (newS w w') v cs ∧ Rd w' g s r ∧ w.grownBy w' (some g)) ∨
  (o = none ∧ ∃ key k n t Ak nk ck Ap np cp r, e = .returned (.tuple #[str key, .agg #[.int .i64 k, .int .i64 n, str t, .slice Ak nk ck, .slice Ap np cp], .bool false]) ∧ Rd w' g s r ∧ w.grownBy w' (some g))

theorem ret_mem {fn : Func} {R : Ending → World → Prop} {a : Act} {W : World} {g : Nat} {s0 s1 s2 : Tmp} {k b x0 x1 x2 x3 x4 : Value}
    (hf : fn.results = #[.tmp s0, .cell s1 25, .tmp s2]) (h0 : a.tmps.getD s0 undef = k) (h1 : a.tmps.getD s1 undef = .pointer (some ⟨g, 0, none⟩)) (h2 : a.tmps.getD s2 undef = b)
    (hb : Blk W g 25 #[x0, x1, x2, x3, x4]) (hd : a.defers = []) (hR : R (.returned (.tuple #[k, .agg #[x0, x1, x2, x3, x4], b])) W) : bodyPost Tryz.prog fn R .ret a W := by
  refine bodyPost_ret ?_ hd hR
  have c0 : W.cell? ⟨g, 0, none⟩ = some x0 := hb.cell 0
  have c1 : W.cell? ⟨g, 1, none⟩ = some x1 := hb.cell 1
  have c2 : W.cell? ⟨g, 2, none⟩ = some x2 := hb.cell 2
  have c3 : W.cell? ⟨g, 3, none⟩ = some x3 := hb.cell 3
  have c4 : W.cell? ⟨g, 4, none⟩ = some x4 := hb.cell 4
  simp only [Array.getD_eq_getD_getElem?] at h0 h1 h2
  simp [results, hf, h0, h1, h2, go_sem, c0, c1, c2, c3, c4]

theorem mem_yes {g : Nat} {s r key : List UInt8} {o : Option (List UInt8 × JV × List UInt8)} {w w1 w2 : World} {jv : JV} {b0 b1 b2 b3 b4 : Value} (ho : o = some (key, jv, r)) (hr : Rd w2 g s r) (hg : g < w.heap.size) (hon : w.grownBy w2 (some g))
    (h1 : w.heap.size < w1.heap.size) (hv : VInS w2 (newS w1 w2) jv [b0, b1, b2, b3, b4]) :
    MemPost g s o w (.returned (.tuple #[str key, .agg #[b0, b1, b2, b3, b4], .bool true])) (((((w2.setCell ⟨w.heap.size, 0, none⟩ b0).setCell ⟨w.heap.size, 1, none⟩ b1).setCell ⟨w.heap.size, 2, none⟩ b2).setCell ⟨w.heap.size, 3, none⟩ b3).setCell ⟨w.heap.size, 4, none⟩ b4) := by
  refine .inl ⟨key, jv, r, [b0, b1, b2, b3, b4], ho, rfl, ?_, hr.set5 (by omega) _ _ _ _ _, only_set5 hon (Nat.le_refl _) _ _ _ _ _⟩
  refine VInS.mono (fun b hb => ⟨?_, ?_⟩) _ _ (VInS.kept (fun p hp => cell_set5 (by have := hp.1; omega) _ _ _ _ _) _ _ hv)
  · have := hb.1; omega
  · rw [size_set5]; exact hb.2
theorem mem_no {g : Nat} {s r key : List UInt8} {o : Option (List UInt8 × JV × List UInt8)} {w w2 : World} {k n : Int} {t : List UInt8} {Ak : Option Addr} {nk ck : Nat} {Ap : Option Addr} {np cp : Nat} (ho : o = none) (hr : Rd w2 g s r) (hg : g < w.heap.size) (hon : w.grownBy w2 (some g)) :
    MemPost g s o w (.returned (.tuple #[str key, .agg #[.int .i64 k, .int .i64 n, str t, .slice Ak nk ck, .slice Ap np cp], .bool false])) (((((w2.setCell ⟨w.heap.size, 0, none⟩ (.int .i64 k)).setCell ⟨w.heap.size, 1, none⟩ (.int .i64 n)).setCell ⟨w.heap.size, 2, none⟩ (str t)).setCell ⟨w.heap.size, 3, none⟩ (.slice Ak nk ck)).setCell ⟨w.heap.size, 4, none⟩ (.slice Ap np cp)) :=
  .inr ⟨ho, key, k, n, t, Ak, nk, ck, Ap, np, cp, r, rfl, hr.set5 (by omega) _ _ _ _ _, only_set5 hon (Nat.le_refl _) _ _ _ _ _⟩

theorem MemPost.more {g : Nat} {s : List UInt8} {o : Option (List UInt8 × JV × List UInt8)} {w W : World} {e : Ending} (h : MemPost g s o w e W) (ob : Obj) : MemPost g s o w e (W.alloc ob).drew := by
  rcases h with ⟨key, v, r, cs, h1, h2, h3, h4, h5⟩ | ⟨h1, key, k, n, t, Ak, nk, ck, Ap, np, cp, r, h2, h4, h5⟩
  · refine .inl ⟨key, v, r, cs, h1, h2, ?_, h4.alloc ob, drewN_only (only_alloc h5 ob) 1⟩
    have h6 : VInS (W.alloc ob).drew (newS w W) v cs := VInS.kept (fun p hp => (show (W.alloc ob).drew.cell? p = W.cell? p from World.cell?_alloc_lt W ob p hp.2)) _ _ h3
    exact VInS.mono (fun b hb => ⟨hb.1, Nat.lt_of_lt_of_le hb.2 (show W.heap.size ≤ (W.alloc ob).heap.size by simp)⟩) _ _ h6
  · exact .inr ⟨h1, key, k, n, t, Ak, nk, ck, Ap, np, cp, r, h2, h4.alloc ob, drewN_only (only_alloc h5 ob) 1⟩
attribute [local go_sem high] str_mk
set_option maxRecDepth 100000 in
set_option maxHeartbeats 4000000 in
theorem member_any {P : List UInt8 → Prop} (n : Nat) (ih : ValOk P n) (g : Nat) (s r : List UInt8) (w : World) (hP : P s) (hr : Rd w g s r) (hs : s.length ≤ 1048000) (hrn : r.length < n) :
    Calls Tryz.prog 125 #[.pointer (some ⟨g, 0, none⟩)] w (MemPost g s (memR n r) w) := by
  have hg := hr.lt
  have hr0 := hr.alloc (.cells #[.int .i64 0, .int .i64 0, str [], .slice none 0 0, .slice none 0 0] 25)
  have hon0 := on_alloc w (.cells #[.int .i64 0, .int .i64 0, str [], .slice none 0 0, .slice none 0 0] 25) (some g)
  have hb0 := Blk.new w 25 #[.int .i64 0, .int .i64 0, str [], .slice none 0 0, .slice none 0 0]
  have hz0 : w.heap.size < (w.alloc (.cells #[.int .i64 0, .int .i64 0, str [], .slice none 0 0, .slice none 0 0] 25)).heap.size := by simp
  by_cases h34 : r.head? = some 34
  · obtain ⟨r0, rfl⟩ := head_cons h34
    clear h34
    have hl0 : r0.length + 1 < n := by simpa using hrn
    go_enter Tryz.func125, Tryz.ntmps125
    go_wp2_with fail
    refine (take_yes g s [34] r0 _ hr0 (by omega)).mono ?_
    rintro e x1 ⟨rfl, hr1, on1⟩
    go_wp2_with fail
    refine (restString_any g s r0 _ hr1 (by omega)).mono ?_
    intro e x2 ho
    rcases OPost.cases ho with ⟨key, r1, hst, rfl, hr2, on2⟩ | ⟨hst, r1, rfl, hr2, on2⟩
    · have on12 := only_trans on1 on2
      have hkl := strR_len _ _ _ hst
      clear on1 on2 hr1 ho
      simp only [strY]
      by_cases h58 : (skip r1).head? = some 58
      · obtain ⟨r2, h58⟩ := head_cons h58
        have Hm := Lib.hid (memR_val (n := n) hst h58)
        have hsl := skip_cons_len h58
        have H58 := Lib.hid h58
        clear hst h58
        go_wp2_with fail
        refine (mark_yes g s [58] r1 r2 _ hr2 H58.out (by omega)).mono ?_
        rintro e x3 ⟨rfl, hr3, on3⟩
        have on13 := only_trans on12 on3
        clear on12 on3 hr2
        have hz3 : w.heap.size < x3.heap.size := Nat.lt_of_lt_of_le hz0 on13.size
        go_wp2_with fail
        refine (ih g s (skip r2) _ hP hr3 hs (by omega)).mono ?_
        intro e x4 hv
        rcases hv with ⟨v, q, cs, hpv, rfl, hvin, hr4, on4⟩ | ⟨hpv, k, m, t, Ak, nk, ck, Ap, np, cp, q, rfl, hr4, on4⟩
        · obtain ⟨k, m, t, Ak, nk, ck, Ap, np, cp, rfl⟩ := hvin.form
          have Ha := Lib.hid (show memR n (34 :: r0) = some (key, v, q) by rw [Hm.out, hpv]; rfl)
          clear hpv Hm
          have on14 := only_trans on13 on4
          have hbx := hb0.grown on14 (ne_of_lt' hg)
          have hbv := Blk.new x4 25 #[.int .i64 k, .int .i64 m, str t, .slice Ak nk ck, .slice Ap np cp]
          have hz4 : w.heap.size < x4.heap.size := Nat.lt_of_lt_of_le hz3 on4.size
          have hne : ¬ x4.heap.size = w.heap.size := by omega
          obtain ⟨c0, c1, c2, c3, c4, f0, f1, f2, f3, f4⟩ := box_facts hbx
          obtain ⟨d0, d1, d2, d3, d4, _, _, _, _, _⟩ := box_facts hbv
          go_wp2_with fail
          go_region
          all_goals
            go_wp2_with fail
            refine ret_mem (by rfl) (by rfl) (by rfl) (by rfl) ((set5 hbx _ _ _ _ _).alloc _) (by rfl) ?_
            exact MemPost.more (mem_yes Ha.out hr4 hg (only_trans hon0 on14) hz3 hvin) _
        · have Ha := Lib.hid (show memR n (34 :: r0) = none by rw [Hm.out, hpv]; rfl)
          clear hpv Hm
          have on14 := only_trans on13 on4
          have hbx := hb0.grown on14 (ne_of_lt' hg)
          have hbv := Blk.new x4 25 #[.int .i64 k, .int .i64 m, str t, .slice Ak nk ck, .slice Ap np cp]
          have hz4 : w.heap.size < x4.heap.size := Nat.lt_of_lt_of_le hz3 on4.size
          have hne : ¬ x4.heap.size = w.heap.size := by omega
          obtain ⟨c0, c1, c2, c3, c4, f0, f1, f2, f3, f4⟩ := box_facts hbx
          obtain ⟨d0, d1, d2, d3, d4, _, _, _, _, _⟩ := box_facts hbv
          go_wp2_with fail
          go_region
          all_goals
            go_wp2_with fail
            refine ret_mem (by rfl) (by rfl) (by rfl) (by rfl) ((set5 hbx _ _ _ _ _).alloc _) (by rfl) ?_
            exact MemPost.more (mem_no Ha.out hr4 hg (only_trans hon0 on14)) _
      · have Ha := Lib.hid (memR_badColon (n := n) hst h58)
        have hno := hasPrefix_not h58
        clear hst h58
        go_wp2_with fail
        refine (mark_no g s [58] r1 _ hr2 hno (by omega)).mono ?_
        rintro e x3 ⟨rfl, hr3, on3⟩
        have on13 := only_trans on12 on3
        have hbx := hb0.grown on13 (ne_of_lt' hg)
        obtain ⟨c0, c1, c2, c3, c4, f0, f1, f2, f3, f4⟩ := box_facts hbx
        go_wp2_with fail
        refine ret_mem (by rfl) (by rfl) (by rfl) (by rfl) (set5 hbx _ _ _ _ _) (by rfl) ?_
        exact mem_no Ha.out hr3 hg (only_trans hon0 on13)
    · have Ha := Lib.hid (memR_badStr (n := n) hst)
      have on12 := only_trans on1 on2
      clear hst ho
      simp only [strN]
      have hbx := hb0.grown on12 (ne_of_lt' hg)
      obtain ⟨c0, c1, c2, c3, c4, f0, f1, f2, f3, f4⟩ := box_facts hbx
      go_wp2_with fail
      refine ret_mem (by rfl) (by rfl) (by rfl) (by rfl) (set5 hbx _ _ _ _ _) (by rfl) ?_
      exact mem_no Ha.out hr2 hg (only_trans hon0 on12)
  · have Hm := Lib.hid (memR_noquote (n := n) h34)
    have hno := hasPrefix_not h34
    clear h34
    go_enter Tryz.func125, Tryz.ntmps125
    go_wp2_with fail
    refine (take_no g s [34] r _ hr0 hno (by omega)).mono ?_
    rintro e x1 ⟨rfl, hr1, on1⟩
    have gr1 := only_trans hon0 on1
    have hbx := hb0.grown on1 (ne_of_lt' hg)
    obtain ⟨c0, c1, c2, c3, c4, f0, f1, f2, f3, f4⟩ := box_facts hbx
    go_wp2_with fail
    refine ret_mem (by rfl) (by rfl) (by rfl) (by rfl) (set5 hbx _ _ _ _ _) (by rfl) ?_
    exact mem_no Hm.out hr1 hg gr1
end Go.Proofs.YtgghncgefhanjaaGreatDoor
