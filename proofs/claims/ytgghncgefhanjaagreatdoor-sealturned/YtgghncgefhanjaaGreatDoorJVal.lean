/- json's reader: value, over restOfObject; read and Parse. -/
import Derived.Test.YtgghncgefhanjaaGreatDoorJArr
import Derived.Test.YtgghncgefhanjaaGreatDoorJNum
import Derived.Test.YtgghncgefhanjaaGreatDoorJText
namespace Go.Proofs.YtgghncgefhanjaaGreatDoor
set_option linter.unusedVariables false
set_option linter.unusedSimpArgs false
open Go.RowKit

def ObjPost (g : Nat) (s : List UInt8) (o : Option (List (List UInt8) × List JV × List UInt8)) (w : World) (e : Ending) (w' : World) : Prop :=
  (∃ ks ps r Ak ck Ap cp, o = some (ks, ps, r) ∧ e = .returned (.tuple #[.slice Ak ks.length ck, .slice Ap ps.length cp, .bool true]) ∧
    VInS w' (newS w w') (.mk 7 0 [] ks ps) [.int .i64 7, .int .i64 0, str [], .slice Ak ks.length ck, .slice Ap ps.length cp] ∧ Rd w' g s r ∧ w.grownBy w' (some g)) ∨
  (o = none ∧ ∃ r, e = .returned (.tuple #[.slice none 0 0, .slice none 0 0, .bool false]) ∧ Rd w' g s r ∧ w.grownBy w' (some g))
def ObjOk (s : List UInt8) (n : Nat) : Prop := ∀ (g : Nat) (r : List UInt8) (w : World), Rd w g s r → s.length ≤ 1048000 → r.length < n →
  Calls Tryz.prog 108 #[.pointer (some ⟨g, 0, none⟩)] w (ObjPost g s (objR n r) w)

theorem vin_word (w : World) (S : Nat → Prop) (k : Int) (hk : 1 ≤ k ∧ k ≤ 3) : VInS w S (.mk k 0 [] [] []) [.int .i64 k, .int .i64 0, str [], .slice none 0 0, .slice none 0 0] := by
  unfold VInS
  exact ⟨none, 0, none, 0, [], rfl, by omega, by omega, by simp, by simp, by simp, by simp, by simp, by simp, HoldsS.nil, HoldsS.nil, by unfold PInS; rfl⟩
theorem vin_num (w : World) (S : Nat → Prop) (n : Int) (hn : -9223372036854775808 ≤ n ∧ n ≤ 9223372036854775807) : VInS w S (.mk 4 n [] [] []) [.int .i64 4, .int .i64 n, str [], .slice none 0 0, .slice none 0 0] := by
  unfold VInS
  exact ⟨none, 0, none, 0, [], rfl, by omega, hn, by simp, by simp, by simp, by simp, by simp, by simp, HoldsS.nil, HoldsS.nil, by unfold PInS; rfl⟩
theorem vin_str (w : World) (S : Nat → Prop) (t : List UInt8) (ht : t.length ≤ 1048576) : VInS w S (.mk 5 0 t [] []) [.int .i64 5, .int .i64 0, str t, .slice none 0 0, .slice none 0 0] := by
  unfold VInS
  exact ⟨none, 0, none, 0, [], rfl, by omega, by omega, ht, by simp, by simp, by simp, by simp, by simp, HoldsS.nil, HoldsS.nil, by unfold PInS; rfl⟩

theorem set5 {w : World} {g : Nat} {t : TypeId} {a0 a1 a2 a3 a4 : Value} (h : Blk w g t #[a0, a1, a2, a3, a4]) (b0 b1 b2 b3 b4 : Value) :
    Blk (((((w.setCell ⟨g, 0, none⟩ b0).setCell ⟨g, 1, none⟩ b1).setCell ⟨g, 2, none⟩ b2).setCell ⟨g, 3, none⟩ b3).setCell ⟨g, 4, none⟩ b4) g t #[b0, b1, b2, b3, b4] :=
  ((((h.set_ 0 b0).set_ 1 b1).set_ 2 b2).set_ 3 b3).set_ 4 b4
theorem only_set5 {a w : World} {g g' : Nat} (h : a.grownBy w (some g)) (hg : a.heap.size ≤ g') (b0 b1 b2 b3 b4 : Value) :
    a.grownBy (((((w.setCell ⟨g', 0, none⟩ b0).setCell ⟨g', 1, none⟩ b1).setCell ⟨g', 2, none⟩ b2).setCell ⟨g', 3, none⟩ b3).setCell ⟨g', 4, none⟩ b4) (some g) :=
  only_setCell (only_setCell (only_setCell (only_setCell (only_setCell h (.inr hg) _) (.inr hg) _) (.inr hg) _) (.inr hg) _) (.inr hg) _
theorem below_set5 {a w : World} {B g' : Nat} (h : Below B a w) (hg : B ≤ g') (b0 b1 b2 b3 b4 : Value) :
    Below B a (((((w.setCell ⟨g', 0, none⟩ b0).setCell ⟨g', 1, none⟩ b1).setCell ⟨g', 2, none⟩ b2).setCell ⟨g', 3, none⟩ b3).setCell ⟨g', 4, none⟩ b4) :=
  ((((h.setCell hg _).setCell hg _).setCell hg _).setCell hg _).setCell hg _
theorem Rd.set5 {w : World} {g g' : Nat} {s r : List UInt8} (h : Rd w g s r) (hg : g ≠ g') (b0 b1 b2 b3 b4 : Value) :
    Rd (((((w.setCell ⟨g', 0, none⟩ b0).setCell ⟨g', 1, none⟩ b1).setCell ⟨g', 2, none⟩ b2).setCell ⟨g', 3, none⟩ b3).setCell ⟨g', 4, none⟩ b4) g s r := by
  obtain ⟨p, h1, h2, h3⟩ := h
  exact ⟨p, h1, h2, ((((h3.far (p := ⟨g', 0, none⟩) hg _).far (p := ⟨g', 1, none⟩) hg _).far (p := ⟨g', 2, none⟩) hg _).far (p := ⟨g', 3, none⟩) hg _).far (p := ⟨g', 4, none⟩) hg _⟩
theorem size_set5 (w : World) (g' : Nat) (b0 b1 b2 b3 b4 : Value) : (((((w.setCell ⟨g', 0, none⟩ b0).setCell ⟨g', 1, none⟩ b1).setCell ⟨g', 2, none⟩ b2).setCell ⟨g', 3, none⟩ b3).setCell ⟨g', 4, none⟩ b4).heap.size = w.heap.size := by simp [World.setCell]
theorem cell_set5 {w : World} {g' : Nat} {p : Addr} (hp : p.block ≠ g') (b0 b1 b2 b3 b4 : Value) : (((((w.setCell ⟨g', 0, none⟩ b0).setCell ⟨g', 1, none⟩ b1).setCell ⟨g', 2, none⟩ b2).setCell ⟨g', 3, none⟩ b3).setCell ⟨g', 4, none⟩ b4).cell? p = w.cell? p := by
  refine World.cell?_of_block ?_
  rw [Below.heap_setCell _ _ _ _ hp, Below.heap_setCell _ _ _ _ hp, Below.heap_setCell _ _ _ _ hp, Below.heap_setCell _ _ _ _ hp, Below.heap_setCell _ _ _ _ hp]
/-- The end of a function whose first result is a value in memory. -/
theorem ret_val {fn : Func} {R : Ending → World → Prop} {a : Act} {W : World} {g : Nat} {s1 s2 : Tmp} {b x0 x1 x2 x3 x4 : Value}
    (hf : fn.results = #[.cell s1 25, .tmp s2]) (h1 : a.tmps.getD s1 undef = .pointer (some ⟨g, 0, none⟩)) (h2 : a.tmps.getD s2 undef = b)
    (hb : Blk W g 25 #[x0, x1, x2, x3, x4]) (hd : a.defers = []) (hR : R (.returned (.tuple #[.agg #[x0, x1, x2, x3, x4], b])) W) : bodyPost Tryz.prog fn R .ret a W := by
  refine bodyPost_ret ?_ hd hR
  have c0 : W.cell? ⟨g, 0, none⟩ = some x0 := hb.cell 0
  have c1 : W.cell? ⟨g, 1, none⟩ = some x1 := hb.cell 1
  have c2 : W.cell? ⟨g, 2, none⟩ = some x2 := hb.cell 2
  have c3 : W.cell? ⟨g, 3, none⟩ = some x3 := hb.cell 3
  have c4 : W.cell? ⟨g, 4, none⟩ = some x4 := hb.cell 4
  simp only [Array.getD_eq_getD_getElem?] at h1 h2
  simp [results, hf, h1, h2, go_sem, c0, c1, c2, c3, c4]
/-- The cells of a box, as the walk asks for them. -/
theorem box_facts {w : World} {g : Nat} {t : TypeId} {a0 a1 a2 a3 a4 : Value} (h : Blk w g t #[a0, a1, a2, a3, a4]) :
    w.cell? ⟨g, 0, none⟩ = some a0 ∧ w.cell? ⟨g, 1, none⟩ = some a1 ∧ w.cell? ⟨g, 2, none⟩ = some a2 ∧ w.cell? ⟨g, 3, none⟩ = some a3 ∧ w.cell? ⟨g, 4, none⟩ = some a4 ∧
    w.frozen? ⟨g, 0, none⟩ = false ∧ w.frozen? ⟨g, 1, none⟩ = false ∧ w.frozen? ⟨g, 2, none⟩ = false ∧ w.frozen? ⟨g, 3, none⟩ = false ∧ w.frozen? ⟨g, 4, none⟩ = false :=
  ⟨h.cell 0, h.cell 1, h.cell 2, h.cell 3, h.cell 4, h.frozen 0, h.frozen 1, h.frozen 2, h.frozen 3, h.frozen 4⟩
theorem ne_of_lt' {g h : Nat} (hl : g < h) : (some h : Option Nat) ≠ some g := by intro e; injection e; omega
/-- A value with no memory of its own. -/
theorem val_yes {g : Nat} {s r : List UInt8} {o : Option (JV × List UInt8)} {w w2 : World} {jv : JV} {b0 b1 b2 b3 b4 : Value} (ho : o = some (jv, r)) (hr : Rd w2 g s r) (hg : g < w.heap.size) (hon : w.grownBy w2 (some g))
    (hv : ∀ W S, VInS W S jv [b0, b1, b2, b3, b4]) :
    ValPost g s o w (.returned (.tuple #[.agg #[b0, b1, b2, b3, b4], .bool true])) (((((w2.setCell ⟨w.heap.size, 0, none⟩ b0).setCell ⟨w.heap.size, 1, none⟩ b1).setCell ⟨w.heap.size, 2, none⟩ b2).setCell ⟨w.heap.size, 3, none⟩ b3).setCell ⟨w.heap.size, 4, none⟩ b4) :=
  .inl ⟨jv, r, [b0, b1, b2, b3, b4], ho, rfl, hv _ _, hr.set5 (by omega) _ _ _ _ _, only_set5 hon (Nat.le_refl _) _ _ _ _ _⟩
/-- One with memory that has been made since w1. -/
theorem val_mem {g : Nat} {s r : List UInt8} {o : Option (JV × List UInt8)} {w w1 w2 : World} {jv : JV} {b0 b1 b2 b3 b4 : Value} (ho : o = some (jv, r)) (hr : Rd w2 g s r) (hg : g < w.heap.size) (hon : w.grownBy w2 (some g))
    (h1 : w.heap.size < w1.heap.size) (hv : VInS w2 (newS w1 w2) jv [b0, b1, b2, b3, b4]) :
    ValPost g s o w (.returned (.tuple #[.agg #[b0, b1, b2, b3, b4], .bool true])) (((((w2.setCell ⟨w.heap.size, 0, none⟩ b0).setCell ⟨w.heap.size, 1, none⟩ b1).setCell ⟨w.heap.size, 2, none⟩ b2).setCell ⟨w.heap.size, 3, none⟩ b3).setCell ⟨w.heap.size, 4, none⟩ b4) := by
  refine .inl ⟨jv, r, [b0, b1, b2, b3, b4], ho, rfl, ?_, hr.set5 (by omega) _ _ _ _ _, only_set5 hon (Nat.le_refl _) _ _ _ _ _⟩
  refine VInS.mono (fun b hb => ⟨?_, ?_⟩) _ _ (VInS.kept (fun p hp => cell_set5 (by have := hp.1; omega) _ _ _ _ _) _ _ hv)
  · have := hb.1; omega
  · rw [size_set5]; exact hb.2
theorem val_no {g : Nat} {s r : List UInt8} {o : Option (JV × List UInt8)} {w w2 : World} {k n : Int} {t : List UInt8} {Ak : Option Addr} {nk ck : Nat} {Ap : Option Addr} {np cp : Nat} (ho : o = none) (hr : Rd w2 g s r) (hg : g < w.heap.size) (hon : w.grownBy w2 (some g)) :
    ValPost g s o w (.returned (.tuple #[.agg #[.int .i64 k, .int .i64 n, str t, .slice Ak nk ck, .slice Ap np cp], .bool false])) (((((w2.setCell ⟨w.heap.size, 0, none⟩ (.int .i64 k)).setCell ⟨w.heap.size, 1, none⟩ (.int .i64 n)).setCell ⟨w.heap.size, 2, none⟩ (str t)).setCell ⟨w.heap.size, 3, none⟩ (.slice Ak nk ck)).setCell ⟨w.heap.size, 4, none⟩ (.slice Ap np cp)) :=
  .inr ⟨ho, k, n, t, Ak, nk, ck, Ap, np, cp, r, rfl, hr.set5 (by omega) _ _ _ _ _, only_set5 hon (Nat.le_refl _) _ _ _ _ _⟩
theorem on_alloc (w : World) (o : Obj) (g : Option Nat) : w.grownBy (w.alloc o) g := only_alloc (World.grownBy.refl _ _) _

attribute [local go_sem high] str_mk
section
variable (n g : Nat) (s r : List UInt8) (w : World) (hr : Rd w g s r) (hs : s.length ≤ 1048000)
include hr hs
set_option maxRecDepth 100000 in
set_option maxHeartbeats 4000000 in
theorem value_null  (h1 : Lib.hasPrefix r tNull = true) :
    Calls Tryz.prog 79 #[.pointer (some ⟨g, 0, none⟩)] w (ValPost g s (pv (n + 1) r) w) := by
  have Hp := Lib.hid (pv_null (n := n) h1)
  obtain ⟨q, hq⟩ := hasPrefix_len h1
  have Hq := Lib.hid (show pv (n + 1) r = some (.mk 1 0 [] [] [], q) by rw [Hp.out, hq]; rfl)
  have HQ := Lib.hid hq
  clear Hp hq
  have hg := hr.lt
  go_enter Tryz.func79, Tryz.ntmps79
  go_wp2_with fail
  have hr0 := hr.alloc (.cells #[.int .i64 0, .int .i64 0, str [], .slice none 0 0, .slice none 0 0] 25)
  have hon0 := on_alloc w (.cells #[.int .i64 0, .int .i64 0, str [], .slice none 0 0, .slice none 0 0] 25) (some g)
  have hb0 := Blk.new w 25 #[.int .i64 0, .int .i64 0, str [], .slice none 0 0, .slice none 0 0]
  have hz0 : w.heap.size < (w.alloc (.cells #[.int .i64 0, .int .i64 0, str [], .slice none 0 0, .slice none 0 0] 25)).heap.size := by simp
  have gr0 := World.grownBy.refl (w.alloc (.cells #[.int .i64 0, .int .i64 0, str [], .slice none 0 0, .slice none 0 0] 25)) (some g)
  rw [HQ.out] at hr0
  refine (take_yes g s tNull q _ hr0 (by omega)).mono ?_
  rintro e x9 ⟨rfl, hr9, on9⟩
  have gr9 := only_trans gr0 on9
  have hbx := hb0.grown gr9 (ne_of_lt' hg)
  obtain ⟨c0, c1, c2, c3, c4, f0, f1, f2, f3, f4⟩ := box_facts hbx
  go_wp2_with fail
  refine ret_val (by rfl) (by rfl) (by rfl) (set5 hbx _ _ _ _ _) (by rfl) ?_
  exact val_yes Hq.out hr9 hg (only_trans hon0 gr9) fun W S => vin_word W S 1 (by omega)
set_option maxRecDepth 100000 in
set_option maxHeartbeats 4000000 in
theorem value_false (h1 : Lib.hasPrefix r tNull = false) (h2 : Lib.hasPrefix r tFalse = true) :
    Calls Tryz.prog 79 #[.pointer (some ⟨g, 0, none⟩)] w (ValPost g s (pv (n + 1) r) w) := by
  have Hp := Lib.hid (pv_false (n := n) h1 h2)
  obtain ⟨q, hq⟩ := hasPrefix_len h2
  have Hq := Lib.hid (show pv (n + 1) r = some (.mk 2 0 [] [] [], q) by rw [Hp.out, hq]; rfl)
  have HQ := Lib.hid hq
  clear Hp hq
  have hg := hr.lt
  go_enter Tryz.func79, Tryz.ntmps79
  go_wp2_with fail
  have hr0 := hr.alloc (.cells #[.int .i64 0, .int .i64 0, str [], .slice none 0 0, .slice none 0 0] 25)
  have hon0 := on_alloc w (.cells #[.int .i64 0, .int .i64 0, str [], .slice none 0 0, .slice none 0 0] 25) (some g)
  have hb0 := Blk.new w 25 #[.int .i64 0, .int .i64 0, str [], .slice none 0 0, .slice none 0 0]
  have hz0 : w.heap.size < (w.alloc (.cells #[.int .i64 0, .int .i64 0, str [], .slice none 0 0, .slice none 0 0] 25)).heap.size := by simp
  have gr0 := World.grownBy.refl (w.alloc (.cells #[.int .i64 0, .int .i64 0, str [], .slice none 0 0, .slice none 0 0] 25)) (some g)
  refine (take_no g s tNull r _ hr0 h1 (by omega)).mono ?_
  rintro e x1 ⟨rfl, hr1, on1⟩
  have gr1 := only_trans gr0 on1
  clear on1
  go_wp2_with fail
  rw [HQ.out] at hr1
  refine (take_yes g s tFalse q _ hr1 (by omega)).mono ?_
  rintro e x9 ⟨rfl, hr9, on9⟩
  have gr9 := only_trans gr1 on9
  have hbx := hb0.grown gr9 (ne_of_lt' hg)
  obtain ⟨c0, c1, c2, c3, c4, f0, f1, f2, f3, f4⟩ := box_facts hbx
  go_wp2_with fail
  refine ret_val (by rfl) (by rfl) (by rfl) (set5 hbx _ _ _ _ _) (by rfl) ?_
  exact val_yes Hq.out hr9 hg (only_trans hon0 gr9) fun W S => vin_word W S 2 (by omega)
set_option maxRecDepth 100000 in
set_option maxHeartbeats 4000000 in
theorem value_true (h1 : Lib.hasPrefix r tNull = false) (h2 : Lib.hasPrefix r tFalse = false) (h3 : Lib.hasPrefix r tTrue = true) :
    Calls Tryz.prog 79 #[.pointer (some ⟨g, 0, none⟩)] w (ValPost g s (pv (n + 1) r) w) := by
  have Hp := Lib.hid (pv_true (n := n) h1 h2 h3)
  obtain ⟨q, hq⟩ := hasPrefix_len h3
  have Hq := Lib.hid (show pv (n + 1) r = some (.mk 3 0 [] [] [], q) by rw [Hp.out, hq]; rfl)
  have HQ := Lib.hid hq
  clear Hp hq
  have hg := hr.lt
  go_enter Tryz.func79, Tryz.ntmps79
  go_wp2_with fail
  have hr0 := hr.alloc (.cells #[.int .i64 0, .int .i64 0, str [], .slice none 0 0, .slice none 0 0] 25)
  have hon0 := on_alloc w (.cells #[.int .i64 0, .int .i64 0, str [], .slice none 0 0, .slice none 0 0] 25) (some g)
  have hb0 := Blk.new w 25 #[.int .i64 0, .int .i64 0, str [], .slice none 0 0, .slice none 0 0]
  have hz0 : w.heap.size < (w.alloc (.cells #[.int .i64 0, .int .i64 0, str [], .slice none 0 0, .slice none 0 0] 25)).heap.size := by simp
  have gr0 := World.grownBy.refl (w.alloc (.cells #[.int .i64 0, .int .i64 0, str [], .slice none 0 0, .slice none 0 0] 25)) (some g)
  refine (take_no g s tNull r _ hr0 h1 (by omega)).mono ?_
  rintro e x1 ⟨rfl, hr1, on1⟩
  have gr1 := only_trans gr0 on1
  clear on1
  go_wp2_with fail
  refine (take_no g s tFalse r _ hr1 h2 (by omega)).mono ?_
  rintro e x2 ⟨rfl, hr2, on2⟩
  have gr2 := only_trans gr1 on2
  clear on2
  go_wp2_with fail
  rw [HQ.out] at hr2
  refine (take_yes g s tTrue q _ hr2 (by omega)).mono ?_
  rintro e x9 ⟨rfl, hr9, on9⟩
  have gr9 := only_trans gr2 on9
  have hbx := hb0.grown gr9 (ne_of_lt' hg)
  obtain ⟨c0, c1, c2, c3, c4, f0, f1, f2, f3, f4⟩ := box_facts hbx
  go_wp2_with fail
  refine ret_val (by rfl) (by rfl) (by rfl) (set5 hbx _ _ _ _ _) (by rfl) ?_
  exact val_yes Hq.out hr9 hg (only_trans hon0 gr9) fun W S => vin_word W S 3 (by omega)
set_option maxRecDepth 100000 in
set_option maxHeartbeats 4000000 in
theorem value_string (h1 : Lib.hasPrefix r tNull = false) (h2 : Lib.hasPrefix r tFalse = false) (h3 : Lib.hasPrefix r tTrue = false) (h4 : Lib.hasPrefix r [34] = true) :
    Calls Tryz.prog 79 #[.pointer (some ⟨g, 0, none⟩)] w (ValPost g s (pv (n + 1) r) w) := by
  have Hp := Lib.hid (pv_str (n := n) h1 h2 h3 h4)
  obtain ⟨q, hq⟩ := hasPrefix_len h4
  have Hq := Lib.hid (show pv (n + 1) r = (strR q).map fun z => (.mk 5 0 z.1 [] [], z.2) by rw [Hp.out, hq]; rfl)
  have HQ := Lib.hid hq
  have hrl := hr.le
  clear Hp hq
  have hg := hr.lt
  go_enter Tryz.func79, Tryz.ntmps79
  go_wp2_with fail
  have hr0 := hr.alloc (.cells #[.int .i64 0, .int .i64 0, str [], .slice none 0 0, .slice none 0 0] 25)
  have hon0 := on_alloc w (.cells #[.int .i64 0, .int .i64 0, str [], .slice none 0 0, .slice none 0 0] 25) (some g)
  have hb0 := Blk.new w 25 #[.int .i64 0, .int .i64 0, str [], .slice none 0 0, .slice none 0 0]
  have hz0 : w.heap.size < (w.alloc (.cells #[.int .i64 0, .int .i64 0, str [], .slice none 0 0, .slice none 0 0] 25)).heap.size := by simp
  have gr0 := World.grownBy.refl (w.alloc (.cells #[.int .i64 0, .int .i64 0, str [], .slice none 0 0, .slice none 0 0] 25)) (some g)
  refine (take_no g s tNull r _ hr0 h1 (by omega)).mono ?_
  rintro e x1 ⟨rfl, hr1, on1⟩
  have gr1 := only_trans gr0 on1
  clear on1
  go_wp2_with fail
  refine (take_no g s tFalse r _ hr1 h2 (by omega)).mono ?_
  rintro e x2 ⟨rfl, hr2, on2⟩
  have gr2 := only_trans gr1 on2
  clear on2
  go_wp2_with fail
  refine (take_no g s tTrue r _ hr2 h3 (by omega)).mono ?_
  rintro e x3 ⟨rfl, hr3, on3⟩
  have gr3 := only_trans gr2 on3
  clear on3
  go_wp2_with fail
  rw [HQ.out] at hr3
  refine (take_yes g s [34] q _ hr3 (by omega)).mono ?_
  rintro e x4 ⟨rfl, hr4, on4⟩
  have gr4 := only_trans gr3 on4
  clear on4
  go_wp2_with fail
  refine (restString_any g s q _ hr4 hs).mono ?_
  intro e x9 ho
  have hql := hr4.le
  rcases ho.cases with ⟨t, q9, ha, rfl, hr9, on9⟩ | ⟨ha, q9, rfl, hr9, on9⟩
  · unfold strY
    obtain ⟨tb, htb⟩ := str_open t
    rw [htb]
    have Htb := Lib.hid htb
    clear htb
    have hl := strR_len _ _ _ ha
    have Ha := Lib.hid (show pv (n + 1) r = some (.mk 5 0 t [] [], q9) by rw [Hq.out, ha]; rfl)
    clear ha ho Hq
    have gr9 := only_trans gr4 on9
    have hbx := hb0.grown gr9 (ne_of_lt' hg)
    obtain ⟨c0, c1, c2, c3, c4, f0, f1, f2, f3, f4⟩ := box_facts hbx
    go_wp2_with fail
    refine ret_val (by rfl) (by rfl) (by rfl) (set5 hbx _ _ _ _ _) (by rfl) ?_
    exact val_yes Ha.out hr9 hg (only_trans hon0 gr9) fun W S => by rw [← Htb.out]; exact vin_str W S t (by omega)
  · unfold strN
    have Ha := Lib.hid (show pv (n + 1) r = none by rw [Hq.out, ha]; rfl)
    clear ha ho Hq
    have gr9 := only_trans gr4 on9
    have hbx := hb0.grown gr9 (ne_of_lt' hg)
    obtain ⟨c0, c1, c2, c3, c4, f0, f1, f2, f3, f4⟩ := box_facts hbx
    go_wp2_with fail
    refine ret_val (by rfl) (by rfl) (by rfl) (set5 hbx _ _ _ _ _) (by rfl) ?_
    exact val_no Ha.out hr9 hg (only_trans hon0 gr9)
set_option maxRecDepth 100000 in
set_option maxHeartbeats 4000000 in
theorem value_array {P : List UInt8 → Prop} (ih : ValOk P n) (hP : P s) (hrn : r.length < n + 1) (h1 : Lib.hasPrefix r tNull = false) (h2 : Lib.hasPrefix r tFalse = false) (h3 : Lib.hasPrefix r tTrue = false) (h4 : Lib.hasPrefix r [34] = false) (r1 : List UInt8) (h5 : skip r = 91 :: r1) :
    Calls Tryz.prog 79 #[.pointer (some ⟨g, 0, none⟩)] w (ValPost g s (pv (n + 1) r) w) := by
  have Hq := Lib.hid (pv_arr (n := n) h1 h2 h3 h4 h5)
  have H5 := Lib.hid h5
  have hl1 := skip_cons_len h5
  have Hsk := Lib.hid (show arrR n (skip r1) = arrR n r1 by unfold arrR; rw [skip_skip])
  clear h5
  have hg := hr.lt
  go_enter Tryz.func79, Tryz.ntmps79
  go_wp2_with fail
  have hr0 := hr.alloc (.cells #[.int .i64 0, .int .i64 0, str [], .slice none 0 0, .slice none 0 0] 25)
  have hon0 := on_alloc w (.cells #[.int .i64 0, .int .i64 0, str [], .slice none 0 0, .slice none 0 0] 25) (some g)
  have hb0 := Blk.new w 25 #[.int .i64 0, .int .i64 0, str [], .slice none 0 0, .slice none 0 0]
  have hz0 : w.heap.size < (w.alloc (.cells #[.int .i64 0, .int .i64 0, str [], .slice none 0 0, .slice none 0 0] 25)).heap.size := by simp
  have gr0 := World.grownBy.refl (w.alloc (.cells #[.int .i64 0, .int .i64 0, str [], .slice none 0 0, .slice none 0 0] 25)) (some g)
  refine (take_no g s tNull r _ hr0 h1 (by omega)).mono ?_
  rintro e x1 ⟨rfl, hr1, on1⟩
  have gr1 := only_trans gr0 on1
  clear on1
  go_wp2_with fail
  refine (take_no g s tFalse r _ hr1 h2 (by omega)).mono ?_
  rintro e x2 ⟨rfl, hr2, on2⟩
  have gr2 := only_trans gr1 on2
  clear on2
  go_wp2_with fail
  refine (take_no g s tTrue r _ hr2 h3 (by omega)).mono ?_
  rintro e x3 ⟨rfl, hr3, on3⟩
  have gr3 := only_trans gr2 on3
  clear on3
  go_wp2_with fail
  refine (take_no g s [34] r _ hr3 h4 (by omega)).mono ?_
  rintro e x4 ⟨rfl, hr4, on4⟩
  have gr4 := only_trans gr3 on4
  clear on4
  go_wp2_with fail
  refine (mark_yes g s [91] r r1 _ hr4 H5.out (by omega)).mono ?_
  rintro e x5 ⟨rfl, hr5, on5⟩
  have gr5 := only_trans gr4 on5
  clear on5
  go_wp2_with fail
  refine (array_read n ih g s (skip r1) _ hP hr5 hs (by omega)).mono ?_
  intro e x9 ho
  rcases ho with ⟨ps, q9, A, c, ha, rfl, hown, hpl, hr9, on9⟩ | ⟨ha, q9, rfl, hr9, on9⟩
  · have Ha := Lib.hid (show pv (n + 1) r = some (.mk 6 0 [] [] ps, q9) by rw [Hq.out, ← Hsk.out, ha]; rfl)
    have hz5 : w.heap.size < x5.heap.size := Nat.lt_of_lt_of_le hz0 gr5.size
    clear ha Hq
    have gr9 := only_trans gr5 on9
    have hbx := hb0.grown gr9 (ne_of_lt' hg)
    obtain ⟨c0, c1, c2, c3, c4, f0, f1, f2, f3, f4⟩ := box_facts hbx
    go_wp2_with fail
    refine ret_val (by rfl) (by rfl) (by rfl) (set5 hbx _ _ _ _ _) (by rfl) ?_
    exact val_mem Ha.out hr9 hg (only_trans hon0 gr9) hz5 (hown.value (by omega))
  · have Ha := Lib.hid (show pv (n + 1) r = none by rw [Hq.out, ← Hsk.out, ha]; rfl)
    clear ha Hq
    have gr9 := only_trans gr5 on9
    have hbx := hb0.grown gr9 (ne_of_lt' hg)
    obtain ⟨c0, c1, c2, c3, c4, f0, f1, f2, f3, f4⟩ := box_facts hbx
    go_wp2_with fail
    refine ret_val (by rfl) (by rfl) (by rfl) (set5 hbx _ _ _ _ _) (by rfl) ?_
    exact val_no Ha.out hr9 hg (only_trans hon0 gr9)
set_option maxRecDepth 100000 in
set_option maxHeartbeats 4000000 in
theorem value_object (hobj : ObjOk s n) (hrn : r.length < n + 1) (h1 : Lib.hasPrefix r tNull = false) (h2 : Lib.hasPrefix r tFalse = false) (h3 : Lib.hasPrefix r tTrue = false) (h4 : Lib.hasPrefix r [34] = false) (r1 : List UInt8) (h6 : skip r = 123 :: r1) :
    Calls Tryz.prog 79 #[.pointer (some ⟨g, 0, none⟩)] w (ValPost g s (pv (n + 1) r) w) := by
  have Hq := Lib.hid (pv_obj (n := n) h1 h2 h3 h4 h6)
  have H6 := Lib.hid h6
  have hl1 := skip_cons_len h6
  have hno : Lib.hasPrefix (skip r) [91] = false := by rw [h6]; rfl
  have Hsk := Lib.hid (show objR n (skip r1) = objR n r1 by unfold objR; rw [skip_skip])
  clear h6
  have hg := hr.lt
  go_enter Tryz.func79, Tryz.ntmps79
  go_wp2_with fail
  have hr0 := hr.alloc (.cells #[.int .i64 0, .int .i64 0, str [], .slice none 0 0, .slice none 0 0] 25)
  have hon0 := on_alloc w (.cells #[.int .i64 0, .int .i64 0, str [], .slice none 0 0, .slice none 0 0] 25) (some g)
  have hb0 := Blk.new w 25 #[.int .i64 0, .int .i64 0, str [], .slice none 0 0, .slice none 0 0]
  have hz0 : w.heap.size < (w.alloc (.cells #[.int .i64 0, .int .i64 0, str [], .slice none 0 0, .slice none 0 0] 25)).heap.size := by simp
  have gr0 := World.grownBy.refl (w.alloc (.cells #[.int .i64 0, .int .i64 0, str [], .slice none 0 0, .slice none 0 0] 25)) (some g)
  refine (take_no g s tNull r _ hr0 h1 (by omega)).mono ?_
  rintro e x1 ⟨rfl, hr1, on1⟩
  have gr1 := only_trans gr0 on1
  clear on1
  go_wp2_with fail
  refine (take_no g s tFalse r _ hr1 h2 (by omega)).mono ?_
  rintro e x2 ⟨rfl, hr2, on2⟩
  have gr2 := only_trans gr1 on2
  clear on2
  go_wp2_with fail
  refine (take_no g s tTrue r _ hr2 h3 (by omega)).mono ?_
  rintro e x3 ⟨rfl, hr3, on3⟩
  have gr3 := only_trans gr2 on3
  clear on3
  go_wp2_with fail
  refine (take_no g s [34] r _ hr3 h4 (by omega)).mono ?_
  rintro e x4 ⟨rfl, hr4, on4⟩
  have gr4 := only_trans gr3 on4
  clear on4
  go_wp2_with fail
  refine (mark_no g s [91] r _ hr4 hno (by omega)).mono ?_
  rintro e x5 ⟨rfl, hr5, on5⟩
  have gr5 := only_trans gr4 on5
  clear on5
  go_wp2_with fail
  refine (mark_yes g s [123] _ r1 _ hr5 (by rw [skip_skip]; exact H6.out) (by omega)).mono ?_
  rintro e x6 ⟨rfl, hr6, on6⟩
  have gr6 := only_trans gr5 on6
  clear on6
  go_wp2_with fail
  refine (hobj g (skip r1) _ hr6 hs (by omega)).mono ?_
  intro e x9 ho
  rcases ho with ⟨ks, ps, q9, Ak, ck, Ap, cp, ha, rfl, hv, hr9, on9⟩ | ⟨ha, q9, rfl, hr9, on9⟩
  · have Ha := Lib.hid (show pv (n + 1) r = some (.mk 7 0 [] ks ps, q9) by rw [Hq.out, ← Hsk.out, ha]; rfl)
    have hz6 : w.heap.size < x6.heap.size := Nat.lt_of_lt_of_le hz0 gr6.size
    clear ha Hq
    have gr9 := only_trans gr6 on9
    have hbx := hb0.grown gr9 (ne_of_lt' hg)
    obtain ⟨c0, c1, c2, c3, c4, f0, f1, f2, f3, f4⟩ := box_facts hbx
    go_wp2_with fail
    refine ret_val (by rfl) (by rfl) (by rfl) (set5 hbx _ _ _ _ _) (by rfl) ?_
    exact val_mem Ha.out hr9 hg (only_trans hon0 gr9) hz6 hv
  · have Ha := Lib.hid (show pv (n + 1) r = none by rw [Hq.out, ← Hsk.out, ha]; rfl)
    clear ha Hq
    have gr9 := only_trans gr6 on9
    have hbx := hb0.grown gr9 (ne_of_lt' hg)
    obtain ⟨c0, c1, c2, c3, c4, f0, f1, f2, f3, f4⟩ := box_facts hbx
    go_wp2_with fail
    refine ret_val (by rfl) (by rfl) (by rfl) (set5 hbx _ _ _ _ _) (by rfl) ?_
    exact val_no Ha.out hr9 hg (only_trans hon0 gr9)
set_option maxRecDepth 100000 in
set_option maxHeartbeats 4000000 in
theorem value_number (h1 : Lib.hasPrefix r tNull = false) (h2 : Lib.hasPrefix r tFalse = false) (h3 : Lib.hasPrefix r tTrue = false) (h4 : Lib.hasPrefix r [34] = false) (h5 : ¬ (skip r).head? = some 91) (h6 : ¬ (skip r).head? = some 123) :
    Calls Tryz.prog 79 #[.pointer (some ⟨g, 0, none⟩)] w (ValPost g s (pv (n + 1) r) w) := by
  have Hq := Lib.hid (pv_num (n := n) h1 h2 h3 h4 h5 h6)
  have hno5 := hasPrefix_not h5
  have hno6 : Lib.hasPrefix (skip (skip r)) [123] = false := by rw [skip_skip]; exact hasPrefix_not h6
  clear h5 h6
  have hg := hr.lt
  go_enter Tryz.func79, Tryz.ntmps79
  go_wp2_with fail
  have hr0 := hr.alloc (.cells #[.int .i64 0, .int .i64 0, str [], .slice none 0 0, .slice none 0 0] 25)
  have hon0 := on_alloc w (.cells #[.int .i64 0, .int .i64 0, str [], .slice none 0 0, .slice none 0 0] 25) (some g)
  have hb0 := Blk.new w 25 #[.int .i64 0, .int .i64 0, str [], .slice none 0 0, .slice none 0 0]
  have hz0 : w.heap.size < (w.alloc (.cells #[.int .i64 0, .int .i64 0, str [], .slice none 0 0, .slice none 0 0] 25)).heap.size := by simp
  have gr0 := World.grownBy.refl (w.alloc (.cells #[.int .i64 0, .int .i64 0, str [], .slice none 0 0, .slice none 0 0] 25)) (some g)
  refine (take_no g s tNull r _ hr0 h1 (by omega)).mono ?_
  rintro e x1 ⟨rfl, hr1, on1⟩
  have gr1 := only_trans gr0 on1
  clear on1
  go_wp2_with fail
  refine (take_no g s tFalse r _ hr1 h2 (by omega)).mono ?_
  rintro e x2 ⟨rfl, hr2, on2⟩
  have gr2 := only_trans gr1 on2
  clear on2
  go_wp2_with fail
  refine (take_no g s tTrue r _ hr2 h3 (by omega)).mono ?_
  rintro e x3 ⟨rfl, hr3, on3⟩
  have gr3 := only_trans gr2 on3
  clear on3
  go_wp2_with fail
  refine (take_no g s [34] r _ hr3 h4 (by omega)).mono ?_
  rintro e x4 ⟨rfl, hr4, on4⟩
  have gr4 := only_trans gr3 on4
  clear on4
  go_wp2_with fail
  refine (mark_no g s [91] r _ hr4 hno5 (by omega)).mono ?_
  rintro e x5 ⟨rfl, hr5, on5⟩
  have gr5 := only_trans gr4 on5
  clear on5
  go_wp2_with fail
  refine (mark_no g s [123] _ _ hr5 hno6 (by omega)).mono ?_
  rintro e x6 ⟨rfl, hr6, on6⟩
  rw [skip_skip] at hr6
  have gr6 := only_trans gr5 on6
  clear on6
  go_wp2_with fail
  refine (number_any g s (skip r) _ hr6 hs).mono ?_
  intro e x9 ho
  rcases ho.cases with ⟨m, q9, ha, rfl, hr9, on9⟩ | ⟨ha, q9, rfl, hr9, on9⟩
  · unfold numY
    have hmb := numR_bd _ _ _ ha
    have Ha := Lib.hid (show pv (n + 1) r = some (.mk 4 m [] [] [], q9) by rw [Hq.out, ha]; rfl)
    clear ha ho Hq
    have gr9 := only_trans gr6 on9
    have hbx := hb0.grown gr9 (ne_of_lt' hg)
    obtain ⟨c0, c1, c2, c3, c4, f0, f1, f2, f3, f4⟩ := box_facts hbx
    go_wp2_with fail
    refine ret_val (by rfl) (by rfl) (by rfl) (set5 hbx _ _ _ _ _) (by rfl) ?_
    exact val_yes Ha.out hr9 hg (only_trans hon0 gr9) fun W S => vin_num W S m (by omega)
  · unfold numN
    have Ha := Lib.hid (show pv (n + 1) r = none by rw [Hq.out, ha]; rfl)
    clear ha ho Hq
    have gr9 := only_trans gr6 on9
    have hbx := hb0.grown gr9 (ne_of_lt' hg)
    obtain ⟨c0, c1, c2, c3, c4, f0, f1, f2, f3, f4⟩ := box_facts hbx
    go_wp2_with fail
    refine ret_val (by rfl) (by rfl) (by rfl) (set5 hbx _ _ _ _ _) (by rfl) ?_
    exact val_no Ha.out hr9 hg (only_trans hon0 gr9)
end

theorem value_step {P : List UInt8 → Prop} (n : Nat) (ih : ValOk P n) (hobj : ∀ s, P s → 123 ∈ s → ObjOk s n) : ValOk P (n + 1) := by
  intro g s r w hP hr hs hrn
  cases h1 : Lib.hasPrefix r tNull with
  | true => exact value_null n g s r w hr hs h1
  | false =>
  cases h2 : Lib.hasPrefix r tFalse with
  | true => exact value_false n g s r w hr hs h1 h2
  | false =>
  cases h3 : Lib.hasPrefix r tTrue with
  | true => exact value_true n g s r w hr hs h1 h2 h3
  | false =>
  cases h4 : Lib.hasPrefix r [34] with
  | true => exact value_string n g s r w hr hs h1 h2 h3 h4
  | false =>
  by_cases h5 : (skip r).head? = some 91
  · obtain ⟨r1, h5⟩ := head_cons h5
    exact value_array n g s r w hr hs ih hP hrn h1 h2 h3 h4 r1 h5
  by_cases h6 : (skip r).head? = some 123
  · obtain ⟨r1, h6⟩ := head_cons h6
    have hmem : 123 ∈ s := by
      obtain ⟨p, _, hd, _⟩ := hr
      have h7 : (123 : UInt8) ∈ r := List.Sublist.subset (List.dropWhile_sublist (p := isWs) (l := r)) (by show (123 : UInt8) ∈ skip r; rw [h6]; simp)
      rw [← hd] at h7
      exact List.mem_of_mem_drop h7
    exact value_object n g s r w hr hs (hobj s hP hmem) hrn h1 h2 h3 h4 r1 h6
  · exact value_number n g s r w hr hs h1 h2 h3 h4 h5 h6
end Go.Proofs.YtgghncgefhanjaaGreatDoor
