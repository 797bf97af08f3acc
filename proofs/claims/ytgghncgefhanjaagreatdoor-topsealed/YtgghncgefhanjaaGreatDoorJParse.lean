/- json's read and Parse: what each call returns. -/
import Derived.Test.YtgghncgefhanjaaGreatDoorJVal
import Derived.Test.YtgghncgefhanjaaGreatDoorBunB
namespace Go.Proofs.YtgghncgefhanjaaGreatDoor
set_option linter.unusedVariables false
set_option linter.unusedSimpArgs false
open Go.RowKit

def zeroV : Value := .agg #[.int .i64 0, .int .i64 0, str [], .slice none 0 0, .slice none 0 0]
def ReadPost (o : Option JV) (w : World) (e : Ending) (w' : World) : Prop :=
  (∃ v cs, o = some v ∧ e = .returned (.tuple #[.agg cs.toArray, .bool true]) ∧ VInS w' (newS w w') v cs ∧ Below w.heap.size w w') ∨
  (o = none ∧ e = .returned (.tuple #[zeroV, .bool false]) ∧ Below w.heap.size w w')
/-- What 'value' does at one place of a text. -/
def ValAt (s r : List UInt8) (n : Nat) : Prop := ∀ (g : Nat) (w : World), Rd w g s r → Calls Tryz.prog 79 #[.pointer (some ⟨g, 0, none⟩)] w (ValPost g s (pv n r) w)
theorem nil_len {r : List UInt8} : r = [] ↔ r.length = 0 := List.length_eq_zero_iff.symm

attribute [local go_sem high] str_mk
set_option maxRecDepth 100000 in
set_option maxHeartbeats 4000000 in
theorem read_any (s : List UInt8) (w : World) (ih : ValAt s (skip s) (s.length + 1)) (hs : s.length ≤ 1048000) :
    Calls Tryz.prog 52 #[str s] w (ReadPost (readR s) w) := by
  have hsk := skip_len s
  obtain ⟨sb, hsb⟩ := str_open s
  have Hsb := Lib.hid hsb
  rw [hsb]
  clear hsb
  go_enter Tryz.func52, Tryz.ntmps52
  go_wp2_with fail
  rw [← Hsb.out]
  have hb0 := (Blk.new w 25 #[.int .i64 0, .int .i64 0, str [], .slice none 0 0, .slice none 0 0]).alloc (.cells #[str s, .int .i64 0] 110)
  have hrb := Blk.new (w.alloc (.cells #[.int .i64 0, .int .i64 0, str [], .slice none 0 0, .slice none 0 0] 25)) 110 #[str s, .int .i64 0]
  have hsz : (w.alloc (.cells #[.int .i64 0, .int .i64 0, str [], .slice none 0 0, .slice none 0 0] 25)).heap.size = w.heap.size + 1 := by simp
  rw [hsz] at hrb
  have hr0 : Rd ((w.alloc (.cells #[.int .i64 0, .int .i64 0, str [], .slice none 0 0, .slice none 0 0] 25)).alloc (.cells #[str s, .int .i64 0] 110)) (w.heap.size + 1) s s := ⟨0, by simp, by simp, hrb⟩
  have hW : Below w.heap.size w ((w.alloc (.cells #[.int .i64 0, .int .i64 0, str [], .slice none 0 0, .slice none 0 0] 25)).alloc (.cells #[str s, .int .i64 0] 110)) :=
    ((Below.refl _ _).alloc (Nat.le_refl _) _).alloc (by simp) _
  clear hrb hsz
  refine (skip_any (w.heap.size + 1) s s _ hr0 (by omega)).mono ?_
  rintro e x1 ⟨rfl, hr1, on1⟩
  have hz1 : w.heap.size + 2 ≤ x1.heap.size := by have := on1.size; simp at this; omega
  go_wp2_with fail
  refine (ih (w.heap.size + 1) _ hr1).mono ?_
  intro e x2 ho
  rcases ho with ⟨v, r2, cs, ha, rfl, hv, hr2, on2⟩ | ⟨ha, k, m, t, Ak, nk, ck, Ap, np, cp, r2, rfl, hr2, on2⟩
  · obtain ⟨k, m, t, Ak, nk, ck, Ap, np, cp, rfl⟩ := hv.form
    have Ha := Lib.hid (readR_some ha)
    clear ha
    have on12 := only_trans on1 on2
    have hb2 := hb0.grown on12 (by simp)
    have hw2 : Below w.heap.size w x2 := hW.trans (below_only on12 (by omega) (by simp; omega))
    have hz2 : w.heap.size + 2 ≤ x2.heap.size := Nat.le_trans hz1 on2.size
    have hbv := Blk.new x2 25 #[.int .i64 k, .int .i64 m, str t, .slice Ak nk ck, .slice Ap np cp]
    go_wp2_with fail
    refine (skip_any (w.heap.size + 1) s r2 _ (hr2.alloc _) (by omega)).mono ?_
    rintro e x3 ⟨rfl, hr3, on3⟩
    have hb3 := (hb2.alloc _).grown on3 (by simp)
    have hbv3 := hbv.grown on3 (by simp; omega)
    have hw3 : Below w.heap.size w x3 := (hw2.alloc (by omega) _).trans (below_only on3 (by omega) (by simp; omega))
    have hv3 : VInS x3 (newS x1 x2) v [.int .i64 k, .int .i64 m, str t, .slice Ak nk ck, .slice Ap np cp] := by
      refine VInS.kept (fun p hp => ?_) _ _ hv
      rw [World.cell?_of_block (on3.block p.block (by simp; have := hp.2; omega) (by intro e; injection e; have := hp.1; omega)), World.cell?_alloc_lt _ _ p hp.2]
    have hz3 : x2.heap.size + 1 ≤ x3.heap.size := by have := on3.size; simpa using this
    obtain ⟨c0, c1, c2, c3, c4, f0, f1, f2, f3, f4⟩ := box_facts hb3
    obtain ⟨d0, d1, d2, d3, d4, _, _, _, _, _⟩ := box_facts hbv3
    obtain ⟨p, hp, hd, hrb⟩ := hr3
    have kr1 : x3.cell? ⟨w.heap.size + 1, 1, none⟩ = some (.int .i64 (p : Int)) := hrb.cell 1
    have hne : ¬ x2.heap.size = w.heap.size := by omega
    by_cases hend : skip r2 = []
    · rw [if_pos hend] at Ha
      rw [hend] at hp
      have hpl : ¬ p < s.length := by simp at hp; omega
      have hpb : decide ((p : Int) < (s.length : Int)) = false := by simp; omega
      clear hend hp hd
      go_wp2_with fail
      refine ret_val (by rfl) (by rfl) (by rfl) (set5 hb3 _ _ _ _ _) (by rfl) ?_
      refine .inl ⟨v, _, Ha.out, rfl, ?_, below_set5 hw3 (Nat.le_refl _) _ _ _ _ _⟩
      refine VInS.mono (fun b hb => ⟨?_, ?_⟩) _ _ (VInS.kept (fun q hq => cell_set5 (by have := hq.1; omega) _ _ _ _ _) _ _ hv3)
      · have := hb.1; omega
      · rw [size_set5]; have := hb.2; omega
    · rw [if_neg hend] at Ha
      have hpos : 0 < (skip r2).length := List.length_pos_iff.2 hend
      have hpl : p < s.length := by omega
      have hpb : decide ((p : Int) < (s.length : Int)) = true := by simp; omega
      clear hend hp hd
      go_wp2_with fail
      refine ret_val (by rfl) (by rfl) (by rfl) (set5 hb3 _ _ _ _ _) (by rfl) ?_
      exact .inr ⟨Ha.out, rfl, below_set5 hw3 (Nat.le_refl _) _ _ _ _ _⟩
  · have Ha := Lib.hid (readR_none ha)
    clear ha
    have on12 := only_trans on1 on2
    have hb2 := hb0.grown on12 (by simp)
    have hw2 : Below w.heap.size w x2 := hW.trans (below_only on12 (by omega) (by simp; omega))
    have hz2 : w.heap.size + 2 ≤ x2.heap.size := Nat.le_trans hz1 on2.size
    go_wp2_with fail
    refine (skip_any (w.heap.size + 1) s r2 _ (hr2.alloc _) (by omega)).mono ?_
    rintro e x3 ⟨rfl, hr3, on3⟩
    have hb3 := (hb2.alloc _).grown on3 (by simp)
    have hw3 : Below w.heap.size w x3 := (hw2.alloc (by omega) _).trans (below_only on3 (by omega) (by simp; omega))
    obtain ⟨c0, c1, c2, c3, c4, f0, f1, f2, f3, f4⟩ := box_facts hb3
    go_wp2_with fail
    refine ret_val (by rfl) (by rfl) (by rfl) (set5 hb3 _ _ _ _ _) (by rfl) ?_
    exact .inr ⟨Ha.out, rfl, below_set5 hw3 (Nat.le_refl _) _ _ _ _ _⟩

/-- What Parse answers: the value, or the error. -/
def parseE (s : List UInt8) : Int := if 1200 < s.length then 1 else match readR s with | none => 4 | some v => checkN v
def ParsePost (s : List UInt8) (w : World) (e : Ending) (w' : World) : Prop :=
  (∃ v cs, s.length ≤ 1200 ∧ readR s = some v ∧ checkN v = 0 ∧ e = .returned (.tuple #[.agg cs.toArray, .int .i64 0]) ∧ VInS w' (newS w w') v cs ∧ Below w.heap.size w w') ∨
  (parseE s ≠ 0 ∧ e = .returned (.tuple #[zeroV, .int .i64 (parseE s)]) ∧ Below w.heap.size w w')

set_option maxRecDepth 100000 in
set_option maxHeartbeats 4000000 in
theorem Parse_any (s : List UInt8) (w : World) (ih : s.length ≤ 1200 → ValAt s (skip s) (s.length + 1)) (hs : s.length ≤ 9223372036854775807) (htab : Tab w.heap.size w) :
    Calls Tryz.prog 25 #[str s] w (ParsePost s w) := by
  have Hs := Lib.hid (show parseE s = if 1200 < s.length then 1 else match readR s with | none => 4 | some v => checkN v from rfl)
  by_cases hlen : 1200 < s.length
  · rw [if_pos hlen] at Hs
    go_enter Tryz.func25, Tryz.ntmps25
    go_wp2_with fail
    refine ret_val (by rfl) (by rfl) (by rfl) (Blk.new w 25 _) (by rfl) ?_
    exact .inr ⟨by rw [Hs.out]; decide, by rw [Hs.out]; rfl, (Below.refl _ _).alloc (Nat.le_refl _) _⟩
  rw [if_neg hlen] at Hs
  have hle : s.length ≤ 1200 := by omega
  go_enter Tryz.func25, Tryz.ntmps25
  go_wp2_with fail
  have hb0 := Blk.new w 25 #[.int .i64 0, .int .i64 0, str [], .slice none 0 0, .slice none 0 0]
  have hW : Below w.heap.size w (w.alloc (.cells #[.int .i64 0, .int .i64 0, str [], .slice none 0 0, .slice none 0 0] 25)) := (Below.refl _ _).alloc (Nat.le_refl _) _
  have hzW : (w.alloc (.cells #[.int .i64 0, .int .i64 0, str [], .slice none 0 0, .slice none 0 0] 25)).heap.size = w.heap.size + 1 := by simp
  have HzW := Lib.hid hzW
  clear hzW
  refine (read_any s _ (ih hle) (by omega)).mono ?_
  intro e x1 ho
  rcases ho with ⟨v, cs, ha, rfl, hv, hbl⟩ | ⟨ha, rfl, hbl⟩
  · obtain ⟨k, m, t, Ak, nk, ck, Ap, np, cp, rfl⟩ := hv.form
    rw [ha] at Hs
    have Ha := Lib.hid ha
    have hcnt := readR_count ha
    clear ha
    have hw1 : Below w.heap.size w x1 := hW.trans (hbl.mono hW.size)
    have hb1 := hb0.below hbl (by simp)
    have hz1 : w.heap.size + 1 ≤ x1.heap.size := by have := hbl.size; rw [HzW.out] at this; exact this
    have hbv := Blk.new x1 25 #[.int .i64 k, .int .i64 m, str t, .slice Ak nk ck, .slice Ap np cp]
    have hv1 : VIn (x1.alloc (.cells #[.int .i64 k, .int .i64 m, str t, .slice Ak nk ck, .slice Ap np cp] 25)) x1.heap.size v [.int .i64 k, .int .i64 m, str t, .slice Ak nk ck, .slice Ap np cp] :=
      VIn.kept (fun p hp => World.cell?_alloc_lt _ _ p hp) _ _ (VInS.toB (fun b hb => hb.2) _ _ hv)
    have hw1' := hw1.alloc (by omega : w.heap.size ≤ x1.heap.size) (.cells #[.int .i64 k, .int .i64 m, str t, .slice Ak nk ck, .slice Ap np cp] 25)
    have htab1 := (htab.on hw1').here
    go_wp2_with fail
    refine (Check_any v _ _ x1.heap.size (by simp) hv1 htab1 (by omega)).mono ?_
    rintro e x2 ⟨rfl, hbl2⟩
    have hb2 := (hb1.alloc (.cells #[.int .i64 k, .int .i64 m, str t, .slice Ak nk ck, .slice Ap np cp] 25)).below hbl2 (by simp; omega)
    have hbv2 := hbv.below hbl2 (by simp)
    have hw2 : Below w.heap.size w x2 := hw1'.trans (hbl2.mono (by simp; omega))
    have hz2 : x1.heap.size + 1 ≤ x2.heap.size := by have := hbl2.size; simpa using this
    obtain ⟨c0, c1, c2, c3, c4, f0, f1, f2, f3, f4⟩ := box_facts hb2
    obtain ⟨d0, d1, d2, d3, d4, _, _, _, _, _⟩ := box_facts hbv2
    have hne : ¬ x1.heap.size = w.heap.size := by omega
    by_cases hck : checkN v = 0
    · have Hck := Lib.hid hck
      rw [hck]
      clear hck
      have hv2 : VInS x2 (newS (w.alloc (.cells #[.int .i64 0, .int .i64 0, str [], .slice none 0 0, .slice none 0 0] 25)) x1) v [.int .i64 k, .int .i64 m, str t, .slice Ak nk ck, .slice Ap np cp] := by
        refine VInS.kept (fun p hp => ?_) _ _ hv
        rw [hbl2.cell (by simp; have := hp.2; omega), World.cell?_alloc_lt _ _ p hp.2]
      have Hv2 := Lib.hid hv2
      clear hv2
      go_wp2_with fail
      refine ret_val (by rfl) (by rfl) (by rfl) (set5 hb2 _ _ _ _ _) (by rfl) ?_
      refine .inl ⟨v, _, hle, Ha.out, Hck.out, rfl, ?_, below_set5 hw2 (Nat.le_refl _) _ _ _ _ _⟩
      refine VInS.mono (fun b hb => ⟨?_, ?_⟩) _ _ (VInS.kept (fun q hq => cell_set5 (by have := hq.1; rw [HzW.out] at this; omega) _ _ _ _ _) _ _ Hv2.out)
      · have := hb.1; rw [HzW.out] at this; omega
      · rw [size_set5]; have := hb.2; omega
    · have Hs2 := Lib.hid (show parseE s = checkN v from Hs.out)
      clear Hs
      generalize checkN v = a at *
      have hab : (a != 0) = true := by simpa using hck
      go_wp2_with fail
      refine ret_val (by rfl) (by rfl) (by rfl) (set5 hb2 _ _ _ _ _) (by rfl) ?_
      exact .inr ⟨by rw [Hs2.out]; exact hck, by rw [Hs2.out]; rfl, below_set5 hw2 (Nat.le_refl _) _ _ _ _ _⟩
  · rw [ha] at Hs
    clear ha
    have hw1 : Below w.heap.size w x1 := hW.trans (hbl.mono hW.size)
    have hb1 := hb0.below hbl (by simp)
    have hz1 : w.heap.size + 1 ≤ x1.heap.size := by have := hbl.size; rw [HzW.out] at this; exact this
    have hb2 := hb1.alloc (.cells #[.int .i64 0, .int .i64 0, str [], .slice none 0 0, .slice none 0 0] 25)
    obtain ⟨c0, c1, c2, c3, c4, f0, f1, f2, f3, f4⟩ := box_facts hb1
    have hlt1 : w.heap.size < x1.heap.size := by omega
    have hne1 : ¬ x1.heap.size = w.heap.size := by omega
    unfold zeroV
    go_wp2_with fail
    refine ret_val (by rfl) (by rfl) (by rfl) ((set5 hb1 _ _ _ _ _).alloc _) (by rfl) ?_
    refine .inr ⟨by rw [Hs.out]; decide, by rw [Hs.out]; rfl, (below_set5 hw1 (Nat.le_refl _) _ _ _ _ _).alloc (by rw [size_set5]; omega) _⟩

theorem valAt_of {P : List UInt8 → Prop} {s : List UInt8} (h : ValOk P (s.length + 1)) (hP : P s) (hs : s.length ≤ 1048000) : ValAt s (skip s) (s.length + 1) :=
  fun g w hr => h g s (skip s) w hP hr hs (by have := skip_len s; omega)
/-- A text that bears no brace. -/
theorem valOk_plain : ∀ n, ValOk (fun s => 123 ∉ s) n
  | 0 => fun g s r w _ _ _ h => by omega
  | n + 1 => value_step n (valOk_plain n) fun s h1 h2 => absurd h2 h1
end Go.Proofs.YtgghncgefhanjaaGreatDoor
