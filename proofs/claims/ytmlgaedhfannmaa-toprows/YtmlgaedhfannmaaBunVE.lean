/- Joined texts: DvPoI, DvPo. -/
import Derived.Test.YtmlgaedhfannmaaPkT
import Derived.Test.YtmlgaedhfannmaaDvMem
import Derived.Test.YtmlgaedhfannmaaBunVA
import Derived.Test.YtmlgaedhfannmaaBunO
/- Device lists: Updates: what holds while a change is drawn. -/
namespace Go.Proofs.Ytmlgaedhfannmaa
set_option linter.unusedVariables false
set_option linter.unusedSimpArgs false
open Go.RowKit
/-- The devices and the bodies that are drawn. -/
def ufo (p : Nat) : List UInt8 := (([[97], [98], [99], [100], [101], [102]] : List (List UInt8))[p]?).getD []
def ubo (r : Nat) : List UInt8 := (([[120], [121], [122]] : List (List UInt8))[r]?).getD []
def ufoC : Array Value := #[.string ⟨#[97]⟩, .string ⟨#[98]⟩, .string ⟨#[99]⟩, .string ⟨#[100]⟩, .string ⟨#[101]⟩, .string ⟨#[102]⟩]
def uboC : Array Value := #[.string ⟨#[120]⟩, .string ⟨#[121]⟩, .string ⟨#[122]⟩]
theorem ufoC_at : ∀ p : Nat, p < 6 → ufoC[p]? = some (str (ufo p))
  | 0, _ => rfl | 1, _ => rfl | 2, _ => rfl | 3, _ => rfl | 4, _ => rfl | 5, _ => rfl
  | p + 6, h => by omega
theorem uboC_at : ∀ p : Nat, p < 3 → uboC[p]? = some (str (ubo p))
  | 0, _ => rfl | 1, _ => rfl | 2, _ => rfl
  | p + 3, h => by omega
/-- What holds while the region is run, in whatever order. -/
def InvU (A0 lim s5 s6 : Value) (z : Int) (p q : Nat) (W0 : World) (l : Array Bool) (a : Act) (w : World) : Prop :=
  ∃ (b0 b5 b6 b7 b8 b14 b15 b16 b17 b18 b19 b20 : Bool) (g0 g8 g19 : Nat), l = #[b0, true, true, true, true, b5, b6, b7, b8, true, true, true, true, true, b14, b15, b16, b17, b18, b19, b20] ∧ a.defers = [] ∧ a.tmps.size = 53 ∧
    (Ts a 0 = A0 ∧ Ts a 1 = lim ∧ Ts a 2 = undef ∧ Ts a 3 = undef ∧ Ts a 4 = .slice none 0 0 ∧ Ts a 5 = s5 ∧ Ts a 6 = s6 ∧ Ts a 52 = undef ∧ Ts a 23 = .int .i64 z ∧ Ts a 32 = .int .i64 (z.tdiv 6)) ∧
    (b0 = true → Ts a 19 = .slice (some ⟨g0, 0, none⟩) 6 6 ∧ (b20 = false → Blk w g0 9 ufoC)) ∧
    (b5 = true → Ts a 24 = .int .i64 (p : Int)) ∧
    (b6 = true → (b0 = true ∧ b5 = true) ∧ Ts a 25 = .pointer (some ⟨g0, p, none⟩)) ∧
    (b7 = true → b6 = true ∧ Ts a 26 = str (ufo p)) ∧
    (b8 = true → Ts a 27 = .slice (some ⟨g8, 0, none⟩) 3 3 ∧ (b20 = false → Blk w g8 9 uboC)) ∧
    (b14 = true → Ts a 33 = .int .i64 (q : Int)) ∧
    (b15 = true → (b8 = true ∧ b14 = true) ∧ Ts a 34 = .pointer (some ⟨g8, q, none⟩)) ∧
    (b16 = true → b15 = true ∧ Ts a 35 = str (ubo q)) ∧
    (b17 = true → (b7 = true ∧ b16 = true) ∧ Ts a 36 = .agg #[str (ufo p), str (ubo q)]) ∧
    (b18 = true → (b17 = true) ∧ Ts a 37 = .agg #[.int .i64 0, .int .i64 0, str (ufo p), str (ubo q), .bool false]) ∧
    (b19 = true → Ts a 7 = .pointer (some ⟨g19, 0, none⟩) ∧ W0.heap.size ≤ g19 ∧ (b20 = false → Blk w g19 44 #[.int .i64 0, .int .i64 0, .string ⟨#[]⟩, .string ⟨#[]⟩, .bool false])) ∧
    (b20 = true → (b0 && b5 && b6 && b7 && b8 && b14 && b15 && b16 && b17 && b18 && b19) = true ∧ Blk w g19 44 #[.int .i64 0, .int .i64 0, str (ufo p), str (ubo q), .bool false]) ∧
    Below W0.heap.size W0 w
theorem tmps53 {t : Array Value} (h : t.size = 53) : ∃ x0 x1 x2 x3 x4 x5 x6 x7 x8 x9 x10 x11 x12 x13 x14 x15 x16 x17 x18 x19 x20 x21 x22 x23 x24 x25 x26 x27 x28 x29 x30 x31 x32 x33 x34 x35 x36 x37 x38 x39 x40 x41 x42 x43 x44 x45 x46 x47 x48 x49 x50 x51 x52 : Value, t = #[x0, x1, x2, x3, x4, x5, x6, x7, x8, x9, x10, x11, x12, x13, x14, x15, x16, x17, x18, x19, x20, x21, x22, x23, x24, x25, x26, x27, x28, x29, x30, x31, x32, x33, x34, x35, x36, x37, x38, x39, x40, x41, x42, x43, x44, x45, x46, x47, x48, x49, x50, x51, x52] := by
  obtain ⟨l⟩ := t
  have r0 : l.length = 53 := h
  obtain ⟨x0, l1, rfl, r1⟩ := ts_cons r0
  obtain ⟨x1, l2, rfl, r2⟩ := ts_cons r1
  obtain ⟨x2, l3, rfl, r3⟩ := ts_cons r2
  obtain ⟨x3, l4, rfl, r4⟩ := ts_cons r3
  obtain ⟨x4, l5, rfl, r5⟩ := ts_cons r4
  obtain ⟨x5, l6, rfl, r6⟩ := ts_cons r5
  obtain ⟨x6, l7, rfl, r7⟩ := ts_cons r6
  obtain ⟨x7, l8, rfl, r8⟩ := ts_cons r7
  obtain ⟨x8, l9, rfl, r9⟩ := ts_cons r8
  obtain ⟨x9, l10, rfl, r10⟩ := ts_cons r9
  obtain ⟨x10, l11, rfl, r11⟩ := ts_cons r10
  obtain ⟨x11, l12, rfl, r12⟩ := ts_cons r11
  obtain ⟨x12, l13, rfl, r13⟩ := ts_cons r12
  obtain ⟨x13, l14, rfl, r14⟩ := ts_cons r13
  obtain ⟨x14, l15, rfl, r15⟩ := ts_cons r14
  obtain ⟨x15, l16, rfl, r16⟩ := ts_cons r15
  obtain ⟨x16, l17, rfl, r17⟩ := ts_cons r16
  obtain ⟨x17, l18, rfl, r18⟩ := ts_cons r17
  obtain ⟨x18, l19, rfl, r19⟩ := ts_cons r18
  obtain ⟨x19, l20, rfl, r20⟩ := ts_cons r19
  obtain ⟨x20, l21, rfl, r21⟩ := ts_cons r20
  obtain ⟨x21, l22, rfl, r22⟩ := ts_cons r21
  obtain ⟨x22, l23, rfl, r23⟩ := ts_cons r22
  obtain ⟨x23, l24, rfl, r24⟩ := ts_cons r23
  obtain ⟨x24, l25, rfl, r25⟩ := ts_cons r24
  obtain ⟨x25, l26, rfl, r26⟩ := ts_cons r25
  obtain ⟨x26, l27, rfl, r27⟩ := ts_cons r26
  obtain ⟨x27, l28, rfl, r28⟩ := ts_cons r27
  obtain ⟨x28, l29, rfl, r29⟩ := ts_cons r28
  obtain ⟨x29, l30, rfl, r30⟩ := ts_cons r29
  obtain ⟨x30, l31, rfl, r31⟩ := ts_cons r30
  obtain ⟨x31, l32, rfl, r32⟩ := ts_cons r31
  obtain ⟨x32, l33, rfl, r33⟩ := ts_cons r32
  obtain ⟨x33, l34, rfl, r34⟩ := ts_cons r33
  obtain ⟨x34, l35, rfl, r35⟩ := ts_cons r34
  obtain ⟨x35, l36, rfl, r36⟩ := ts_cons r35
  obtain ⟨x36, l37, rfl, r37⟩ := ts_cons r36
  obtain ⟨x37, l38, rfl, r38⟩ := ts_cons r37
  obtain ⟨x38, l39, rfl, r39⟩ := ts_cons r38
  obtain ⟨x39, l40, rfl, r40⟩ := ts_cons r39
  obtain ⟨x40, l41, rfl, r41⟩ := ts_cons r40
  obtain ⟨x41, l42, rfl, r42⟩ := ts_cons r41
  obtain ⟨x42, l43, rfl, r43⟩ := ts_cons r42
  obtain ⟨x43, l44, rfl, r44⟩ := ts_cons r43
  obtain ⟨x44, l45, rfl, r45⟩ := ts_cons r44
  obtain ⟨x45, l46, rfl, r46⟩ := ts_cons r45
  obtain ⟨x46, l47, rfl, r47⟩ := ts_cons r46
  obtain ⟨x47, l48, rfl, r48⟩ := ts_cons r47
  obtain ⟨x48, l49, rfl, r49⟩ := ts_cons r48
  obtain ⟨x49, l50, rfl, r50⟩ := ts_cons r49
  obtain ⟨x50, l51, rfl, r51⟩ := ts_cons r50
  obtain ⟨x51, l52, rfl, r52⟩ := ts_cons r51
  obtain ⟨x52, l53, rfl, r53⟩ := ts_cons r52
  obtain rfl := List.eq_nil_of_length_eq_zero r53
  exact ⟨x0, x1, x2, x3, x4, x5, x6, x7, x8, x9, x10, x11, x12, x13, x14, x15, x16, x17, x18, x19, x20, x21, x22, x23, x24, x25, x26, x27, x28, x29, x30, x31, x32, x33, x34, x35, x36, x37, x38, x39, x40, x41, x42, x43, x44, x45, x46, x47, x48, x49, x50, x51, x52, rfl⟩
end Go.Proofs.Ytmlgaedhfannmaa

/- Device lists: Updates at every slice of numbers. -/
namespace Go.Proofs.Ytmlgaedhfannmaa
set_option linter.unusedVariables false
set_option linter.unusedSimpArgs false
open Go.RowKit
/-- A change that is drawn. -/
def Dru (u : Uc) : Prop := Six u ∧ u.st = 0 ∧ u.pv = 0 ∧ (u.gone = true → u.val = [])
theorem dru_set (F B : List UInt8) (h1 : ∃ i, i < 6 ∧ F = ufo i) (h3 : ∃ r, r < 3 ∧ B = ubo r) : Dru ⟨0, 0, F, B, false⟩ := by
  obtain ⟨i, hi, rfl⟩ := h1
  obtain ⟨r, hr, rfl⟩ := h3
  refine ⟨?_, rfl, rfl, fun h => by cases h⟩
  rcases (by omega : i = 0 ∨ i = 1 ∨ i = 2 ∨ i = 3 ∨ i = 4 ∨ i = 5) with rfl | rfl | rfl | rfl | rfl | rfl <;>
    rcases (by omega : r = 0 ∨ r = 1 ∨ r = 2) with rfl | rfl | rfl <;> exact ⟨by decide, by decide⟩
theorem dru_gone (F : List UInt8) (h1 : ∃ i, i < 6 ∧ F = ufo i) : Dru ⟨0, 0, F, [], true⟩ := by
  obtain ⟨i, hi, rfl⟩ := h1
  refine ⟨?_, rfl, rfl, fun _ => rfl⟩
  rcases (by omega : i = 0 ∨ i = 1 ∨ i = 2 ∨ i = 3 ∨ i = 4 ∨ i = 5) with rfl | rfl | rfl | rfl | rfl | rfl <;> exact ⟨by decide, by decide⟩
def UpsR (n lim : Nat) (w : World) (gk : Nat) (s5 s6 : Value) (wr : World) : Prop :=
  ∃ (k : Nat) (l : List Uc), s6 = .int .i64 (k : Int) ∧ k ≤ lim ∧ k ≤ n ∧ gk = lim - k ∧ l.length = k ∧ (∀ a ∈ l, Dru a) ∧ wr.ownsRow w.heap.size 44 5 s5 k (pcK ucL l) ∧ Below w.heap.size w wr
set_option maxHeartbeats 8000000 in
set_option maxRecDepth 100000 in
theorem updates_any (A : Option Addr) (n c B lim : Nat) (w : World) (hx : IntsAt w B A n c) (hB : B ≤ w.heap.size) (hlim : lim ≤ 100) :
    Calls Try.prog 19 #[.slice A n c, .int .i64 (lim : Int)] w fun e w' => ∃ v l, e = .returned v ∧ w'.ownsRow w.heap.size 44 5 v l.length (pcK ucL l) ∧ l.length = min n lim ∧ (∀ a ∈ l, Dru a) ∧ Below w.heap.size w w' := by
  have Hx := Lib.hid hx
  clear hx
  go_enter Try.func19, Try.ntmps19
  go_wp2_with fail
  go_loopg [5, 6] lim (UpsR n lim w)
  case atStart => exact ⟨0, [], rfl, Nat.zero_le _, Nat.zero_le _, by omega, rfl, by simp, World.ownsRow_nil _ _ _ _, Below.refl _ _⟩
  case round =>
    obtain ⟨k, l, rfl, hk, hkn', hgk, hcl, hdr, ho, hbe⟩ := hrel
    have Hgk := Lib.hid hgk
    have Ho := Lib.hid ho
    have Hbe := Lib.hid hbe
    have Hcl := Lib.hid hcl
    have Hdr := Lib.hid hdr
    have hszw := hbe.size
    clear hgk ho hbe hcl hdr
    by_cases hkn : k < n
    · by_cases hkl : k < lim
      · have hi1 : (k : Int) < (n : Int) := by omega
        have hi2 : (k : Int) < (lim : Int) := by omega
        obtain ⟨b, off, z, hA, hbB, hc0, hz1, hz2⟩ := (Hx.out.below (Hbe.out.mono hB)).at hkn
        subst hA
        have hbw : b < wr.heap.size := by omega
        obtain ⟨p, hp, hp6⟩ := pick_nat z 6 (by decide)
        obtain ⟨q, hq, hq3⟩ := pick_nat (z.tdiv 6) 3 (by decide)
        obtain ⟨r, hr, hr3⟩ := pick_nat (z.tdiv 18) 3 (by decide)
        have Hp : Hid (z % 6 = (p : Int)) := Lib.hid hp
        have Hq : Hid ((z.tdiv 6) % 3 = (q : Int)) := Lib.hid hq
        have Hr : Hid ((z.tdiv 18) % 3 = (r : Int)) := Lib.hid hr
        have hpi : (p : Int) < 6 := by omega
        have hqi : (q : Int) < 3 := by omega
        have hw6 := quo_in z 6 hz1 hz2 (by decide)
        have hw18 := quo_in z 18 hz1 hz2 (by decide)
        clear hp hq hr
        go_wp2_with fail
        refine region_S (fun w' => Below wr.heap.size wr w') [] (by kernel_rfl) ?_
        have hS0 : Below wr.heap.size wr wr.drew := (Below.refl _ _).drew
        refine anyS_take 1 (v := .slice (some ⟨b, off, none⟩) n c) rfl (by kernel_rfl) (by kernel_rfl) (by kernel_rfl) (by kernel_rfl) (fun _ _ _ h => h) (.inl ⟨by kernel_rfl, fun w' hS' => by kernel_rfl⟩) hS0 ?_
        refine anyS_take 2 (v := .int .i64 (k : Int)) rfl (by kernel_rfl) (by kernel_rfl) (by kernel_rfl) (by kernel_rfl) (fun _ _ _ h => h) (.inl ⟨by kernel_rfl, fun w' hS' => by kernel_rfl⟩) hS0 ?_
        refine anyS_take 3 (v := .pointer (some ⟨b, off + k, none⟩)) rfl (by kernel_rfl) (by kernel_rfl) (by kernel_rfl) (by kernel_rfl) (fun _ _ _ h => h) (.inl ⟨by kernel_rfl, fun w' hS' => by go_simp⟩) hS0 ?_
        refine anyS_take 4 (v := .int .i64 z) rfl (by kernel_rfl) (by kernel_rfl) (by kernel_rfl) (by kernel_rfl) (fun _ _ _ h => h) (.inl ⟨by kernel_rfl, fun w' hS' => by have s1 := (hS'.cell hbw).trans hc0; go_simp⟩) hS0 ?_
        refine anyS_take 9 (v := .slice (some ⟨b, off, none⟩) n c) rfl (by kernel_rfl) (by kernel_rfl) (by kernel_rfl) (by kernel_rfl) (fun _ _ _ h => h) (.inl ⟨by kernel_rfl, fun w' hS' => by kernel_rfl⟩) hS0 ?_
        refine anyS_take 10 (v := .int .i64 (k : Int)) rfl (by kernel_rfl) (by kernel_rfl) (by kernel_rfl) (by kernel_rfl) (fun _ _ _ h => h) (.inl ⟨by kernel_rfl, fun w' hS' => by kernel_rfl⟩) hS0 ?_
        refine anyS_take 11 (v := .pointer (some ⟨b, off + k, none⟩)) rfl (by kernel_rfl) (by kernel_rfl) (by kernel_rfl) (by kernel_rfl) (fun _ _ _ h => h) (.inl ⟨by kernel_rfl, fun w' hS' => by go_simp⟩) hS0 ?_
        refine anyS_take 12 (v := .int .i64 z) rfl (by kernel_rfl) (by kernel_rfl) (by kernel_rfl) (by kernel_rfl) (fun _ _ _ h => h) (.inl ⟨by kernel_rfl, fun w' hS' => by have s1 := (hS'.cell hbw).trans hc0; go_simp⟩) hS0 ?_
        refine anyS_take 13 (v := .int .i64 (z.tdiv 6)) rfl (by kernel_rfl) (by kernel_rfl) (by kernel_rfl) (by kernel_rfl) (fun _ _ _ h => h) (.inl ⟨by kernel_rfl, fun w' hS' => by go_simp⟩) hS0 ?_
        refine anyS_inv (I := InvU (.slice (some ⟨b, off, none⟩) n c) (.int .i64 (lim : Int)) u5 (.int .i64 (k : Int)) z p q wr) ?_ ?_ ?_ _ _ _ _ ?_ ?_
        · rintro l a w ⟨b0, b5, b6, b7, b8, b14, b15, b16, b17, b18, b19, b20, g0, g8, g19, rfl, hd, hsz, ⟨t0, t1, t2, t3, t4, t5, t6, t52, t23, t32⟩, f0, f5, f6, f7, f8, f14, f15, f16, f17, f18, f19, f20, hb⟩
          exact hb
        · rintro l' a w5 ⟨b0, b5, b6, b7, b8, b14, b15, b16, b17, b18, b19, b20, g0, g8, g19, rfl, hd, hsz, ⟨t0, t1, t2, t3, t4, t5, t6, t52, t23, t32⟩, f0, f5, f6, f7, f8, f14, f15, f16, f17, f18, f19, f20, hb⟩ hr
          have q0 : b0 = true := by
            cases b0 with
            | true => rfl
            | false =>
              have hc := congrArg (fun r : List Nat => r.contains 0) hr
              have ht : true = false := Eq.trans (by kernel_rfl) hc
              cases ht
          subst q0
          have q5 : b5 = true := by
            cases b5 with
            | true => rfl
            | false =>
              have hc := congrArg (fun r : List Nat => r.contains 5) hr
              have ht : true = false := Eq.trans (by kernel_rfl) hc
              cases ht
          subst q5
          have q6 : b6 = true := by
            cases b6 with
            | true => rfl
            | false =>
              have hc := congrArg (fun r : List Nat => r.contains 6) hr
              have ht : true = false := Eq.trans (by kernel_rfl) hc
              cases ht
          subst q6
          have q7 : b7 = true := by
            cases b7 with
            | true => rfl
            | false =>
              have hc := congrArg (fun r : List Nat => r.contains 7) hr
              have ht : true = false := Eq.trans (by kernel_rfl) hc
              cases ht
          subst q7
          have q8 : b8 = true := by
            cases b8 with
            | true => rfl
            | false =>
              have hc := congrArg (fun r : List Nat => r.contains 8) hr
              have ht : true = false := Eq.trans (by kernel_rfl) hc
              cases ht
          subst q8
          have q14 : b14 = true := by
            cases b14 with
            | true => rfl
            | false =>
              have hc := congrArg (fun r : List Nat => r.contains 14) hr
              have ht : true = false := Eq.trans (by kernel_rfl) hc
              cases ht
          subst q14
          have q15 : b15 = true := by
            cases b15 with
            | true => rfl
            | false =>
              have hc := congrArg (fun r : List Nat => r.contains 15) hr
              have ht : true = false := Eq.trans (by kernel_rfl) hc
              cases ht
          subst q15
          have q16 : b16 = true := by
            cases b16 with
            | true => rfl
            | false =>
              have hc := congrArg (fun r : List Nat => r.contains 16) hr
              have ht : true = false := Eq.trans (by kernel_rfl) hc
              cases ht
          subst q16
          have q17 : b17 = true := by
            cases b17 with
            | true => rfl
            | false =>
              have hc := congrArg (fun r : List Nat => r.contains 17) hr
              have ht : true = false := Eq.trans (by kernel_rfl) hc
              cases ht
          subst q17
          have q18 : b18 = true := by
            cases b18 with
            | true => rfl
            | false =>
              have hc := congrArg (fun r : List Nat => r.contains 18) hr
              have ht : true = false := Eq.trans (by kernel_rfl) hc
              cases ht
          subst q18
          have q19 : b19 = true := by
            cases b19 with
            | true => rfl
            | false =>
              have hc := congrArg (fun r : List Nat => r.contains 19) hr
              have ht : true = false := Eq.trans (by kernel_rfl) hc
              cases ht
          subst q19
          have q20 : b20 = true := by
            cases b20 with
            | true => rfl
            | false =>
              have hc := congrArg (fun r : List Nat => r.contains 20) hr
              have ht : true = false := Eq.trans (by kernel_rfl) hc
              cases ht
          subst q20
          obtain ⟨ux, hgx, -⟩ := f19 rfl
          obtain ⟨-, hB⟩ := f20 rfl
          obtain ⟨x0, x1, x2, x3, x4, x5, x6, x7, x8, x9, x10, x11, x12, x13, x14, x15, x16, x17, x18, x19, x20, x21, x22, x23, x24, x25, x26, x27, x28, x29, x30, x31, x32, x33, x34, x35, x36, x37, x38, x39, x40, x41, x42, x43, x44, x45, x46, x47, x48, x49, x50, x51, x52, ht⟩ := tmps53 hsz
          obtain ⟨tm, df⟩ := a
          replace ht : tm = _ := ht
          replace hd : df = [] := hd
          subst ht hd
          replace t0 : x0 = _ := t0
          replace t1 : x1 = _ := t1
          replace t2 : x2 = _ := t2
          replace t3 : x3 = _ := t3
          replace t4 : x4 = _ := t4
          replace t5 : x5 = _ := t5
          replace t6 : x6 = _ := t6
          replace t52 : x52 = _ := t52
          replace t23 : x23 = _ := t23
          replace t32 : x32 = _ := t32
          replace ux : x7 = _ := ux
          subst t0 t1 t2 t3 t4 t6 t52 ux
          subst x5
          have c0 : w5.cell? ⟨g19, 0, none⟩ = some (.int .i64 0) := hB.cell 0
          have c1 : w5.cell? ⟨g19, 1, none⟩ = some (.int .i64 0) := hB.cell 1
          have c2 : w5.cell? ⟨g19, 2, none⟩ = some (str (ufo p)) := hB.cell 2
          have c3 : w5.cell? ⟨g19, 3, none⟩ = some (str (ubo q)) := hB.cell 3
          have ce4 : w5.cell? ⟨g19, 4, none⟩ = some (.bool false) := hB.cell 4
          have hc5 : w5.cell? ⟨b, off + k, none⟩ = some (.int .i64 z) := (hb.cell hbw).trans hc0
          have r0 := hB.frozen 0
          have r1 := hB.frozen 1
          have r2 := hB.frozen 2
          have r3 := hB.frozen 3
          have r4 := hB.frozen 4
          have hgl := hB.lt
          have hbl5 : b < w5.heap.size := Nat.lt_of_lt_of_le hbw hb.size
          have HB := Lib.hid hB
          have Hb := Lib.hid hb
          have Hfq := Lib.hid (show ∃ i, i < 6 ∧ ufo p = ufo i from ⟨p, hp6, rfl⟩)
          have Hbq := Lib.hid (show ∃ r', r' < 3 ∧ ubo q = ubo r' from ⟨q, hq3, rfl⟩)
          clear hB hb f0 f5 f6 f7 f8 f14 f15 f16 f17 f18 f19 f20 hsz t23 t32 hr hS0
          generalize hfq : ufo p = fq at *
          generalize hbq : ubo q = bq at *
          clear hfq hbq
          go_wp2_with fail
          refine (picked_k (z.tdiv 18) 3 _ (by decide) (by decide)).mono ?_
          rintro e w6 ⟨rfl, hw6⟩
          subst hw6
          rw [Hr.out]
          by_cases x3 : r = 0
          · subst x3
            have hB7 : Blk ((w6.setCell ⟨g19, 4, none⟩ (.bool true)).setCell ⟨g19, 3, none⟩ (.string ⟨#[]⟩)) g19 44 #[.int .i64 0, .int .i64 0, str fq, .string ⟨#[]⟩, .bool true] := (HB.out.set_ 4 _).set_ 3 _
            have hb7 : Below wr.heap.size wr ((w6.setCell ⟨g19, 4, none⟩ (.bool true)).setCell ⟨g19, 3, none⟩ (.string ⟨#[]⟩)) := (Hb.out.setCell (p := ⟨g19, 4, none⟩) hgx _).setCell (p := ⟨g19, 3, none⟩) hgx _
            obtain ⟨w7, hW7⟩ : ∃ x, (w6.setCell ⟨g19, 4, none⟩ (.bool true)).setCell ⟨g19, 3, none⟩ (.string ⟨#[]⟩) = x := ⟨_, rfl⟩
            rw [hW7] at hB7 hb7
            have Hb7 := Lib.hid hb7
            have d0 : w7.cell? ⟨g19, 0, none⟩ = some (.int .i64 0) := hB7.cell 0
            have d1 : w7.cell? ⟨g19, 1, none⟩ = some (.int .i64 0) := hB7.cell 1
            have d2 : w7.cell? ⟨g19, 2, none⟩ = some (str fq) := hB7.cell 2
            have d3 : w7.cell? ⟨g19, 3, none⟩ = some (.string ⟨#[]⟩) := hB7.cell 3
            have d4 : w7.cell? ⟨g19, 4, none⟩ = some (.bool true) := hB7.cell 4
            have hgl7 := hB7.lt
            clear hB7 hb7
            have how := own_below Ho.out Hb7.out
            have hsz6 := Hb7.out.size
            obtain ⟨v', wf, hrun, ho', hg', -⟩ := run_app_el (P := Try.prog) (enc := ucL) ucL_len ucL_one (by omega) Try.underlying22 info_upd rfl (by omega) w7 w.heap.size k _ l ⟨0, 0, fq, [], true⟩ #[.int .i64 0, .int .i64 0, str fq, .string ⟨#[]⟩, .bool true] rfl how (by omega) (by omega)
            have Hrun := Lib.hid hrun
            have Ho' := Lib.hid ho'
            have Hb' := Lib.hid (below_own ((Hbe.out.trans (Hb7.out.mono hszw)).alloc (by omega) _) hg' (how.alloc _) (Nat.le_refl _) (by simp; omega))
            have Hdr' := Lib.hid (show ∀ a ∈ l ++ [⟨0, 0, fq, [], true⟩], Dru a from fun a ha => by
              rcases List.mem_append.1 ha with ha | ha
              · exact Hdr.out a ha
              · have e : a = ⟨0, 0, fq, [], true⟩ := by simpa using ha
                rw [e]
                exact dru_gone _ Hfq.out)
            have Hcl' := Lib.hid (show (l ++ [(⟨0, 0, fq, [], true⟩ : Uc)]).length = k + 1 by rw [List.length_append, Hcl.out]; rfl)
            clear hrun ho' hg' how
            go_wp2_with (first | (at_builtin; refine dv_app rfl _ _ _ rfl _ _ (by rfl) (by rfl) Hrun.out ?_; clear Hrun) | fail)
            go_roundg (lim - (k + 1))
            case measure => have := Hgk.out; omega
            case rel => exact ⟨k + 1, _, by go_num, by omega, by omega, rfl, Hcl'.out, Hdr'.out, Ho'.out, Hb'.out⟩
          · have m3 : ((r : Int) == 0) = false := by rw [beq_eq_false_iff_ne]; omega
            have how := own_below Ho.out Hb.out
            have hsz6 := Hb.out.size
            obtain ⟨v', wf, hrun, ho', hg', -⟩ := run_app_el (P := Try.prog) (enc := ucL) ucL_len ucL_one (by omega) Try.underlying22 info_upd rfl (by omega) w6 w.heap.size k _ l ⟨0, 0, fq, bq, false⟩ #[.int .i64 0, .int .i64 0, str fq, str bq, .bool false] rfl how (by omega) (by omega)
            have Hrun := Lib.hid hrun
            have Ho' := Lib.hid ho'
            have Hb' := Lib.hid (below_own ((Hbe.out.trans (Hb.out.mono hszw)).alloc (by omega) _) hg' (how.alloc _) (Nat.le_refl _) (by simp; omega))
            have Hdr' := Lib.hid (show ∀ a ∈ l ++ [⟨0, 0, fq, bq, false⟩], Dru a from fun a ha => by
              rcases List.mem_append.1 ha with ha | ha
              · exact Hdr.out a ha
              · have e : a = ⟨0, 0, fq, bq, false⟩ := by simpa using ha
                rw [e]
                exact dru_set _ _ Hfq.out Hbq.out)
            have Hcl' := Lib.hid (show (l ++ [(⟨0, 0, fq, bq, false⟩ : Uc)]).length = k + 1 by rw [List.length_append, Hcl.out]; rfl)
            clear hrun ho' hg' how
            go_wp2_with (first | (at_builtin; refine dv_app rfl _ _ _ rfl _ _ (by rfl) (by rfl) Hrun.out ?_; clear Hrun) | fail)
            go_roundg (lim - (k + 1))
            case measure => have := Hgk.out; omega
            case rel => exact ⟨k + 1, _, by go_num, by omega, by omega, rfl, Hcl'.out, Hdr'.out, Ho'.out, Hb'.out⟩
        · intro l a w i h hi
          obtain ⟨b0, b5, b6, b7, b8, b14, b15, b16, b17, b18, b19, b20, g0, g8, g19, rfl, hd, hsz, ⟨t0, t1, t2, t3, t4, t5, t6, t52, t23, t32⟩, f0, f5, f6, f7, f8, f14, f15, f16, f17, f18, f19, f20, hb⟩ := h
          obtain ⟨hun, oj, hoj, hall⟩ := mem_ready.1 hi
          have hin : i < 21 := (Array.getElem?_eq_some_iff.1 hoj).1
          rcases (by omega : i = 0 ∨ i = 1 ∨ i = 2 ∨ i = 3 ∨ i = 4 ∨ i = 5 ∨ i = 6 ∨ i = 7 ∨ i = 8 ∨ i = 9 ∨ i = 10 ∨ i = 11 ∨ i = 12 ∨ i = 13 ∨ i = 14 ∨ i = 15 ∨ i = 16 ∨ i = 17 ∨ i = 18 ∨ i = 19 ∨ i = 20) with rfl | rfl | rfl | rfl | rfl | rfl | rfl | rfl | rfl | rfl | rfl | rfl | rfl | rfl | rfl | rfl | rfl | rfl | rfl | rfl | rfl
          · skip
            have hbi : b0 = false := by simpa using hun
            subst hbi
            have h20 : b20 = false := by
              cases b20 with
              | false => rfl
              | true => have := (f20 rfl).1; simp at this
            subst h20
            have Hsz := Lib.hid hsz
            have Hd := Lib.hid hd
            clear hsz hd
            refine wpOp_of rfl rfl ?_
            intro K' hK'
            go_simp
            refine hK' _ _ ?_
            show InvU _ _ _ _ _ _ _ _ _ (a.put (some 19) (.slice (some ⟨w.heap.size, 0, none⟩) 6 6)) (w.alloc (.cells ufoC 9))
            have tn := fun j (h : j ≠ 19) => Ts_ne a 19 j (.slice (some ⟨w.heap.size, 0, none⟩) 6 6) h
            have ts := Ts_self a 19 (.slice (some ⟨w.heap.size, 0, none⟩) 6 6) (by rw [Hsz.out]; decide)
            exact ⟨true, b5, b6, b7, b8, b14, b15, b16, b17, b18, b19, false, w.heap.size, g8, g19, by rfl, Hd.out, (ts_size _ _ _).trans Hsz.out, ⟨(tn 0 (by decide)).trans t0, (tn 1 (by decide)).trans t1, (tn 2 (by decide)).trans t2, (tn 3 (by decide)).trans t3, (tn 4 (by decide)).trans t4, (tn 5 (by decide)).trans t5, (tn 6 (by decide)).trans t6, (tn 52 (by decide)).trans t52, (tn 23 (by decide)).trans t23, (tn 32 (by decide)).trans t32⟩,
              fun _ => ⟨ts, fun _ => Blk.new w _ _⟩, fun h => (tn 24 (by decide)).trans (f5 h), fun h => absurd (f6 h).1.1 (by simp), fun h => ⟨(f7 h).1, (tn 26 (by decide)).trans (f7 h).2⟩, fun h => ⟨(tn 27 (by decide)).trans (f8 h).1, fun _ => ((f8 h).2 rfl).alloc _⟩, fun h => (tn 33 (by decide)).trans (f14 h), fun h => ⟨(f15 h).1, (tn 34 (by decide)).trans (f15 h).2⟩, fun h => ⟨(f16 h).1, (tn 35 (by decide)).trans (f16 h).2⟩, fun h => ⟨(f17 h).1, (tn 36 (by decide)).trans (f17 h).2⟩, fun h => ⟨(f18 h).1, (tn 37 (by decide)).trans (f18 h).2⟩, fun h => ⟨(tn 7 (by decide)).trans (f19 h).1, (f19 h).2.1, fun _ => ((f19 h).2.2 rfl).alloc _⟩, fun h => (by cases h), hb.alloc hb.size _⟩
          · simp at hun
          · simp at hun
          · simp at hun
          · simp at hun
          · skip
            have hbi : b5 = false := by simpa using hun
            subst hbi
            have h20 : b20 = false := by
              cases b20 with
              | false => rfl
              | true => have := (f20 rfl).1; simp at this
            subst h20
            have e23 : (a.tmps[23]?).getD undef = .int .i64 z := t23
            have Hsz := Lib.hid hsz
            have Hd := Lib.hid hd
            clear hsz hd
            refine wpOp_of rfl rfl ?_
            intro K' hK'
            go_simp
            refine (picked_k z 6 w (by decide) (by decide)).mono ?_
            rintro e w1 ⟨rfl, hw1⟩
            obtain rfl : w = w1 := hw1.symm
            rw [Hp.out]
            refine hK' _ _ ?_
            show InvU _ _ _ _ _ _ _ _ _ (a.put (some 24) (.int .i64 (p : Int))) w
            have tn := fun j (h : j ≠ 24) => Ts_ne a 24 j (.int .i64 (p : Int)) h
            have ts := Ts_self a 24 (.int .i64 (p : Int)) (by rw [Hsz.out]; decide)
            exact ⟨b0, true, b6, b7, b8, b14, b15, b16, b17, b18, b19, false, g0, g8, g19, by rfl, Hd.out, (ts_size _ _ _).trans Hsz.out, ⟨(tn 0 (by decide)).trans t0, (tn 1 (by decide)).trans t1, (tn 2 (by decide)).trans t2, (tn 3 (by decide)).trans t3, (tn 4 (by decide)).trans t4, (tn 5 (by decide)).trans t5, (tn 6 (by decide)).trans t6, (tn 52 (by decide)).trans t52, (tn 23 (by decide)).trans t23, (tn 32 (by decide)).trans t32⟩,
              fun h => ⟨(tn 19 (by decide)).trans (f0 h).1, fun _ => ((f0 h).2 rfl)⟩, fun _ => ts, fun h => absurd (f6 h).1.2 (by simp), fun h => ⟨(f7 h).1, (tn 26 (by decide)).trans (f7 h).2⟩, fun h => ⟨(tn 27 (by decide)).trans (f8 h).1, fun _ => ((f8 h).2 rfl)⟩, fun h => (tn 33 (by decide)).trans (f14 h), fun h => ⟨(f15 h).1, (tn 34 (by decide)).trans (f15 h).2⟩, fun h => ⟨(f16 h).1, (tn 35 (by decide)).trans (f16 h).2⟩, fun h => ⟨(f17 h).1, (tn 36 (by decide)).trans (f17 h).2⟩, fun h => ⟨(f18 h).1, (tn 37 (by decide)).trans (f18 h).2⟩, fun h => ⟨(tn 7 (by decide)).trans (f19 h).1, (f19 h).2.1, fun _ => ((f19 h).2.2 rfl)⟩, fun h => (by cases h), hb⟩
          · skip
            have hbi : b6 = false := by simpa using hun
            subst hbi
            obtain rfl := (Option.some.inj hoj).symm
            have d0 : b0 = true := by simpa using hall ⟨0, .data⟩ (by simp) (by rfl)
            have d5 : b5 = true := by simpa using hall ⟨5, .data⟩ (by simp) (by rfl)
            subst d0
            subst d5
            have h20 : b20 = false := by
              cases b20 with
              | false => rfl
              | true => have := (f20 rfl).1; simp at this
            subst h20
            have el : (a.tmps[19]?).getD undef = _ := (f0 rfl).1
            have ec : (a.tmps[24]?).getD undef = _ := f5 rfl
            have Hsz := Lib.hid hsz
            have Hd := Lib.hid hd
            clear hsz hd
            refine wpOp_of rfl rfl ?_
            intro K' hK'
            go_simp
            refine hK' _ _ ?_
            show InvU _ _ _ _ _ _ _ _ _ (a.put (some 25) (.pointer (some ⟨g0, p, none⟩))) w
            have tn := fun j (h : j ≠ 25) => Ts_ne a 25 j (.pointer (some ⟨g0, p, none⟩)) h
            have ts := Ts_self a 25 (.pointer (some ⟨g0, p, none⟩)) (by rw [Hsz.out]; decide)
            exact ⟨true, true, true, b7, b8, b14, b15, b16, b17, b18, b19, false, g0, g8, g19, by rfl, Hd.out, (ts_size _ _ _).trans Hsz.out, ⟨(tn 0 (by decide)).trans t0, (tn 1 (by decide)).trans t1, (tn 2 (by decide)).trans t2, (tn 3 (by decide)).trans t3, (tn 4 (by decide)).trans t4, (tn 5 (by decide)).trans t5, (tn 6 (by decide)).trans t6, (tn 52 (by decide)).trans t52, (tn 23 (by decide)).trans t23, (tn 32 (by decide)).trans t32⟩,
              fun h => ⟨(tn 19 (by decide)).trans (f0 h).1, fun _ => ((f0 h).2 rfl)⟩, fun h => (tn 24 (by decide)).trans (f5 h), fun _ => ⟨⟨rfl, rfl⟩, ts⟩, fun h => absurd (f7 h).1 (by simp), fun h => ⟨(tn 27 (by decide)).trans (f8 h).1, fun _ => ((f8 h).2 rfl)⟩, fun h => (tn 33 (by decide)).trans (f14 h), fun h => ⟨(f15 h).1, (tn 34 (by decide)).trans (f15 h).2⟩, fun h => ⟨(f16 h).1, (tn 35 (by decide)).trans (f16 h).2⟩, fun h => ⟨(f17 h).1, (tn 36 (by decide)).trans (f17 h).2⟩, fun h => ⟨(f18 h).1, (tn 37 (by decide)).trans (f18 h).2⟩, fun h => ⟨(tn 7 (by decide)).trans (f19 h).1, (f19 h).2.1, fun _ => ((f19 h).2.2 rfl)⟩, fun h => (by cases h), hb⟩
          · skip
            have hbi : b7 = false := by simpa using hun
            subst hbi
            obtain rfl := (Option.some.inj hoj).symm
            have d6 : b6 = true := by simpa using hall ⟨6, .data⟩ (by simp) (by rfl)
            subst d6
            have h20 : b20 = false := by
              cases b20 with
              | false => rfl
              | true => have := (f20 rfl).1; simp at this
            subst h20
            have el : (a.tmps[25]?).getD undef = _ := (f6 rfl).2
            have ec := (((f0 (f6 rfl).1.1).2 rfl).cell p).trans (ufoC_at p hp6)
            have Hsz := Lib.hid hsz
            have Hd := Lib.hid hd
            clear hsz hd
            refine wpOp_of rfl rfl ?_
            intro K' hK'
            go_simp
            refine hK' _ _ ?_
            show InvU _ _ _ _ _ _ _ _ _ (a.put (some 26) (str (ufo p))) w
            have tn := fun j (h : j ≠ 26) => Ts_ne a 26 j (str (ufo p)) h
            have ts := Ts_self a 26 (str (ufo p)) (by rw [Hsz.out]; decide)
            exact ⟨b0, b5, true, true, b8, b14, b15, b16, b17, b18, b19, false, g0, g8, g19, by rfl, Hd.out, (ts_size _ _ _).trans Hsz.out, ⟨(tn 0 (by decide)).trans t0, (tn 1 (by decide)).trans t1, (tn 2 (by decide)).trans t2, (tn 3 (by decide)).trans t3, (tn 4 (by decide)).trans t4, (tn 5 (by decide)).trans t5, (tn 6 (by decide)).trans t6, (tn 52 (by decide)).trans t52, (tn 23 (by decide)).trans t23, (tn 32 (by decide)).trans t32⟩,
              fun h => ⟨(tn 19 (by decide)).trans (f0 h).1, fun _ => ((f0 h).2 rfl)⟩, fun h => (tn 24 (by decide)).trans (f5 h), fun h => ⟨(f6 h).1, (tn 25 (by decide)).trans (f6 h).2⟩, fun _ => ⟨rfl, ts⟩, fun h => ⟨(tn 27 (by decide)).trans (f8 h).1, fun _ => ((f8 h).2 rfl)⟩, fun h => (tn 33 (by decide)).trans (f14 h), fun h => ⟨(f15 h).1, (tn 34 (by decide)).trans (f15 h).2⟩, fun h => ⟨(f16 h).1, (tn 35 (by decide)).trans (f16 h).2⟩, fun h => absurd (f17 h).1.1 (by simp), fun h => ⟨(f18 h).1, (tn 37 (by decide)).trans (f18 h).2⟩, fun h => ⟨(tn 7 (by decide)).trans (f19 h).1, (f19 h).2.1, fun _ => ((f19 h).2.2 rfl)⟩, fun h => (by cases h), hb⟩
          · skip
            have hbi : b8 = false := by simpa using hun
            subst hbi
            have h20 : b20 = false := by
              cases b20 with
              | false => rfl
              | true => have := (f20 rfl).1; simp at this
            subst h20
            have Hsz := Lib.hid hsz
            have Hd := Lib.hid hd
            clear hsz hd
            refine wpOp_of rfl rfl ?_
            intro K' hK'
            go_simp
            refine hK' _ _ ?_
            show InvU _ _ _ _ _ _ _ _ _ (a.put (some 27) (.slice (some ⟨w.heap.size, 0, none⟩) 3 3)) (w.alloc (.cells uboC 9))
            have tn := fun j (h : j ≠ 27) => Ts_ne a 27 j (.slice (some ⟨w.heap.size, 0, none⟩) 3 3) h
            have ts := Ts_self a 27 (.slice (some ⟨w.heap.size, 0, none⟩) 3 3) (by rw [Hsz.out]; decide)
            exact ⟨b0, b5, b6, b7, true, b14, b15, b16, b17, b18, b19, false, g0, w.heap.size, g19, by rfl, Hd.out, (ts_size _ _ _).trans Hsz.out, ⟨(tn 0 (by decide)).trans t0, (tn 1 (by decide)).trans t1, (tn 2 (by decide)).trans t2, (tn 3 (by decide)).trans t3, (tn 4 (by decide)).trans t4, (tn 5 (by decide)).trans t5, (tn 6 (by decide)).trans t6, (tn 52 (by decide)).trans t52, (tn 23 (by decide)).trans t23, (tn 32 (by decide)).trans t32⟩,
              fun h => ⟨(tn 19 (by decide)).trans (f0 h).1, fun _ => ((f0 h).2 rfl).alloc _⟩, fun h => (tn 24 (by decide)).trans (f5 h), fun h => ⟨(f6 h).1, (tn 25 (by decide)).trans (f6 h).2⟩, fun h => ⟨(f7 h).1, (tn 26 (by decide)).trans (f7 h).2⟩, fun _ => ⟨ts, fun _ => Blk.new w _ _⟩, fun h => (tn 33 (by decide)).trans (f14 h), fun h => absurd (f15 h).1.1 (by simp), fun h => ⟨(f16 h).1, (tn 35 (by decide)).trans (f16 h).2⟩, fun h => ⟨(f17 h).1, (tn 36 (by decide)).trans (f17 h).2⟩, fun h => ⟨(f18 h).1, (tn 37 (by decide)).trans (f18 h).2⟩, fun h => ⟨(tn 7 (by decide)).trans (f19 h).1, (f19 h).2.1, fun _ => ((f19 h).2.2 rfl).alloc _⟩, fun h => (by cases h), hb.alloc hb.size _⟩
          · simp at hun
          · simp at hun
          · simp at hun
          · simp at hun
          · simp at hun
          · skip
            have hbi : b14 = false := by simpa using hun
            subst hbi
            have h20 : b20 = false := by
              cases b20 with
              | false => rfl
              | true => have := (f20 rfl).1; simp at this
            subst h20
            have e32 : (a.tmps[32]?).getD undef = .int .i64 (z.tdiv 6) := t32
            have Hsz := Lib.hid hsz
            have Hd := Lib.hid hd
            clear hsz hd
            refine wpOp_of rfl rfl ?_
            intro K' hK'
            go_simp
            refine (picked_k (z.tdiv 6) 3 w (by decide) (by decide)).mono ?_
            rintro e w1 ⟨rfl, hw1⟩
            obtain rfl : w = w1 := hw1.symm
            rw [Hq.out]
            refine hK' _ _ ?_
            show InvU _ _ _ _ _ _ _ _ _ (a.put (some 33) (.int .i64 (q : Int))) w
            have tn := fun j (h : j ≠ 33) => Ts_ne a 33 j (.int .i64 (q : Int)) h
            have ts := Ts_self a 33 (.int .i64 (q : Int)) (by rw [Hsz.out]; decide)
            exact ⟨b0, b5, b6, b7, b8, true, b15, b16, b17, b18, b19, false, g0, g8, g19, by rfl, Hd.out, (ts_size _ _ _).trans Hsz.out, ⟨(tn 0 (by decide)).trans t0, (tn 1 (by decide)).trans t1, (tn 2 (by decide)).trans t2, (tn 3 (by decide)).trans t3, (tn 4 (by decide)).trans t4, (tn 5 (by decide)).trans t5, (tn 6 (by decide)).trans t6, (tn 52 (by decide)).trans t52, (tn 23 (by decide)).trans t23, (tn 32 (by decide)).trans t32⟩,
              fun h => ⟨(tn 19 (by decide)).trans (f0 h).1, fun _ => ((f0 h).2 rfl)⟩, fun h => (tn 24 (by decide)).trans (f5 h), fun h => ⟨(f6 h).1, (tn 25 (by decide)).trans (f6 h).2⟩, fun h => ⟨(f7 h).1, (tn 26 (by decide)).trans (f7 h).2⟩, fun h => ⟨(tn 27 (by decide)).trans (f8 h).1, fun _ => ((f8 h).2 rfl)⟩, fun _ => ts, fun h => absurd (f15 h).1.2 (by simp), fun h => ⟨(f16 h).1, (tn 35 (by decide)).trans (f16 h).2⟩, fun h => ⟨(f17 h).1, (tn 36 (by decide)).trans (f17 h).2⟩, fun h => ⟨(f18 h).1, (tn 37 (by decide)).trans (f18 h).2⟩, fun h => ⟨(tn 7 (by decide)).trans (f19 h).1, (f19 h).2.1, fun _ => ((f19 h).2.2 rfl)⟩, fun h => (by cases h), hb⟩
          · skip
            have hbi : b15 = false := by simpa using hun
            subst hbi
            obtain rfl := (Option.some.inj hoj).symm
            have d8 : b8 = true := by simpa using hall ⟨8, .data⟩ (by simp) (by rfl)
            have d14 : b14 = true := by simpa using hall ⟨14, .data⟩ (by simp) (by rfl)
            subst d8
            subst d14
            have h20 : b20 = false := by
              cases b20 with
              | false => rfl
              | true => have := (f20 rfl).1; simp at this
            subst h20
            have el : (a.tmps[27]?).getD undef = _ := (f8 rfl).1
            have ec : (a.tmps[33]?).getD undef = _ := f14 rfl
            have Hsz := Lib.hid hsz
            have Hd := Lib.hid hd
            clear hsz hd
            refine wpOp_of rfl rfl ?_
            intro K' hK'
            go_simp
            refine hK' _ _ ?_
            show InvU _ _ _ _ _ _ _ _ _ (a.put (some 34) (.pointer (some ⟨g8, q, none⟩))) w
            have tn := fun j (h : j ≠ 34) => Ts_ne a 34 j (.pointer (some ⟨g8, q, none⟩)) h
            have ts := Ts_self a 34 (.pointer (some ⟨g8, q, none⟩)) (by rw [Hsz.out]; decide)
            exact ⟨b0, b5, b6, b7, true, true, true, b16, b17, b18, b19, false, g0, g8, g19, by rfl, Hd.out, (ts_size _ _ _).trans Hsz.out, ⟨(tn 0 (by decide)).trans t0, (tn 1 (by decide)).trans t1, (tn 2 (by decide)).trans t2, (tn 3 (by decide)).trans t3, (tn 4 (by decide)).trans t4, (tn 5 (by decide)).trans t5, (tn 6 (by decide)).trans t6, (tn 52 (by decide)).trans t52, (tn 23 (by decide)).trans t23, (tn 32 (by decide)).trans t32⟩,
              fun h => ⟨(tn 19 (by decide)).trans (f0 h).1, fun _ => ((f0 h).2 rfl)⟩, fun h => (tn 24 (by decide)).trans (f5 h), fun h => ⟨(f6 h).1, (tn 25 (by decide)).trans (f6 h).2⟩, fun h => ⟨(f7 h).1, (tn 26 (by decide)).trans (f7 h).2⟩, fun h => ⟨(tn 27 (by decide)).trans (f8 h).1, fun _ => ((f8 h).2 rfl)⟩, fun h => (tn 33 (by decide)).trans (f14 h), fun _ => ⟨⟨rfl, rfl⟩, ts⟩, fun h => absurd (f16 h).1 (by simp), fun h => ⟨(f17 h).1, (tn 36 (by decide)).trans (f17 h).2⟩, fun h => ⟨(f18 h).1, (tn 37 (by decide)).trans (f18 h).2⟩, fun h => ⟨(tn 7 (by decide)).trans (f19 h).1, (f19 h).2.1, fun _ => ((f19 h).2.2 rfl)⟩, fun h => (by cases h), hb⟩
          · skip
            have hbi : b16 = false := by simpa using hun
            subst hbi
            obtain rfl := (Option.some.inj hoj).symm
            have d15 : b15 = true := by simpa using hall ⟨15, .data⟩ (by simp) (by rfl)
            subst d15
            have h20 : b20 = false := by
              cases b20 with
              | false => rfl
              | true => have := (f20 rfl).1; simp at this
            subst h20
            have el : (a.tmps[34]?).getD undef = _ := (f15 rfl).2
            have ec := (((f8 (f15 rfl).1.1).2 rfl).cell q).trans (uboC_at q hq3)
            have Hsz := Lib.hid hsz
            have Hd := Lib.hid hd
            clear hsz hd
            refine wpOp_of rfl rfl ?_
            intro K' hK'
            go_simp
            refine hK' _ _ ?_
            show InvU _ _ _ _ _ _ _ _ _ (a.put (some 35) (str (ubo q))) w
            have tn := fun j (h : j ≠ 35) => Ts_ne a 35 j (str (ubo q)) h
            have ts := Ts_self a 35 (str (ubo q)) (by rw [Hsz.out]; decide)
            exact ⟨b0, b5, b6, b7, b8, b14, true, true, b17, b18, b19, false, g0, g8, g19, by rfl, Hd.out, (ts_size _ _ _).trans Hsz.out, ⟨(tn 0 (by decide)).trans t0, (tn 1 (by decide)).trans t1, (tn 2 (by decide)).trans t2, (tn 3 (by decide)).trans t3, (tn 4 (by decide)).trans t4, (tn 5 (by decide)).trans t5, (tn 6 (by decide)).trans t6, (tn 52 (by decide)).trans t52, (tn 23 (by decide)).trans t23, (tn 32 (by decide)).trans t32⟩,
              fun h => ⟨(tn 19 (by decide)).trans (f0 h).1, fun _ => ((f0 h).2 rfl)⟩, fun h => (tn 24 (by decide)).trans (f5 h), fun h => ⟨(f6 h).1, (tn 25 (by decide)).trans (f6 h).2⟩, fun h => ⟨(f7 h).1, (tn 26 (by decide)).trans (f7 h).2⟩, fun h => ⟨(tn 27 (by decide)).trans (f8 h).1, fun _ => ((f8 h).2 rfl)⟩, fun h => (tn 33 (by decide)).trans (f14 h), fun h => ⟨(f15 h).1, (tn 34 (by decide)).trans (f15 h).2⟩, fun _ => ⟨rfl, ts⟩, fun h => absurd (f17 h).1.2 (by simp), fun h => ⟨(f18 h).1, (tn 37 (by decide)).trans (f18 h).2⟩, fun h => ⟨(tn 7 (by decide)).trans (f19 h).1, (f19 h).2.1, fun _ => ((f19 h).2.2 rfl)⟩, fun h => (by cases h), hb⟩
          · skip
            have hbi : b17 = false := by simpa using hun
            subst hbi
            obtain rfl := (Option.some.inj hoj).symm
            have d7 : b7 = true := by simpa using hall ⟨7, .data⟩ (by simp) (by rfl)
            have d16 : b16 = true := by simpa using hall ⟨16, .data⟩ (by simp) (by rfl)
            subst d7
            subst d16
            have h20 : b20 = false := by
              cases b20 with
              | false => rfl
              | true => have := (f20 rfl).1; simp at this
            subst h20
            have e7 : (a.tmps[26]?).getD undef = _ := (f7 rfl).2
            have e16 : (a.tmps[35]?).getD undef = _ := (f16 rfl).2
            have Hsz := Lib.hid hsz
            have Hd := Lib.hid hd
            clear hsz hd
            refine wpOp_of rfl rfl ?_
            intro K' hK'
            go_simp
            refine hK' _ _ ?_
            show InvU _ _ _ _ _ _ _ _ _ (a.put (some 36) (.agg #[str (ufo p), str (ubo q)])) w
            have tn := fun j (h : j ≠ 36) => Ts_ne a 36 j (.agg #[str (ufo p), str (ubo q)]) h
            have ts := Ts_self a 36 (.agg #[str (ufo p), str (ubo q)]) (by rw [Hsz.out]; decide)
            exact ⟨b0, b5, b6, true, b8, b14, b15, true, true, b18, b19, false, g0, g8, g19, by rfl, Hd.out, (ts_size _ _ _).trans Hsz.out, ⟨(tn 0 (by decide)).trans t0, (tn 1 (by decide)).trans t1, (tn 2 (by decide)).trans t2, (tn 3 (by decide)).trans t3, (tn 4 (by decide)).trans t4, (tn 5 (by decide)).trans t5, (tn 6 (by decide)).trans t6, (tn 52 (by decide)).trans t52, (tn 23 (by decide)).trans t23, (tn 32 (by decide)).trans t32⟩,
              fun h => ⟨(tn 19 (by decide)).trans (f0 h).1, fun _ => ((f0 h).2 rfl)⟩, fun h => (tn 24 (by decide)).trans (f5 h), fun h => ⟨(f6 h).1, (tn 25 (by decide)).trans (f6 h).2⟩, fun h => ⟨(f7 h).1, (tn 26 (by decide)).trans (f7 h).2⟩, fun h => ⟨(tn 27 (by decide)).trans (f8 h).1, fun _ => ((f8 h).2 rfl)⟩, fun h => (tn 33 (by decide)).trans (f14 h), fun h => ⟨(f15 h).1, (tn 34 (by decide)).trans (f15 h).2⟩, fun h => ⟨(f16 h).1, (tn 35 (by decide)).trans (f16 h).2⟩, fun _ => ⟨⟨rfl, rfl⟩, ts⟩, fun h => absurd (f18 h).1 (by simp), fun h => ⟨(tn 7 (by decide)).trans (f19 h).1, (f19 h).2.1, fun _ => ((f19 h).2.2 rfl)⟩, fun h => (by cases h), hb⟩
          · skip
            have hbi : b18 = false := by simpa using hun
            subst hbi
            obtain rfl := (Option.some.inj hoj).symm
            have d17 : b17 = true := by simpa using hall ⟨17, .data⟩ (by simp) (by rfl)
            subst d17
            have h20 : b20 = false := by
              cases b20 with
              | false => rfl
              | true => have := (f20 rfl).1; simp at this
            subst h20
            have e17 : (a.tmps[36]?).getD undef = _ := (f17 rfl).2
            have Hsz := Lib.hid hsz
            have Hd := Lib.hid hd
            clear hsz hd
            refine wpOp_of rfl rfl ?_
            intro K' hK'
            go_simp
            refine hK' _ _ ?_
            show InvU _ _ _ _ _ _ _ _ _ (a.put (some 37) (.agg #[.int .i64 0, .int .i64 0, str (ufo p), str (ubo q), .bool false])) w
            have tn := fun j (h : j ≠ 37) => Ts_ne a 37 j (.agg #[.int .i64 0, .int .i64 0, str (ufo p), str (ubo q), .bool false]) h
            have ts := Ts_self a 37 (.agg #[.int .i64 0, .int .i64 0, str (ufo p), str (ubo q), .bool false]) (by rw [Hsz.out]; decide)
            exact ⟨b0, b5, b6, b7, b8, b14, b15, b16, true, true, b19, false, g0, g8, g19, by rfl, Hd.out, (ts_size _ _ _).trans Hsz.out, ⟨(tn 0 (by decide)).trans t0, (tn 1 (by decide)).trans t1, (tn 2 (by decide)).trans t2, (tn 3 (by decide)).trans t3, (tn 4 (by decide)).trans t4, (tn 5 (by decide)).trans t5, (tn 6 (by decide)).trans t6, (tn 52 (by decide)).trans t52, (tn 23 (by decide)).trans t23, (tn 32 (by decide)).trans t32⟩,
              fun h => ⟨(tn 19 (by decide)).trans (f0 h).1, fun _ => ((f0 h).2 rfl)⟩, fun h => (tn 24 (by decide)).trans (f5 h), fun h => ⟨(f6 h).1, (tn 25 (by decide)).trans (f6 h).2⟩, fun h => ⟨(f7 h).1, (tn 26 (by decide)).trans (f7 h).2⟩, fun h => ⟨(tn 27 (by decide)).trans (f8 h).1, fun _ => ((f8 h).2 rfl)⟩, fun h => (tn 33 (by decide)).trans (f14 h), fun h => ⟨(f15 h).1, (tn 34 (by decide)).trans (f15 h).2⟩, fun h => ⟨(f16 h).1, (tn 35 (by decide)).trans (f16 h).2⟩, fun h => ⟨(f17 h).1, (tn 36 (by decide)).trans (f17 h).2⟩, fun _ => ⟨rfl, ts⟩, fun h => ⟨(tn 7 (by decide)).trans (f19 h).1, (f19 h).2.1, fun _ => ((f19 h).2.2 rfl)⟩, fun h => (by cases h), hb⟩
          · skip
            have hbi : b19 = false := by simpa using hun
            subst hbi
            have h20 : b20 = false := by
              cases b20 with
              | false => rfl
              | true => have := (f20 rfl).1; simp at this
            subst h20
            have Hsz := Lib.hid hsz
            have Hd := Lib.hid hd
            clear hsz hd
            refine wpOp_of rfl rfl ?_
            intro K' hK'
            go_simp
            refine hK' _ _ ?_
            show InvU _ _ _ _ _ _ _ _ _ (a.put (some 7) (.pointer (some ⟨w.heap.size, 0, none⟩))) (w.alloc (.cells #[.int .i64 0, .int .i64 0, .string ⟨#[]⟩, .string ⟨#[]⟩, .bool false] 44))
            have tn := fun j (h : j ≠ 7) => Ts_ne a 7 j (.pointer (some ⟨w.heap.size, 0, none⟩)) h
            have ts := Ts_self a 7 (.pointer (some ⟨w.heap.size, 0, none⟩)) (by rw [Hsz.out]; decide)
            exact ⟨b0, b5, b6, b7, b8, b14, b15, b16, b17, b18, true, false, g0, g8, w.heap.size, by rfl, Hd.out, (ts_size _ _ _).trans Hsz.out, ⟨(tn 0 (by decide)).trans t0, (tn 1 (by decide)).trans t1, (tn 2 (by decide)).trans t2, (tn 3 (by decide)).trans t3, (tn 4 (by decide)).trans t4, (tn 5 (by decide)).trans t5, (tn 6 (by decide)).trans t6, (tn 52 (by decide)).trans t52, (tn 23 (by decide)).trans t23, (tn 32 (by decide)).trans t32⟩,
              fun h => ⟨(tn 19 (by decide)).trans (f0 h).1, fun _ => ((f0 h).2 rfl).alloc _⟩, fun h => (tn 24 (by decide)).trans (f5 h), fun h => ⟨(f6 h).1, (tn 25 (by decide)).trans (f6 h).2⟩, fun h => ⟨(f7 h).1, (tn 26 (by decide)).trans (f7 h).2⟩, fun h => ⟨(tn 27 (by decide)).trans (f8 h).1, fun _ => ((f8 h).2 rfl).alloc _⟩, fun h => (tn 33 (by decide)).trans (f14 h), fun h => ⟨(f15 h).1, (tn 34 (by decide)).trans (f15 h).2⟩, fun h => ⟨(f16 h).1, (tn 35 (by decide)).trans (f16 h).2⟩, fun h => ⟨(f17 h).1, (tn 36 (by decide)).trans (f17 h).2⟩, fun h => ⟨(f18 h).1, (tn 37 (by decide)).trans (f18 h).2⟩, fun _ => ⟨ts, hb.size, fun _ => Blk.new w _ _⟩, fun h => (by cases h), hb.alloc hb.size _⟩
          · skip
            have hbi : b20 = false := by simpa using hun
            subst hbi
            obtain rfl := (Option.some.inj hoj).symm
            have dx : b19 = true := by simpa using hall ⟨19, .data⟩ (by simp) (by rfl)
            have db : b18 = true := by simpa using hall ⟨18, .data⟩ (by simp) (by rfl)
            subst dx db
            obtain ⟨e17, ub⟩ := f18 rfl
            subst e17
            obtain ⟨⟨e7, e16⟩, um17⟩ := f17 rfl
            subst e7
            subst e16
            have e6 := (f7 rfl).1
            subst e6
            obtain ⟨⟨e0, e5⟩, u6⟩ := f6 rfl
            subst e0 e5
            have e15 := (f16 rfl).1
            subst e15
            obtain ⟨⟨e8, e14⟩, u15⟩ := f15 rfl
            subst e8 e14
            obtain ⟨ux, hgx, hB⟩ := f19 rfl
            replace hB := hB rfl
            have eb : (a.tmps[37]?).getD undef = _ := ub
            have ex : (a.tmps[7]?).getD undef = _ := ux
            have c0 := hB.cell 0
            have r0 := hB.frozen 0
            have c1 := hB.cell 1
            have r1 := hB.frozen 1
            have c2 := hB.cell 2
            have r2 := hB.frozen 2
            have c3 := hB.cell 3
            have r3 := hB.frozen 3
            have c4 := hB.cell 4
            have r4 := hB.frozen 4
            have hB2 : Blk (((((w.setCell ⟨g19, 0, none⟩ (.int .i64 0)).setCell ⟨g19, 1, none⟩ (.int .i64 0)).setCell ⟨g19, 2, none⟩ (str (ufo p))).setCell ⟨g19, 3, none⟩ (str (ubo q))).setCell ⟨g19, 4, none⟩ (.bool false)) g19 44 #[.int .i64 0, .int .i64 0, str (ufo p), str (ubo q), .bool false] := (((((hB.set_ 0 _).set_ 1 _).set_ 2 _).set_ 3 _).set_ 4 _)
            have Hsz := Lib.hid hsz
            have Hd := Lib.hid hd
            clear hsz hd
            refine wpOp_of rfl rfl ?_
            intro K' hK'
            simp at c0 c1 c2 c3 c4
            go_simp
            refine hK' _ _ ?_
            show InvU _ _ _ _ _ _ _ _ _ a (((((w.setCell ⟨g19, 0, none⟩ (.int .i64 0)).setCell ⟨g19, 1, none⟩ (.int .i64 0)).setCell ⟨g19, 2, none⟩ (str (ufo p))).setCell ⟨g19, 3, none⟩ (str (ubo q))).setCell ⟨g19, 4, none⟩ (.bool false))
            exact ⟨true, true, true, true, true, true, true, true, true, true, true, true, g0, g8, g19, by rfl, Hd.out, Hsz.out, ⟨t0, t1, t2, t3, t4, t5, t6, t52, t23, t32⟩, fun _ => ⟨(f0 rfl).1, fun h => (by cases h)⟩, f5, f6, f7, fun _ => ⟨(f8 rfl).1, fun h => (by cases h)⟩, f14, f15, f16, f17, f18, fun _ => ⟨ux, hgx, fun h => (by cases h)⟩, fun _ => ⟨rfl, hB2⟩, (((((hb.setCell hgx _).setCell hgx _).setCell hgx _).setCell hgx _).setCell hgx _)⟩
        · exact ⟨false, false, false, false, false, false, false, false, false, false, false, false, 0, 0, 0, by kernel_rfl, by kernel_rfl, by kernel_rfl, ⟨by kernel_rfl, by kernel_rfl, by kernel_rfl, by kernel_rfl, by kernel_rfl, by kernel_rfl, by kernel_rfl, by kernel_rfl, by kernel_rfl, by kernel_rfl⟩, by simp, by simp, by simp, by simp, by simp, by simp, by simp, by simp, by simp, by simp, by simp, by simp, hS0⟩
        · exact Nat.le_of_eq (by kernel_rfl)
      · have hi1 : (k : Int) < (n : Int) := by omega
        have hi2 : ¬ (k : Int) < (lim : Int) := by omega
        go_wp2_with fail
        go_ret
        exact ⟨_, rfl, l, by rw [Hcl.out]; exact Ho.out, by rw [Hcl.out]; omega, Hdr.out, Hbe.out⟩
    · have hi1 : ¬ (k : Int) < (n : Int) := by omega
      go_wp2_with fail
      go_ret
      exact ⟨_, rfl, l, by rw [Hcl.out]; exact Ho.out, by rw [Hcl.out]; omega, Hdr.out, Hbe.out⟩
end Go.Proofs.Ytmlgaedhfannmaa
