/- The message box: Posts: what holds while a post is drawn. -/
import Derived.Test.YtmlgaedhfannmaaPkT
import Derived.Test.YtmlgaedhfannmaaBxM
namespace Go.Proofs.Ytmlgaedhfannmaa
set_option linter.unusedVariables false
set_option linter.unusedSimpArgs false
open Go.RowKit
/-- The senders and the bodies that are drawn. -/
def pfo (p : Nat) : List UInt8 := (([[64, 97, 58, 120], [64, 98, 58, 120], [64, 97, 58, 121]] : List (List UInt8))[p]?).getD []
def pbo (r : Nat) : List UInt8 := (([[104, 105], [121, 111], []] : List (List UInt8))[r]?).getD []
def pfoC : Array Value := #[.string ⟨#[64, 97, 58, 120]⟩, .string ⟨#[64, 98, 58, 120]⟩, .string ⟨#[64, 97, 58, 121]⟩]
def pboC : Array Value := #[.string ⟨#[104, 105]⟩, .string ⟨#[121, 111]⟩, .string ⟨#[]⟩]
theorem pfoC_at : ∀ p : Nat, p < 3 → pfoC[p]? = some (str (pfo p))
  | 0, _ => rfl | 1, _ => rfl | 2, _ => rfl
  | p + 3, h => by omega
theorem pboC_at : ∀ p : Nat, p < 3 → pboC[p]? = some (str (pbo p))
  | 0, _ => rfl | 1, _ => rfl | 2, _ => rfl
  | p + 3, h => by omega
/-- What holds while the region is run, in whatever order. -/
def InvP (A0 lim s5 s6 : Value) (z : Int) (p q r : Nat) (W0 : World) (l : Array Bool) (a : Act) (w : World) : Prop :=
  ∃ (b0 b2 b3 b4 b7 b8 b11 b12 b13 b14 b15 b16 : Bool) (g0 g8 g15 : Nat), l = #[b0, true, b2, b3, b4, true, true, b7, b8, true, true, b11, b12, b13, b14, b15, b16] ∧ a.defers = [] ∧ a.tmps.size = 57 ∧
    (Ts a 0 = A0 ∧ Ts a 1 = lim ∧ Ts a 2 = undef ∧ Ts a 3 = undef ∧ Ts a 4 = .slice none 0 0 ∧ Ts a 5 = s5 ∧ Ts a 6 = s6 ∧ Ts a 7 = .int .i64 z ∧ Ts a 56 = undef ∧ Ts a 25 = .int .i64 z ∧ Ts a 30 = .int .i64 (z.tdiv 3) ∧ Ts a 34 = .int .i64 (z.tdiv 36)) ∧
    (b0 = true → Ts a 24 = .slice (some ⟨g0, 0, none⟩) 3 3 ∧ (b16 = false → Blk w g0 9 pfoC)) ∧
    (b2 = true → Ts a 26 = .int .i64 (p : Int)) ∧
    (b3 = true → (b0 = true ∧ b2 = true) ∧ Ts a 27 = .pointer (some ⟨g0, p, none⟩)) ∧
    (b4 = true → b3 = true ∧ Ts a 28 = str (pfo p)) ∧
    (b7 = true → Ts a 31 = .int .i64 (q : Int)) ∧
    (b8 = true → Ts a 32 = .slice (some ⟨g8, 0, none⟩) 3 3 ∧ (b16 = false → Blk w g8 9 pboC)) ∧
    (b11 = true → Ts a 35 = .int .i64 (r : Int)) ∧
    (b12 = true → (b8 = true ∧ b11 = true) ∧ Ts a 36 = .pointer (some ⟨g8, r, none⟩)) ∧
    (b13 = true → b12 = true ∧ Ts a 37 = str (pbo r)) ∧
    (b14 = true → (b4 = true ∧ b7 = true ∧ b13 = true) ∧ Ts a 38 = .agg #[.int .i64 1, str (pfo p), .int .i64 (q : Int), str (pbo r), .int .i64 0]) ∧
    (b15 = true → Ts a 8 = .pointer (some ⟨g15, 0, none⟩) ∧ W0.heap.size ≤ g15 ∧ (b16 = false → Blk w g15 76 #[.int .i64 0, .string ⟨#[]⟩, .int .i64 0, .string ⟨#[]⟩, .int .i64 0])) ∧
    (b16 = true → (b0 && b2 && b3 && b4 && b7 && b8 && b11 && b12 && b13 && b14 && b15) = true ∧ Blk w g15 76 #[.int .i64 1, str (pfo p), .int .i64 (q : Int), str (pbo r), .int .i64 0]) ∧
    Below W0.heap.size W0 w
theorem tmps57 {t : Array Value} (h : t.size = 57) : ∃ x0 x1 x2 x3 x4 x5 x6 x7 x8 x9 x10 x11 x12 x13 x14 x15 x16 x17 x18 x19 x20 x21 x22 x23 x24 x25 x26 x27 x28 x29 x30 x31 x32 x33 x34 x35 x36 x37 x38 x39 x40 x41 x42 x43 x44 x45 x46 x47 x48 x49 x50 x51 x52 x53 x54 x55 x56 : Value, t = #[x0, x1, x2, x3, x4, x5, x6, x7, x8, x9, x10, x11, x12, x13, x14, x15, x16, x17, x18, x19, x20, x21, x22, x23, x24, x25, x26, x27, x28, x29, x30, x31, x32, x33, x34, x35, x36, x37, x38, x39, x40, x41, x42, x43, x44, x45, x46, x47, x48, x49, x50, x51, x52, x53, x54, x55, x56] := by
  obtain ⟨l⟩ := t
  have r0 : l.length = 57 := h
  obtain ⟨x0, l1, rfl, r1⟩ := ts_cons r0
  obtain ⟨x1, l2, rfl, r2⟩ := ts_cons r1
  obtain ⟨x2, l3, rfl, r3⟩ := ts_cons r2
  obtain ⟨x3, l4, rfl, r4⟩ := ts_cons r3
  obtain ⟨x4, l5, rfl, r5⟩ := ts_cons r4
  obtain ⟨x5, l6, rfl, r6⟩ := ts_cons r5
  obtain ⟨x6, l7, rfl, r7⟩ := ts_cons r6
  obtain ⟨x7, l8, rfl, r8⟩ := ts_cons r7
  obtain ⟨x8, l9, rfl, r9⟩ := ts_cons r8
  obtain ⟨x9, l10, rfl, r10⟩ := ts_cons r9
  obtain ⟨x10, l11, rfl, r11⟩ := ts_cons r10
  obtain ⟨x11, l12, rfl, r12⟩ := ts_cons r11
  obtain ⟨x12, l13, rfl, r13⟩ := ts_cons r12
  obtain ⟨x13, l14, rfl, r14⟩ := ts_cons r13
  obtain ⟨x14, l15, rfl, r15⟩ := ts_cons r14
  obtain ⟨x15, l16, rfl, r16⟩ := ts_cons r15
  obtain ⟨x16, l17, rfl, r17⟩ := ts_cons r16
  obtain ⟨x17, l18, rfl, r18⟩ := ts_cons r17
  obtain ⟨x18, l19, rfl, r19⟩ := ts_cons r18
  obtain ⟨x19, l20, rfl, r20⟩ := ts_cons r19
  obtain ⟨x20, l21, rfl, r21⟩ := ts_cons r20
  obtain ⟨x21, l22, rfl, r22⟩ := ts_cons r21
  obtain ⟨x22, l23, rfl, r23⟩ := ts_cons r22
  obtain ⟨x23, l24, rfl, r24⟩ := ts_cons r23
  obtain ⟨x24, l25, rfl, r25⟩ := ts_cons r24
  obtain ⟨x25, l26, rfl, r26⟩ := ts_cons r25
  obtain ⟨x26, l27, rfl, r27⟩ := ts_cons r26
  obtain ⟨x27, l28, rfl, r28⟩ := ts_cons r27
  obtain ⟨x28, l29, rfl, r29⟩ := ts_cons r28
  obtain ⟨x29, l30, rfl, r30⟩ := ts_cons r29
  obtain ⟨x30, l31, rfl, r31⟩ := ts_cons r30
  obtain ⟨x31, l32, rfl, r32⟩ := ts_cons r31
  obtain ⟨x32, l33, rfl, r33⟩ := ts_cons r32
  obtain ⟨x33, l34, rfl, r34⟩ := ts_cons r33
  obtain ⟨x34, l35, rfl, r35⟩ := ts_cons r34
  obtain ⟨x35, l36, rfl, r36⟩ := ts_cons r35
  obtain ⟨x36, l37, rfl, r37⟩ := ts_cons r36
  obtain ⟨x37, l38, rfl, r38⟩ := ts_cons r37
  obtain ⟨x38, l39, rfl, r39⟩ := ts_cons r38
  obtain ⟨x39, l40, rfl, r40⟩ := ts_cons r39
  obtain ⟨x40, l41, rfl, r41⟩ := ts_cons r40
  obtain ⟨x41, l42, rfl, r42⟩ := ts_cons r41
  obtain ⟨x42, l43, rfl, r43⟩ := ts_cons r42
  obtain ⟨x43, l44, rfl, r44⟩ := ts_cons r43
  obtain ⟨x44, l45, rfl, r45⟩ := ts_cons r44
  obtain ⟨x45, l46, rfl, r46⟩ := ts_cons r45
  obtain ⟨x46, l47, rfl, r47⟩ := ts_cons r46
  obtain ⟨x47, l48, rfl, r48⟩ := ts_cons r47
  obtain ⟨x48, l49, rfl, r49⟩ := ts_cons r48
  obtain ⟨x49, l50, rfl, r50⟩ := ts_cons r49
  obtain ⟨x50, l51, rfl, r51⟩ := ts_cons r50
  obtain ⟨x51, l52, rfl, r52⟩ := ts_cons r51
  obtain ⟨x52, l53, rfl, r53⟩ := ts_cons r52
  obtain ⟨x53, l54, rfl, r54⟩ := ts_cons r53
  obtain ⟨x54, l55, rfl, r55⟩ := ts_cons r54
  obtain ⟨x55, l56, rfl, r56⟩ := ts_cons r55
  obtain ⟨x56, l57, rfl, r57⟩ := ts_cons r56
  obtain rfl := List.eq_nil_of_length_eq_zero r57
  exact ⟨x0, x1, x2, x3, x4, x5, x6, x7, x8, x9, x10, x11, x12, x13, x14, x15, x16, x17, x18, x19, x20, x21, x22, x23, x24, x25, x26, x27, x28, x29, x30, x31, x32, x33, x34, x35, x36, x37, x38, x39, x40, x41, x42, x43, x44, x45, x46, x47, x48, x49, x50, x51, x52, x53, x54, x55, x56, rfl⟩
end Go.Proofs.Ytmlgaedhfannmaa
