/- One-time keys: Asks: what holds while an ask is drawn. -/
import Derived.Test.YtgckihglgnbaoaaPkT
import Derived.Test.YtgckihglgnbaoaaKyM
namespace Go.Proofs.Ytgckihglgnbaoaa
set_option linter.unusedVariables false
set_option linter.unusedSimpArgs false
open Go.RowKit
/-- The Sorts, the ids and the bodies that are drawn. -/
def so (p : Nat) : List UInt8 := (([[101, 100], [99, 117]] : List (List UInt8))[p]?).getD []
def io (q : Nat) : List UInt8 := (([[65], [66], [67], [68], [69], [70, 49], [70, 50]] : List (List UInt8))[q]?).getD []
def bo (r : Nat) : List UInt8 := (([[120], [121], []] : List (List UInt8))[r]?).getD []
def soC : Array Value := #[.string ⟨#[101, 100]⟩, .string ⟨#[99, 117]⟩]
def ioC : Array Value := #[.string ⟨#[65]⟩, .string ⟨#[66]⟩, .string ⟨#[67]⟩, .string ⟨#[68]⟩, .string ⟨#[69]⟩, .string ⟨#[70, 49]⟩, .string ⟨#[70, 50]⟩]
def boC : Array Value := #[.string ⟨#[120]⟩, .string ⟨#[121]⟩, .string ⟨#[]⟩]
theorem soC_at : ∀ p : Nat, p < 2 → soC[p]? = some (str (so p))
  | 0, _ => rfl | 1, _ => rfl
  | p + 2, h => by omega
theorem ioC_at : ∀ p : Nat, p < 7 → ioC[p]? = some (str (io p))
  | 0, _ => rfl | 1, _ => rfl | 2, _ => rfl | 3, _ => rfl | 4, _ => rfl | 5, _ => rfl | 6, _ => rfl
  | p + 7, h => by omega
theorem boC_at : ∀ p : Nat, p < 3 → boC[p]? = some (str (bo p))
  | 0, _ => rfl | 1, _ => rfl | 2, _ => rfl
  | p + 3, h => by omega
/-- What holds while the region is run, in whatever order. -/
def InvA (A0 lim s5 s6 : Value) (z : Int) (p q r : Nat) (W0 : World) (l : Array Bool) (a : Act) (w : World) : Prop :=
  ∃ (b0 b2 b3 b4 b5 b8 b9 b10 b11 b14 b15 b16 b17 b18 b19 : Bool) (g0 g5 g11 g18 : Nat), l = #[b0, true, b2, b3, b4, b5, true, true, b8, b9, b10, b11, true, true, b14, b15, b16, b17, b18, b19] ∧ a.defers = [] ∧ a.tmps.size = 68 ∧
    (Ts a 0 = A0 ∧ Ts a 1 = lim ∧ Ts a 2 = undef ∧ Ts a 3 = undef ∧ Ts a 4 = .slice none 0 0 ∧ Ts a 5 = s5 ∧ Ts a 6 = s6 ∧ Ts a 7 = .int .i64 z ∧ Ts a 67 = undef ∧ Ts a 25 = .int .i64 z ∧ Ts a 31 = .int .i64 (z.tdiv 2) ∧ Ts a 37 = .int .i64 (z.tdiv 14)) ∧
    (b0 = true → Ts a 24 = .slice (some ⟨g0, 0, none⟩) 2 2 ∧ (b19 = false → Blk w g0 9 soC)) ∧
    (b2 = true → Ts a 26 = .int .i64 (p : Int)) ∧
    (b3 = true → (b0 = true ∧ b2 = true) ∧ Ts a 27 = .pointer (some ⟨g0, p, none⟩)) ∧
    (b4 = true → b3 = true ∧ Ts a 28 = str (so p)) ∧
    (b5 = true → Ts a 29 = .slice (some ⟨g5, 0, none⟩) 7 7 ∧ (b19 = false → Blk w g5 9 ioC)) ∧
    (b8 = true → Ts a 32 = .int .i64 (q : Int)) ∧
    (b9 = true → (b5 = true ∧ b8 = true) ∧ Ts a 33 = .pointer (some ⟨g5, q, none⟩)) ∧
    (b10 = true → b9 = true ∧ Ts a 34 = str (io q)) ∧
    (b11 = true → Ts a 35 = .slice (some ⟨g11, 0, none⟩) 3 3 ∧ (b19 = false → Blk w g11 9 boC)) ∧
    (b14 = true → Ts a 38 = .int .i64 (r : Int)) ∧
    (b15 = true → (b11 = true ∧ b14 = true) ∧ Ts a 39 = .pointer (some ⟨g11, r, none⟩)) ∧
    (b16 = true → b15 = true ∧ Ts a 40 = str (bo r)) ∧
    (b17 = true → (b4 = true ∧ b10 = true ∧ b16 = true) ∧ Ts a 41 = .agg #[.int .i64 1, str (so p), str (io q), str (bo r), .int .i64 0]) ∧
    (b18 = true → Ts a 8 = .pointer (some ⟨g18, 0, none⟩) ∧ W0.heap.size ≤ g18 ∧ (b19 = false → Blk w g18 55 #[.int .i64 0, .string ⟨#[]⟩, .string ⟨#[]⟩, .string ⟨#[]⟩, .int .i64 0])) ∧
    (b19 = true → (b0 && b2 && b3 && b4 && b5 && b8 && b9 && b10 && b11 && b14 && b15 && b16 && b17 && b18) = true ∧ Blk w g18 55 #[.int .i64 1, str (so p), str (io q), str (bo r), .int .i64 0]) ∧
    Below W0.heap.size W0 w
theorem tmps68 {t : Array Value} (h : t.size = 68) : ∃ x0 x1 x2 x3 x4 x5 x6 x7 x8 x9 x10 x11 x12 x13 x14 x15 x16 x17 x18 x19 x20 x21 x22 x23 x24 x25 x26 x27 x28 x29 x30 x31 x32 x33 x34 x35 x36 x37 x38 x39 x40 x41 x42 x43 x44 x45 x46 x47 x48 x49 x50 x51 x52 x53 x54 x55 x56 x57 x58 x59 x60 x61 x62 x63 x64 x65 x66 x67 : Value, t = #[x0, x1, x2, x3, x4, x5, x6, x7, x8, x9, x10, x11, x12, x13, x14, x15, x16, x17, x18, x19, x20, x21, x22, x23, x24, x25, x26, x27, x28, x29, x30, x31, x32, x33, x34, x35, x36, x37, x38, x39, x40, x41, x42, x43, x44, x45, x46, x47, x48, x49, x50, x51, x52, x53, x54, x55, x56, x57, x58, x59, x60, x61, x62, x63, x64, x65, x66, x67] := by
  obtain ⟨l⟩ := t
  have r0 : l.length = 68 := h
  obtain ⟨x0, l1, rfl, r1⟩ := ts_cons r0
  obtain ⟨x1, l2, rfl, r2⟩ := ts_cons r1
  obtain ⟨x2, l3, rfl, r3⟩ := ts_cons r2
  obtain ⟨x3, l4, rfl, r4⟩ := ts_cons r3
  obtain ⟨x4, l5, rfl, r5⟩ := ts_cons r4
  obtain ⟨x5, l6, rfl, r6⟩ := ts_cons r5
  obtain ⟨x6, l7, rfl, r7⟩ := ts_cons r6
  obtain ⟨x7, l8, rfl, r8⟩ := ts_cons r7
  obtain ⟨x8, l9, rfl, r9⟩ := ts_cons r8
  obtain ⟨x9, l10, rfl, r10⟩ := ts_cons r9
  obtain ⟨x10, l11, rfl, r11⟩ := ts_cons r10
  obtain ⟨x11, l12, rfl, r12⟩ := ts_cons r11
  obtain ⟨x12, l13, rfl, r13⟩ := ts_cons r12
  obtain ⟨x13, l14, rfl, r14⟩ := ts_cons r13
  obtain ⟨x14, l15, rfl, r15⟩ := ts_cons r14
  obtain ⟨x15, l16, rfl, r16⟩ := ts_cons r15
  obtain ⟨x16, l17, rfl, r17⟩ := ts_cons r16
  obtain ⟨x17, l18, rfl, r18⟩ := ts_cons r17
  obtain ⟨x18, l19, rfl, r19⟩ := ts_cons r18
  obtain ⟨x19, l20, rfl, r20⟩ := ts_cons r19
  obtain ⟨x20, l21, rfl, r21⟩ := ts_cons r20
  obtain ⟨x21, l22, rfl, r22⟩ := ts_cons r21
  obtain ⟨x22, l23, rfl, r23⟩ := ts_cons r22
  obtain ⟨x23, l24, rfl, r24⟩ := ts_cons r23
  obtain ⟨x24, l25, rfl, r25⟩ := ts_cons r24
  obtain ⟨x25, l26, rfl, r26⟩ := ts_cons r25
  obtain ⟨x26, l27, rfl, r27⟩ := ts_cons r26
  obtain ⟨x27, l28, rfl, r28⟩ := ts_cons r27
  obtain ⟨x28, l29, rfl, r29⟩ := ts_cons r28
  obtain ⟨x29, l30, rfl, r30⟩ := ts_cons r29
  obtain ⟨x30, l31, rfl, r31⟩ := ts_cons r30
  obtain ⟨x31, l32, rfl, r32⟩ := ts_cons r31
  obtain ⟨x32, l33, rfl, r33⟩ := ts_cons r32
  obtain ⟨x33, l34, rfl, r34⟩ := ts_cons r33
  obtain ⟨x34, l35, rfl, r35⟩ := ts_cons r34
  obtain ⟨x35, l36, rfl, r36⟩ := ts_cons r35
  obtain ⟨x36, l37, rfl, r37⟩ := ts_cons r36
  obtain ⟨x37, l38, rfl, r38⟩ := ts_cons r37
  obtain ⟨x38, l39, rfl, r39⟩ := ts_cons r38
  obtain ⟨x39, l40, rfl, r40⟩ := ts_cons r39
  obtain ⟨x40, l41, rfl, r41⟩ := ts_cons r40
  obtain ⟨x41, l42, rfl, r42⟩ := ts_cons r41
  obtain ⟨x42, l43, rfl, r43⟩ := ts_cons r42
  obtain ⟨x43, l44, rfl, r44⟩ := ts_cons r43
  obtain ⟨x44, l45, rfl, r45⟩ := ts_cons r44
  obtain ⟨x45, l46, rfl, r46⟩ := ts_cons r45
  obtain ⟨x46, l47, rfl, r47⟩ := ts_cons r46
  obtain ⟨x47, l48, rfl, r48⟩ := ts_cons r47
  obtain ⟨x48, l49, rfl, r49⟩ := ts_cons r48
  obtain ⟨x49, l50, rfl, r50⟩ := ts_cons r49
  obtain ⟨x50, l51, rfl, r51⟩ := ts_cons r50
  obtain ⟨x51, l52, rfl, r52⟩ := ts_cons r51
  obtain ⟨x52, l53, rfl, r53⟩ := ts_cons r52
  obtain ⟨x53, l54, rfl, r54⟩ := ts_cons r53
  obtain ⟨x54, l55, rfl, r55⟩ := ts_cons r54
  obtain ⟨x55, l56, rfl, r56⟩ := ts_cons r55
  obtain ⟨x56, l57, rfl, r57⟩ := ts_cons r56
  obtain ⟨x57, l58, rfl, r58⟩ := ts_cons r57
  obtain ⟨x58, l59, rfl, r59⟩ := ts_cons r58
  obtain ⟨x59, l60, rfl, r60⟩ := ts_cons r59
  obtain ⟨x60, l61, rfl, r61⟩ := ts_cons r60
  obtain ⟨x61, l62, rfl, r62⟩ := ts_cons r61
  obtain ⟨x62, l63, rfl, r63⟩ := ts_cons r62
  obtain ⟨x63, l64, rfl, r64⟩ := ts_cons r63
  obtain ⟨x64, l65, rfl, r65⟩ := ts_cons r64
  obtain ⟨x65, l66, rfl, r66⟩ := ts_cons r65
  obtain ⟨x66, l67, rfl, r67⟩ := ts_cons r66
  obtain ⟨x67, l68, rfl, r68⟩ := ts_cons r67
  obtain rfl := List.eq_nil_of_length_eq_zero r68
  exact ⟨x0, x1, x2, x3, x4, x5, x6, x7, x8, x9, x10, x11, x12, x13, x14, x15, x16, x17, x18, x19, x20, x21, x22, x23, x24, x25, x26, x27, x28, x29, x30, x31, x32, x33, x34, x35, x36, x37, x38, x39, x40, x41, x42, x43, x44, x45, x46, x47, x48, x49, x50, x51, x52, x53, x54, x55, x56, x57, x58, x59, x60, x61, x62, x63, x64, x65, x66, x67, rfl⟩
end Go.Proofs.Ytgckihglgnbaoaa
