/- Device lists: Updates: what holds while a change is drawn. -/
import Derived.Test.YtmlgaedhfannmaaPkT
import Derived.Test.YtmlgaedhfannmaaDvMem
namespace Go.Proofs.Ytmlgaedhfannmaa
set_option linter.unusedVariables false
set_option linter.unusedSimpArgs false
open Go.RowKit
/-- The devices and the bodies that are drawn. -/
def ufo (p : Nat) : List UInt8 := (([[97], [98], [99], [100], [101], [102]] : List (List UInt8))[p]?).getD []
def ubo (r : Nat) : List UInt8 := (([[120], [121], [122]] : List (List UInt8))[r]?).getD []
def ufoC : Array Value := #[.string ⟨#[97]⟩, .string ⟨#[98]⟩, .string ⟨#[99]⟩, .string ⟨#[100]⟩, .string ⟨#[101]⟩, .string ⟨#[102]⟩]
def uboC : Array Value := #[.string ⟨#[120]⟩, .string ⟨#[121]⟩, .string ⟨#[122]⟩]
theorem ufoC_at : ∀ p : Nat, p < 6 → ufoC[p]? = some (str (ufo p))
  | 0, _ => rfl | 1, _ => rfl | 2, _ => rfl | 3, _ => rfl | 4, _ => rfl | 5, _ => rfl
  | p + 6, h => by omega
theorem uboC_at : ∀ p : Nat, p < 3 → uboC[p]? = some (str (ubo p))
  | 0, _ => rfl | 1, _ => rfl | 2, _ => rfl
  | p + 3, h => by omega
/-- What holds while the region is run, in whatever order. -/
def InvU (A0 lim s5 s6 : Value) (z : Int) (p q : Nat) (W0 : World) (l : Array Bool) (a : Act) (w : World) : Prop :=
  ∃ (b0 b5 b6 b7 b8 b14 b15 b16 b17 b18 b19 b20 : Bool) (g0 g8 g19 : Nat), l = #[b0, true, true, true, true, b5, b6, b7, b8, true, true, true, true, true, b14, b15, b16, b17, b18, b19, b20] ∧ a.defers = [] ∧ a.tmps.size = 53 ∧
    (Ts a 0 = A0 ∧ Ts a 1 = lim ∧ Ts a 2 = undef ∧ Ts a 3 = undef ∧ Ts a 4 = .slice none 0 0 ∧ Ts a 5 = s5 ∧ Ts a 6 = s6 ∧ Ts a 52 = undef ∧ Ts a 23 = .int .i64 z ∧ Ts a 32 = .int .i64 (z.tdiv 6)) ∧
    (b0 = true → Ts a 19 = .slice (some ⟨g0, 0, none⟩) 6 6 ∧ (b20 = false → Blk w g0 9 ufoC)) ∧
    (b5 = true → Ts a 24 = .int .i64 (p : Int)) ∧
    (b6 = true → (b0 = true ∧ b5 = true) ∧ Ts a 25 = .pointer (some ⟨g0, p, none⟩)) ∧
    (b7 = true → b6 = true ∧ Ts a 26 = str (ufo p)) ∧
    (b8 = true → Ts a 27 = .slice (some ⟨g8, 0, none⟩) 3 3 ∧ (b20 = false → Blk w g8 9 uboC)) ∧
    (b14 = true → Ts a 33 = .int .i64 (q : Int)) ∧
    (b15 = true → (b8 = true ∧ b14 = true) ∧ Ts a 34 = .pointer (some ⟨g8, q, none⟩)) ∧
    (b16 = true → b15 = true ∧ Ts a 35 = str (ubo q)) ∧
    (b17 = true → (b7 = true ∧ b16 = true) ∧ Ts a 36 = .agg #[str (ufo p), str (ubo q)]) ∧
    (b18 = true → (b17 = true) ∧ Ts a 37 = .agg #[.int .i64 0, .int .i64 0, str (ufo p), str (ubo q), .bool false]) ∧
    (b19 = true → Ts a 7 = .pointer (some ⟨g19, 0, none⟩) ∧ W0.heap.size ≤ g19 ∧ (b20 = false → Blk w g19 44 #[.int .i64 0, .int .i64 0, .string ⟨#[]⟩, .string ⟨#[]⟩, .bool false])) ∧
    (b20 = true → (b0 && b5 && b6 && b7 && b8 && b14 && b15 && b16 && b17 && b18 && b19) = true ∧ Blk w g19 44 #[.int .i64 0, .int .i64 0, str (ufo p), str (ubo q), .bool false]) ∧
    Below W0.heap.size W0 w
theorem tmps53 {t : Array Value} (h : t.size = 53) : ∃ x0 x1 x2 x3 x4 x5 x6 x7 x8 x9 x10 x11 x12 x13 x14 x15 x16 x17 x18 x19 x20 x21 x22 x23 x24 x25 x26 x27 x28 x29 x30 x31 x32 x33 x34 x35 x36 x37 x38 x39 x40 x41 x42 x43 x44 x45 x46 x47 x48 x49 x50 x51 x52 : Value, t = #[x0, x1, x2, x3, x4, x5, x6, x7, x8, x9, x10, x11, x12, x13, x14, x15, x16, x17, x18, x19, x20, x21, x22, x23, x24, x25, x26, x27, x28, x29, x30, x31, x32, x33, x34, x35, x36, x37, x38, x39, x40, x41, x42, x43, x44, x45, x46, x47, x48, x49, x50, x51, x52] := by
  obtain ⟨l⟩ := t
  have r0 : l.length = 53 := h
  obtain ⟨x0, l1, rfl, r1⟩ := ts_cons r0
  obtain ⟨x1, l2, rfl, r2⟩ := ts_cons r1
  obtain ⟨x2, l3, rfl, r3⟩ := ts_cons r2
  obtain ⟨x3, l4, rfl, r4⟩ := ts_cons r3
  obtain ⟨x4, l5, rfl, r5⟩ := ts_cons r4
  obtain ⟨x5, l6, rfl, r6⟩ := ts_cons r5
  obtain ⟨x6, l7, rfl, r7⟩ := ts_cons r6
  obtain ⟨x7, l8, rfl, r8⟩ := ts_cons r7
  obtain ⟨x8, l9, rfl, r9⟩ := ts_cons r8
  obtain ⟨x9, l10, rfl, r10⟩ := ts_cons r9
  obtain ⟨x10, l11, rfl, r11⟩ := ts_cons r10
  obtain ⟨x11, l12, rfl, r12⟩ := ts_cons r11
  obtain ⟨x12, l13, rfl, r13⟩ := ts_cons r12
  obtain ⟨x13, l14, rfl, r14⟩ := ts_cons r13
  obtain ⟨x14, l15, rfl, r15⟩ := ts_cons r14
  obtain ⟨x15, l16, rfl, r16⟩ := ts_cons r15
  obtain ⟨x16, l17, rfl, r17⟩ := ts_cons r16
  obtain ⟨x17, l18, rfl, r18⟩ := ts_cons r17
  obtain ⟨x18, l19, rfl, r19⟩ := ts_cons r18
  obtain ⟨x19, l20, rfl, r20⟩ := ts_cons r19
  obtain ⟨x20, l21, rfl, r21⟩ := ts_cons r20
  obtain ⟨x21, l22, rfl, r22⟩ := ts_cons r21
  obtain ⟨x22, l23, rfl, r23⟩ := ts_cons r22
  obtain ⟨x23, l24, rfl, r24⟩ := ts_cons r23
  obtain ⟨x24, l25, rfl, r25⟩ := ts_cons r24
  obtain ⟨x25, l26, rfl, r26⟩ := ts_cons r25
  obtain ⟨x26, l27, rfl, r27⟩ := ts_cons r26
  obtain ⟨x27, l28, rfl, r28⟩ := ts_cons r27
  obtain ⟨x28, l29, rfl, r29⟩ := ts_cons r28
  obtain ⟨x29, l30, rfl, r30⟩ := ts_cons r29
  obtain ⟨x30, l31, rfl, r31⟩ := ts_cons r30
  obtain ⟨x31, l32, rfl, r32⟩ := ts_cons r31
  obtain ⟨x32, l33, rfl, r33⟩ := ts_cons r32
  obtain ⟨x33, l34, rfl, r34⟩ := ts_cons r33
  obtain ⟨x34, l35, rfl, r35⟩ := ts_cons r34
  obtain ⟨x35, l36, rfl, r36⟩ := ts_cons r35
  obtain ⟨x36, l37, rfl, r37⟩ := ts_cons r36
  obtain ⟨x37, l38, rfl, r38⟩ := ts_cons r37
  obtain ⟨x38, l39, rfl, r39⟩ := ts_cons r38
  obtain ⟨x39, l40, rfl, r40⟩ := ts_cons r39
  obtain ⟨x40, l41, rfl, r41⟩ := ts_cons r40
  obtain ⟨x41, l42, rfl, r42⟩ := ts_cons r41
  obtain ⟨x42, l43, rfl, r43⟩ := ts_cons r42
  obtain ⟨x43, l44, rfl, r44⟩ := ts_cons r43
  obtain ⟨x44, l45, rfl, r45⟩ := ts_cons r44
  obtain ⟨x45, l46, rfl, r46⟩ := ts_cons r45
  obtain ⟨x46, l47, rfl, r47⟩ := ts_cons r46
  obtain ⟨x47, l48, rfl, r48⟩ := ts_cons r47
  obtain ⟨x48, l49, rfl, r49⟩ := ts_cons r48
  obtain ⟨x49, l50, rfl, r50⟩ := ts_cons r49
  obtain ⟨x50, l51, rfl, r51⟩ := ts_cons r50
  obtain ⟨x51, l52, rfl, r52⟩ := ts_cons r51
  obtain ⟨x52, l53, rfl, r53⟩ := ts_cons r52
  obtain rfl := List.eq_nil_of_length_eq_zero r53
  exact ⟨x0, x1, x2, x3, x4, x5, x6, x7, x8, x9, x10, x11, x12, x13, x14, x15, x16, x17, x18, x19, x20, x21, x22, x23, x24, x25, x26, x27, x28, x29, x30, x31, x32, x33, x34, x35, x36, x37, x38, x39, x40, x41, x42, x43, x44, x45, x46, x47, x48, x49, x50, x51, x52, rfl⟩
end Go.Proofs.Ytmlgaedhfannmaa
