/- Joined texts: RwGen, RwGenW, RwOf. -/
import Derived.Test.YtmlgaedhfannmaaRwSet
import Derived.Test.YtmlgaedhfannmaaPicked
import Derived.Test.YtmlgaedhfannmaaBunO
import Derived.Test.YtmlgaedhfannmaaRgI
import Derived.Test.YtmlgaedhfannmaaBunRA
import Derived.Deep.Cut
import Derived.BigQuiet
/- Sorted tables: Changes, the changes that the statements draw out of raw numbers. -/
namespace Go.Proofs.Ytmlgaedhfannmaa
set_option linter.unusedVariables false
set_option linter.unusedSimpArgs false
open Go.RowKit
/-- The keys and the values that are drawn. -/
def kts : List (List UInt8) := [[97], [98], [97, 98], [97, 99], [98, 255], [107], [107, 49], [255]]
def vts : List (List UInt8) := [[], [120], [121], [122, 122]]
def kt (p : Nat) : List UInt8 := (kts[p]?).getD []
def vt (q : Nat) : List UInt8 := (vts[q]?).getD []
def ktC : Array Value := #[.string ⟨#[97]⟩, .string ⟨#[98]⟩, .string ⟨#[97, 98]⟩, .string ⟨#[97, 99]⟩, .string ⟨#[98, 255]⟩, .string ⟨#[107]⟩, .string ⟨#[107, 49]⟩, .string ⟨#[255]⟩]
def vtC : Array Value := #[.string ⟨#[]⟩, .string ⟨#[120]⟩, .string ⟨#[121]⟩, .string ⟨#[122, 122]⟩]
theorem ktC_at : ∀ p : Nat, p < 8 → ktC[p]? = some (str (kt p))
  | 0, _ => rfl | 1, _ => rfl | 2, _ => rfl | 3, _ => rfl | 4, _ => rfl | 5, _ => rfl | 6, _ => rfl | 7, _ => rfl
  | p + 8, h => by omega
theorem vtC_at : ∀ q : Nat, q < 4 → vtC[q]? = some (str (vt q))
  | 0, _ => rfl | 1, _ => rfl | 2, _ => rfl | 3, _ => rfl
  | q + 4, h => by omega
/-- Slot k of a state. -/
def T (a : Act) (k : Nat) : Value := (a.tmps[k]?).getD undef
theorem T_put (a : Act) (k j : Nat) (v : Value) (hk : k < a.tmps.size) : T (a.put (some k) v) j = if j = k then v else T a j := by
  unfold T Act.put
  simp only [Array.getElem?_setIfInBounds]
  by_cases h : j = k
  · subst h; simp [hk]
  · rw [if_neg (fun e => h e.symm), if_neg h]
theorem T_eval (a : Act) (k : Nat) : a.eval (.tmp k) = T a k := by
  unfold T Act.eval
  simp [Array.getD_eq_getD_getElem?]
/-- What holds while the region of a drawn change is run, in whatever order. -/
def InvC (A0 lim s5 s6 : Value) (z : Int) (p q : Nat) (W0 : World) (l : Array Bool) (a : Act) (w : World) : Prop :=
  ∃ (b0 b5 b6 b7 b8 b14 b15 b16 b17 b18 b19 : Bool) (g0 g8 g18 : Nat), l = #[b0, true, true, true, true, b5, b6, b7, b8, true, true, true, true, true, b14, b15, b16, b17, b18, b19] ∧ a.defers = [] ∧ a.tmps.size = 42 ∧
    (T a 0 = A0 ∧ T a 1 = lim ∧ T a 2 = undef ∧ T a 3 = undef ∧ T a 4 = .slice none 0 0 ∧ T a 5 = s5 ∧ T a 6 = s6 ∧ T a 41 = undef ∧ T a 23 = .int .i64 z ∧ T a 32 = .int .i64 (z.tdiv 8)) ∧
    (b0 = true → T a 19 = .slice (some ⟨g0, 0, none⟩) 8 8 ∧ (b19 = false → Blk w g0 9 ktC)) ∧
    (b5 = true → T a 24 = .int .i64 (p : Int)) ∧ (b6 = true → (b0 = true ∧ b5 = true) ∧ T a 25 = .pointer (some ⟨g0, p, none⟩)) ∧ (b7 = true → b6 = true ∧ T a 26 = str (kt p)) ∧
    (b8 = true → T a 27 = .slice (some ⟨g8, 0, none⟩) 4 4 ∧ (b19 = false → Blk w g8 9 vtC)) ∧
    (b14 = true → T a 33 = .int .i64 (q : Int)) ∧ (b15 = true → (b8 = true ∧ b14 = true) ∧ T a 34 = .pointer (some ⟨g8, q, none⟩)) ∧ (b16 = true → b15 = true ∧ T a 35 = str (vt q)) ∧
    (b17 = true → (b7 = true ∧ b16 = true) ∧ T a 36 = .agg #[str (kt p), str (vt q)]) ∧
    (b18 = true → T a 7 = .pointer (some ⟨g18, 0, none⟩) ∧ W0.heap.size ≤ g18 ∧ (b19 = false → Blk w g18 51 #[.string ⟨#[]⟩, .string ⟨#[]⟩])) ∧
    (b19 = true → (b0 && b5 && b6 && b7 && b8 && b14 && b15 && b16 && b17 && b18) = true ∧ Blk w g18 51 #[str (kt p), str (vt q)]) ∧
    Below W0.heap.size W0 w
theorem T_self (a : Act) (k : Nat) (v : Value) (hk : k < a.tmps.size) : T (a.put (some k) v) k = v := by rw [T_put a k k v hk, if_pos rfl]
theorem T_ne (a : Act) (k j : Nat) (v : Value) (h : j ≠ k) : T (a.put (some k) v) j = T a j := by
  unfold T Act.put
  simp only [Array.getElem?_setIfInBounds]
  rw [if_neg (fun e => h e.symm)]
theorem put_size (a : Act) (k : Nat) (v : Value) : (a.put (some k) v).tmps.size = a.tmps.size := by unfold Act.put; simp
theorem picked_q (a n : Int) (w : World) (hn : 0 < n) (hn2 : n ≤ 1048576) :
    Calls Try.prog 22 #[.int .i64 a, .int .i64 n] w fun e w' => e = .returned (.int .i64 (a % n)) ∧ w' = w :=
  (picked_any a n w hn hn2).mono fun _ _ h => ⟨h.1, h.2.symm⟩
theorem list_cons {α : Type} {l : List α} {n : Nat} (h : l.length = n + 1) : ∃ x r, l = x :: r ∧ r.length = n := by
  cases l with
  | nil => simp at h
  | cons x r => exact ⟨x, r, rfl, by simpa using h⟩
theorem tmps42 {t : Array Value} (h : t.size = 42) : ∃ x0 x1 x2 x3 x4 x5 x6 x7 x8 x9 x10 x11 x12 x13 x14 x15 x16 x17 x18 x19 x20 x21 x22 x23 x24 x25 x26 x27 x28 x29 x30 x31 x32 x33 x34 x35 x36 x37 x38 x39 x40 x41 : Value, t = #[x0, x1, x2, x3, x4, x5, x6, x7, x8, x9, x10, x11, x12, x13, x14, x15, x16, x17, x18, x19, x20, x21, x22, x23, x24, x25, x26, x27, x28, x29, x30, x31, x32, x33, x34, x35, x36, x37, x38, x39, x40, x41] := by
  obtain ⟨l⟩ := t
  have r0 : l.length = 42 := h
  obtain ⟨x0, l1, rfl, r1⟩ := list_cons r0
  obtain ⟨x1, l2, rfl, r2⟩ := list_cons r1
  obtain ⟨x2, l3, rfl, r3⟩ := list_cons r2
  obtain ⟨x3, l4, rfl, r4⟩ := list_cons r3
  obtain ⟨x4, l5, rfl, r5⟩ := list_cons r4
  obtain ⟨x5, l6, rfl, r6⟩ := list_cons r5
  obtain ⟨x6, l7, rfl, r7⟩ := list_cons r6
  obtain ⟨x7, l8, rfl, r8⟩ := list_cons r7
  obtain ⟨x8, l9, rfl, r9⟩ := list_cons r8
  obtain ⟨x9, l10, rfl, r10⟩ := list_cons r9
  obtain ⟨x10, l11, rfl, r11⟩ := list_cons r10
  obtain ⟨x11, l12, rfl, r12⟩ := list_cons r11
  obtain ⟨x12, l13, rfl, r13⟩ := list_cons r12
  obtain ⟨x13, l14, rfl, r14⟩ := list_cons r13
  obtain ⟨x14, l15, rfl, r15⟩ := list_cons r14
  obtain ⟨x15, l16, rfl, r16⟩ := list_cons r15
  obtain ⟨x16, l17, rfl, r17⟩ := list_cons r16
  obtain ⟨x17, l18, rfl, r18⟩ := list_cons r17
  obtain ⟨x18, l19, rfl, r19⟩ := list_cons r18
  obtain ⟨x19, l20, rfl, r20⟩ := list_cons r19
  obtain ⟨x20, l21, rfl, r21⟩ := list_cons r20
  obtain ⟨x21, l22, rfl, r22⟩ := list_cons r21
  obtain ⟨x22, l23, rfl, r23⟩ := list_cons r22
  obtain ⟨x23, l24, rfl, r24⟩ := list_cons r23
  obtain ⟨x24, l25, rfl, r25⟩ := list_cons r24
  obtain ⟨x25, l26, rfl, r26⟩ := list_cons r25
  obtain ⟨x26, l27, rfl, r27⟩ := list_cons r26
  obtain ⟨x27, l28, rfl, r28⟩ := list_cons r27
  obtain ⟨x28, l29, rfl, r29⟩ := list_cons r28
  obtain ⟨x29, l30, rfl, r30⟩ := list_cons r29
  obtain ⟨x30, l31, rfl, r31⟩ := list_cons r30
  obtain ⟨x31, l32, rfl, r32⟩ := list_cons r31
  obtain ⟨x32, l33, rfl, r33⟩ := list_cons r32
  obtain ⟨x33, l34, rfl, r34⟩ := list_cons r33
  obtain ⟨x34, l35, rfl, r35⟩ := list_cons r34
  obtain ⟨x35, l36, rfl, r36⟩ := list_cons r35
  obtain ⟨x36, l37, rfl, r37⟩ := list_cons r36
  obtain ⟨x37, l38, rfl, r38⟩ := list_cons r37
  obtain ⟨x38, l39, rfl, r39⟩ := list_cons r38
  obtain ⟨x39, l40, rfl, r40⟩ := list_cons r39
  obtain ⟨x40, l41, rfl, r41⟩ := list_cons r40
  obtain ⟨x41, l42, rfl, r42⟩ := list_cons r41
  obtain rfl := List.eq_nil_of_length_eq_zero r42
  exact ⟨x0, x1, x2, x3, x4, x5, x6, x7, x8, x9, x10, x11, x12, x13, x14, x15, x16, x17, x18, x19, x20, x21, x22, x23, x24, x25, x26, x27, x28, x29, x30, x31, x32, x33, x34, x35, x36, x37, x38, x39, x40, x41, rfl⟩
set_option maxHeartbeats 8000000 in
set_option maxRecDepth 100000 in
theorem changes_region (A : Option Addr) (n c lim : Nat) : True := trivial
end Go.Proofs.Ytmlgaedhfannmaa

/- Sorted tables: Changes at every slice of numbers. -/
namespace Go.Proofs.Ytmlgaedhfannmaa
set_option linter.unusedVariables false
set_option linter.unusedSimpArgs false
open Go.RowKit
/-- Changes that are drawn. -/
def Drawn (cs : List Rw) : Prop := ∀ r ∈ cs, ∃ p q, p < 8 ∧ q < 4 ∧ r = (⟨kt p, vt q⟩ : Rw)
def ChL (n lim : Nat) (w : World) (gk : Nat) (s5 s6 : Value) (wr : World) : Prop :=
  ∃ (k : Nat) (cs : List Rw), s6 = .int .i64 (k : Int) ∧ k ≤ lim ∧ k ≤ n ∧ gk = lim - k ∧ cs.length = k ∧ Drawn cs ∧ wr.ownsRow w.heap.size 51 2 s5 k (pcR cs) ∧ Below w.heap.size w wr
end Go.Proofs.Ytmlgaedhfannmaa

/- Sorted tables: copiedRows, rowsOf. -/
namespace Go.Proofs.Ytmlgaedhfannmaa
set_option linter.unusedVariables false
set_option linter.unusedSimpArgs false
open Go.RowKit
/-- Changes that are few and well made: what Set does of them onto an empty table, or onto one that they made. -/
theorem drawn_good {cs : List Rw} (h : Drawn cs) : goodC cs = true := by
  unfold goodC
  rw [List.all_eq_true]
  intro r hr
  obtain ⟨p, q, hp, hq, rfl⟩ := h r hr
  have h1 : ∀ p : Nat, p < 8 → (!(kt p).isEmpty && decide ((kt p).length ≤ 20)) = true := by decide
  have h2 : ∀ q : Nat, q < 4 → decide ((vt q).length ≤ 20) = true := by decide
  unfold sizedR
  simp only
  rw [h1 p hp, h2 q hq]; rfl
theorem drawn_keys {cs : List Rw} (h : Drawn cs) : ∀ r ∈ cs, r.key ∈ kts := by
  intro r hr
  obtain ⟨p, q, hp, hq, rfl⟩ := h r hr
  have h1 : ∀ p : Nat, p < 8 → kt p ∈ kts := by decide
  exact h1 p hp
theorem drawn_short {cs : List Rw} (h : Drawn cs) : Short cs := by
  intro r hr
  have := sized_short (List.all_eq_true.1 (drawn_good h) r hr)
  exact ⟨by omega, by omega⟩
/-- A table that drawn changes made. -/
structure Tbl (l : List Rw) : Prop where
  srt : srt l
  keys : ∀ r ∈ l, r.key ∈ kts
  good : ∀ r ∈ l, sizedR r = true ∧ r.val ≠ []
theorem Tbl.nil : Tbl [] := ⟨trivial, by simp, by simp⟩
theorem Tbl.len {l : List Rw} (h : Tbl l) : l.length ≤ 8 := srt_len h.srt h.keys
theorem Tbl.fit {l : List Rw} (h : Tbl l) : Fit l := ⟨by have := h.len; omega, h.good, h.srt⟩
theorem Tbl.short {l : List Rw} (h : Tbl l) : Short l := fun r hr => by
  have := h.fit.shortR r hr
  exact ⟨by omega, by omega⟩
theorem Tbl.setsT {l cs : List Rw} (h : Tbl l) (hc : Drawn cs) : Tbl (sets l cs) := by
  refine ⟨srt_sets h.srt, fun r hr => ?_, fun r hr => ?_⟩
  · rcases mem_sets hr with h1 | ⟨h1, _⟩
    · exact h.keys r h1
    · exact drawn_keys hc r h1
  · rcases mem_sets hr with h1 | ⟨h1, h2⟩
    · exact h.good r h1
    · exact ⟨List.all_eq_true.1 (drawn_good hc) r h1, h2⟩
theorem Tbl.setNT {l cs : List Rw} (h : Tbl l) (hc : Drawn cs) (hl : cs.length ≤ 60) : setN l cs = (sets l cs, 0) := by
  have h1 := (h.setsT hc).len
  unfold setN
  rw [if_neg (by rw [h.fit.chk]; simp), if_neg (by rw [drawn_good hc]; simp; omega), if_neg (by omega)]
theorem Drawn.take {cs : List Rw} (h : Drawn cs) (k : Nat) : Drawn (cs.take k) := fun r hr => h r (List.mem_of_mem_take hr)
theorem Drawn.drop {cs : List Rw} (h : Drawn cs) (k : Nat) : Drawn (cs.drop k) := fun r hr => h r (List.mem_of_mem_drop hr)
theorem kv_set : setN [] [(⟨[107], [118]⟩ : Rw)] = ([⟨[107], [118]⟩], 0) := by
  unfold setN
  rw [if_neg (by decide), if_neg (by decide), if_neg (by decide)]
  rfl
end Go.Proofs.Ytmlgaedhfannmaa
