/- Joined texts: RwGen, RwGenW, RwOf. -/
import Derived.Test.YtploicbiapjfdaaRwSet
import Derived.Test.YtploicbiapjfdaaPicked
import Derived.Test.YtploicbiapjfdaaInts
import Derived.Test.YtploicbiapjfdaaRgI
import Derived.Test.YtploicbiapjfdaaBunRA
import Derived.Deep.Cut
import Derived.BigQuiet
/- Sorted tables: Changes, the changes that the statements draw out of raw numbers. -/
namespace Go.Proofs.Ytploicbiapjfdaa
set_option linter.unusedVariables false
set_option linter.unusedSimpArgs false
open Go.RowKit
/-- The keys and the values that are drawn. -/
def kts : List (List UInt8) := [[97], [98], [97, 98], [97, 99], [98, 255], [107], [107, 49], [255]]
def vts : List (List UInt8) := [[], [120], [121], [122, 122]]
def kt (p : Nat) : List UInt8 := (kts[p]?).getD []
def vt (q : Nat) : List UInt8 := (vts[q]?).getD []
def ktC : Array Value := #[.string ⟨#[97]⟩, .string ⟨#[98]⟩, .string ⟨#[97, 98]⟩, .string ⟨#[97, 99]⟩, .string ⟨#[98, 255]⟩, .string ⟨#[107]⟩, .string ⟨#[107, 49]⟩, .string ⟨#[255]⟩]
def vtC : Array Value := #[.string ⟨#[]⟩, .string ⟨#[120]⟩, .string ⟨#[121]⟩, .string ⟨#[122, 122]⟩]
theorem ktC_at : ∀ p : Nat, p < 8 → ktC[p]? = some (str (kt p))
  | 0, _ => rfl | 1, _ => rfl | 2, _ => rfl | 3, _ => rfl | 4, _ => rfl | 5, _ => rfl | 6, _ => rfl | 7, _ => rfl
  | p + 8, h => by omega
theorem vtC_at : ∀ q : Nat, q < 4 → vtC[q]? = some (str (vt q))
  | 0, _ => rfl | 1, _ => rfl | 2, _ => rfl | 3, _ => rfl
  | q + 4, h => by omega
/-- Slot k of a state. -/
def T (a : Act) (k : Nat) : Value := (a.tmps[k]?).getD undef
theorem T_put (a : Act) (k j : Nat) (v : Value) (hk : k < a.tmps.size) : T (a.put (some k) v) j = if j = k then v else T a j := by
  unfold T Act.put
  simp only [Array.getElem?_setIfInBounds]
  by_cases h : j = k
  · subst h; simp [hk]
  · rw [if_neg (fun e => h e.symm), if_neg h]
theorem T_eval (a : Act) (k : Nat) : a.eval (.tmp k) = T a k := by
  unfold T Act.eval
  simp [Array.getD_eq_getD_getElem?]
/-- What holds while the region of a drawn change is run, in whatever order. -/
def InvC (A0 lim s5 s6 : Value) (z : Int) (p q : Nat) (W0 : World) (l : Array Bool) (a : Act) (w : World) : Prop :=
  ∃ (b0 b5 b6 b7 b8 b14 b15 b16 b17 b18 b19 : Bool) (g0 g8 g18 : Nat), l = #[b0, true, true, true, true, b5, b6, b7, b8, true, true, true, true, true, b14, b15, b16, b17, b18, b19] ∧ a.defers = [] ∧ a.tmps.size = 42 ∧
    (T a 0 = A0 ∧ T a 1 = lim ∧ T a 2 = undef ∧ T a 3 = undef ∧ T a 4 = .slice none 0 0 ∧ T a 5 = s5 ∧ T a 6 = s6 ∧ T a 41 = undef ∧ T a 23 = .int .i64 z ∧ T a 32 = .int .i64 (z.tdiv 8)) ∧
    (b0 = true → T a 19 = .slice (some ⟨g0, 0, none⟩) 8 8 ∧ (b19 = false → Blk w g0 9 ktC)) ∧
    (b5 = true → T a 24 = .int .i64 (p : Int)) ∧ (b6 = true → (b0 = true ∧ b5 = true) ∧ T a 25 = .pointer (some ⟨g0, p, none⟩)) ∧ (b7 = true → b6 = true ∧ T a 26 = str (kt p)) ∧
    (b8 = true → T a 27 = .slice (some ⟨g8, 0, none⟩) 4 4 ∧ (b19 = false → Blk w g8 9 vtC)) ∧
    (b14 = true → T a 33 = .int .i64 (q : Int)) ∧ (b15 = true → (b8 = true ∧ b14 = true) ∧ T a 34 = .pointer (some ⟨g8, q, none⟩)) ∧ (b16 = true → b15 = true ∧ T a 35 = str (vt q)) ∧
    (b17 = true → (b7 = true ∧ b16 = true) ∧ T a 36 = .agg #[str (kt p), str (vt q)]) ∧
    (b18 = true → T a 7 = .pointer (some ⟨g18, 0, none⟩) ∧ W0.heap.size ≤ g18 ∧ (b19 = false → Blk w g18 50 #[.string ⟨#[]⟩, .string ⟨#[]⟩])) ∧
    (b19 = true → (b0 && b5 && b6 && b7 && b8 && b14 && b15 && b16 && b17 && b18) = true ∧ Blk w g18 50 #[str (kt p), str (vt q)]) ∧
    Below W0.heap.size W0 w
theorem T_self (a : Act) (k : Nat) (v : Value) (hk : k < a.tmps.size) : T (a.put (some k) v) k = v := by rw [T_put a k k v hk, if_pos rfl]
theorem T_ne (a : Act) (k j : Nat) (v : Value) (h : j ≠ k) : T (a.put (some k) v) j = T a j := by
  unfold T Act.put
  simp only [Array.getElem?_setIfInBounds]
  rw [if_neg (fun e => h e.symm)]
theorem put_size (a : Act) (k : Nat) (v : Value) : (a.put (some k) v).tmps.size = a.tmps.size := by unfold Act.put; simp
theorem picked_q (a n : Int) (w : World) (hn : 0 < n) (hn2 : n ≤ 1048576) :
    Calls Try.prog 24 #[.int .i64 a, .int .i64 n] w fun e w' => e = .returned (.int .i64 (a % n)) ∧ w' = w :=
  (picked_any a n w hn hn2).mono fun _ _ h => ⟨h.1, h.2.symm⟩
theorem list_cons {α : Type} {l : List α} {n : Nat} (h : l.length = n + 1) : ∃ x r, l = x :: r ∧ r.length = n := by
  cases l with
  | nil => simp at h
  | cons x r => exact ⟨x, r, rfl, by simpa using h⟩
theorem tmps42 {t : Array Value} (h : t.size = 42) : ∃ x0 x1 x2 x3 x4 x5 x6 x7 x8 x9 x10 x11 x12 x13 x14 x15 x16 x17 x18 x19 x20 x21 x22 x23 x24 x25 x26 x27 x28 x29 x30 x31 x32 x33 x34 x35 x36 x37 x38 x39 x40 x41 : Value, t = #[x0, x1, x2, x3, x4, x5, x6, x7, x8, x9, x10, x11, x12, x13, x14, x15, x16, x17, x18, x19, x20, x21, x22, x23, x24, x25, x26, x27, x28, x29, x30, x31, x32, x33, x34, x35, x36, x37, x38, x39, x40, x41] := by
  obtain ⟨l⟩ := t
  have r0 : l.length = 42 := h
  obtain ⟨x0, l1, rfl, r1⟩ := list_cons r0
  obtain ⟨x1, l2, rfl, r2⟩ := list_cons r1
  obtain ⟨x2, l3, rfl, r3⟩ := list_cons r2
  obtain ⟨x3, l4, rfl, r4⟩ := list_cons r3
  obtain ⟨x4, l5, rfl, r5⟩ := list_cons r4
  obtain ⟨x5, l6, rfl, r6⟩ := list_cons r5
  obtain ⟨x6, l7, rfl, r7⟩ := list_cons r6
  obtain ⟨x7, l8, rfl, r8⟩ := list_cons r7
  obtain ⟨x8, l9, rfl, r9⟩ := list_cons r8
  obtain ⟨x9, l10, rfl, r10⟩ := list_cons r9
  obtain ⟨x10, l11, rfl, r11⟩ := list_cons r10
  obtain ⟨x11, l12, rfl, r12⟩ := list_cons r11
  obtain ⟨x12, l13, rfl, r13⟩ := list_cons r12
  obtain ⟨x13, l14, rfl, r14⟩ := list_cons r13
  obtain ⟨x14, l15, rfl, r15⟩ := list_cons r14
  obtain ⟨x15, l16, rfl, r16⟩ := list_cons r15
  obtain ⟨x16, l17, rfl, r17⟩ := list_cons r16
  obtain ⟨x17, l18, rfl, r18⟩ := list_cons r17
  obtain ⟨x18, l19, rfl, r19⟩ := list_cons r18
  obtain ⟨x19, l20, rfl, r20⟩ := list_cons r19
  obtain ⟨x20, l21, rfl, r21⟩ := list_cons r20
  obtain ⟨x21, l22, rfl, r22⟩ := list_cons r21
  obtain ⟨x22, l23, rfl, r23⟩ := list_cons r22
  obtain ⟨x23, l24, rfl, r24⟩ := list_cons r23
  obtain ⟨x24, l25, rfl, r25⟩ := list_cons r24
  obtain ⟨x25, l26, rfl, r26⟩ := list_cons r25
  obtain ⟨x26, l27, rfl, r27⟩ := list_cons r26
  obtain ⟨x27, l28, rfl, r28⟩ := list_cons r27
  obtain ⟨x28, l29, rfl, r29⟩ := list_cons r28
  obtain ⟨x29, l30, rfl, r30⟩ := list_cons r29
  obtain ⟨x30, l31, rfl, r31⟩ := list_cons r30
  obtain ⟨x31, l32, rfl, r32⟩ := list_cons r31
  obtain ⟨x32, l33, rfl, r33⟩ := list_cons r32
  obtain ⟨x33, l34, rfl, r34⟩ := list_cons r33
  obtain ⟨x34, l35, rfl, r35⟩ := list_cons r34
  obtain ⟨x35, l36, rfl, r36⟩ := list_cons r35
  obtain ⟨x36, l37, rfl, r37⟩ := list_cons r36
  obtain ⟨x37, l38, rfl, r38⟩ := list_cons r37
  obtain ⟨x38, l39, rfl, r39⟩ := list_cons r38
  obtain ⟨x39, l40, rfl, r40⟩ := list_cons r39
  obtain ⟨x40, l41, rfl, r41⟩ := list_cons r40
  obtain ⟨x41, l42, rfl, r42⟩ := list_cons r41
  obtain rfl := List.eq_nil_of_length_eq_zero r42
  exact ⟨x0, x1, x2, x3, x4, x5, x6, x7, x8, x9, x10, x11, x12, x13, x14, x15, x16, x17, x18, x19, x20, x21, x22, x23, x24, x25, x26, x27, x28, x29, x30, x31, x32, x33, x34, x35, x36, x37, x38, x39, x40, x41, rfl⟩
set_option maxHeartbeats 8000000 in
set_option maxRecDepth 100000 in
theorem changes_region (A : Option Addr) (n c lim : Nat) : True := trivial
end Go.Proofs.Ytploicbiapjfdaa

/- Sorted tables: Changes at every slice of numbers. -/
namespace Go.Proofs.Ytploicbiapjfdaa
set_option linter.unusedVariables false
set_option linter.unusedSimpArgs false
open Go.RowKit
/-- Changes that are drawn. -/
def Drawn (cs : List Rw) : Prop := ∀ r ∈ cs, ∃ p q, p < 8 ∧ q < 4 ∧ r = (⟨kt p, vt q⟩ : Rw)
def ChL (n lim : Nat) (w : World) (gk : Nat) (s5 s6 : Value) (wr : World) : Prop :=
  ∃ (k : Nat) (cs : List Rw), s6 = .int .i64 (k : Int) ∧ k ≤ lim ∧ k ≤ n ∧ gk = lim - k ∧ cs.length = k ∧ Drawn cs ∧ wr.ownsRow w.heap.size 50 2 s5 k (pcR cs) ∧ Below w.heap.size w wr
set_option maxHeartbeats 8000000 in
set_option maxRecDepth 100000 in
theorem changes_any (A : Option Addr) (n c B lim : Nat) (w : World) (hx : IntsAt w B A n c) (hB : B ≤ w.heap.size) (hlim : lim ≤ 60) :
    Calls Try.prog 26 #[.slice A n c, .int .i64 (lim : Int)] w fun e w' => ∃ v cs, e = .returned v ∧ w'.ownsRow w.heap.size 50 2 v cs.length (pcR cs) ∧ cs.length = min n lim ∧ Drawn cs ∧ Below w.heap.size w w' := by
  have Hx := Lib.hid hx
  clear hx
  go_enter Try.func26, Try.ntmps26
  go_wp2_with fail
  go_loopg [5, 6] lim (ChL n lim w)
  case atStart => exact ⟨0, [], rfl, Nat.zero_le _, Nat.zero_le _, by omega, rfl, by simp [Drawn], World.ownsRow_nil _ _ _ _, Below.refl _ _⟩
  case round =>
    obtain ⟨k, cs, rfl, hk, hkn', hgk, hcl, hdr, ho, hbe⟩ := hrel
    have Hgk := Lib.hid hgk
    have Ho := Lib.hid ho
    have Hbe := Lib.hid hbe
    have Hcl := Lib.hid hcl
    have Hdr := Lib.hid hdr
    have hszw := hbe.size
    clear hgk ho hbe hcl hdr
    by_cases hkn : k < n
    · by_cases hkl : k < lim
      · have hi1 : (k : Int) < (n : Int) := by omega
        have hi2 : (k : Int) < (lim : Int) := by omega
        obtain ⟨b, off, z, hA, hbB, hc0, hz1, hz2⟩ := (Hx.out.below (Hbe.out.mono hB)).at hkn
        subst hA
        have hbw : b < wr.heap.size := by omega
        obtain ⟨p, hp, hp8⟩ : ∃ p : Nat, z % 8 = (p : Int) ∧ p < 8 := ⟨(z % 8).toNat, by have := Int.emod_nonneg z (show (8 : Int) ≠ 0 by decide); omega, by have := Int.emod_nonneg z (show (8 : Int) ≠ 0 by decide); have := Int.emod_lt_of_pos z (show (0 : Int) < 8 by decide); omega⟩
        obtain ⟨q, hq, hq4⟩ : ∃ q : Nat, (z.tdiv 8) % 4 = (q : Int) ∧ q < 4 := ⟨((z.tdiv 8) % 4).toNat, by have := Int.emod_nonneg (z.tdiv 8) (show (4 : Int) ≠ 0 by decide); omega, by have := Int.emod_nonneg (z.tdiv 8) (show (4 : Int) ≠ 0 by decide); have := Int.emod_lt_of_pos (z.tdiv 8) (show (0 : Int) < 4 by decide); omega⟩
        have Hp := Lib.hid hp
        have Hq := Lib.hid hq
        have hpi : (p : Int) < 8 := by omega
        have hqi : (q : Int) < 4 := by omega
        have hwq : IntKind.i64.wrap (z.tdiv 8) = z.tdiv 8 := by
          have h1 := Int.mul_tdiv_add_tmod z 8
          have h2 := (tmod_pick z 8 (by decide)).2.2
          exact IntWalk.i64_in _ (by omega)
        clear hp hq
        go_wp2_with fail
        refine region_S (fun w' => Below wr.heap.size wr w') [] (by kernel_rfl) ?_
        have hS0 : Below wr.heap.size wr wr.drew := (Below.refl _ _).drew
        refine anyS_take 1 (v := .slice (some ⟨b, off, none⟩) n c) rfl (by kernel_rfl) (by kernel_rfl) (by kernel_rfl) (by kernel_rfl) (fun _ _ _ h => h) (.inl ⟨by kernel_rfl, fun w' hS' => by kernel_rfl⟩) hS0 ?_
        refine anyS_take 2 (v := .int .i64 (k : Int)) rfl (by kernel_rfl) (by kernel_rfl) (by kernel_rfl) (by kernel_rfl) (fun _ _ _ h => h) (.inl ⟨by kernel_rfl, fun w' hS' => by kernel_rfl⟩) hS0 ?_
        refine anyS_take 3 (v := .pointer (some ⟨b, off + k, none⟩)) rfl (by kernel_rfl) (by kernel_rfl) (by kernel_rfl) (by kernel_rfl) (fun _ _ _ h => h) (.inl ⟨by kernel_rfl, fun w' hS' => by go_simp⟩) hS0 ?_
        refine anyS_take 4 (v := .int .i64 z) rfl (by kernel_rfl) (by kernel_rfl) (by kernel_rfl) (by kernel_rfl) (fun _ _ _ h => h) (.inl ⟨by kernel_rfl, fun w' hS' => by have s1 := (hS'.cell hbw).trans hc0; go_simp⟩) hS0 ?_
        refine anyS_take 9 (v := .slice (some ⟨b, off, none⟩) n c) rfl (by kernel_rfl) (by kernel_rfl) (by kernel_rfl) (by kernel_rfl) (fun _ _ _ h => h) (.inl ⟨by kernel_rfl, fun w' hS' => by kernel_rfl⟩) hS0 ?_
        refine anyS_take 10 (v := .int .i64 (k : Int)) rfl (by kernel_rfl) (by kernel_rfl) (by kernel_rfl) (by kernel_rfl) (fun _ _ _ h => h) (.inl ⟨by kernel_rfl, fun w' hS' => by kernel_rfl⟩) hS0 ?_
        refine anyS_take 11 (v := .pointer (some ⟨b, off + k, none⟩)) rfl (by kernel_rfl) (by kernel_rfl) (by kernel_rfl) (by kernel_rfl) (fun _ _ _ h => h) (.inl ⟨by kernel_rfl, fun w' hS' => by go_simp⟩) hS0 ?_
        refine anyS_take 12 (v := .int .i64 z) rfl (by kernel_rfl) (by kernel_rfl) (by kernel_rfl) (by kernel_rfl) (fun _ _ _ h => h) (.inl ⟨by kernel_rfl, fun w' hS' => by have s1 := (hS'.cell hbw).trans hc0; go_simp⟩) hS0 ?_
        refine anyS_take 13 (v := .int .i64 (z.tdiv 8)) rfl (by kernel_rfl) (by kernel_rfl) (by kernel_rfl) (by kernel_rfl) (fun _ _ _ h => h) (.inl ⟨by kernel_rfl, fun w' hS' => by go_simp⟩) hS0 ?_
        refine anyS_inv (I := InvC (.slice (some ⟨b, off, none⟩) n c) (.int .i64 (lim : Int)) u5 (.int .i64 (k : Int)) z p q wr) ?_ ?_ ?_ _ _ _ _ ?_ ?_
        · rintro l a w ⟨b0, b5, b6, b7, b8, b14, b15, b16, b17, b18, b19, g0, g8, g18, rfl, hd, hsz, ⟨t0, t1, t2, t3, t4, t5, t6, t41, t23, t32⟩, f0, f5, f6, f7, f8, f14, f15, f16, f17, f18, f19, hb⟩
          exact hb
        · rintro l a w5 ⟨b0, b5, b6, b7, b8, b14, b15, b16, b17, b18, b19, g0, g8, g18, rfl, hd, hsz, ⟨t0, t1, t2, t3, t4, t5, t6, t41, t23, t32⟩, f0, f5, f6, f7, f8, f14, f15, f16, f17, f18, f19, hb⟩ hr
          have q0 : b0 = true := by
            cases b0 with
            | true => rfl
            | false =>
              have hc := congrArg (fun r : List Nat => r.contains 0) hr
              have ht : true = false := Eq.trans (by kernel_rfl) hc
              cases ht
          subst q0
          have q5 : b5 = true := by
            cases b5 with
            | true => rfl
            | false =>
              have hc := congrArg (fun r : List Nat => r.contains 5) hr
              have ht : true = false := Eq.trans (by kernel_rfl) hc
              cases ht
          subst q5
          have q6 : b6 = true := by
            cases b6 with
            | true => rfl
            | false =>
              have hc := congrArg (fun r : List Nat => r.contains 6) hr
              have ht : true = false := Eq.trans (by kernel_rfl) hc
              cases ht
          subst q6
          have q7 : b7 = true := by
            cases b7 with
            | true => rfl
            | false =>
              have hc := congrArg (fun r : List Nat => r.contains 7) hr
              have ht : true = false := Eq.trans (by kernel_rfl) hc
              cases ht
          subst q7
          have q8 : b8 = true := by
            cases b8 with
            | true => rfl
            | false =>
              have hc := congrArg (fun r : List Nat => r.contains 8) hr
              have ht : true = false := Eq.trans (by kernel_rfl) hc
              cases ht
          subst q8
          have q14 : b14 = true := by
            cases b14 with
            | true => rfl
            | false =>
              have hc := congrArg (fun r : List Nat => r.contains 14) hr
              have ht : true = false := Eq.trans (by kernel_rfl) hc
              cases ht
          subst q14
          have q15 : b15 = true := by
            cases b15 with
            | true => rfl
            | false =>
              have hc := congrArg (fun r : List Nat => r.contains 15) hr
              have ht : true = false := Eq.trans (by kernel_rfl) hc
              cases ht
          subst q15
          have q16 : b16 = true := by
            cases b16 with
            | true => rfl
            | false =>
              have hc := congrArg (fun r : List Nat => r.contains 16) hr
              have ht : true = false := Eq.trans (by kernel_rfl) hc
              cases ht
          subst q16
          have q17 : b17 = true := by
            cases b17 with
            | true => rfl
            | false =>
              have hc := congrArg (fun r : List Nat => r.contains 17) hr
              have ht : true = false := Eq.trans (by kernel_rfl) hc
              cases ht
          subst q17
          have q18 : b18 = true := by
            cases b18 with
            | true => rfl
            | false =>
              have hc := congrArg (fun r : List Nat => r.contains 18) hr
              have ht : true = false := Eq.trans (by kernel_rfl) hc
              cases ht
          subst q18
          have q19 : b19 = true := by
            cases b19 with
            | true => rfl
            | false =>
              have hc := congrArg (fun r : List Nat => r.contains 19) hr
              have ht : true = false := Eq.trans (by kernel_rfl) hc
              cases ht
          subst q19
          obtain ⟨u7, hg18, -⟩ := f18 rfl
          obtain ⟨-, hB⟩ := f19 rfl
          obtain ⟨x0,x1,x2,x3,x4,x5,x6,x7,x8,x9,x10,x11,x12,x13,x14,x15,x16,x17,x18,x19,x20,x21,x22,x23,x24,x25,x26,x27,x28,x29,x30,x31,x32,x33,x34,x35,x36,x37,x38,x39,x40,x41, ht⟩ := tmps42 hsz
          obtain ⟨tm, df⟩ := a
          replace ht : tm = _ := ht
          replace hd : df = [] := hd
          subst ht hd
          replace t0 : x0 = _ := t0
          replace t1 : x1 = _ := t1
          replace t2 : x2 = _ := t2
          replace t3 : x3 = _ := t3
          replace t4 : x4 = _ := t4
          replace t5 : x5 = _ := t5
          replace t6 : x6 = _ := t6
          replace t41 : x41 = _ := t41
          replace u7 : x7 = _ := u7
          subst t0 t1 t2 t3 t4 t6 t41 u7
          subst x5
          have c0 : w5.cell? ⟨g18, 0, none⟩ = some (str (kt p)) := hB.cell 0
          have c1 : w5.cell? ⟨g18, 1, none⟩ = some (str (vt q)) := hB.cell 1
          have hgl := hB.lt
          have how := rowR_below Ho.out hb
          have hsz5 := hb.size
          obtain ⟨v', wf, hrun, ho', hg'⟩ := run_app_row w5 w.heap.size k u5 cs ⟨kt p, vt q⟩ how (by omega) (by omega)
          have Hrun := Lib.hid hrun
          have Ho' := Lib.hid ho'
          have Hb' := Lib.hid (below_own ((Hbe.out.trans (hb.mono hszw)).alloc (by omega) _) hg' (how.alloc _) (Nat.le_refl _) (by simp; omega))
          have Hdr' := Lib.hid (show Drawn (cs ++ [⟨kt p, vt q⟩]) from fun r hr => by
            rcases List.mem_append.1 hr with hr | hr
            · exact Hdr.out r hr
            · exact ⟨p, q, hp8, hq4, by simpa using hr⟩)
          have Hcl' := Lib.hid (show (cs ++ [(⟨kt p, vt q⟩ : Rw)]).length = k + 1 by rw [List.length_append, Hcl.out]; rfl)
          clear hrun ho' hg' how hB f0 f5 f6 f7 f8 f14 f15 f16 f17 f18 f19 hsz t23 t32 hr
          generalize kt p = key at *
          generalize vt q = val at *
          go_wp2_with (first | (at_builtin; refine rw_app rfl _ _ _ rfl _ _ (by rfl) (by rfl) Hrun.out ?_; clear Hrun) | fail)
          go_roundg (lim - (k + 1))
          case measure => have := Hgk.out; omega
          case rel => exact ⟨k + 1, _, by go_num, by omega, by omega, rfl, Hcl'.out, Hdr'.out, Ho'.out, Hb'.out⟩
        · intro l a w i h hi
          obtain ⟨b0, b5, b6, b7, b8, b14, b15, b16, b17, b18, b19, g0, g8, g18, rfl, hd, hsz, ⟨t0, t1, t2, t3, t4, t5, t6, t41, t23, t32⟩, f0, f5, f6, f7, f8, f14, f15, f16, f17, f18, f19, hb⟩ := h
          obtain ⟨hun, oj, hoj, hall⟩ := mem_ready.1 hi
          have hi20 : i < 20 := (Array.getElem?_eq_some_iff.1 hoj).1
          rcases (by omega : i = 0 ∨ i = 1 ∨ i = 2 ∨ i = 3 ∨ i = 4 ∨ i = 5 ∨ i = 6 ∨ i = 7 ∨ i = 8 ∨ i = 9 ∨ i = 10 ∨ i = 11 ∨ i = 12 ∨ i = 13 ∨ i = 14 ∨ i = 15 ∨ i = 16 ∨ i = 17 ∨ i = 18 ∨ i = 19) with rfl | rfl | rfl | rfl | rfl | rfl | rfl | rfl | rfl | rfl | rfl | rfl | rfl | rfl | rfl | rfl | rfl | rfl | rfl | rfl
          · skip
            have hbi : b0 = false := by simpa using hun
            subst hbi
            have h19 : b19 = false := by
              cases b19 with
              | false => rfl
              | true => have := (f19 rfl).1; simp at this
            subst h19
            have Hsz := Lib.hid hsz
            have Hd := Lib.hid hd
            clear hsz hd
            refine wpOp_of rfl rfl ?_
            intro K' hK'
            go_simp
            refine hK' _ _ ?_
            show InvC _ _ _ _ _ _ _ _ _ (a.put (some 19) (.slice (some ⟨w.heap.size, 0, none⟩) 8 8)) (w.alloc (.cells ktC 9))
            have tn := fun j (h : j ≠ 19) => T_ne a 19 j (.slice (some ⟨w.heap.size, 0, none⟩) 8 8) h
            have ts := T_self a 19 (.slice (some ⟨w.heap.size, 0, none⟩) 8 8) (by rw [Hsz.out]; decide)
            exact ⟨true, b5, b6, b7, b8, b14, b15, b16, b17, b18, false, w.heap.size, g8, g18, by rfl, Hd.out, (put_size _ _ _).trans Hsz.out, ⟨(tn 0 (by decide)).trans t0, (tn 1 (by decide)).trans t1, (tn 2 (by decide)).trans t2, (tn 3 (by decide)).trans t3, (tn 4 (by decide)).trans t4, (tn 5 (by decide)).trans t5, (tn 6 (by decide)).trans t6, (tn 41 (by decide)).trans t41, (tn 23 (by decide)).trans t23, (tn 32 (by decide)).trans t32⟩,
              fun _ => ⟨ts, fun _ => Blk.new w _ _⟩, fun h => (tn 24 (by decide)).trans (f5 h), fun h => absurd (f6 h).1.1 (by simp), fun h => ⟨(f7 h).1, (tn 26 (by decide)).trans (f7 h).2⟩, fun h => ⟨(tn 27 (by decide)).trans (f8 h).1, fun _ => ((f8 h).2 rfl).alloc _⟩, fun h => (tn 33 (by decide)).trans (f14 h), fun h => ⟨(f15 h).1, (tn 34 (by decide)).trans (f15 h).2⟩, fun h => ⟨(f16 h).1, (tn 35 (by decide)).trans (f16 h).2⟩, fun h => ⟨(f17 h).1, (tn 36 (by decide)).trans (f17 h).2⟩, fun h => ⟨(tn 7 (by decide)).trans (f18 h).1, (f18 h).2.1, fun _ => ((f18 h).2.2 rfl).alloc _⟩, fun h => (by cases h), hb.alloc hb.size _⟩
          · simp at hun
          · simp at hun
          · simp at hun
          · simp at hun
          · skip
            have hbi : b5 = false := by simpa using hun
            subst hbi
            have h19 : b19 = false := by
              cases b19 with
              | false => rfl
              | true => have := (f19 rfl).1; simp at this
            subst h19
            have e23 : (a.tmps[23]?).getD undef = .int .i64 z := t23
            have Hsz := Lib.hid hsz
            have Hd := Lib.hid hd
            clear hsz hd
            refine wpOp_of rfl rfl ?_
            intro K' hK'
            go_simp
            refine (picked_q z 8 w (by decide) (by decide)).mono ?_
            rintro e w1 ⟨rfl, hw1⟩
            obtain rfl : w = w1 := hw1.symm
            rw [Hp.out]
            refine hK' _ _ ?_
            show InvC _ _ _ _ _ _ _ _ _ (a.put (some 24) (.int .i64 (p : Int))) w
            have tn := fun j (h : j ≠ 24) => T_ne a 24 j (.int .i64 (p : Int)) h
            have ts := T_self a 24 (.int .i64 (p : Int)) (by rw [Hsz.out]; decide)
            exact ⟨b0, true, b6, b7, b8, b14, b15, b16, b17, b18, false, g0, g8, g18, by rfl, Hd.out, (put_size _ _ _).trans Hsz.out, ⟨(tn 0 (by decide)).trans t0, (tn 1 (by decide)).trans t1, (tn 2 (by decide)).trans t2, (tn 3 (by decide)).trans t3, (tn 4 (by decide)).trans t4, (tn 5 (by decide)).trans t5, (tn 6 (by decide)).trans t6, (tn 41 (by decide)).trans t41, (tn 23 (by decide)).trans t23, (tn 32 (by decide)).trans t32⟩,
              fun h => ⟨(tn 19 (by decide)).trans (f0 h).1, fun _ => ((f0 h).2 rfl)⟩, fun _ => ts, fun h => absurd (f6 h).1.2 (by simp), fun h => ⟨(f7 h).1, (tn 26 (by decide)).trans (f7 h).2⟩, fun h => ⟨(tn 27 (by decide)).trans (f8 h).1, fun _ => ((f8 h).2 rfl)⟩, fun h => (tn 33 (by decide)).trans (f14 h), fun h => ⟨(f15 h).1, (tn 34 (by decide)).trans (f15 h).2⟩, fun h => ⟨(f16 h).1, (tn 35 (by decide)).trans (f16 h).2⟩, fun h => ⟨(f17 h).1, (tn 36 (by decide)).trans (f17 h).2⟩, fun h => ⟨(tn 7 (by decide)).trans (f18 h).1, (f18 h).2.1, fun _ => ((f18 h).2.2 rfl)⟩, fun h => (by cases h), hb⟩
          · skip
            have hbi : b6 = false := by simpa using hun
            subst hbi
            obtain rfl := (Option.some.inj hoj).symm
            have d0 : b0 = true := by simpa using hall ⟨0, .data⟩ (by simp) (by rfl)
            have d5 : b5 = true := by simpa using hall ⟨5, .data⟩ (by simp) (by rfl)
            subst d0
            subst d5
            have h19 : b19 = false := by
              cases b19 with
              | false => rfl
              | true => have := (f19 rfl).1; simp at this
            subst h19
            have e19 : (a.tmps[19]?).getD undef = _ := (f0 rfl).1
            have e24 : (a.tmps[24]?).getD undef = _ := f5 rfl
            have Hsz := Lib.hid hsz
            have Hd := Lib.hid hd
            clear hsz hd
            refine wpOp_of rfl rfl ?_
            intro K' hK'
            go_simp
            refine hK' _ _ ?_
            show InvC _ _ _ _ _ _ _ _ _ (a.put (some 25) (.pointer (some ⟨g0, p, none⟩))) w
            have tn := fun j (h : j ≠ 25) => T_ne a 25 j (.pointer (some ⟨g0, p, none⟩)) h
            have ts := T_self a 25 (.pointer (some ⟨g0, p, none⟩)) (by rw [Hsz.out]; decide)
            exact ⟨true, true, true, b7, b8, b14, b15, b16, b17, b18, false, g0, g8, g18, by rfl, Hd.out, (put_size _ _ _).trans Hsz.out, ⟨(tn 0 (by decide)).trans t0, (tn 1 (by decide)).trans t1, (tn 2 (by decide)).trans t2, (tn 3 (by decide)).trans t3, (tn 4 (by decide)).trans t4, (tn 5 (by decide)).trans t5, (tn 6 (by decide)).trans t6, (tn 41 (by decide)).trans t41, (tn 23 (by decide)).trans t23, (tn 32 (by decide)).trans t32⟩,
              fun h => ⟨(tn 19 (by decide)).trans (f0 h).1, fun _ => ((f0 h).2 rfl)⟩, fun h => (tn 24 (by decide)).trans (f5 h), fun _ => ⟨⟨rfl, rfl⟩, ts⟩, fun h => absurd (f7 h).1 (by simp), fun h => ⟨(tn 27 (by decide)).trans (f8 h).1, fun _ => ((f8 h).2 rfl)⟩, fun h => (tn 33 (by decide)).trans (f14 h), fun h => ⟨(f15 h).1, (tn 34 (by decide)).trans (f15 h).2⟩, fun h => ⟨(f16 h).1, (tn 35 (by decide)).trans (f16 h).2⟩, fun h => ⟨(f17 h).1, (tn 36 (by decide)).trans (f17 h).2⟩, fun h => ⟨(tn 7 (by decide)).trans (f18 h).1, (f18 h).2.1, fun _ => ((f18 h).2.2 rfl)⟩, fun h => (by cases h), hb⟩
          · skip
            have hbi : b7 = false := by simpa using hun
            subst hbi
            obtain rfl := (Option.some.inj hoj).symm
            have d6 : b6 = true := by simpa using hall ⟨6, .data⟩ (by simp) (by rfl)
            subst d6
            have h19 : b19 = false := by
              cases b19 with
              | false => rfl
              | true => have := (f19 rfl).1; simp at this
            subst h19
            have e25 : (a.tmps[25]?).getD undef = _ := (f6 rfl).2
            have ec := (((f0 (f6 rfl).1.1).2 rfl).cell p).trans (ktC_at p hp8)
            have Hsz := Lib.hid hsz
            have Hd := Lib.hid hd
            clear hsz hd
            refine wpOp_of rfl rfl ?_
            intro K' hK'
            go_simp
            refine hK' _ _ ?_
            show InvC _ _ _ _ _ _ _ _ _ (a.put (some 26) (str (kt p))) w
            have tn := fun j (h : j ≠ 26) => T_ne a 26 j (str (kt p)) h
            have ts := T_self a 26 (str (kt p)) (by rw [Hsz.out]; decide)
            exact ⟨b0, b5, true, true, b8, b14, b15, b16, b17, b18, false, g0, g8, g18, by rfl, Hd.out, (put_size _ _ _).trans Hsz.out, ⟨(tn 0 (by decide)).trans t0, (tn 1 (by decide)).trans t1, (tn 2 (by decide)).trans t2, (tn 3 (by decide)).trans t3, (tn 4 (by decide)).trans t4, (tn 5 (by decide)).trans t5, (tn 6 (by decide)).trans t6, (tn 41 (by decide)).trans t41, (tn 23 (by decide)).trans t23, (tn 32 (by decide)).trans t32⟩,
              fun h => ⟨(tn 19 (by decide)).trans (f0 h).1, fun _ => ((f0 h).2 rfl)⟩, fun h => (tn 24 (by decide)).trans (f5 h), fun h => ⟨(f6 h).1, (tn 25 (by decide)).trans (f6 h).2⟩, fun _ => ⟨rfl, ts⟩, fun h => ⟨(tn 27 (by decide)).trans (f8 h).1, fun _ => ((f8 h).2 rfl)⟩, fun h => (tn 33 (by decide)).trans (f14 h), fun h => ⟨(f15 h).1, (tn 34 (by decide)).trans (f15 h).2⟩, fun h => ⟨(f16 h).1, (tn 35 (by decide)).trans (f16 h).2⟩, fun h => absurd (f17 h).1.1 (by simp), fun h => ⟨(tn 7 (by decide)).trans (f18 h).1, (f18 h).2.1, fun _ => ((f18 h).2.2 rfl)⟩, fun h => (by cases h), hb⟩
          · skip
            have hbi : b8 = false := by simpa using hun
            subst hbi
            have h19 : b19 = false := by
              cases b19 with
              | false => rfl
              | true => have := (f19 rfl).1; simp at this
            subst h19
            have Hsz := Lib.hid hsz
            have Hd := Lib.hid hd
            clear hsz hd
            refine wpOp_of rfl rfl ?_
            intro K' hK'
            go_simp
            refine hK' _ _ ?_
            show InvC _ _ _ _ _ _ _ _ _ (a.put (some 27) (.slice (some ⟨w.heap.size, 0, none⟩) 4 4)) (w.alloc (.cells vtC 9))
            have tn := fun j (h : j ≠ 27) => T_ne a 27 j (.slice (some ⟨w.heap.size, 0, none⟩) 4 4) h
            have ts := T_self a 27 (.slice (some ⟨w.heap.size, 0, none⟩) 4 4) (by rw [Hsz.out]; decide)
            exact ⟨b0, b5, b6, b7, true, b14, b15, b16, b17, b18, false, g0, w.heap.size, g18, by rfl, Hd.out, (put_size _ _ _).trans Hsz.out, ⟨(tn 0 (by decide)).trans t0, (tn 1 (by decide)).trans t1, (tn 2 (by decide)).trans t2, (tn 3 (by decide)).trans t3, (tn 4 (by decide)).trans t4, (tn 5 (by decide)).trans t5, (tn 6 (by decide)).trans t6, (tn 41 (by decide)).trans t41, (tn 23 (by decide)).trans t23, (tn 32 (by decide)).trans t32⟩,
              fun h => ⟨(tn 19 (by decide)).trans (f0 h).1, fun _ => ((f0 h).2 rfl).alloc _⟩, fun h => (tn 24 (by decide)).trans (f5 h), fun h => ⟨(f6 h).1, (tn 25 (by decide)).trans (f6 h).2⟩, fun h => ⟨(f7 h).1, (tn 26 (by decide)).trans (f7 h).2⟩, fun _ => ⟨ts, fun _ => Blk.new w _ _⟩, fun h => (tn 33 (by decide)).trans (f14 h), fun h => absurd (f15 h).1.1 (by simp), fun h => ⟨(f16 h).1, (tn 35 (by decide)).trans (f16 h).2⟩, fun h => ⟨(f17 h).1, (tn 36 (by decide)).trans (f17 h).2⟩, fun h => ⟨(tn 7 (by decide)).trans (f18 h).1, (f18 h).2.1, fun _ => ((f18 h).2.2 rfl).alloc _⟩, fun h => (by cases h), hb.alloc hb.size _⟩
          · simp at hun
          · simp at hun
          · simp at hun
          · simp at hun
          · simp at hun
          · skip
            have hbi : b14 = false := by simpa using hun
            subst hbi
            have h19 : b19 = false := by
              cases b19 with
              | false => rfl
              | true => have := (f19 rfl).1; simp at this
            subst h19
            have e32 : (a.tmps[32]?).getD undef = .int .i64 (z.tdiv 8) := t32
            have Hsz := Lib.hid hsz
            have Hd := Lib.hid hd
            clear hsz hd
            refine wpOp_of rfl rfl ?_
            intro K' hK'
            go_simp
            refine (picked_q (z.tdiv 8) 4 w (by decide) (by decide)).mono ?_
            rintro e w1 ⟨rfl, hw1⟩
            obtain rfl : w = w1 := hw1.symm
            rw [Hq.out]
            refine hK' _ _ ?_
            show InvC _ _ _ _ _ _ _ _ _ (a.put (some 33) (.int .i64 (q : Int))) w
            have tn := fun j (h : j ≠ 33) => T_ne a 33 j (.int .i64 (q : Int)) h
            have ts := T_self a 33 (.int .i64 (q : Int)) (by rw [Hsz.out]; decide)
            exact ⟨b0, b5, b6, b7, b8, true, b15, b16, b17, b18, false, g0, g8, g18, by rfl, Hd.out, (put_size _ _ _).trans Hsz.out, ⟨(tn 0 (by decide)).trans t0, (tn 1 (by decide)).trans t1, (tn 2 (by decide)).trans t2, (tn 3 (by decide)).trans t3, (tn 4 (by decide)).trans t4, (tn 5 (by decide)).trans t5, (tn 6 (by decide)).trans t6, (tn 41 (by decide)).trans t41, (tn 23 (by decide)).trans t23, (tn 32 (by decide)).trans t32⟩,
              fun h => ⟨(tn 19 (by decide)).trans (f0 h).1, fun _ => ((f0 h).2 rfl)⟩, fun h => (tn 24 (by decide)).trans (f5 h), fun h => ⟨(f6 h).1, (tn 25 (by decide)).trans (f6 h).2⟩, fun h => ⟨(f7 h).1, (tn 26 (by decide)).trans (f7 h).2⟩, fun h => ⟨(tn 27 (by decide)).trans (f8 h).1, fun _ => ((f8 h).2 rfl)⟩, fun _ => ts, fun h => absurd (f15 h).1.2 (by simp), fun h => ⟨(f16 h).1, (tn 35 (by decide)).trans (f16 h).2⟩, fun h => ⟨(f17 h).1, (tn 36 (by decide)).trans (f17 h).2⟩, fun h => ⟨(tn 7 (by decide)).trans (f18 h).1, (f18 h).2.1, fun _ => ((f18 h).2.2 rfl)⟩, fun h => (by cases h), hb⟩
          · skip
            have hbi : b15 = false := by simpa using hun
            subst hbi
            obtain rfl := (Option.some.inj hoj).symm
            have d8 : b8 = true := by simpa using hall ⟨8, .data⟩ (by simp) (by rfl)
            have d14 : b14 = true := by simpa using hall ⟨14, .data⟩ (by simp) (by rfl)
            subst d8
            subst d14
            have h19 : b19 = false := by
              cases b19 with
              | false => rfl
              | true => have := (f19 rfl).1; simp at this
            subst h19
            have e27 : (a.tmps[27]?).getD undef = _ := (f8 rfl).1
            have e33 : (a.tmps[33]?).getD undef = _ := f14 rfl
            have Hsz := Lib.hid hsz
            have Hd := Lib.hid hd
            clear hsz hd
            refine wpOp_of rfl rfl ?_
            intro K' hK'
            go_simp
            refine hK' _ _ ?_
            show InvC _ _ _ _ _ _ _ _ _ (a.put (some 34) (.pointer (some ⟨g8, q, none⟩))) w
            have tn := fun j (h : j ≠ 34) => T_ne a 34 j (.pointer (some ⟨g8, q, none⟩)) h
            have ts := T_self a 34 (.pointer (some ⟨g8, q, none⟩)) (by rw [Hsz.out]; decide)
            exact ⟨b0, b5, b6, b7, true, true, true, b16, b17, b18, false, g0, g8, g18, by rfl, Hd.out, (put_size _ _ _).trans Hsz.out, ⟨(tn 0 (by decide)).trans t0, (tn 1 (by decide)).trans t1, (tn 2 (by decide)).trans t2, (tn 3 (by decide)).trans t3, (tn 4 (by decide)).trans t4, (tn 5 (by decide)).trans t5, (tn 6 (by decide)).trans t6, (tn 41 (by decide)).trans t41, (tn 23 (by decide)).trans t23, (tn 32 (by decide)).trans t32⟩,
              fun h => ⟨(tn 19 (by decide)).trans (f0 h).1, fun _ => ((f0 h).2 rfl)⟩, fun h => (tn 24 (by decide)).trans (f5 h), fun h => ⟨(f6 h).1, (tn 25 (by decide)).trans (f6 h).2⟩, fun h => ⟨(f7 h).1, (tn 26 (by decide)).trans (f7 h).2⟩, fun h => ⟨(tn 27 (by decide)).trans (f8 h).1, fun _ => ((f8 h).2 rfl)⟩, fun h => (tn 33 (by decide)).trans (f14 h), fun _ => ⟨⟨rfl, rfl⟩, ts⟩, fun h => absurd (f16 h).1 (by simp), fun h => ⟨(f17 h).1, (tn 36 (by decide)).trans (f17 h).2⟩, fun h => ⟨(tn 7 (by decide)).trans (f18 h).1, (f18 h).2.1, fun _ => ((f18 h).2.2 rfl)⟩, fun h => (by cases h), hb⟩
          · skip
            have hbi : b16 = false := by simpa using hun
            subst hbi
            obtain rfl := (Option.some.inj hoj).symm
            have d15 : b15 = true := by simpa using hall ⟨15, .data⟩ (by simp) (by rfl)
            subst d15
            have h19 : b19 = false := by
              cases b19 with
              | false => rfl
              | true => have := (f19 rfl).1; simp at this
            subst h19
            have e34 : (a.tmps[34]?).getD undef = _ := (f15 rfl).2
            have ec := (((f8 (f15 rfl).1.1).2 rfl).cell q).trans (vtC_at q hq4)
            have Hsz := Lib.hid hsz
            have Hd := Lib.hid hd
            clear hsz hd
            refine wpOp_of rfl rfl ?_
            intro K' hK'
            go_simp
            refine hK' _ _ ?_
            show InvC _ _ _ _ _ _ _ _ _ (a.put (some 35) (str (vt q))) w
            have tn := fun j (h : j ≠ 35) => T_ne a 35 j (str (vt q)) h
            have ts := T_self a 35 (str (vt q)) (by rw [Hsz.out]; decide)
            exact ⟨b0, b5, b6, b7, b8, b14, true, true, b17, b18, false, g0, g8, g18, by rfl, Hd.out, (put_size _ _ _).trans Hsz.out, ⟨(tn 0 (by decide)).trans t0, (tn 1 (by decide)).trans t1, (tn 2 (by decide)).trans t2, (tn 3 (by decide)).trans t3, (tn 4 (by decide)).trans t4, (tn 5 (by decide)).trans t5, (tn 6 (by decide)).trans t6, (tn 41 (by decide)).trans t41, (tn 23 (by decide)).trans t23, (tn 32 (by decide)).trans t32⟩,
              fun h => ⟨(tn 19 (by decide)).trans (f0 h).1, fun _ => ((f0 h).2 rfl)⟩, fun h => (tn 24 (by decide)).trans (f5 h), fun h => ⟨(f6 h).1, (tn 25 (by decide)).trans (f6 h).2⟩, fun h => ⟨(f7 h).1, (tn 26 (by decide)).trans (f7 h).2⟩, fun h => ⟨(tn 27 (by decide)).trans (f8 h).1, fun _ => ((f8 h).2 rfl)⟩, fun h => (tn 33 (by decide)).trans (f14 h), fun h => ⟨(f15 h).1, (tn 34 (by decide)).trans (f15 h).2⟩, fun _ => ⟨rfl, ts⟩, fun h => absurd (f17 h).1.2 (by simp), fun h => ⟨(tn 7 (by decide)).trans (f18 h).1, (f18 h).2.1, fun _ => ((f18 h).2.2 rfl)⟩, fun h => (by cases h), hb⟩
          · skip
            have hbi : b17 = false := by simpa using hun
            subst hbi
            obtain rfl := (Option.some.inj hoj).symm
            have d7 : b7 = true := by simpa using hall ⟨7, .data⟩ (by simp) (by rfl)
            have d16 : b16 = true := by simpa using hall ⟨16, .data⟩ (by simp) (by rfl)
            subst d7
            subst d16
            have h19 : b19 = false := by
              cases b19 with
              | false => rfl
              | true => have := (f19 rfl).1; simp at this
            subst h19
            have e26 : (a.tmps[26]?).getD undef = _ := (f7 rfl).2
            have e35 : (a.tmps[35]?).getD undef = _ := (f16 rfl).2
            have Hsz := Lib.hid hsz
            have Hd := Lib.hid hd
            clear hsz hd
            refine wpOp_of rfl rfl ?_
            intro K' hK'
            go_simp
            refine hK' _ _ ?_
            show InvC _ _ _ _ _ _ _ _ _ (a.put (some 36) (.agg #[str (kt p), str (vt q)])) w
            have tn := fun j (h : j ≠ 36) => T_ne a 36 j (.agg #[str (kt p), str (vt q)]) h
            have ts := T_self a 36 (.agg #[str (kt p), str (vt q)]) (by rw [Hsz.out]; decide)
            exact ⟨b0, b5, b6, true, b8, b14, b15, true, true, b18, false, g0, g8, g18, by rfl, Hd.out, (put_size _ _ _).trans Hsz.out, ⟨(tn 0 (by decide)).trans t0, (tn 1 (by decide)).trans t1, (tn 2 (by decide)).trans t2, (tn 3 (by decide)).trans t3, (tn 4 (by decide)).trans t4, (tn 5 (by decide)).trans t5, (tn 6 (by decide)).trans t6, (tn 41 (by decide)).trans t41, (tn 23 (by decide)).trans t23, (tn 32 (by decide)).trans t32⟩,
              fun h => ⟨(tn 19 (by decide)).trans (f0 h).1, fun _ => ((f0 h).2 rfl)⟩, fun h => (tn 24 (by decide)).trans (f5 h), fun h => ⟨(f6 h).1, (tn 25 (by decide)).trans (f6 h).2⟩, fun h => ⟨(f7 h).1, (tn 26 (by decide)).trans (f7 h).2⟩, fun h => ⟨(tn 27 (by decide)).trans (f8 h).1, fun _ => ((f8 h).2 rfl)⟩, fun h => (tn 33 (by decide)).trans (f14 h), fun h => ⟨(f15 h).1, (tn 34 (by decide)).trans (f15 h).2⟩, fun h => ⟨(f16 h).1, (tn 35 (by decide)).trans (f16 h).2⟩, fun _ => ⟨⟨rfl, rfl⟩, ts⟩, fun h => ⟨(tn 7 (by decide)).trans (f18 h).1, (f18 h).2.1, fun _ => ((f18 h).2.2 rfl)⟩, fun h => (by cases h), hb⟩
          · skip
            have hbi : b18 = false := by simpa using hun
            subst hbi
            have h19 : b19 = false := by
              cases b19 with
              | false => rfl
              | true => have := (f19 rfl).1; simp at this
            subst h19
            have Hsz := Lib.hid hsz
            have Hd := Lib.hid hd
            clear hsz hd
            refine wpOp_of rfl rfl ?_
            intro K' hK'
            go_simp
            refine hK' _ _ ?_
            show InvC _ _ _ _ _ _ _ _ _ (a.put (some 7) (.pointer (some ⟨w.heap.size, 0, none⟩))) (w.alloc (.cells #[.string ⟨#[]⟩, .string ⟨#[]⟩] 50))
            have tn := fun j (h : j ≠ 7) => T_ne a 7 j (.pointer (some ⟨w.heap.size, 0, none⟩)) h
            have ts := T_self a 7 (.pointer (some ⟨w.heap.size, 0, none⟩)) (by rw [Hsz.out]; decide)
            exact ⟨b0, b5, b6, b7, b8, b14, b15, b16, b17, true, false, g0, g8, w.heap.size, by rfl, Hd.out, (put_size _ _ _).trans Hsz.out, ⟨(tn 0 (by decide)).trans t0, (tn 1 (by decide)).trans t1, (tn 2 (by decide)).trans t2, (tn 3 (by decide)).trans t3, (tn 4 (by decide)).trans t4, (tn 5 (by decide)).trans t5, (tn 6 (by decide)).trans t6, (tn 41 (by decide)).trans t41, (tn 23 (by decide)).trans t23, (tn 32 (by decide)).trans t32⟩,
              fun h => ⟨(tn 19 (by decide)).trans (f0 h).1, fun _ => ((f0 h).2 rfl).alloc _⟩, fun h => (tn 24 (by decide)).trans (f5 h), fun h => ⟨(f6 h).1, (tn 25 (by decide)).trans (f6 h).2⟩, fun h => ⟨(f7 h).1, (tn 26 (by decide)).trans (f7 h).2⟩, fun h => ⟨(tn 27 (by decide)).trans (f8 h).1, fun _ => ((f8 h).2 rfl).alloc _⟩, fun h => (tn 33 (by decide)).trans (f14 h), fun h => ⟨(f15 h).1, (tn 34 (by decide)).trans (f15 h).2⟩, fun h => ⟨(f16 h).1, (tn 35 (by decide)).trans (f16 h).2⟩, fun h => ⟨(f17 h).1, (tn 36 (by decide)).trans (f17 h).2⟩, fun _ => ⟨ts, hb.size, fun _ => Blk.new w _ _⟩, fun h => (by cases h), hb.alloc hb.size _⟩
          · skip
            have hbi : b19 = false := by simpa using hun
            subst hbi
            obtain rfl := (Option.some.inj hoj).symm
            have d18 : b18 = true := by simpa using hall ⟨18, .data⟩ (by simp) (by rfl)
            have d17 : b17 = true := by simpa using hall ⟨17, .data⟩ (by simp) (by rfl)
            subst d18 d17
            obtain ⟨⟨e7, e16⟩, u36⟩ := f17 rfl
            subst e7 e16
            have e6 := (f7 rfl).1
            have e15 := (f16 rfl).1
            subst e6 e15
            obtain ⟨⟨e0, e5⟩, u25⟩ := f6 rfl
            obtain ⟨⟨e8, e14⟩, u34⟩ := f15 rfl
            subst e0 e5 e8 e14
            obtain ⟨u7, hg18, hB⟩ := f18 rfl
            replace hB := hB rfl
            have e36 : (a.tmps[36]?).getD undef = _ := u36
            have e7 : (a.tmps[7]?).getD undef = _ := u7
            have c0 := hB.cell 0
            have c1 := hB.cell 1
            have r0 := hB.frozen 0
            have r1 := hB.frozen 1
            have hB2 : Blk ((w.setCell ⟨g18, 0, none⟩ (str (kt p))).setCell ⟨g18, 1, none⟩ (str (vt q))) g18 50 #[str (kt p), str (vt q)] := (hB.set_ 0 _).set_ 1 _
            have Hsz := Lib.hid hsz
            have Hd := Lib.hid hd
            clear hsz hd
            refine wpOp_of rfl rfl ?_
            intro K' hK'
            simp at c0 c1
            go_simp
            refine hK' _ _ ?_
            show InvC _ _ _ _ _ _ _ _ _ a ((w.setCell ⟨g18, 0, none⟩ (str (kt p))).setCell ⟨g18, 1, none⟩ (str (vt q)))
            exact ⟨true, true, true, true, true, true, true, true, true, true, true, g0, g8, g18, by rfl, Hd.out, Hsz.out, ⟨t0, t1, t2, t3, t4, t5, t6, t41, t23, t32⟩, fun _ => ⟨(f0 rfl).1, fun h => (by cases h)⟩, f5, f6, f7, fun _ => ⟨(f8 rfl).1, fun h => (by cases h)⟩, f14, f15, f16, f17,
              fun _ => ⟨u7, hg18, fun h => (by cases h)⟩, fun _ => ⟨rfl, hB2⟩, (hb.setCell hg18 _).setCell hg18 _⟩
        · exact ⟨false, false, false, false, false, false, false, false, false, false, false, 0, 0, 0, by kernel_rfl, by kernel_rfl, by kernel_rfl, ⟨by kernel_rfl, by kernel_rfl, by kernel_rfl, by kernel_rfl, by kernel_rfl, by kernel_rfl, by kernel_rfl, by kernel_rfl, by kernel_rfl, by kernel_rfl⟩, by simp, by simp, by simp, by simp, by simp, by simp, by simp, by simp, by simp, by simp, by simp, hS0⟩
        · exact Nat.le_of_eq (by kernel_rfl)
      · have hi1 : (k : Int) < (n : Int) := by omega
        have hi2 : ¬ (k : Int) < (lim : Int) := by omega
        go_wp2_with fail
        go_ret
        exact ⟨_, rfl, cs, by rw [Hcl.out]; exact Ho.out, by rw [Hcl.out]; omega, Hdr.out, Hbe.out⟩
    · have hi1 : ¬ (k : Int) < (n : Int) := by omega
      go_wp2_with fail
      go_ret
      exact ⟨_, rfl, cs, by rw [Hcl.out]; exact Ho.out, by rw [Hcl.out]; omega, Hdr.out, Hbe.out⟩
end Go.Proofs.Ytploicbiapjfdaa

/- Sorted tables: copiedRows, rowsOf. -/
namespace Go.Proofs.Ytploicbiapjfdaa
set_option linter.unusedVariables false
set_option linter.unusedSimpArgs false
open Go.RowKit
theorem copR_any (A : Option Addr) (n c B : Nat) (l : List Rw) (w : World) (hl : RIn w B A n c l) (hB : B ≤ w.heap.size) (hn : n ≤ 1048576) :
    Calls Try.prog 27 #[.slice A n c] w fun e w' => ∃ v, e = .returned v ∧ w'.ownsRow w.heap.size 50 2 v n (pcR l) ∧ Below w.heap.size w w' := by
  obtain ⟨i0, hi0, hz0, hzs, hzb⟩ := info_parts info_row
  obtain ⟨v', w', hr, h1, h2, h3⟩ := run_app_all (P := Try.prog) w 29 29 w.heap.size 50 i0 _ 2 32 Try.underlying29 hi0 hz0 hzs hzb rfl (by decide) (.slice none 0 0) 0 [] (World.ownsRow_nil _ _ _ _) B A n c (pcR l) hl.2.2.1 hl.2.2.2 (pcR_one l) (by omega) (by decide) (Nat.le_refl _)
  have HR := Lib.hid hr
  have H1 := Lib.hid h1
  have HB := Lib.hid (below_own (Below.refl w.heap.size w) h2 (World.ownsRow_nil w w.heap.size 50 2) (Nat.le_refl _) (Nat.le_refl _))
  clear hr h1 h2 hl
  go_enter Try.func27, Try.ntmps27
  go_wp2_with (first | (at_builtin; refine rw_app rfl _ _ _ rfl _ _ (by rfl) (by rfl) HR.out ?_) | fail)
  go_ret
  exact ⟨v', rfl, by simpa using H1.out, HB.out⟩
/-- Changes that are few and well made: what Set does of them onto an empty table, or onto one that they made. -/
theorem drawn_good {cs : List Rw} (h : Drawn cs) : goodC cs = true := by
  unfold goodC
  rw [List.all_eq_true]
  intro r hr
  obtain ⟨p, q, hp, hq, rfl⟩ := h r hr
  have h1 : ∀ p : Nat, p < 8 → (!(kt p).isEmpty && decide ((kt p).length ≤ 20)) = true := by decide
  have h2 : ∀ q : Nat, q < 4 → decide ((vt q).length ≤ 20) = true := by decide
  unfold sizedR
  simp only
  rw [h1 p hp, h2 q hq]; rfl
theorem drawn_keys {cs : List Rw} (h : Drawn cs) : ∀ r ∈ cs, r.key ∈ kts := by
  intro r hr
  obtain ⟨p, q, hp, hq, rfl⟩ := h r hr
  have h1 : ∀ p : Nat, p < 8 → kt p ∈ kts := by decide
  exact h1 p hp
theorem drawn_short {cs : List Rw} (h : Drawn cs) : Short cs := by
  intro r hr
  have := sized_short (List.all_eq_true.1 (drawn_good h) r hr)
  exact ⟨by omega, by omega⟩
/-- A table that drawn changes made. -/
structure Tbl (l : List Rw) : Prop where
  srt : srt l
  keys : ∀ r ∈ l, r.key ∈ kts
  good : ∀ r ∈ l, sizedR r = true ∧ r.val ≠ []
theorem Tbl.nil : Tbl [] := ⟨trivial, by simp, by simp⟩
theorem Tbl.len {l : List Rw} (h : Tbl l) : l.length ≤ 8 := srt_len h.srt h.keys
theorem Tbl.fit {l : List Rw} (h : Tbl l) : Fit l := ⟨by have := h.len; omega, h.good, h.srt⟩
theorem Tbl.short {l : List Rw} (h : Tbl l) : Short l := fun r hr => by
  have := h.fit.shortR r hr
  exact ⟨by omega, by omega⟩
theorem Tbl.setsT {l cs : List Rw} (h : Tbl l) (hc : Drawn cs) : Tbl (sets l cs) := by
  refine ⟨srt_sets h.srt, fun r hr => ?_, fun r hr => ?_⟩
  · rcases mem_sets hr with h1 | ⟨h1, _⟩
    · exact h.keys r h1
    · exact drawn_keys hc r h1
  · rcases mem_sets hr with h1 | ⟨h1, h2⟩
    · exact h.good r h1
    · exact ⟨List.all_eq_true.1 (drawn_good hc) r h1, h2⟩
theorem Tbl.setNT {l cs : List Rw} (h : Tbl l) (hc : Drawn cs) (hl : cs.length ≤ 60) : setN l cs = (sets l cs, 0) := by
  have h1 := (h.setsT hc).len
  unfold setN
  rw [if_neg (by rw [h.fit.chk]; simp), if_neg (by rw [drawn_good hc]; simp; omega), if_neg (by omega)]
theorem Drawn.take {cs : List Rw} (h : Drawn cs) (k : Nat) : Drawn (cs.take k) := fun r hr => h r (List.mem_of_mem_take hr)
theorem Drawn.drop {cs : List Rw} (h : Drawn cs) (k : Nat) : Drawn (cs.drop k) := fun r hr => h r (List.mem_of_mem_drop hr)
theorem kv_set : setN [] [(⟨[107], [118]⟩ : Rw)] = ([⟨[107], [118]⟩], 0) := by
  unfold setN
  rw [if_neg (by decide), if_neg (by decide), if_neg (by decide)]
  rfl
set_option maxHeartbeats 2000000 in
set_option maxRecDepth 100000 in
theorem rowsOf_any (A : Option Addr) (n c B : Nat) (cs : List Rw) (w : World) (hl : RIn w B A n c cs) (hB : B ≤ w.heap.size) (hn : n ≤ 60) (hd : Drawn cs) :
    Calls Try.prog 41 #[.slice A n c] w fun e w' => ∃ v, e = .returned (.tuple #[v, .bool true]) ∧ w'.ownsRow w.heap.size 50 2 v (sets [] cs).length (pcR (sets [] cs)) ∧ Below w.heap.size w w' := by
  have hln := hl.1
  have HN := Lib.hid (Tbl.nil.setNT hd (by omega))
  have Hds := Lib.hid (drawn_short hd)
  have H1 := Lib.hid (copR_any A n c B cs w hl hB (by omega))
  clear hl hd
  go_enter Try.func41, Try.ntmps41
  go_wp2_with fail
  refine H1.out.mono ?_
  rintro e w1 ⟨v1, rfl, ho1, hb1⟩
  obtain ⟨A1, c1, rfl, hin1⟩ := RIn.own ho1
  have H2 := Lib.hid (set_any none A1 0 0 n c1 w1.heap.size w1.heap.size [] cs w1 RIn.empty (Nat.le_refl _) (by simp [Short]) (by omega) hin1 (Nat.le_refl _) Hds.out (by omega))
  rw [HN.out] at H2
  have Hb1 := Lib.hid hb1
  clear ho1 hb1 hin1 H1
  go_wp2_with fail
  refine H2.out.mono ?_
  rintro e w2 ⟨v2, rfl, ho2, hb2⟩
  replace ho2 : w2.ownsRow w1.heap.size 50 2 v2 (sets [] cs).length (pcR (sets [] cs)) := ho2
  have Ho2 := Lib.hid (rw_le ho2 Hb1.out.size)
  have Hb2 := Lib.hid (Hb1.out.trans (hb2.mono Hb1.out.size))
  have hw3 := Blk.new w2 50 #[.string ⟨#[107]⟩, .string ⟨#[118]⟩]
  have hbw3 := (Below.refl w2.heap.size w2).alloc (Nat.le_refl _) (.cells #[.string ⟨#[107]⟩, .string ⟨#[118]⟩] 50)
  obtain ⟨w3, hw3e⟩ : ∃ w3, w3 = w2.alloc (.cells #[.string ⟨#[107]⟩, .string ⟨#[118]⟩] 50) := ⟨_, rfl⟩
  rw [← hw3e] at hw3 hbw3
  have hin3 : RIn w3 w3.heap.size (some ⟨w2.heap.size, 0, none⟩) 1 1 [(⟨[107], [118]⟩ : Rw)] := by
    refine ⟨rfl, Nat.le_refl _, (fun h => (by cases h)), rfl, fun _ => ⟨w2.heap.size, 0, rfl, hw3.lt, fun j u hu => ?_⟩⟩
    rw [Nat.zero_add, hw3.cell j]
    simpa [pcR, rc, str] using hu
  have H3 := Lib.hid (set_any none (some ⟨w2.heap.size, 0, none⟩) 0 0 1 1 w3.heap.size w3.heap.size [] [⟨[107], [118]⟩] w3 RIn.empty (Nat.le_refl _) (by simp [Short]) (by omega) hin3 (Nat.le_refl _) (by simp [Short]) (by omega))
  rw [kv_set] at H3
  have HW3 := Lib.hid hw3e
  have Hbw3 := Lib.hid hbw3
  clear ho2 hb2 H2 hw3 hin3 hw3e hbw3
  go_wp2_with fail
  rw [← HW3.out]
  refine H3.out.mono ?_
  rintro e w4 ⟨v4, rfl, ho4, hb4⟩
  replace ho4 : w4.ownsRow w3.heap.size 50 2 v4 1 (pcR [(⟨[107], [118]⟩ : Rw)]) := ho4
  have hb24 := Hbw3.out.trans (hb4.mono Hbw3.out.size)
  have Ho2' := Lib.hid (rowR_below Ho2.out hb24)
  have Hb4 := Lib.hid (Hb2.out.trans (hb24.mono Hb2.out.size))
  obtain ⟨A4, c4, rfl, hin4⟩ := RIn.own ho4
  obtain ⟨b, off, hA, hbB, d0, d1⟩ := hin4.at_ (i := 0) (by simp)
  subst hA
  replace d1 : w4.cell? ⟨b, off + 1, none⟩ = some (str [118]) := by simpa using d1
  have hg118 : ∀ o t x y, eqGuard o t x y (str [118]) (.string ⟨#[118]⟩) = pure () := fun o t x y => eqGuard_str o t x y [118] [118]
  have hn118 : ∀ W, (binOp BinOp.eql 9 (str [118]) (.string ⟨#[118]⟩)).run Try.prog W = .ok (.bool true) W := fun W => by
    have : (binOp BinOp.eql 9 (str [118]) (str [118])).run Try.prog W = .ok (.bool ([118] == ([118] : List UInt8))) W := by simp [str, go_sem]
    exact this
  clear ho4 hb4 hb24 hin4 d0 H3 Ho2
  go_wp2_with fail
  go_quiet (fail)
  go_wp2
  go_ret2
  exact ⟨v2, rfl, rowR_below Ho2'.out (below_drewN (Below.refl _ _) _), below_drewN Hb4.out _⟩
end Go.Proofs.Ytploicbiapjfdaa
