/- Joined texts: NSpec, NWalk. -/
import Derived.Test.YtmlgaedhfannmaaBunA
import Derived.Lib.IndexLaws
import Derived.Lib.IndexMore
import Derived.Lib.IndexBytes
import Derived.Lib.IndexAny
import Derived.Test.YtmlgaedhfannmaaIdx
import Derived.Test.YtmlgaedhfannmaaRows
import Derived.BigQuiet
import Derived.WalkSmall
import Derived.Outline
/- Names: what the functions of package names return, as plain functions on lists of bytes. -/
namespace Go.Proofs.Ytmlgaedhfannmaa
set_option linter.unusedVariables false
set_option linter.unusedSimpArgs false
open Go.RowKit

/-- 1 to 20 bytes, all of one class. -/
def isNm (p : UInt8 → Bool) (s : List UInt8) : Bool := decide (0 < s.length) && decide (s.length ≤ 20) && s.all p
/-- The class of the bytes that a list holds. -/
def among (a : List UInt8) (c : UInt8) : Bool := decide (0 ≤ Lib.indexByte a c)
/-- The class that the document's words make: letters, digits, or the byte itself. -/
def sortOk (c k : UInt8) : Bool :=
  if k = 97 then decide (97 ≤ c.toNat) && decide (c.toNat ≤ 122)
  else if k = 65 then decide (65 ≤ c.toNat) && decide (c.toNat ≤ 90)
  else if k = 48 then decide (48 ≤ c.toNat) && decide (c.toNat ≤ 57)
  else c == k
def sorted (a : List UInt8) (c : UInt8) : Bool := a.any (sortOk c)

def localL : List UInt8 := [97, 98, 99, 100, 101, 102, 103, 104, 105, 106, 107, 108, 109, 110, 111, 112, 113, 114, 115, 116, 117, 118, 119, 120, 121, 122, 48, 49, 50, 51, 52, 53, 54, 55, 56, 57, 46, 95, 61, 45, 47]
def serverL : List UInt8 := [97, 98, 99, 100, 101, 102, 103, 104, 105, 106, 107, 108, 109, 110, 111, 112, 113, 114, 115, 116, 117, 118, 119, 120, 121, 122, 48, 49, 50, 51, 52, 53, 54, 55, 56, 57, 46, 45]
def kindL : List UInt8 := [97, 98, 99, 100, 101, 102, 103, 104, 105, 106, 107, 108, 109, 110, 111, 112, 113, 114, 115, 116, 117, 118, 119, 120, 121, 122, 48, 49, 50, 51, 52, 53, 54, 55, 56, 57, 95]
def idL : List UInt8 := [65, 66, 67, 68, 69, 70, 71, 72, 73, 74, 75, 76, 77, 78, 79, 80, 81, 82, 83, 84, 85, 86, 87, 88, 89, 90, 97, 98, 99, 100, 101, 102, 103, 104, 105, 106, 107, 108, 109, 110, 111, 112, 113, 114, 115, 116, 117, 118, 119, 120, 121, 122, 48, 49, 50, 51, 52, 53, 54, 55, 56, 57, 95, 43, 47]

theorem all_bytes {p : UInt8 → Bool} (h : ∀ n : Fin 256, p (UInt8.ofNat n.val) = true) (c : UInt8) : p c = true := by
  have := h ⟨c.toNat, c.toNat_lt⟩
  simpa using this
theorem localEq (c : UInt8) : among localL c = sorted [97, 48, 46, 95, 61, 45, 47] c := by
  have := all_bytes (p := fun c => among localL c == sorted [97, 48, 46, 95, 61, 45, 47] c) (by decide +kernel) c
  simpa using this
theorem serverEq (c : UInt8) : among serverL c = sorted [97, 48, 46, 45] c := by
  have := all_bytes (p := fun c => among serverL c == sorted [97, 48, 46, 45] c) (by decide +kernel) c
  simpa using this
theorem kindEq (c : UInt8) : among kindL c = sorted [97, 48, 95] c := by
  have := all_bytes (p := fun c => among kindL c == sorted [97, 48, 95] c) (by decide +kernel) c
  simpa using this
theorem idEq (c : UInt8) : among idL c = sorted [65, 97, 48, 95, 43, 47] c := by
  have := all_bytes (p := fun c => among idL c == sorted [65, 97, 48, 95, 43, 47] c) (by decide +kernel) c
  simpa using this

def loc : List UInt8 → Bool := isNm (among localL)
def knd : List UInt8 → Bool := isNm (among kindL)
def idn : List UInt8 → Bool := isNm (among idL)
def mark (c : UInt8) : Bool := c == 46 || c == 45
/-- A server name. -/
def srv (s : List UInt8) : Bool :=
  isNm (among serverL) s && !mark (s.getD 0 0) && !mark (s.getD (s.length - 1) 0) && !Lib.contains s [46, 46] && !Lib.contains s [45, 46]

/-- What stands before and behind the first colon. -/
def fore (s : List UInt8) : List UInt8 := s.takeWhile (· != 58)
def aft (s : List UInt8) : List UInt8 := (s.dropWhile (· != 58)).drop 1
def two (p q : List UInt8 → Bool) (s : List UInt8) : Option (List UInt8 × List UInt8) := if p (fore s) && q (aft s) then some (fore s, aft s) else none
def user : List UInt8 → Option (List UInt8 × List UInt8)
  | 64 :: r => two loc srv r
  | _ => none
def key (s : List UInt8) : Option (List UInt8 × List UInt8) := two knd idn s
/-- The two parts, or nothing and the error. -/
def pairV : Option (List UInt8 × List UInt8) → Value
  | some (a, b) => .tuple #[str a, str b, .int .i64 0]
  | none => .tuple #[str [], str [], .int .i64 4]

theorem isNm_nil (p : UInt8 → Bool) : isNm p [] = false := rfl
theorem isNm_len {p : UInt8 → Bool} {s : List UInt8} (h : isNm p s = true) : 0 < s.length ∧ s.length ≤ 20 ∧ ∀ c ∈ s, p c = true := by
  simp [isNm] at h
  obtain ⟨⟨h1, h2⟩, h3⟩ := h
  exact ⟨h1, h2, h3⟩
theorem isNm_mk {p : UInt8 → Bool} {s : List UInt8} (h1 : 0 < s.length) (h2 : s.length ≤ 20) (h3 : ∀ c ∈ s, p c = true) : isNm p s = true := by
  simp [isNm]
  exact ⟨⟨h1, h2⟩, h3⟩
theorem srv_isNm {s : List UInt8} (h : srv s = true) : isNm (among serverL) s = true := by
  simp [srv] at h; exact h.1.1.1.1

/-! ### the colon -/
theorem idx_colon (s : List UInt8) : (Lib.indexByte s 58 = -1 ∧ fore s = s ∧ aft s = [] ∧ (58 : UInt8) ∉ s) ∨ (∃ i : Nat, Lib.indexByte s 58 = i ∧ i < s.length ∧ fore s = s.take i ∧ aft s = s.drop (i + 1) ∧ s[i]? = some 58 ∧ ∀ j, j < i → s[j]? ≠ some 58) := by
  induction s with
  | nil => left; exact ⟨rfl, rfl, rfl, by simp⟩
  | cons c r ih =>
    by_cases hc : c = 58
    · subst hc
      right
      refine ⟨0, by simp [Lib.indexByte], by simp, by simp [fore], by simp [aft], rfl, fun j hj => absurd hj (by omega)⟩
    · have hc' : (c == 58) = false := by simpa using hc
      have hb : (c != 58) = true := by simpa using hc
      rcases ih with ⟨h1, h2, h3, h4⟩ | ⟨i, h1, h2, h3, h4, h5, h6⟩
      · left
        refine ⟨by simp [Lib.indexByte, hc', h1], ?_, ?_, ?_⟩
        · unfold fore at *; rw [List.takeWhile_cons, if_pos hb, h2]
        · unfold aft at *; rw [List.dropWhile_cons, if_pos hb, h3]
        · simp [Ne.symm hc, h4]
      · right
        refine ⟨i + 1, ?_, by simp; omega, ?_, ?_, by simpa using h5, ?_⟩
        · simp [Lib.indexByte, hc', h1]
        · unfold fore at *; rw [List.takeWhile_cons, if_pos hb, h3]; rfl
        · unfold aft at *; rw [List.dropWhile_cons, if_pos hb, h4]; rfl
        · intro j hj
          cases j with
          | zero => simpa using hc
          | succ j => simpa using h6 j (by omega)
end Go.Proofs.Ytmlgaedhfannmaa

/- Package names: what each call returns. -/
namespace Go.Proofs.Ytmlgaedhfannmaa
set_option linter.unusedVariables false
set_option linter.unusedSimpArgs false
open Go.RowKit
theorem all_drop (p : UInt8 → Bool) (s : List UInt8) (k : Nat) (hk : k < s.length) : (s.drop k).all p = (p s[k] && (s.drop (k + 1)).all p) := by
  rw [List.drop_eq_getElem_cons hk, List.all_cons]
def ConsR (p : UInt8 → Bool) (s : List UInt8) (w : World) (gk : Nat) (i : Value) (wr : World) : Prop :=
  ∃ k : Nat, i = .int .i64 k ∧ k ≤ s.length ∧ gk = s.length - k ∧ s.all p = (s.drop k).all p ∧ wr = w
attribute [local go_sem high] str_mk
set_option maxHeartbeats 1000000 in
theorem consists_any (s a : List UInt8) (w : World) :
    Calls Try.prog 99 #[str s, str a] w fun e w' => e = .returned (.bool (isNm (among a) s)) ∧ w = w' := by
  by_cases h0 : s = []
  · subst h0
    go_enter Try.func99, Try.ntmps99
    go_wp2
    go_ret
    exact ⟨rfl, rfl⟩
  · have hb0 : (s == []) = false := by simpa using h0
    have hl0 : 0 < s.length := List.length_pos_iff.2 h0
    clear h0
    by_cases h20 : s.length ≤ 20
    · have Hall := Lib.hid (show isNm (among a) s = s.all (among a) by unfold isNm; rw [decide_eq_true hl0, decide_eq_true h20]; rfl)
      have hd0 : decide (20 < (s.length : Int)) = false := by simp; omega
      go_enter Try.func99, Try.ntmps99
      go_wp2
      go_loopg [15] s.length (ConsR (among a) s w)
      case atStart => exact ⟨0, rfl, by omega, by omega, rfl, rfl⟩
      case round =>
        obtain ⟨k, rfl, hk, hgk, hal, rfl⟩ := hrel
        have Hgk := Lib.hid hgk
        clear hgk
        by_cases hlt : k < s.length
        · have hd := all_drop (among a) s k hlt
          have hidx := fun W => run_index_str (P := Try.prog) W 9 s .i64 k Try.underlying9 hlt
          generalize s[k] = c at *
          have Hal := Lib.hid (hal.trans hd)
          clear hd hal
          go_wp2_with fail
          refine (idx_any a c _).mono ?_
          rintro e w1 ⟨rfl, rfl⟩
          by_cases hin : 0 ≤ Lib.indexByte a c
          · have Hin := Lib.hid (show among a c = true by unfold among; exact decide_eq_true hin)
            generalize Lib.indexByte a c = ix at *
            go_wp2
            go_roundg (s.length - (k + 1))
            case measure => have := Hgk.out; omega
            case rel => exact ⟨k + 1, by go_num, by omega, rfl, by rw [Hal.out, Hin.out]; rfl, rfl⟩
          · have Hin := Lib.hid (show among a c = false by unfold among; exact decide_eq_false hin)
            have hin' : Lib.indexByte a c < 0 := by omega
            generalize Lib.indexByte a c = ix at *
            go_wp2
            go_ret
            exact ⟨ret_bool (by rw [Hall.out, Hal.out, Hin.out]; rfl), rfl⟩
        · have Hal := Lib.hid (show s.all (among a) = true by rw [hal, List.drop_eq_nil_of_le (by omega)]; rfl)
          clear hal
          go_wp2
          go_ret
          exact ⟨ret_bool (by rw [Hall.out, Hal.out]), rfl⟩
    · have Hall := Lib.hid (show isNm (among a) s = false by unfold isNm; rw [decide_eq_false h20]; simp)
      have h20' : 20 < s.length := by omega
      go_enter Try.func99, Try.ntmps99
      go_wp2
      go_ret
      exact ⟨ret_bool Hall.out.symm, rfl⟩

theorem local_any (s : List UInt8) (w : World) :
    Calls Try.prog 70 #[str s] w fun e w' => e = .returned (.bool (loc s)) ∧ w = w' := by
  go_enter Try.func70, Try.ntmps70
  go_wp2_with fail
  refine (consists_any s localL _).mono ?_
  rintro e w1 ⟨rfl, rfl⟩
  go_wp2
  go_ret
  exact ⟨rfl, rfl⟩
end Go.Proofs.Ytmlgaedhfannmaa
