/- The document's own functions of names (servers, identifiers): what each call returns. -/
import Derived.Test.YtikjpniobihanaaDoorNRef
import Derived.Test.YtikjpniobihanaaDoorNServ
namespace Go.Proofs.YtikjpniobihanaaDoor
set_option linter.unusedVariables false
set_option linter.unusedSimpArgs false
open Go.RowKit
attribute [local go_sem high] str_mk
theorem pre2 (x y : UInt8) (l : List UInt8) : [x, y].isPrefixOf l = true ↔ l[0]? = some x ∧ l[1]? = some y := by
  match l with
  | [] => simp [List.isPrefixOf]
  | [a] => simp [List.isPrefixOf]
  | a :: b :: r =>
    simp [List.isPrefixOf]
    constructor <;> (rintro ⟨rfl, rfl⟩; exact ⟨rfl, rfl⟩)
theorem occ2 (x y : UInt8) (s : List UInt8) (i : Nat) : Lib.occAt s [x, y] i = true ↔ s[i]? = some x ∧ s[i + 1]? = some y := by
  unfold Lib.occAt; rw [pre2]; simp [List.getElem?_drop]
theorem contains2 (x y : UInt8) (s : List UInt8) : Lib.contains s [x, y] = true ↔ ∃ i, s[i]? = some x ∧ s[i + 1]? = some y := by
  unfold Lib.contains
  rw [decide_eq_true_iff]
  rcases Lib.index_spec s [x, y] with ⟨h1, h2⟩ | ⟨i, h1, h2, h3, h4⟩
  · rw [h1]
    refine ⟨fun h => absurd h (by decide), fun ⟨i, hi⟩ => ?_⟩
    have hl : i < s.length := by
      rcases Nat.lt_or_ge i s.length with h | h
      · exact h
      · rw [List.getElem?_eq_none h] at hi; cases hi.1
    have := h2 i (by omega)
    rw [(occ2 x y s i).2 hi] at this
    cases this
  · rw [h1]
    exact ⟨fun _ => ⟨i, (occ2 x y s i).1 h3⟩, fun _ => by omega⟩
/-- What the document asks of the byte at place i of a server name. -/
def srvAt (s : List UInt8) (i : Nat) : Bool := !(mark (s.getD i 0) && (decide (i = 0) || decide (i = s.length - 1))) && !(s.getD i 0 == 46 && mark (s.getD (i - 1) 0))
theorem getD_some {s : List UInt8} {i : Nat} (h : i < s.length) : s[i]? = some (s.getD i 0) := by
  simp [List.getD, List.getElem?_eq_getElem h]
theorem mark_iff (c : UInt8) : mark c = true ↔ c = 46 ∨ c = 45 := by simp [mark]
theorem srv_false {s : List UInt8} {j : Nat} (hj : j < s.length) (h : srvAt s j = false) : srv s = false := by
  cases hs : srv s with
  | false => rfl
  | true =>
    exfalso
    unfold srv at hs
    simp only [Bool.and_eq_true, Bool.not_eq_true'] at hs
    obtain ⟨⟨⟨⟨_, h0⟩, h1⟩, h2⟩, h3⟩ := hs
    unfold srvAt at h
    rw [Bool.and_eq_false_iff] at h
    rcases h with h | h
    · simp only [Bool.not_eq_false', Bool.and_eq_true, Bool.or_eq_true, decide_eq_true_iff] at h
      rcases h with ⟨hm, rfl | rfl⟩
      · rw [h0] at hm; cases hm
      · rw [h1] at hm; cases hm
    · simp only [Bool.not_eq_false', Bool.and_eq_true, beq_iff_eq] at h
      obtain ⟨hm, hp⟩ := h
      by_cases hj0 : j = 0
      · subst hj0
        rw [h0] at hp; cases hp
      · have e1 := getD_some hj
        have e0 := getD_some (show j - 1 < s.length by omega)
        rw [hm] at e1
        rcases (mark_iff _).1 hp with hp | hp
        · rw [hp] at e0
          have := (contains2 46 46 s).2 ⟨j - 1, e0, by rw [show j - 1 + 1 = j by omega]; exact e1⟩
          rw [h2] at this; cases this
        · rw [hp] at e0
          have := (contains2 45 46 s).2 ⟨j - 1, e0, by rw [show j - 1 + 1 = j by omega]; exact e1⟩
          rw [h3] at this; cases this
theorem srv_true {s : List UInt8} (h : isNm (among serverL) s = true) (hall : ∀ j, j < s.length → srvAt s j = true) : srv s = true := by
  have hl := (isNm_len h).1
  have no : ∀ x : UInt8, mark x = true → Lib.contains s [x, 46] = false := by
    intro x hx
    cases hc : Lib.contains s [x, 46] with
    | false => rfl
    | true =>
      exfalso
      obtain ⟨i, h1, h2⟩ := (contains2 x 46 s).1 hc
      have hi : i + 1 < s.length := by
        rcases Nat.lt_or_ge (i + 1) s.length with h | h
        · exact h
        · rw [List.getElem?_eq_none h] at h2; cases h2
      have h3 := hall (i + 1) hi
      have e1 := getD_some hi
      have e0 := getD_some (show i < s.length by omega)
      rw [h1] at e0
      rw [h2] at e1
      injection e0 with e0
      injection e1 with e1
      unfold srvAt at h3
      rw [← e1, show i + 1 - 1 = i from rfl, ← e0, hx] at h3
      simp at h3
  unfold srv
  rw [h, no 46 rfl, no 45 rfl]
  have a0 := hall 0 hl
  have a1 := hall (s.length - 1) (by omega)
  unfold srvAt at a0 a1
  simp only [Bool.and_eq_true, Bool.not_eq_true', decide_true, Bool.true_or, Bool.or_true, Bool.and_true] at a0 a1
  rw [a0.1, a1.1]
  rfl
theorem srv_nm {s : List UInt8} (h : isNm (among serverL) s = false) : srv s = false := by unfold srv; rw [h]; rfl
def SrvR (s : List UInt8) (w : World) (gk : Nat) (i : Value) (wr : World) : Prop :=
  ∃ k : Nat, i = .int .i64 k ∧ k ≤ s.length ∧ gk = s.length - k ∧ (∀ j, j < k → srvAt s j = true) ∧ ∃ n, wr = w.drewN n
theorem srvc_eq (s : List UInt8) : isNm (sorted [97, 48, 46, 45]) s = isNm (among serverL) s := by rw [funext serverEq]

set_option maxRecDepth 100000 in
set_option maxHeartbeats 2000000 in
theorem refServer_any (s : List UInt8) (w : World) :
    Calls Tryd.prog 99 #[str s] w fun e w' => e = .returned (.bool (srv s)) ∧ ∃ n, w' = w.drewN n := by
  go_enter Tryd.func99, Tryd.ntmps99
  go_wp2_with fail
  refine (nameOf_any s [97, 48, 46, 45] _ (by decide)).mono ?_
  rintro e w1 ⟨rfl, n, rfl⟩
  rw [srvc_eq]
  cases h1 : isNm (among serverL) s
  · have H := Lib.hid (srv_nm h1)
    go_wp2
    go_ret
    exact ⟨ret_bool H.out.symm, n, rfl⟩
  · obtain ⟨hl1, hl2, _⟩ := isNm_len h1
    have Hnm := Lib.hid h1
    clear h1
    go_wp2
    go_loopg [3] s.length (SrvR s w)
    case atStart => exact ⟨0, rfl, by omega, by omega, fun j h => absurd h (by omega), n, rfl⟩
    case round =>
      obtain ⟨k, rfl, hk, hgk, hall, m, rfl⟩ := hrel
      have Hgk := Lib.hid hgk
      have Hall := Lib.hid hall
      clear hgk hall
      by_cases hlt : k < s.length
      · have hidx := fun W => run_index_str (P := Tryd.prog) W 9 s .i64 k Tryd.underlying9 hlt
        have hidp : 0 < k → ∀ W, (Instr.index 9 (str s) (.int .i64 ((k : Int) - 1))).run Tryd.prog W = .ok (.int .u8 ((s.getD (k - 1) 0).toNat : Int)) W := by
          intro h0 W
          have := run_index_str (P := Tryd.prog) W 9 s .i64 (k - 1) Tryd.underlying9 (by omega)
          rw [show ((k - 1 : Nat) : Int) = (k : Int) - 1 by omega] at this
          rw [this]
          simp [List.getD, List.getElem?_eq_getElem (show k - 1 < s.length by omega)]
        have Hok := Lib.hid (show srvAt s k = (!(mark s[k] && (decide (k = 0) || decide (k = s.length - 1))) && !(s[k] == 46 && mark (s.getD (k - 1) 0))) by
          unfold srvAt; simp [List.getD, List.getElem?_eq_getElem hlt])
        generalize s[k] = c at *
        generalize s.getD (k - 1) 0 = p at *
        have hcases : ∀ x y : UInt8, x = y ∨ (x ≠ y ∧ ((x.toNat : Int) == (y.toNat : Int)) = false) := fun x y => by
          by_cases h : x = y
          · exact .inl h
          · exact .inr ⟨h, by rw [beq_eq_false_iff_ne]; intro e; exact h (UInt8.toNat_inj.1 (by omega))⟩
        have Hc := Lib.hid hcases
        clear hcases
        have hk0 : k = 0 ∨ (k ≠ 0 ∧ 0 < k ∧ ((k : Int) == 0) = false) := by
          by_cases h : k = 0
          · exact .inl h
          · exact .inr ⟨h, by omega, by rw [beq_eq_false_iff_ne]; omega⟩
        have hke : (k = s.length - 1 ∧ ((k : Int) == (s.length : Int) - 1) = true) ∨ (k ≠ s.length - 1 ∧ ((k : Int) == (s.length : Int) - 1) = false) := by
          by_cases h : k = s.length - 1
          · exact .inl ⟨h, by rw [beq_iff_eq]; omega⟩
          · exact .inr ⟨h, by rw [beq_eq_false_iff_ne]; omega⟩
        rcases Hc.out c 46 with rfl | ⟨hc, hcb⟩
        · rcases hk0 with rfl | ⟨hk0, hk1, hkb⟩
          · have hidx0 : ∀ W, (Instr.index 9 (str s) (.int .i64 0)).run Tryd.prog W = .ok (.int .u8 46) W := hidx
            clear hidx
            go_wp2
            go_ret
            exact ⟨ret_bool (srv_false hlt (by rw [Hok.out]; rfl)).symm, _, rfl⟩
          rcases hke with ⟨hke, hkeb⟩ | ⟨hke, hkeb⟩
          · have Hke := Lib.hid hke
            clear hke
            go_wp2
            go_ret
            exact ⟨ret_bool (srv_false hlt (by rw [Hok.out]; rw [decide_eq_true Hke.out]; simp [mark])).symm, _, rfl⟩
          have hidp1 := hidp hk1
          have Hke := Lib.hid hke
          have Hk0 := Lib.hid hk0
          clear hidp hke hk0
          rcases Hc.out p 46 with rfl | ⟨hp, hpb⟩
          · go_wp2
            go_ret
            exact ⟨ret_bool (srv_false hlt (by rw [Hok.out]; simp [mark])).symm, _, rfl⟩
          rcases Hc.out p 45 with rfl | ⟨hp2, hpb2⟩
          · go_wp2
            go_ret
            exact ⟨ret_bool (srv_false hlt (by rw [Hok.out]; simp [mark])).symm, _, rfl⟩
          have Hp := Lib.hid (show mark p = false by simp [mark, hp, hp2])
          clear hp hp2
          have hpb' : ((p.toNat : Int) == 46) = false := hpb
          have hpb2' : ((p.toNat : Int) == 45) = false := hpb2
          clear hpb hpb2
          go_wp2
          go_roundg (s.length - (k + 1))
          case measure => have := Hgk.out; omega
          case rel =>
            refine ⟨k + 1, by go_num, by omega, rfl, fun j hj => ?_, _, rfl⟩
            rcases Nat.lt_succ_iff_lt_or_eq.1 hj with h | rfl
            · exact Hall.out j h
            · rw [Hok.out]; rw [decide_eq_false Hk0.out, decide_eq_false Hke.out, Hp.out]; rfl
        have hcb' : ((c.toNat : Int) == 46) = false := hcb
        clear hcb
        rcases Hc.out c 45 with rfl | ⟨hc2, hcb2⟩
        · rcases hk0 with rfl | ⟨hk0, hk1, hkb⟩
          · have hidx0 : ∀ W, (Instr.index 9 (str s) (.int .i64 0)).run Tryd.prog W = .ok (.int .u8 45) W := hidx
            clear hidx
            go_wp2
            go_ret
            exact ⟨ret_bool (srv_false hlt (by rw [Hok.out]; rfl)).symm, _, rfl⟩
          rcases hke with ⟨hke, hkeb⟩ | ⟨hke, hkeb⟩
          · have Hke := Lib.hid hke
            clear hke
            go_wp2
            go_ret
            exact ⟨ret_bool (srv_false hlt (by rw [Hok.out]; rw [decide_eq_true Hke.out]; simp [mark])).symm, _, rfl⟩
          have Hke := Lib.hid hke
          have Hk0 := Lib.hid hk0
          clear hidp hke hk0 hc
          go_wp2
          go_roundg (s.length - (k + 1))
          case measure => have := Hgk.out; omega
          case rel =>
            refine ⟨k + 1, by go_num, by omega, rfl, fun j hj => ?_, _, rfl⟩
            rcases Nat.lt_succ_iff_lt_or_eq.1 hj with h | rfl
            · exact Hall.out j h
            · rw [Hok.out]; rw [decide_eq_false Hk0.out, decide_eq_false Hke.out]; rfl
        have hcb2' : ((c.toNat : Int) == 45) = false := hcb2
        have Hm := Lib.hid (show mark c = false by simp [mark, hc, hc2])
        have Hn := Lib.hid (show (c == 46) = false by simpa using hc)
        clear hcb2 hc hc2 hk0 hke hidp
        go_wp2
        go_roundg (s.length - (k + 1))
        case measure => have := Hgk.out; omega
        case rel =>
          refine ⟨k + 1, by go_num, by omega, rfl, fun j hj => ?_, _, rfl⟩
          rcases Nat.lt_succ_iff_lt_or_eq.1 hj with h | rfl
          · exact Hall.out j h
          · rw [Hok.out]; rw [Hm.out, Hn.out]; rfl
      · have H := Lib.hid (srv_true Hnm.out (fun j hj => Hall.out j (by omega)))
        go_wp2
        go_ret
        exact ⟨ret_bool H.out.symm, m, rfl⟩

/-! ### the identifiers -/
def ColR (s : List UInt8) (w : World) (gk : Nat) (i : Value) (wr : World) : Prop :=
  ∃ k : Nat, i = .int .i64 k ∧ k ≤ s.length ∧ gk = s.length - k ∧ (∀ j, j < k → s[j]? ≠ some 58) ∧ wr = w
theorem idx_at {s : List UInt8} {k : Nat} (h1 : s[k]? = some 58) (h2 : ∀ j, j < k → s[j]? ≠ some 58) : Lib.indexByte s 58 = k := by
  rcases idx_colon s with ⟨_, _, _, h⟩ | ⟨i, hi, hil, _, _, h3, h4⟩
  · exact absurd (List.mem_of_getElem? h1) h
  · rcases Nat.lt_trichotomy i k with h | h | h
    · exact absurd h3 (h2 i h)
    · rw [hi, h]
    · exact absurd h1 (h4 k h)
theorem idx_no {s : List UInt8} (h2 : ∀ j, j < s.length → s[j]? ≠ some 58) : Lib.indexByte s 58 = -1 := by
  rcases idx_colon s with ⟨h, _⟩ | ⟨i, hi, hil, _, _, h3, h4⟩
  · exact h
  · exact absurd h3 (h2 i hil)
set_option maxHeartbeats 1000000 in
theorem colon_any (s : List UInt8) (w : World) (hs : s.length ≤ maxLen) :
    Calls Tryd.prog 97 #[str s] w fun e w' => e = .returned (.int .i64 (Lib.indexByte s 58)) ∧ w = w' := by
  have hs' : (s.length : Int) ≤ 9223372036854775807 := by unfold maxLen at hs; omega
  go_enter Tryd.func97, Tryd.ntmps97
  go_wp2
  go_loopg [3] s.length (ColR s w)
  case atStart => exact ⟨0, rfl, by omega, by omega, fun j h => absurd h (by omega), rfl⟩
  case round =>
    obtain ⟨k, rfl, hk, hgk, hall, rfl⟩ := hrel
    have Hgk := Lib.hid hgk
    have Hall := Lib.hid hall
    clear hgk hall
    by_cases hlt : k < s.length
    · have hidx := fun W => run_index_str (P := Tryd.prog) W 9 s .i64 k Tryd.underlying9 hlt
      have Hg := Lib.hid (List.getElem?_eq_getElem hlt)
      generalize s[k] = c at *
      by_cases hc : c = 58
      · subst hc
        have H := Lib.hid (idx_at Hg.out Hall.out)
        go_wp2
        go_ret
        exact ⟨by rw [H.out]; rfl, rfl⟩
      · have hcb : ((c.toNat : Int) == 58) = false := by
          rw [beq_eq_false_iff_ne]; intro e; exact hc (UInt8.toNat_inj.1 (show c.toNat = 58 by omega))
        go_wp2
        go_roundg (s.length - (k + 1))
        case measure => have := Hgk.out; omega
        case rel =>
          refine ⟨k + 1, by go_num, by omega, rfl, fun j hj => ?_, rfl⟩
          rcases Nat.lt_succ_iff_lt_or_eq.1 hj with h | rfl
          · exact Hall.out j h
          · rw [Hg.out]; simpa using hc
    · have H := Lib.hid (idx_no (fun j hj => Hall.out j (by omega)))
      go_wp2
      go_ret
      exact ⟨by rw [H.out]; rfl, rfl⟩
end Go.Proofs.YtikjpniobihanaaDoor
