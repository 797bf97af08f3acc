/- Joined texts: NRef, NRefS, NRefI. -/
import Derived.Test.YtmlgaedhfannmaaBunD
import Derived.Test.YtmlgaedhfannmaaNServ
/- The document's own functions of names: what each call returns. -/
namespace Go.Proofs.Ytmlgaedhfannmaa
set_option linter.unusedVariables false
set_option linter.unusedSimpArgs false
open Go.RowKit
attribute [local go_sem high] str_mk
theorem any_drop (p : UInt8 → Bool) (s : List UInt8) (k : Nat) (hk : k < s.length) : (s.drop k).any p = (p s[k] || (s.drop (k + 1)).any p) := by
  rw [List.drop_eq_getElem_cons hk, List.any_cons]
def NofR (p : UInt8 → Bool) (s : List UInt8) (w : World) (gk : Nat) (i : Value) (wr : World) : Prop :=
  ∃ k : Nat, i = .int .i64 k ∧ k ≤ s.length ∧ gk = s.length - k ∧ s.all p = (s.drop k).all p ∧ ∃ n, wr = w.drewN n
def NofI (a : List UInt8) (c : UInt8) (w : World) (gk : Nat) (ok i : Value) (wr : World) : Prop :=
  ∃ (k : Nat) (b : Bool), ok = .bool b ∧ i = .int .i64 k ∧ k ≤ a.length ∧ gk = a.length - k ∧ sorted a c = (b || (a.drop k).any (sortOk c)) ∧ ∃ n, wr = w.drewN n
set_option maxRecDepth 100000 in
set_option maxHeartbeats 2000000 in
theorem nameOf_any (s a : List UInt8) (w : World) (ha : a.length ≤ 1000) :
    Calls Try.prog 47 #[str s, str a] w fun e w' => e = .returned (.bool (isNm (sorted a) s)) ∧ ∃ n, w' = w.drewN n := by
  by_cases hl0 : s.length < 1
  · have Hall := Lib.hid (show isNm (sorted a) s = false by unfold isNm; rw [decide_eq_false (by omega)]; rfl)
    go_enter Try.func47, Try.ntmps47
    go_wp2
    go_ret
    exact ⟨ret_bool Hall.out.symm, 0, rfl⟩
  by_cases h20 : s.length ≤ 20
  · have Hall := Lib.hid (show isNm (sorted a) s = s.all (sorted a) by unfold isNm; rw [decide_eq_true (by omega), decide_eq_true h20]; rfl)
    have hl1 : 1 ≤ s.length := by omega
    have hd0 : decide (20 < (s.length : Int)) = false := by simp; omega
    have hd1 : decide ((s.length : Int) < 1) = false := by simp; omega
    go_enter Try.func47, Try.ntmps47
    go_wp2
    go_loopg [5] s.length (NofR (sorted a) s w)
    case atStart => exact ⟨0, rfl, by omega, by omega, rfl, 0, rfl⟩
    case round =>
      obtain ⟨k, rfl, hk, hgk, hal, n, rfl⟩ := hrel
      have Hgk := Lib.hid hgk
      have Hal0 := Lib.hid hal
      clear hgk hal hl1 hd0 hd1 hl0
      by_cases hlt : k < s.length
      · have hd := all_drop (sorted a) s k hlt
        have hidx := fun W => run_index_str (P := Try.prog) W 9 s .i64 k Try.underlying9 hlt
        generalize s[k] = c at *
        have Hal := Lib.hid (Hal0.out.trans hd)
        clear hd Hal0
        go_wp2
        go_loopg [6, 7] a.length (NofI a c w)
        case atStart => exact ⟨0, false, rfl, rfl, by omega, by omega, rfl, n, rfl⟩
        case round =>
          obtain ⟨j, b, rfl, rfl, hj, hgj, hso, m, rfl⟩ := hrel
          have Hgj := Lib.hid hgj
          have Hso0 := Lib.hid hso
          clear hgj hso
          by_cases hjl : j < a.length
          · have hd := any_drop (sortOk c) a j hjl
            have hidx2 := fun W => run_index_str (P := Try.prog) W 9 a .i64 j Try.underlying9 hjl
            generalize a[j] = x at *
            have Hso := Lib.hid (Hso0.out.trans (by rw [hd, ← Bool.or_assoc]))
            clear hd Hso0
            have hx : ∀ y : UInt8, x = y ∨ (x ≠ y ∧ x.toNat ≠ y.toNat) := fun y => by
              by_cases h : x = y
              · exact .inl h
              · exact .inr ⟨h, fun e => h (UInt8.toNat_inj.1 e)⟩
            have Hx := Lib.hid hx
            clear hx
            have hcl := c.toNat_lt
            rcases Hx.out 97 with rfl | ⟨hx97, _⟩
            · cases b
              · by_cases h1 : 97 ≤ c.toNat
                · by_cases h2 : c.toNat ≤ 122
                  · have Hs := Lib.hid (show sortOk c 97 = true by unfold sortOk; simp [h1, h2])
                    go_wp2
                    all_goals
                      go_roundg (a.length - (j + 1))
                      case measure => have := Hgj.out; omega
                      case rel => exact ⟨j + 1, true, by first | rfl | (congr 1; simp; omega), by go_num, by omega, rfl, by rw [Hso.out, Hs.out]; simp, _, rfl⟩
                  · have Hs := Lib.hid (show sortOk c 97 = false by unfold sortOk; simp [h2])
                    go_wp2
                    all_goals
                      go_roundg (a.length - (j + 1))
                      case measure => have := Hgj.out; omega
                      case rel => exact ⟨j + 1, false, by first | rfl | (congr 1; simp; omega), by go_num, by omega, rfl, by rw [Hso.out, Hs.out]; simp, _, rfl⟩
                · have Hs := Lib.hid (show sortOk c 97 = false by unfold sortOk; simp [h1])
                  go_wp2
                  all_goals
                    go_roundg (a.length - (j + 1))
                    case measure => have := Hgj.out; omega
                    case rel => exact ⟨j + 1, false, by first | rfl | (congr 1; simp; omega), by go_num, by omega, rfl, by rw [Hso.out, Hs.out]; simp, _, rfl⟩
              · go_wp2
                all_goals
                  go_roundg (a.length - (j + 1))
                  case measure => have := Hgj.out; omega
                  case rel => exact ⟨j + 1, true, by first | rfl | (congr 1; simp; omega), by go_num, by omega, rfl, by rw [Hso.out]; simp, _, rfl⟩
            rcases Hx.out 65 with rfl | ⟨hx65, _⟩
            · cases b
              · by_cases h1 : 65 ≤ c.toNat
                · by_cases h2 : c.toNat ≤ 90
                  · have Hs := Lib.hid (show sortOk c 65 = true by unfold sortOk; simp [h1, h2])
                    go_wp2
                    all_goals
                      go_roundg (a.length - (j + 1))
                      case measure => have := Hgj.out; omega
                      case rel => exact ⟨j + 1, true, by first | rfl | (congr 1; simp; omega), by go_num, by omega, rfl, by rw [Hso.out, Hs.out]; simp, _, rfl⟩
                  · have Hs := Lib.hid (show sortOk c 65 = false by unfold sortOk; simp [h2])
                    go_wp2
                    all_goals
                      go_roundg (a.length - (j + 1))
                      case measure => have := Hgj.out; omega
                      case rel => exact ⟨j + 1, false, by first | rfl | (congr 1; simp; omega), by go_num, by omega, rfl, by rw [Hso.out, Hs.out]; simp, _, rfl⟩
                · have Hs := Lib.hid (show sortOk c 65 = false by unfold sortOk; simp [h1])
                  go_wp2
                  all_goals
                    go_roundg (a.length - (j + 1))
                    case measure => have := Hgj.out; omega
                    case rel => exact ⟨j + 1, false, by first | rfl | (congr 1; simp; omega), by go_num, by omega, rfl, by rw [Hso.out, Hs.out]; simp, _, rfl⟩
              · go_wp2
                all_goals
                  go_roundg (a.length - (j + 1))
                  case measure => have := Hgj.out; omega
                  case rel => exact ⟨j + 1, true, by first | rfl | (congr 1; simp; omega), by go_num, by omega, rfl, by rw [Hso.out]; simp, _, rfl⟩
            rcases Hx.out 48 with rfl | ⟨hx48, _⟩
            · cases b
              · by_cases h1 : 48 ≤ c.toNat
                · by_cases h2 : c.toNat ≤ 57
                  · have Hs := Lib.hid (show sortOk c 48 = true by unfold sortOk; simp [h1, h2])
                    go_wp2
                    all_goals
                      go_roundg (a.length - (j + 1))
                      case measure => have := Hgj.out; omega
                      case rel => exact ⟨j + 1, true, by first | rfl | (congr 1; simp; omega), by go_num, by omega, rfl, by rw [Hso.out, Hs.out]; simp, _, rfl⟩
                  · have Hs := Lib.hid (show sortOk c 48 = false by unfold sortOk; simp [h2])
                    go_wp2
                    all_goals
                      go_roundg (a.length - (j + 1))
                      case measure => have := Hgj.out; omega
                      case rel => exact ⟨j + 1, false, by first | rfl | (congr 1; simp; omega), by go_num, by omega, rfl, by rw [Hso.out, Hs.out]; simp, _, rfl⟩
                · have Hs := Lib.hid (show sortOk c 48 = false by unfold sortOk; simp [h1])
                  go_wp2
                  all_goals
                    go_roundg (a.length - (j + 1))
                    case measure => have := Hgj.out; omega
                    case rel => exact ⟨j + 1, false, by first | rfl | (congr 1; simp; omega), by go_num, by omega, rfl, by rw [Hso.out, Hs.out]; simp, _, rfl⟩
              · go_wp2
                all_goals
                  go_roundg (a.length - (j + 1))
                  case measure => have := Hgj.out; omega
                  case rel => exact ⟨j + 1, true, by first | rfl | (congr 1; simp; omega), by go_num, by omega, rfl, by rw [Hso.out]; simp, _, rfl⟩
            have hb97 : ((x.toNat : Int) == 97) = false := by
              rw [beq_eq_false_iff_ne]; intro h; exact hx97 (UInt8.toNat_inj.1 (show x.toNat = 97 by omega))
            have hb65 : ((x.toNat : Int) == 65) = false := by
              rw [beq_eq_false_iff_ne]; intro h; exact hx65 (UInt8.toNat_inj.1 (show x.toNat = 65 by omega))
            have hb48 : ((x.toNat : Int) == 48) = false := by
              rw [beq_eq_false_iff_ne]; intro h; exact hx48 (UInt8.toNat_inj.1 (show x.toNat = 48 by omega))
            have Hs := Lib.hid (show sortOk c x = (c == x) by unfold sortOk; rw [if_neg hx97, if_neg hx65, if_neg hx48])
            clear hx97 hx65 hx48
            cases b
            · by_cases hcx : c = x
              · subst hcx
                go_wp2
                go_quiet (fail)
                go_wp2
                all_goals
                  go_roundg (a.length - (j + 1))
                  case measure => have := Hgj.out; omega
                  case rel => exact ⟨j + 1, true, by first | rfl | (congr 1; simp; omega), by go_num, by omega, rfl, by rw [Hso.out, Hs.out]; simp, _, rfl⟩
              · have hne : ((c.toNat : Int) == (x.toNat : Int)) = false := by
                  rw [beq_eq_false_iff_ne]; intro h; exact hcx (UInt8.toNat_inj.1 (by omega))
                have Hne := Lib.hid (show (c == x) = false by simpa using hcx)
                clear hcx
                go_wp2
                go_quiet (fail)
                go_wp2
                all_goals
                  go_roundg (a.length - (j + 1))
                  case measure => have := Hgj.out; omega
                  case rel => exact ⟨j + 1, false, by first | rfl | (congr 1; simp; omega), by go_num, by omega, rfl, by rw [Hso.out, Hs.out, Hne.out]; simp, _, rfl⟩
            · go_wp2
              go_quiet (fail)
              go_wp2
              all_goals
                go_roundg (a.length - (j + 1))
                case measure => have := Hgj.out; omega
                case rel => exact ⟨j + 1, true, by first | rfl | (congr 1; simp; omega), by go_num, by omega, rfl, by rw [Hso.out]; simp, _, rfl⟩
          · have Hso := Lib.hid (show sorted a c = b by rw [Hso0.out, List.drop_eq_nil_of_le (by omega)]; simp)
            clear Hso0
            cases b
            · go_wp2
              go_ret
              exact ⟨ret_bool (by rw [Hall.out, Hal.out, Hso.out]; rfl), _, rfl⟩
            · go_wp2
              go_roundg (s.length - (k + 1))
              case measure => have := Hgk.out; omega
              case rel => exact ⟨k + 1, by go_num, by omega, rfl, by rw [Hal.out, Hso.out]; rfl, _, rfl⟩
      · have Hal := Lib.hid (show s.all (sorted a) = true by rw [Hal0.out, List.drop_eq_nil_of_le (by omega)]; rfl)
        clear Hal0
        go_wp2
        go_ret
        exact ⟨ret_bool (by rw [Hall.out, Hal.out]), _, rfl⟩
  · have Hall := Lib.hid (show isNm (sorted a) s = false by unfold isNm; rw [decide_eq_false h20]; simp)
    have h20' : 20 < s.length := by omega
    go_enter Try.func47, Try.ntmps47
    go_wp2
    go_ret
    exact ⟨ret_bool Hall.out.symm, 0, rfl⟩
end Go.Proofs.Ytmlgaedhfannmaa

/- The document's own functions of names (servers, identifiers): what each call returns. -/
namespace Go.Proofs.Ytmlgaedhfannmaa
set_option linter.unusedVariables false
set_option linter.unusedSimpArgs false
open Go.RowKit
attribute [local go_sem high] str_mk
theorem pre2 (x y : UInt8) (l : List UInt8) : [x, y].isPrefixOf l = true ↔ l[0]? = some x ∧ l[1]? = some y := by
  match l with
  | [] => simp [List.isPrefixOf]
  | [a] => simp [List.isPrefixOf]
  | a :: b :: r =>
    simp [List.isPrefixOf]
    constructor <;> (rintro ⟨rfl, rfl⟩; exact ⟨rfl, rfl⟩)
theorem occ2 (x y : UInt8) (s : List UInt8) (i : Nat) : Lib.occAt s [x, y] i = true ↔ s[i]? = some x ∧ s[i + 1]? = some y := by
  unfold Lib.occAt; rw [pre2]; simp [List.getElem?_drop]
theorem contains2 (x y : UInt8) (s : List UInt8) : Lib.contains s [x, y] = true ↔ ∃ i, s[i]? = some x ∧ s[i + 1]? = some y := by
  unfold Lib.contains
  rw [decide_eq_true_iff]
  rcases Lib.index_spec s [x, y] with ⟨h1, h2⟩ | ⟨i, h1, h2, h3, h4⟩
  · rw [h1]
    refine ⟨fun h => absurd h (by decide), fun ⟨i, hi⟩ => ?_⟩
    have hl : i < s.length := by
      rcases Nat.lt_or_ge i s.length with h | h
      · exact h
      · rw [List.getElem?_eq_none h] at hi; cases hi.1
    have := h2 i (by omega)
    rw [(occ2 x y s i).2 hi] at this
    cases this
  · rw [h1]
    exact ⟨fun _ => ⟨i, (occ2 x y s i).1 h3⟩, fun _ => by omega⟩
/-- What the document asks of the byte at place i of a server name. -/
def srvAt (s : List UInt8) (i : Nat) : Bool := !(mark (s.getD i 0) && (decide (i = 0) || decide (i = s.length - 1))) && !(s.getD i 0 == 46 && mark (s.getD (i - 1) 0))
theorem getD_some {s : List UInt8} {i : Nat} (h : i < s.length) : s[i]? = some (s.getD i 0) := by
  simp [List.getD, List.getElem?_eq_getElem h]
theorem mark_iff (c : UInt8) : mark c = true ↔ c = 46 ∨ c = 45 := by simp [mark]
theorem srv_false {s : List UInt8} {j : Nat} (hj : j < s.length) (h : srvAt s j = false) : srv s = false := by
  cases hs : srv s with
  | false => rfl
  | true =>
    exfalso
    unfold srv at hs
    simp only [Bool.and_eq_true, Bool.not_eq_true'] at hs
    obtain ⟨⟨⟨⟨_, h0⟩, h1⟩, h2⟩, h3⟩ := hs
    unfold srvAt at h
    rw [Bool.and_eq_false_iff] at h
    rcases h with h | h
    · simp only [Bool.not_eq_false', Bool.and_eq_true, Bool.or_eq_true, decide_eq_true_iff] at h
      rcases h with ⟨hm, rfl | rfl⟩
      · rw [h0] at hm; cases hm
      · rw [h1] at hm; cases hm
    · simp only [Bool.not_eq_false', Bool.and_eq_true, beq_iff_eq] at h
      obtain ⟨hm, hp⟩ := h
      by_cases hj0 : j = 0
      · subst hj0
        rw [h0] at hp; cases hp
      · have e1 := getD_some hj
        have e0 := getD_some (show j - 1 < s.length by omega)
        rw [hm] at e1
        rcases (mark_iff _).1 hp with hp | hp
        · rw [hp] at e0
          have := (contains2 46 46 s).2 ⟨j - 1, e0, by rw [show j - 1 + 1 = j by omega]; exact e1⟩
          rw [h2] at this; cases this
        · rw [hp] at e0
          have := (contains2 45 46 s).2 ⟨j - 1, e0, by rw [show j - 1 + 1 = j by omega]; exact e1⟩
          rw [h3] at this; cases this
theorem srv_true {s : List UInt8} (h : isNm (among serverL) s = true) (hall : ∀ j, j < s.length → srvAt s j = true) : srv s = true := by
  have hl := (isNm_len h).1
  have no : ∀ x : UInt8, mark x = true → Lib.contains s [x, 46] = false := by
    intro x hx
    cases hc : Lib.contains s [x, 46] with
    | false => rfl
    | true =>
      exfalso
      obtain ⟨i, h1, h2⟩ := (contains2 x 46 s).1 hc
      have hi : i + 1 < s.length := by
        rcases Nat.lt_or_ge (i + 1) s.length with h | h
        · exact h
        · rw [List.getElem?_eq_none h] at h2; cases h2
      have h3 := hall (i + 1) hi
      have e1 := getD_some hi
      have e0 := getD_some (show i < s.length by omega)
      rw [h1] at e0
      rw [h2] at e1
      injection e0 with e0
      injection e1 with e1
      unfold srvAt at h3
      rw [← e1, show i + 1 - 1 = i from rfl, ← e0, hx] at h3
      simp at h3
  unfold srv
  rw [h, no 46 rfl, no 45 rfl]
  have a0 := hall 0 hl
  have a1 := hall (s.length - 1) (by omega)
  unfold srvAt at a0 a1
  simp only [Bool.and_eq_true, Bool.not_eq_true', decide_true, Bool.true_or, Bool.or_true, Bool.and_true] at a0 a1
  rw [a0.1, a1.1]
  rfl
theorem srv_nm {s : List UInt8} (h : isNm (among serverL) s = false) : srv s = false := by unfold srv; rw [h]; rfl
def SrvR (s : List UInt8) (w : World) (gk : Nat) (i : Value) (wr : World) : Prop :=
  ∃ k : Nat, i = .int .i64 k ∧ k ≤ s.length ∧ gk = s.length - k ∧ (∀ j, j < k → srvAt s j = true) ∧ ∃ n, wr = w.drewN n
theorem srvc_eq (s : List UInt8) : isNm (sorted [97, 48, 46, 45]) s = isNm (among serverL) s := by rw [funext serverEq]

/-! ### the identifiers -/
def ColR (s : List UInt8) (w : World) (gk : Nat) (i : Value) (wr : World) : Prop :=
  ∃ k : Nat, i = .int .i64 k ∧ k ≤ s.length ∧ gk = s.length - k ∧ (∀ j, j < k → s[j]? ≠ some 58) ∧ wr = w
theorem idx_at {s : List UInt8} {k : Nat} (h1 : s[k]? = some 58) (h2 : ∀ j, j < k → s[j]? ≠ some 58) : Lib.indexByte s 58 = k := by
  rcases idx_colon s with ⟨_, _, _, h⟩ | ⟨i, hi, hil, _, _, h3, h4⟩
  · exact absurd (List.mem_of_getElem? h1) h
  · rcases Nat.lt_trichotomy i k with h | h | h
    · exact absurd h3 (h2 i h)
    · rw [hi, h]
    · exact absurd h1 (h4 k h)
theorem idx_no {s : List UInt8} (h2 : ∀ j, j < s.length → s[j]? ≠ some 58) : Lib.indexByte s 58 = -1 := by
  rcases idx_colon s with ⟨h, _⟩ | ⟨i, hi, hil, _, _, h3, h4⟩
  · exact h
  · exact absurd h3 (h2 i hil)
end Go.Proofs.Ytmlgaedhfannmaa

/- The document's own NamesUser, NamesKey, NamesLocal: what each call returns. -/
namespace Go.Proofs.Ytmlgaedhfannmaa
set_option linter.unusedVariables false
set_option linter.unusedSimpArgs false
open Go.RowKit
attribute [local go_sem high] str_mk
theorem loc_eq (s : List UInt8) : isNm (sorted [97, 48, 46, 95, 61, 45, 47]) s = loc s := by
  unfold loc; rw [funext localEq]
theorem knd_eq (s : List UInt8) : isNm (sorted [97, 48, 95]) s = knd s := by
  unfold knd; rw [funext kindEq]
theorem idn_eq (s : List UInt8) : isNm (sorted [65, 97, 48, 95, 43, 47]) s = idn s := by
  unfold idn; rw [funext idEq]
theorem refLocal_any (s : List UInt8) (w : World) :
    Calls Try.prog 33 #[str s] w fun e w' => e = .returned (.bool (loc s)) ∧ ∃ n, w' = w.drewN n := by
  go_enter Try.func33, Try.ntmps33
  go_wp2_with fail
  refine (nameOf_any s [97, 48, 46, 95, 61, 45, 47] _ (by decide)).mono ?_
  rintro e w1 ⟨rfl, n, rfl⟩
  rw [loc_eq]
  go_wp2
  go_ret
  exact ⟨rfl, n, rfl⟩
theorem srv_nil : srv [] = false := rfl
theorem idn_nil : idn [] = false := rfl
theorem two_no {p q : List UInt8 → Bool} (hq : q [] = false) {s : List UInt8} (h : aft s = []) : two p q s = none := by
  unfold two; rw [h, hq]; simp
theorem user_cases (s : List UInt8) : (Lib.indexByte s 58 < 1 ∧ user s = none) ∨
    (∃ c r, ∃ i : Nat, s = c :: r ∧ Lib.indexByte s 58 = i + 1 ∧ i + 1 < s.length ∧ c ≠ 64 ∧ user s = none) ∨
    (∃ r, ∃ i : Nat, s = 64 :: r ∧ Lib.indexByte s 58 = i + 1 ∧ i < r.length ∧ fore r = r.take i ∧ aft r = r.drop (i + 1)) := by
  cases s with
  | nil => exact .inl ⟨by decide, rfl⟩
  | cons c r =>
    by_cases h64 : c = 64
    · subst h64
      rcases idx_colon r with ⟨h1, h2, h3, h4⟩ | ⟨i, h1, h2, h3, h4, h5, h6⟩
      · refine .inl ⟨?_, two_no srv_nil h3⟩
        rw [idx_no]
        · decide
        · intro j hj e
          have := List.mem_of_getElem? e
          simp at this
          exact h4 this
      · refine .inr (.inr ⟨r, i, rfl, ?_, h2, h3, h4⟩)
        rw [idx_at (k := i + 1) (by simpa using h5)]
        · rfl
        · intro j hj
          cases j with
          | zero => simp
          | succ j => simpa using h6 j (by omega)
    · have hu : user (c :: r) = none := by
        unfold user
        split
        · rename_i h; injection h with h1 _; exact absurd h1 h64
        · rfl
      rcases idx_colon (c :: r) with ⟨h1, _⟩ | ⟨i, h1, h2, _⟩
      · exact .inl ⟨by rw [h1]; decide, hu⟩
      · cases i with
        | zero => exact .inl ⟨by rw [h1]; decide, hu⟩
        | succ i => exact .inr (.inl ⟨c, r, i, rfl, by rw [h1]; rfl, h2, h64, hu⟩)

theorem key_cases (s : List UInt8) : (Lib.indexByte s 58 < 0 ∧ key s = none) ∨
    (∃ i : Nat, Lib.indexByte s 58 = i ∧ i < s.length ∧ fore s = s.take i ∧ aft s = s.drop (i + 1)) := by
  rcases idx_colon s with ⟨h1, h2, h3, h4⟩ | ⟨i, h1, h2, h3, h4, h5, h6⟩
  · exact .inl ⟨by rw [h1]; decide, two_no idn_nil h3⟩
  · exact .inr ⟨i, h1, h2, h3, h4⟩
end Go.Proofs.Ytmlgaedhfannmaa
