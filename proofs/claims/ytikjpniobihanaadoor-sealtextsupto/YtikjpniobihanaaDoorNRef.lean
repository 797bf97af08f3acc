/- The document's own functions of names: what each call returns. -/
import Derived.Test.YtikjpniobihanaaDoorNWalk
namespace Go.Proofs.YtikjpniobihanaaDoor
set_option linter.unusedVariables false
set_option linter.unusedSimpArgs false
open Go.RowKit
attribute [local go_sem high] str_mk
theorem any_drop (p : UInt8 → Bool) (s : List UInt8) (k : Nat) (hk : k < s.length) : (s.drop k).any p = (p s[k] || (s.drop (k + 1)).any p) := by
  rw [List.drop_eq_getElem_cons hk, List.any_cons]
def NofR (p : UInt8 → Bool) (s : List UInt8) (w : World) (gk : Nat) (i : Value) (wr : World) : Prop :=
  ∃ k : Nat, i = .int .i64 k ∧ k ≤ s.length ∧ gk = s.length - k ∧ s.all p = (s.drop k).all p ∧ ∃ n, wr = w.drewN n
def NofI (a : List UInt8) (c : UInt8) (w : World) (gk : Nat) (ok i : Value) (wr : World) : Prop :=
  ∃ (k : Nat) (b : Bool), ok = .bool b ∧ i = .int .i64 k ∧ k ≤ a.length ∧ gk = a.length - k ∧ sorted a c = (b || (a.drop k).any (sortOk c)) ∧ ∃ n, wr = w.drewN n
set_option maxRecDepth 100000 in
set_option maxHeartbeats 2000000 in
theorem nameOf_any (s a : List UInt8) (w : World) (ha : a.length ≤ 1000) :
    Calls Tryd.prog 100 #[str s, str a] w fun e w' => e = .returned (.bool (isNm (sorted a) s)) ∧ ∃ n, w' = w.drewN n := by
  by_cases hl0 : s.length < 1
  · have Hall := Lib.hid (show isNm (sorted a) s = false by unfold isNm; rw [decide_eq_false (by omega)]; rfl)
    go_enter Tryd.func100, Tryd.ntmps100
    go_wp2
    go_ret
    exact ⟨ret_bool Hall.out.symm, 0, rfl⟩
  by_cases h20 : s.length ≤ 20
  · have Hall := Lib.hid (show isNm (sorted a) s = s.all (sorted a) by unfold isNm; rw [decide_eq_true (by omega), decide_eq_true h20]; rfl)
    have hl1 : 1 ≤ s.length := by omega
    have hd0 : decide (20 < (s.length : Int)) = false := by simp; omega
    have hd1 : decide ((s.length : Int) < 1) = false := by simp; omega
    go_enter Tryd.func100, Tryd.ntmps100
    go_wp2
    go_loopg [5] s.length (NofR (sorted a) s w)
    case atStart => exact ⟨0, rfl, by omega, by omega, rfl, 0, rfl⟩
    case round =>
      obtain ⟨k, rfl, hk, hgk, hal, n, rfl⟩ := hrel
      have Hgk := Lib.hid hgk
      have Hal0 := Lib.hid hal
      clear hgk hal hl1 hd0 hd1 hl0
      by_cases hlt : k < s.length
      · have hd := all_drop (sorted a) s k hlt
        have hidx := fun W => run_index_str (P := Tryd.prog) W 9 s .i64 k Tryd.underlying9 hlt
        generalize s[k] = c at *
        have Hal := Lib.hid (Hal0.out.trans hd)
        clear hd Hal0
        go_wp2
        go_loopg [6, 7] a.length (NofI a c w)
        case atStart => exact ⟨0, false, rfl, rfl, by omega, by omega, rfl, n, rfl⟩
        case round =>
          obtain ⟨j, b, rfl, rfl, hj, hgj, hso, m, rfl⟩ := hrel
          have Hgj := Lib.hid hgj
          have Hso0 := Lib.hid hso
          clear hgj hso
          by_cases hjl : j < a.length
          · have hd := any_drop (sortOk c) a j hjl
            have hidx2 := fun W => run_index_str (P := Tryd.prog) W 9 a .i64 j Tryd.underlying9 hjl
            generalize a[j] = x at *
            have Hso := Lib.hid (Hso0.out.trans (by rw [hd, ← Bool.or_assoc]))
            clear hd Hso0
            have hx : ∀ y : UInt8, x = y ∨ (x ≠ y ∧ x.toNat ≠ y.toNat) := fun y => by
              by_cases h : x = y
              · exact .inl h
              · exact .inr ⟨h, fun e => h (UInt8.toNat_inj.1 e)⟩
            have Hx := Lib.hid hx
            clear hx
            have hcl := c.toNat_lt
            rcases Hx.out 97 with rfl | ⟨hx97, _⟩
            · cases b
              · by_cases h1 : 97 ≤ c.toNat
                · by_cases h2 : c.toNat ≤ 122
                  · have Hs := Lib.hid (show sortOk c 97 = true by unfold sortOk; simp [h1, h2])
                    go_wp2
                    all_goals
                      go_roundg (a.length - (j + 1))
                      case measure => have := Hgj.out; omega
                      case rel => exact ⟨j + 1, true, by first | rfl | (congr 1; simp; omega), by go_num, by omega, rfl, by rw [Hso.out, Hs.out]; simp, _, rfl⟩
                  · have Hs := Lib.hid (show sortOk c 97 = false by unfold sortOk; simp [h2])
                    go_wp2
                    all_goals
                      go_roundg (a.length - (j + 1))
                      case measure => have := Hgj.out; omega
                      case rel => exact ⟨j + 1, false, by first | rfl | (congr 1; simp; omega), by go_num, by omega, rfl, by rw [Hso.out, Hs.out]; simp, _, rfl⟩
                · have Hs := Lib.hid (show sortOk c 97 = false by unfold sortOk; simp [h1])
                  go_wp2
                  all_goals
                    go_roundg (a.length - (j + 1))
                    case measure => have := Hgj.out; omega
                    case rel => exact ⟨j + 1, false, by first | rfl | (congr 1; simp; omega), by go_num, by omega, rfl, by rw [Hso.out, Hs.out]; simp, _, rfl⟩
              · go_wp2
                all_goals
                  go_roundg (a.length - (j + 1))
                  case measure => have := Hgj.out; omega
                  case rel => exact ⟨j + 1, true, by first | rfl | (congr 1; simp; omega), by go_num, by omega, rfl, by rw [Hso.out]; simp, _, rfl⟩
            rcases Hx.out 65 with rfl | ⟨hx65, _⟩
            · cases b
              · by_cases h1 : 65 ≤ c.toNat
                · by_cases h2 : c.toNat ≤ 90
                  · have Hs := Lib.hid (show sortOk c 65 = true by unfold sortOk; simp [h1, h2])
                    go_wp2
                    all_goals
                      go_roundg (a.length - (j + 1))
                      case measure => have := Hgj.out; omega
                      case rel => exact ⟨j + 1, true, by first | rfl | (congr 1; simp; omega), by go_num, by omega, rfl, by rw [Hso.out, Hs.out]; simp, _, rfl⟩
                  · have Hs := Lib.hid (show sortOk c 65 = false by unfold sortOk; simp [h2])
                    go_wp2
                    all_goals
                      go_roundg (a.length - (j + 1))
                      case measure => have := Hgj.out; omega
                      case rel => exact ⟨j + 1, false, by first | rfl | (congr 1; simp; omega), by go_num, by omega, rfl, by rw [Hso.out, Hs.out]; simp, _, rfl⟩
                · have Hs := Lib.hid (show sortOk c 65 = false by unfold sortOk; simp [h1])
                  go_wp2
                  all_goals
                    go_roundg (a.length - (j + 1))
                    case measure => have := Hgj.out; omega
                    case rel => exact ⟨j + 1, false, by first | rfl | (congr 1; simp; omega), by go_num, by omega, rfl, by rw [Hso.out, Hs.out]; simp, _, rfl⟩
              · go_wp2
                all_goals
                  go_roundg (a.length - (j + 1))
                  case measure => have := Hgj.out; omega
                  case rel => exact ⟨j + 1, true, by first | rfl | (congr 1; simp; omega), by go_num, by omega, rfl, by rw [Hso.out]; simp, _, rfl⟩
            rcases Hx.out 48 with rfl | ⟨hx48, _⟩
            · cases b
              · by_cases h1 : 48 ≤ c.toNat
                · by_cases h2 : c.toNat ≤ 57
                  · have Hs := Lib.hid (show sortOk c 48 = true by unfold sortOk; simp [h1, h2])
                    go_wp2
                    all_goals
                      go_roundg (a.length - (j + 1))
                      case measure => have := Hgj.out; omega
                      case rel => exact ⟨j + 1, true, by first | rfl | (congr 1; simp; omega), by go_num, by omega, rfl, by rw [Hso.out, Hs.out]; simp, _, rfl⟩
                  · have Hs := Lib.hid (show sortOk c 48 = false by unfold sortOk; simp [h2])
                    go_wp2
                    all_goals
                      go_roundg (a.length - (j + 1))
                      case measure => have := Hgj.out; omega
                      case rel => exact ⟨j + 1, false, by first | rfl | (congr 1; simp; omega), by go_num, by omega, rfl, by rw [Hso.out, Hs.out]; simp, _, rfl⟩
                · have Hs := Lib.hid (show sortOk c 48 = false by unfold sortOk; simp [h1])
                  go_wp2
                  all_goals
                    go_roundg (a.length - (j + 1))
                    case measure => have := Hgj.out; omega
                    case rel => exact ⟨j + 1, false, by first | rfl | (congr 1; simp; omega), by go_num, by omega, rfl, by rw [Hso.out, Hs.out]; simp, _, rfl⟩
              · go_wp2
                all_goals
                  go_roundg (a.length - (j + 1))
                  case measure => have := Hgj.out; omega
                  case rel => exact ⟨j + 1, true, by first | rfl | (congr 1; simp; omega), by go_num, by omega, rfl, by rw [Hso.out]; simp, _, rfl⟩
            have hb97 : ((x.toNat : Int) == 97) = false := by
              rw [beq_eq_false_iff_ne]; intro h; exact hx97 (UInt8.toNat_inj.1 (show x.toNat = 97 by omega))
            have hb65 : ((x.toNat : Int) == 65) = false := by
              rw [beq_eq_false_iff_ne]; intro h; exact hx65 (UInt8.toNat_inj.1 (show x.toNat = 65 by omega))
            have hb48 : ((x.toNat : Int) == 48) = false := by
              rw [beq_eq_false_iff_ne]; intro h; exact hx48 (UInt8.toNat_inj.1 (show x.toNat = 48 by omega))
            have Hs := Lib.hid (show sortOk c x = (c == x) by unfold sortOk; rw [if_neg hx97, if_neg hx65, if_neg hx48])
            clear hx97 hx65 hx48
            cases b
            · by_cases hcx : c = x
              · subst hcx
                go_wp2
                go_quiet (fail)
                go_wp2
                all_goals
                  go_roundg (a.length - (j + 1))
                  case measure => have := Hgj.out; omega
                  case rel => exact ⟨j + 1, true, by first | rfl | (congr 1; simp; omega), by go_num, by omega, rfl, by rw [Hso.out, Hs.out]; simp, _, rfl⟩
              · have hne : ((c.toNat : Int) == (x.toNat : Int)) = false := by
                  rw [beq_eq_false_iff_ne]; intro h; exact hcx (UInt8.toNat_inj.1 (by omega))
                have Hne := Lib.hid (show (c == x) = false by simpa using hcx)
                clear hcx
                go_wp2
                go_quiet (fail)
                go_wp2
                all_goals
                  go_roundg (a.length - (j + 1))
                  case measure => have := Hgj.out; omega
                  case rel => exact ⟨j + 1, false, by first | rfl | (congr 1; simp; omega), by go_num, by omega, rfl, by rw [Hso.out, Hs.out, Hne.out]; simp, _, rfl⟩
            · go_wp2
              go_quiet (fail)
              go_wp2
              all_goals
                go_roundg (a.length - (j + 1))
                case measure => have := Hgj.out; omega
                case rel => exact ⟨j + 1, true, by first | rfl | (congr 1; simp; omega), by go_num, by omega, rfl, by rw [Hso.out]; simp, _, rfl⟩
          · have Hso := Lib.hid (show sorted a c = b by rw [Hso0.out, List.drop_eq_nil_of_le (by omega)]; simp)
            clear Hso0
            cases b
            · go_wp2
              go_ret
              exact ⟨ret_bool (by rw [Hall.out, Hal.out, Hso.out]; rfl), _, rfl⟩
            · go_wp2
              go_roundg (s.length - (k + 1))
              case measure => have := Hgk.out; omega
              case rel => exact ⟨k + 1, by go_num, by omega, rfl, by rw [Hal.out, Hso.out]; rfl, _, rfl⟩
      · have Hal := Lib.hid (show s.all (sorted a) = true by rw [Hal0.out, List.drop_eq_nil_of_le (by omega)]; rfl)
        clear Hal0
        go_wp2
        go_ret
        exact ⟨ret_bool (by rw [Hall.out, Hal.out]), _, rfl⟩
  · have Hall := Lib.hid (show isNm (sorted a) s = false by unfold isNm; rw [decide_eq_false h20]; simp)
    have h20' : 20 < s.length := by omega
    go_enter Tryd.func100, Tryd.ntmps100
    go_wp2
    go_ret
    exact ⟨ret_bool Hall.out.symm, 0, rfl⟩
end Go.Proofs.YtikjpniobihanaaDoor
