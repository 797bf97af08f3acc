/- The document's own NamesUser, NamesKey, NamesLocal: what each call returns. -/
import Derived.Test.YtikjpniobihanaaDoorNRefS
namespace Go.Proofs.YtikjpniobihanaaDoor
set_option linter.unusedVariables false
set_option linter.unusedSimpArgs false
open Go.RowKit
attribute [local go_sem high] str_mk
theorem loc_eq (s : List UInt8) : isNm (sorted [97, 48, 46, 95, 61, 45, 47]) s = loc s := by
  unfold loc; rw [funext localEq]
theorem knd_eq (s : List UInt8) : isNm (sorted [97, 48, 95]) s = knd s := by
  unfold knd; rw [funext kindEq]
theorem idn_eq (s : List UInt8) : isNm (sorted [65, 97, 48, 95, 43, 47]) s = idn s := by
  unfold idn; rw [funext idEq]
theorem refLocal_any (s : List UInt8) (w : World) :
    Calls Tryd.prog 98 #[str s] w fun e w' => e = .returned (.bool (loc s)) ∧ ∃ n, w' = w.drewN n := by
  go_enter Tryd.func98, Tryd.ntmps98
  go_wp2_with fail
  refine (nameOf_any s [97, 48, 46, 95, 61, 45, 47] _ (by decide)).mono ?_
  rintro e w1 ⟨rfl, n, rfl⟩
  rw [loc_eq]
  go_wp2
  go_ret
  exact ⟨rfl, n, rfl⟩
theorem srv_nil : srv [] = false := rfl
theorem idn_nil : idn [] = false := rfl
theorem two_no {p q : List UInt8 → Bool} (hq : q [] = false) {s : List UInt8} (h : aft s = []) : two p q s = none := by
  unfold two; rw [h, hq]; simp
theorem user_cases (s : List UInt8) : (Lib.indexByte s 58 < 1 ∧ user s = none) ∨
    (∃ c r, ∃ i : Nat, s = c :: r ∧ Lib.indexByte s 58 = i + 1 ∧ i + 1 < s.length ∧ c ≠ 64 ∧ user s = none) ∨
    (∃ r, ∃ i : Nat, s = 64 :: r ∧ Lib.indexByte s 58 = i + 1 ∧ i < r.length ∧ fore r = r.take i ∧ aft r = r.drop (i + 1)) := by
  cases s with
  | nil => exact .inl ⟨by decide, rfl⟩
  | cons c r =>
    by_cases h64 : c = 64
    · subst h64
      rcases idx_colon r with ⟨h1, h2, h3, h4⟩ | ⟨i, h1, h2, h3, h4, h5, h6⟩
      · refine .inl ⟨?_, two_no srv_nil h3⟩
        rw [idx_no]
        · decide
        · intro j hj e
          have := List.mem_of_getElem? e
          simp at this
          exact h4 this
      · refine .inr (.inr ⟨r, i, rfl, ?_, h2, h3, h4⟩)
        rw [idx_at (k := i + 1) (by simpa using h5)]
        · rfl
        · intro j hj
          cases j with
          | zero => simp
          | succ j => simpa using h6 j (by omega)
    · have hu : user (c :: r) = none := by
        unfold user
        split
        · rename_i h; injection h with h1 _; exact absurd h1 h64
        · rfl
      rcases idx_colon (c :: r) with ⟨h1, _⟩ | ⟨i, h1, h2, _⟩
      · exact .inl ⟨by rw [h1]; decide, hu⟩
      · cases i with
        | zero => exact .inl ⟨by rw [h1]; decide, hu⟩
        | succ i => exact .inr (.inl ⟨c, r, i, rfl, by rw [h1]; rfl, h2, h64, hu⟩)

set_option maxRecDepth 100000 in
set_option maxHeartbeats 1000000 in
theorem refUser_any (s : List UInt8) (w : World) (hs : s.length ≤ maxLen) :
    Calls Tryd.prog 62 #[str s] w fun e w' => e = .returned (pairV (user s)) ∧ ∃ n, w' = w.drewN n := by
  rcases user_cases s with ⟨h1, h2⟩ | ⟨c, r, i, rfl, h1, h2, h3, h4⟩ | ⟨r, i, rfl, h1, h2, h3, h4⟩
  · have H2 := Lib.hid h2
    clear h2
    go_enter Tryd.func62, Tryd.ntmps62
    go_wp2_with fail
    refine (colon_any s _ hs).mono ?_
    rintro e w1 ⟨rfl, rfl⟩
    generalize Lib.indexByte s 58 = k at *
    go_wp2
    go_ret3
    exact ⟨by rw [H2.out]; rfl, 0, rfl⟩
  · have H4 := Lib.hid h4
    clear h4
    have hi0 : ∀ W, (Instr.index 9 (str (c :: r)) (.int .i64 0)).run Tryd.prog W = .ok (.int .u8 (c.toNat : Int)) W := fun W => run_index_str (P := Tryd.prog) W 9 (c :: r) .i64 0 Tryd.underlying9 (by simp)
    have hcb : ((c.toNat : Int) == 64) = false := by
      rw [beq_eq_false_iff_ne]; intro e; exact h3 (UInt8.toNat_inj.1 (show c.toNat = 64 by omega))
    have hcb2 : ((c.toNat : Int) != 64) = true := by unfold bne; rw [hcb]; rfl
    go_enter Tryd.func62, Tryd.ntmps62
    go_wp2_with fail
    refine (colon_any _ _ hs).mono ?_
    rintro e w1 ⟨rfl, rfl⟩
    rw [h1]
    clear h1 h3
    go_wp2
    go_ret3
    exact ⟨by rw [H4.out]; rfl, 0, rfl⟩
  · have Hu := Lib.hid (show user (64 :: r) = if loc (fore r) && srv (aft r) then some (fore r, aft r) else none from rfl)
    obtain ⟨K, hK⟩ : ∃ K : Nat, K = i + 1 := ⟨_, rfl⟩
    have h1' : Lib.indexByte (64 :: r) 58 = (K : Int) := by rw [h1, hK]; rfl
    have hs1 : ∀ W, (Instr.slice 9 (str (64 :: r)) (some (.int .i64 1)) (some (.int .i64 (K : Int))) none).run Tryd.prog W = .ok (str (fore r)) W := by
      intro W
      have := run_str_lh (P := Tryd.prog) W 9 Tryd.underlying9 (64 :: r) .i64 .i64 1 (K : Int) 1 (i + 1) rfl (by omega) (by omega) (by simp; omega)
      rw [this, h3]; rfl
    have hs2 : ∀ W, (Instr.slice 9 (str (64 :: r)) (some (.int .i64 ((K : Int) + 1))) none none).run Tryd.prog W = .ok (str (aft r)) W := by
      intro W
      have := run_str_l (P := Tryd.prog) W 9 Tryd.underlying9 (64 :: r) .i64 ((K : Int) + 1) (i + 2) (by omega) (by simp; omega)
      rw [this, h4]; rfl
    have hi0 : ∀ W, (Instr.index 9 (str (64 :: r)) (.int .i64 0)).run Tryd.prog W = .ok (.int .u8 64) W := fun W => run_index_str (P := Tryd.prog) W 9 (64 :: r) .i64 0 Tryd.underlying9 (by simp)
    have hil : (K : Int) + 1 ≤ 9223372036854775807 := by unfold maxLen at hs; simp at hs; omega
    have hK1 : 1 ≤ K := by omega
    have hKd : decide ((K : Int) < 1) = false := by simp; omega
    clear hK
    generalize fore r = a at *
    generalize aft r = d at *
    go_enter Tryd.func62, Tryd.ntmps62
    go_wp2_with fail
    refine (colon_any _ _ hs).mono ?_
    rintro e w1 ⟨rfl, rfl⟩
    rw [h1']
    clear h1 h1' h2 h3 h4
    have Hs := Lib.hid hs
    clear hs
    go_wp2_with fail
    refine (refLocal_any a _).mono ?_
    rintro e w2 ⟨rfl, n2, rfl⟩
    cases hl : loc a
    · go_wp2_with fail
      go_ret3
      exact ⟨by rw [Hu.out, hl]; rfl, _, rfl⟩
    · go_wp2_with fail
      refine (refServer_any d _).mono ?_
      rintro e w3 ⟨rfl, n3, rfl⟩
      cases hd : srv d
      · go_wp2_with fail
        go_ret3
        exact ⟨by rw [Hu.out, hl, hd]; rfl, _, rfl⟩
      · go_wp2_with fail
        go_quiet (fail)
        go_wp2_with fail
        go_ret3
        exact ⟨by rw [Hu.out, hl, hd]; rfl, _, by first | rfl | exact World.drewN_drewN _ _ _⟩

theorem key_cases (s : List UInt8) : (Lib.indexByte s 58 < 0 ∧ key s = none) ∨
    (∃ i : Nat, Lib.indexByte s 58 = i ∧ i < s.length ∧ fore s = s.take i ∧ aft s = s.drop (i + 1)) := by
  rcases idx_colon s with ⟨h1, h2, h3, h4⟩ | ⟨i, h1, h2, h3, h4, h5, h6⟩
  · exact .inl ⟨by rw [h1]; decide, two_no idn_nil h3⟩
  · exact .inr ⟨i, h1, h2, h3, h4⟩
set_option maxRecDepth 100000 in
set_option maxHeartbeats 1000000 in
theorem refKey_any (s : List UInt8) (w : World) (hs : s.length ≤ maxLen) :
    Calls Tryd.prog 63 #[str s] w fun e w' => e = .returned (pairV (key s)) ∧ ∃ n, w' = w.drewN n := by
  rcases key_cases s with ⟨h1, h2⟩ | ⟨K, h1, h2, h3, h4⟩
  · have H2 := Lib.hid h2
    clear h2
    go_enter Tryd.func63, Tryd.ntmps63
    go_wp2_with fail
    refine (colon_any s _ hs).mono ?_
    rintro e w1 ⟨rfl, rfl⟩
    generalize Lib.indexByte s 58 = k at *
    go_wp2
    go_ret3
    exact ⟨by rw [H2.out]; rfl, 0, rfl⟩
  · have Hu := Lib.hid (show key s = if knd (fore s) && idn (aft s) then some (fore s, aft s) else none from rfl)
    have hs1 : ∀ W, (Instr.slice 9 (str s) none (some (.int .i64 (K : Int))) none).run Tryd.prog W = .ok (str (fore s)) W := by
      intro W
      rw [run_str_h (P := Tryd.prog) W 9 Tryd.underlying9 s .i64 (K : Int) K rfl (by omega), h3]
    have hs2 : ∀ W, (Instr.slice 9 (str s) (some (.int .i64 ((K : Int) + 1))) none none).run Tryd.prog W = .ok (str (aft s)) W := by
      intro W
      rw [run_str_l (P := Tryd.prog) W 9 Tryd.underlying9 s .i64 ((K : Int) + 1) (K + 1) (by omega) (by omega), h4]
    have hil : (K : Int) + 1 ≤ 9223372036854775807 := by unfold maxLen at hs; omega
    have hKd : decide ((K : Int) < 0) = false := by simp
    generalize fore s = a at *
    generalize aft s = d at *
    go_enter Tryd.func63, Tryd.ntmps63
    go_wp2_with fail
    refine (colon_any _ _ hs).mono ?_
    rintro e w1 ⟨rfl, rfl⟩
    rw [h1]
    clear h1 h2 h3 h4
    have Hs := Lib.hid hs
    clear hs
    go_wp2_with fail
    refine (nameOf_any a [97, 48, 95] _ (by decide)).mono ?_
    rintro e w2 ⟨rfl, n2, rfl⟩
    rw [knd_eq]
    cases hl : knd a
    · go_wp2_with fail
      go_ret3
      exact ⟨by rw [Hu.out, hl]; rfl, _, rfl⟩
    · go_wp2_with fail
      refine (nameOf_any d [65, 97, 48, 95, 43, 47] _ (by decide)).mono ?_
      rintro e w3 ⟨rfl, n3, rfl⟩
      rw [idn_eq]
      cases hd : idn d
      · go_wp2_with fail
        go_ret3
        exact ⟨by rw [Hu.out, hl, hd]; rfl, _, rfl⟩
      · go_wp2_with fail
        go_quiet (fail)
        go_wp2_with fail
        go_ret3
        exact ⟨by rw [Hu.out, hl, hd]; rfl, _, by first | rfl | exact World.drewN_drewN _ _ _⟩
end Go.Proofs.YtikjpniobihanaaDoor
