/- Sorted tables, the reference: RowsFault at every list. -/
import Derived.Test.YtecpccdmmaigiaaRwChk
namespace Go.Proofs.Ytecpccdmmaigiaa
set_option linter.unusedVariables false
set_option linter.unusedSimpArgs false
open Go.RowKit
theorem sized_no0 {r : Rw} (h : 20 < r.val.length) : sizedR r = false := by
  unfold sizedR; rw [show decide (r.val.length ≤ 20) = false by simp; omega]; simp
theorem sized_yes {r : Rw} (h : r.key ≠ []) (h2 : r.key.length ≤ 20) (h3 : r.val.length ≤ 20) : sizedR r = true := by rw [sized_eq h h2]; simpa using h3
/-- How the reference finds a row's lengths: three tests. -/
theorem sized_tests (r : Rw) :
    (r.key.length < 1 ∧ sizedR r = false) ∨ (1 ≤ r.key.length ∧ 20 < r.key.length ∧ sizedR r = false) ∨ (1 ≤ r.key.length ∧ r.key.length ≤ 20 ∧ 20 < r.val.length ∧ sizedR r = false) ∨
      (1 ≤ r.key.length ∧ r.key.length ≤ 20 ∧ r.val.length ≤ 20 ∧ sizedR r = true) := by
  rcases Nat.lt_or_ge r.key.length 1 with h | h
  · exact .inl ⟨h, sized_no1 (List.eq_nil_of_length_eq_zero (by omega))⟩
  · have hne : r.key ≠ [] := by rintro e; rw [e] at h; simp at h
    rcases Nat.lt_or_ge 20 r.key.length with h2 | h2
    · exact .inr (.inl ⟨h, h2, sized_no2 h2⟩)
    · rcases Nat.lt_or_ge 20 r.val.length with h3 | h3
      · exact .inr (.inr (.inl ⟨h, h2, h3, sized_no0 h3⟩))
      · exact .inr (.inr (.inr ⟨h, h2, h3, sized_yes hne h2 h3⟩))
set_option maxHeartbeats 1000000 in
set_option maxRecDepth 100000 in
theorem refFault_any (A : Option Addr) (n c B : Nat) (l : List Rw) (w : World) (hl : RIn w B A n c l) (hB : B ≤ w.heap.size) (hs : Short l) (hn : n ≤ 9223372036854775807) :
    Calls Try.prog 15 #[.slice A n c] w fun e w' => e = .returned (.int .i64 (chkT l)) ∧ Below w.heap.size w w' := by
  have hln := hl.1
  by_cases h40 : 40 < n
  · have HR := Lib.hid (show chkT l = 1 by unfold chkT; rw [if_pos (by omega)])
    have h4 : (40 : Int) < n := by omega
    clear hl hs hln
    go_enter Try.func15, Try.ntmps15
    go_wp2
    go_ret
    exact ⟨by rw [HR.out]; rfl, Below.refl _ w⟩
  · have HR := Lib.hid (show chkT l = chkGo none l by unfold chkT; rw [if_neg (by omega)])
    have h4 : ¬ (40 : Int) < n := by omega
    have Hl := Lib.hid hl
    have Hs := Lib.hid hs
    have Hln := Lib.hid hln
    clear hl hs hln
    go_enter Try.func15, Try.ntmps15
    go_wp2
    go_loopg [10] n (ChkR l w)
    case atStart => exact ⟨0, rfl, by omega, by rw [Hln.out]; rfl, rfl, Below.refl _ _⟩
    case round =>
      obtain ⟨k, rfl, hk, hgk, hc, hbe⟩ := hrel
      have Hgk := Lib.hid hgk
      have Hc := Lib.hid hc
      have Hbe := Lib.hid hbe
      have hszw := hbe.size
      clear hgk hc hbe
      rw [Hln.out] at hk
      by_cases hkn : k < n
      · have hkl : k < l.length := by rw [Hln.out]; exact hkn
        obtain ⟨b, off, hA, hbB, c0, c1⟩ := (Hl.out.below (Hbe.out.mono hB)).at_ hkl
        subst hA
        have hbw : b < wr.heap.size := by omega
        have Hst := Lib.hid (chkAt_step l k hkl)
        have hsh := Hs.out l[k] (List.getElem_mem _)
        generalize hr : l[k] = r at *
        have htst := sized_tests r
        obtain ⟨rk, rv⟩ := r
        simp only at c0 c1 hsh htst
        have hi1 : ((k : Nat) : Int) < (n : Int) := by omega
        have hi1b : decide ((k : Int) < (n : Int)) = true := by simpa using hkn
        have HW := Lib.hid (Hbe.out.alloc hszw (.cells #[str rk, str rv] 40))
        have HE : sizedR ⟨rk, rv⟩ = false → Hid ((1 : Int) = chkT l) := fun h => Lib.hid (by rw [HR.out, ← Hc.out, Hst.out, h, if_pos rfl])
        rcases htst with ⟨h1, hsz⟩ | ⟨h1, h2, hsz⟩ | ⟨h1, h2, h3, hsz⟩ | ⟨h1, h2, h3, hsz⟩
        · replace HE := HE hsz
          have h1i : (rk.length : Int) < 1 := by omega
          clear hsz Hst h1 h40
          go_wp2
          go_ret
          exact ⟨by rw [← HE.out] <;> rfl, HW.out⟩
        · replace HE := HE hsz
          have h1i : ¬ (rk.length : Int) < 1 := by omega
          have h2i : (20 : Int) < (rk.length : Int) := by omega
          clear hsz Hst h1 h2 h40
          go_wp2
          go_ret
          exact ⟨by rw [← HE.out] <;> rfl, HW.out⟩
        · replace HE := HE hsz
          have h1i : ¬ (rk.length : Int) < 1 := by omega
          have h2i : ¬ (20 : Int) < (rk.length : Int) := by omega
          have h3i : (20 : Int) < (rv.length : Int) := by omega
          clear hsz Hst h1 h2 h3 h40
          go_wp2
          go_ret
          exact ⟨by rw [← HE.out] <;> rfl, HW.out⟩
        · clear HE
          have h1i : ¬ (rk.length : Int) < 1 := by omega
          have h2i : ¬ (20 : Int) < (rk.length : Int) := by omega
          have h3i : ¬ (20 : Int) < (rv.length : Int) := by omega
          clear h1 h2 h3
          by_cases hv : rv = []
          · have HE := Lib.hid (show (4 : Int) = chkT l by rw [HR.out, ← Hc.out, Hst.out, hsz, if_neg (by simp), if_pos hv])
            have hvb : (rv.length : Int) = 0 := by rw [hv]; rfl
            clear hsz Hst hv h40
            go_wp2
            go_ret
            exact ⟨by rw [← HE.out] <;> rfl, HW.out⟩
          · have hvb : ¬ (rv.length : Int) = 0 := by
              have : rv.length ≠ 0 := fun e => hv (List.eq_nil_of_length_eq_zero e)
              omega
            cases k with
            | zero =>
              have HE := Lib.hid (show chkAt l 1 = chkGo none l by rw [← Hc.out, Hst.out, hsz, if_neg (by simp), if_neg hv, if_neg (by simp [notUp])])
              have c0' : wr.cell? ⟨b, off, none⟩ = some (str rk) := by simpa using c0
              have c1' : wr.cell? ⟨b, off + 1, none⟩ = some (str rv) := by simpa using c1
              clear hsz Hst hv c0 c1 h40
              go_wp2_with fail
              go_quiet (fail)
              go_wp2
              go_roundg (n - 1)
              case measure => have := Hgk.out; have := Hln.out; omega
              case rel => exact ⟨1, rfl, by have := Hln.out; omega, by have := Hln.out; omega, HE.out, below_drewN HW.out _⟩
            | succ j =>
              have hjl : j < l.length := by omega
              obtain ⟨b', off', hA', hbB', d0, _⟩ := (Hl.out.below (Hbe.out.mono hB)).at_ hjl
              injection hA' with hA'
              injection hA' with e1 e2 _
              subst e1 e2
              have hst : (if j + 1 = 0 then none else l[j + 1 - 1]?) = some l[j] := by rw [if_neg (by omega), Nat.add_sub_cancel, List.getElem?_eq_getElem hjl]
              rw [hst, hsz] at Hst
              generalize hq : l[j].key = q at *
              have hz : ((j + 1 : Nat) : Int) > 0 := by omega
              have hj1 : (j : Int) + 1 - 1 = (j : Int) := by omega
              have hj2 : (j : Int) < (n : Int) := by omega
              cases hls : Op.bytesLess q rk
              · have HE := Lib.hid (show (7 : Int) = chkT l by rw [HR.out, ← Hc.out, Hst.out, if_neg (by simp), if_neg hv, if_pos (by simp [notUp, hq, hls])])
                clear hsz Hst hv hst hq h40
                go_wp2_with fail
                go_quiet (fail)
                go_wp2
                go_ret
                exact ⟨by rw [← HE.out] <;> rfl, below_drewN HW.out _⟩
              · have HE := Lib.hid (show chkAt l (j + 2) = chkGo none l by rw [← Hc.out, Hst.out, if_neg (by simp), if_neg hv, if_neg (by simp [notUp, hq, hls])])
                clear hsz Hst hv hst hq h40
                go_wp2_with fail
                go_quiet (fail)
                go_wp2
                go_roundg (n - (j + 2))
                case measure => have := Hgk.out; have := Hln.out; omega
                case rel => exact ⟨j + 2, rfl, by have := Hln.out; omega, by have := Hln.out; omega, HE.out, below_drewN HW.out _⟩
      · go_wp2
        go_ret
        have : k = l.length := by have := Hln.out; omega
        subst this
        exact ⟨by rw [HR.out, ← Hc.out, chkAt_end]; rfl, Hbe.out⟩
end Go.Proofs.Ytecpccdmmaigiaa
