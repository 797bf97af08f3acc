/- names.Server: what the call returns. -/
import Derived.Test.YtmlgaedhfannmaaBunD
import Derived.Test.YtmlgaedhfannmaaShelfN
import Derived.Shelf.Vars
import Derived.Deep.RegionLaw
namespace Go.Proofs.Ytmlgaedhfannmaa
set_option linter.unusedVariables false
set_option linter.unusedSimpArgs false
open Go.RowKit
attribute [local go_sem high] str_mk

/-- The library's own variable holds some number. -/
def Gl (w : World) : Prop := ∃ m, w.cell? ⟨0, 0, none⟩ = some (.int .i64 m)
theorem Gl.of {w : World} (h : w.ShapedOpen Try.prog) : Gl w :=
  Go.Proofs.cell_of_shapedOpen_int (zero := #[.int .i64 0]) (t := 3) h (of_decide_eq_true (by kernel_rfl)) (by kernel_rfl) rfl (by kernel_rfl) (by kernel_rfl) Try.underlying3
theorem Gl.lt {w : World} (h : Gl w) : 0 < w.heap.size := by
  obtain ⟨m, hm⟩ := h
  rcases Nat.lt_or_ge 0 w.heap.size with hlt | hge
  · exact hlt
  · unfold World.cell? at hm
    rw [Array.getElem?_eq_none hge] at hm
    simp at hm
theorem Gl.below {w w' : World} (h : Gl w) (hb : Below w.heap.size w w') : Gl w' := by
  have hl := h.lt
  obtain ⟨m, hm⟩ := h
  exact ⟨m, (hb.cell hl).trans hm⟩

theorem contains_any (s a : List UInt8) (w : World) (hg : Gl w) (hs : s.length ≤ 20) :
    Calls Try.prog 187 #[str s, str a] w fun e w' => e = .returned (.bool (Lib.contains s a)) ∧ w = w' := by
  obtain ⟨m, hm⟩ := hg
  exact (Try.strings_Contains ⟨s.toArray⟩ ⟨a.toArray⟩ m w (by show s.length < _; omega) hm).mono fun e w' ⟨he, hw⟩ => ⟨by rw [he], hw.symm⟩

theorem mark_any (c : UInt8) (w : World) :
    Calls Try.prog 186 #[.int .u8 (c.toNat : Int)] w fun e w' => e = .returned (.bool (mark c)) ∧ w = w' := by
  by_cases h1 : c = 46
  · subst h1
    go_enter Try.func186, Try.ntmps186
    go_wp2
    go_ret
    exact ⟨rfl, rfl⟩
  by_cases h2 : c = 45
  · subst h2
    go_enter Try.func186, Try.ntmps186
    go_wp2
    go_ret
    exact ⟨rfl, rfl⟩
  · have hm : mark c = false := by simp [mark, h1, h2]
    have h46 : ((c.toNat : Int) == 46) = false := by
      rw [beq_eq_false_iff_ne]; intro h; exact h1 (UInt8.toNat_inj.1 (show c.toNat = 46 by omega))
    have h45 : ((c.toNat : Int) == 45) = false := by
      rw [beq_eq_false_iff_ne]; intro h; exact h2 (UInt8.toNat_inj.1 (show c.toNat = 45 by omega))
    go_enter Try.func186, Try.ntmps186
    go_wp2
    go_ret
    exact ⟨ret_bool hm.symm, rfl⟩

set_option maxRecDepth 100000 in
set_option maxHeartbeats 2000000 in
theorem server_any (s : List UInt8) (w : World) (hg : Gl w) :
    Calls Try.prog 181 #[str s] w fun e w' => e = .returned (.bool (srv s)) ∧ w = w' := by
  cases h1 : isNm (among serverL) s
  · have Hs := Lib.hid (show srv s = false by unfold srv; rw [h1]; rfl)
    go_enter Try.func181, Try.ntmps181
    go_wp2_with fail
    refine (consists_any s serverL _).mono ?_
    rintro e w1 ⟨rfl, rfl⟩
    rw [h1]
    go_wp2_with fail
    go_ret
    exact ⟨ret_bool Hs.out.symm, rfl⟩
  · obtain ⟨hl1, hl2, _⟩ := isNm_len h1
    have hi0 : ∀ W, (Instr.index 9 (str s) (.int .i64 0)).run Try.prog W = .ok (.int .u8 (s[0].toNat : Int)) W := fun W => run_index_str (P := Try.prog) W 9 s .i64 0 Try.underlying9 hl1
    have hi1 := fun W => run_index_str (P := Try.prog) W 9 s .i64 (s.length - 1) Try.underlying9 (by omega)
    have e1 : ((s.length - 1 : Nat) : Int) = (s.length : Int) - 1 := by omega
    rw [e1] at hi1
    have Hs := Lib.hid (show srv s = (!mark s[0] && !mark s[s.length - 1] && !Lib.contains s [46, 46] && !Lib.contains s [45, 46]) by
      unfold srv; rw [h1]; simp [List.getD, List.getElem?_eq_getElem hl1, List.getElem?_eq_getElem (show s.length - 1 < s.length by omega)])
    generalize s[0] = c0 at *
    generalize s[s.length - 1] = c1 at *
    clear e1
    go_enter Try.func181, Try.ntmps181
    go_wp2_with fail
    refine (consists_any s serverL _).mono ?_
    rintro e w1 ⟨rfl, rfl⟩
    rw [h1]
    go_wp2_with fail
    refine (mark_any c0 _).mono ?_
    rintro e w1 ⟨rfl, rfl⟩
    cases hm0 : mark c0
    · go_wp2_with fail
      refine (mark_any c1 _).mono ?_
      rintro e w1 ⟨rfl, rfl⟩
      cases hm1 : mark c1
      · go_wp2_with fail
        refine (contains_any s [46, 46] _ hg hl2).mono ?_
        rintro e w1 ⟨rfl, rfl⟩
        cases hm2 : Lib.contains s [46, 46]
        · go_wp2_with fail
          refine (contains_any s [45, 46] _ hg hl2).mono ?_
          rintro e w1 ⟨rfl, rfl⟩
          cases hm3 : Lib.contains s [45, 46]
          · go_wp2_with fail
            go_ret
            exact ⟨ret_bool (by rw [Hs.out, hm0, hm1, hm2, hm3]; rfl), rfl⟩
          · go_wp2_with fail
            go_ret
            exact ⟨ret_bool (by rw [Hs.out, hm0, hm1, hm2, hm3]; rfl), rfl⟩
        · go_wp2_with fail
          go_ret
          exact ⟨ret_bool (by rw [Hs.out, hm0, hm1, hm2]; rfl), rfl⟩
      · go_wp2_with fail
        go_ret
        exact ⟨ret_bool (by rw [Hs.out, hm0, hm1]; rfl), rfl⟩
    · go_wp2_with fail
      go_ret
      exact ⟨ret_bool (by rw [Hs.out, hm0]; rfl), rfl⟩

/-! ### the parts of an identifier -/
theorem cut_any (s : List UInt8) (w : World) (hs : s.length ≤ maxLen) :
    Calls Try.prog 174 #[str s, str [58]] w fun e w' => (∃ b, e = .returned (.tuple #[str (fore s), str (aft s), .bool b])) ∧ ∃ n, w' = w.drewN n := by
  have inner : Calls Try.prog 183 #[str s, str [58]] w fun e w' => (∃ b, e = .returned (.tuple #[str (fore s), str (aft s), .bool b])) ∧ ∃ n, w' = w.drewN n := by
    go_enter Try.func183, Try.ntmps183
    go_wp2_with fail
    refine (Try.stringslite_Index_one ⟨s.toArray⟩ 58 _).mono ?_
    rintro e w1 ⟨rfl, rfl⟩
    rw [str_toList]
    rcases idx_colon s with ⟨h1, h2, h3, _⟩ | ⟨i, h1, hil, h2, h3, _⟩
    · rw [h1]
      have H2 := Lib.hid h2
      have H3 := Lib.hid h3
      clear h1 h2 h3
      go_wp2_with fail
      go_ret3
      exact ⟨⟨false, by rw [H2.out, H3.out]; rfl⟩, 0, rfl⟩
    · rw [h1]
      have H2 := Lib.hid h2
      have H3 := Lib.hid h3
      clear h1 h2 h3
      have hs1 := fun W => run_str_h (P := Try.prog) W 9 Try.underlying9 s .i64 (i : Int) i rfl (by omega)
      have hs2 := fun W => run_str_l (P := Try.prog) W 9 Try.underlying9 s .i64 ((i : Int) + 1) (i + 1) (by omega) (by omega)
      have hl9 : (i : Int) + 1 ≤ 9223372036854775807 := by unfold maxLen at hs; omega
      go_wp2_with fail
      go_quiet (fail)
      go_wp2_with fail
      go_ret3
      exact ⟨⟨true, by rw [H2.out, H3.out]; rfl⟩, _, rfl⟩
  go_enter Try.func174, Try.ntmps174
  go_wp2_with fail
  refine inner.mono ?_
  rintro e w1 ⟨⟨b, rfl⟩, n, rfl⟩
  go_wp2_with fail
  go_ret3
  exact ⟨⟨b, rfl⟩, n, rfl⟩

theorem clone_any (s : List UInt8) (w : World) (hs : s.length ≤ 20) :
    Calls Try.prog 66 #[str s] w fun e w' => e = .returned (str s) ∧ Below w.heap.size w w' := by
  go_enter Try.func66, Try.ntmps66
  go_wp2_with fail
  refine (Try.stringslite_Clone ⟨s.toArray⟩ _ (by show s.length ≤ _; omega)).mono ?_
  rintro e w1 ⟨rfl, hb⟩
  go_wp2_with fail
  go_ret
  exact ⟨rfl, hb⟩
theorem kind_any (s : List UInt8) (w : World) :
    Calls Try.prog 149 #[str s] w fun e w' => e = .returned (.bool (knd s)) ∧ w = w' := by
  go_enter Try.func149, Try.ntmps149
  go_wp2_with fail
  refine (consists_any s kindL _).mono ?_
  rintro e w1 ⟨rfl, rfl⟩
  go_wp2
  go_ret
  exact ⟨rfl, rfl⟩
theorem id_any (s : List UInt8) (w : World) :
    Calls Try.prog 150 #[str s] w fun e w' => e = .returned (.bool (idn s)) ∧ w = w' := by
  go_enter Try.func150, Try.ntmps150
  go_wp2_with fail
  refine (consists_any s idL _).mono ?_
  rintro e w1 ⟨rfl, rfl⟩
  go_wp2
  go_ret
  exact ⟨rfl, rfl⟩
theorem Gl.drewN {w : World} (h : Gl w) (n : Nat) : Gl (w.drewN n) := h
set_option maxHeartbeats 1000000 in
theorem partsKey
    (s : List UInt8) (w : World) (hs : s.length ≤ maxLen) (hg : Gl w) :
    Calls Try.prog 148 #[str s, .func (.func 149) #[] #[], .func (.func 150) #[] #[]] w fun e w' => e = .returned (pairV (two knd idn s)) ∧ Below w.heap.size w w' := by
  go_enter Try.func148, Try.ntmps148
  go_wp2_with fail
  refine (cut_any s _ hs).mono ?_
  rintro e w1 ⟨⟨b, rfl⟩, n, rfl⟩
  have hb0 : Below w.heap.size w (w.drewN n) := below_drewN (Below.refl _ _) n
  have hg1 := hg.drewN n
  have Htwo := Lib.hid (show two knd idn s = if knd (fore s) && idn (aft s) then some (fore s, aft s) else none from rfl)
  generalize fore s = a at *
  generalize aft s = d at *
  go_wp2_with fail
  refine (kind_any a _).mono ?_
  rintro e w2 ⟨rfl, rfl⟩
  cases hpa : knd a
  · have H := Lib.hid (show two knd idn s = none by rw [Htwo.out, hpa]; rfl)
    go_wp2_with fail
    go_ret3
    exact ⟨by rw [H.out]; rfl, hb0⟩
  · go_wp2_with fail
    refine (id_any d _).mono ?_
    rintro e w2 ⟨rfl, rfl⟩
    cases hqd : idn d
    · have H := Lib.hid (show two knd idn s = none by rw [Htwo.out, hpa, hqd]; rfl)
      go_wp2_with fail
      go_ret3
      exact ⟨by rw [H.out]; rfl, hb0⟩
    · have H := Lib.hid (show two knd idn s = some (a, d) by rw [Htwo.out, hpa, hqd]; rfl)
      have ha20 := (isNm_len hpa).2.1
      have hd20 := (isNm_len hqd).2.1
      go_wp2_with fail
      refine (clone_any a _ ha20).mono ?_
      rintro e w2 ⟨rfl, hb2⟩
      go_wp2_with fail
      refine (clone_any d _ hd20).mono ?_
      rintro e w3 ⟨rfl, hb3⟩
      go_wp2_with fail
      go_ret3
      exact ⟨by rw [H.out]; rfl, hb0.trans (hb2.trans (hb3.mono hb2.size))⟩
set_option maxHeartbeats 1000000 in
theorem partsUser
    (s : List UInt8) (w : World) (hs : s.length ≤ maxLen) (hg : Gl w) :
    Calls Try.prog 148 #[str s, .func (.func 70) #[] #[], .func (.func 181) #[] #[]] w fun e w' => e = .returned (pairV (two loc srv s)) ∧ Below w.heap.size w w' := by
  go_enter Try.func148, Try.ntmps148
  go_wp2_with fail
  refine (cut_any s _ hs).mono ?_
  rintro e w1 ⟨⟨b, rfl⟩, n, rfl⟩
  have hb0 : Below w.heap.size w (w.drewN n) := below_drewN (Below.refl _ _) n
  have hg1 := hg.drewN n
  have Htwo := Lib.hid (show two loc srv s = if loc (fore s) && srv (aft s) then some (fore s, aft s) else none from rfl)
  generalize fore s = a at *
  generalize aft s = d at *
  go_wp2_with fail
  refine (local_any a _).mono ?_
  rintro e w2 ⟨rfl, rfl⟩
  cases hpa : loc a
  · have H := Lib.hid (show two loc srv s = none by rw [Htwo.out, hpa]; rfl)
    go_wp2_with fail
    go_ret3
    exact ⟨by rw [H.out]; rfl, hb0⟩
  · go_wp2_with fail
    refine (server_any d _ hg1).mono ?_
    rintro e w2 ⟨rfl, rfl⟩
    cases hqd : srv d
    · have H := Lib.hid (show two loc srv s = none by rw [Htwo.out, hpa, hqd]; rfl)
      go_wp2_with fail
      go_ret3
      exact ⟨by rw [H.out]; rfl, hb0⟩
    · have H := Lib.hid (show two loc srv s = some (a, d) by rw [Htwo.out, hpa, hqd]; rfl)
      have ha20 := (isNm_len hpa).2.1
      have hd20 := (isNm_len (srv_isNm hqd)).2.1
      go_wp2_with fail
      refine (clone_any a _ ha20).mono ?_
      rintro e w2 ⟨rfl, hb2⟩
      go_wp2_with fail
      refine (clone_any d _ hd20).mono ?_
      rintro e w3 ⟨rfl, hb3⟩
      go_wp2_with fail
      go_ret3
      exact ⟨by rw [H.out]; rfl, hb0.trans (hb2.trans (hb3.mono hb2.size))⟩
theorem key_any (s : List UInt8) (w : World) (hs : s.length ≤ maxLen) (hg : Gl w) :
    Calls Try.prog 129 #[str s] w fun e w' => e = .returned (pairV (key s)) ∧ Below w.heap.size w w' := by
  go_enter Try.func129, Try.ntmps129
  go_wp2_with fail
  refine (partsKey s _ hs hg).mono ?_
  rintro e w1 ⟨rfl, hb⟩
  have Hk := Lib.hid (show key s = two knd idn s from rfl)
  rcases h : two knd idn s with _ | ⟨a, b⟩
  · have Hh := Lib.hid h
    clear h
    simp only [pairV]
    go_wp2_with fail
    go_ret3
    exact ⟨by rw [Hk.out, Hh.out]; rfl, hb⟩
  · have Hh := Lib.hid h
    clear h
    simp only [pairV]
    go_wp2_with fail
    go_ret3
    exact ⟨by rw [Hk.out, Hh.out]; rfl, hb⟩
theorem user_any (s : List UInt8) (w : World) (hs : s.length ≤ maxLen) (hg : Gl w) :
    Calls Try.prog 162 #[str s] w fun e w' => e = .returned (pairV (user s)) ∧ Below w.heap.size w w' := by
  go_enter Try.func162, Try.ntmps162
  go_wp2_with fail
  refine (Try.strings_CutPrefix ⟨s.toArray⟩ ⟨#[64]⟩ _).mono ?_
  rintro e w1 ⟨rfl, rfl⟩
  rw [str_toList]
  have hpre : (∃ r, s = 64 :: r) ∨ ((Lib.hasPrefix s [64] = false) ∧ user s = none) := by
    cases s with
    | nil => exact .inr ⟨rfl, rfl⟩
    | cons c r =>
      by_cases hc : c = 64
      · subst hc; exact .inl ⟨r, rfl⟩
      · right
        refine ⟨by simp [Lib.hasPrefix, List.isPrefixOf, Ne.symm hc], ?_⟩
        unfold user
        split
        · rename_i h; injection h with h1 _; exact absurd h1 hc
        · rfl
  rcases hpre with ⟨r, rfl⟩ | ⟨h, hu⟩
  · have h1 : Lib.hasPrefix (64 :: r) [64] = true := by simp [Lib.hasPrefix, List.isPrefixOf]
    have h2 : Lib.trimPrefix (64 :: r) [64] = r := by unfold Lib.trimPrefix; rw [if_pos h1]; rfl
    have hd : (⟨#[64]⟩ : ByteArray).data.toList = [64] := rfl
    rw [hd, h1, h2]
    clear h1 h2 hd
    have hr : r.length ≤ maxLen := by simp at hs; omega
    go_wp2_with fail
    refine (partsUser r _ hr hg).mono ?_
    rintro e w1 ⟨rfl, hb⟩
    have Hk := Lib.hid (show user (64 :: r) = two loc srv r from rfl)
    rcases h : two loc srv r with _ | ⟨a, b⟩
    · have Hh := Lib.hid h
      clear h
      simp only [pairV]
      go_wp2_with fail
      go_ret3
      exact ⟨by rw [Hk.out, Hh.out]; rfl, hb⟩
    · have Hh := Lib.hid h
      clear h
      simp only [pairV]
      go_wp2_with fail
      go_ret3
      exact ⟨by rw [Hk.out, Hh.out]; rfl, hb⟩
  · have hd : (⟨#[64]⟩ : ByteArray).data.toList = [64] := rfl
    rw [hd, h]
    have Hu := Lib.hid hu
    clear hd h hu
    go_wp2_with fail
    go_ret3
    exact ⟨by rw [Hu.out]; rfl, Below.refl _ _⟩
end Go.Proofs.Ytmlgaedhfannmaa
