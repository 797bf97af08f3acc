/- names.Server: what the call returns. -/
import Derived.Test.YtaamoilkphjhgabBunD
import Derived.Test.YtaamoilkphjhgabShelfN
import Derived.Shelf.Vars
import Derived.Deep.RegionLaw
namespace Go.Proofs.Ytaamoilkphjhgab
set_option linter.unusedVariables false
set_option linter.unusedSimpArgs false
open Go.RowKit
attribute [local go_sem high] str_mk

/-- The library's own variable holds some number. -/
def Gl (w : World) : Prop := ∃ m, w.cell? ⟨0, 0, none⟩ = some (.int .i64 m)
theorem Gl.of {w : World} (h : w.ShapedOpen Try.prog) : Gl w :=
  Go.Proofs.cell_of_shapedOpen_int (zero := #[.int .i64 0]) (t := 3) h (of_decide_eq_true (by kernel_rfl)) (by kernel_rfl) rfl (by kernel_rfl) (by kernel_rfl) Try.underlying3
theorem Gl.lt {w : World} (h : Gl w) : 0 < w.heap.size := by
  obtain ⟨m, hm⟩ := h
  rcases Nat.lt_or_ge 0 w.heap.size with hlt | hge
  · exact hlt
  · unfold World.cell? at hm
    rw [Array.getElem?_eq_none hge] at hm
    simp at hm
theorem Gl.below {w w' : World} (h : Gl w) (hb : Below w.heap.size w w') : Gl w' := by
  have hl := h.lt
  obtain ⟨m, hm⟩ := h
  exact ⟨m, (hb.cell hl).trans hm⟩

/-! ### the parts of an identifier -/
theorem cut_any (s : List UInt8) (w : World) (hs : s.length ≤ maxLen) :
    Calls Try.prog 53 #[str s, str [58]] w fun e w' => (∃ b, e = .returned (.tuple #[str (fore s), str (aft s), .bool b])) ∧ ∃ n, w' = w.drewN n := by
  have inner : Calls Try.prog 60 #[str s, str [58]] w fun e w' => (∃ b, e = .returned (.tuple #[str (fore s), str (aft s), .bool b])) ∧ ∃ n, w' = w.drewN n := by
    go_enter Try.func60, Try.ntmps60
    go_wp2_with fail
    refine (Try.stringslite_Index_one ⟨s.toArray⟩ 58 _).mono ?_
    rintro e w1 ⟨rfl, rfl⟩
    rw [str_toList]
    rcases idx_colon s with ⟨h1, h2, h3, _⟩ | ⟨i, h1, hil, h2, h3, _⟩
    · rw [h1]
      have H2 := Lib.hid h2
      have H3 := Lib.hid h3
      clear h1 h2 h3
      go_wp2_with fail
      go_ret3
      exact ⟨⟨false, by rw [H2.out, H3.out]; rfl⟩, 0, rfl⟩
    · rw [h1]
      have H2 := Lib.hid h2
      have H3 := Lib.hid h3
      clear h1 h2 h3
      have hs1 := fun W => run_str_h (P := Try.prog) W 9 Try.underlying9 s .i64 (i : Int) i rfl (by omega)
      have hs2 := fun W => run_str_l (P := Try.prog) W 9 Try.underlying9 s .i64 ((i : Int) + 1) (i + 1) (by omega) (by omega)
      have hl9 : (i : Int) + 1 ≤ 9223372036854775807 := by unfold maxLen at hs; omega
      go_wp2_with fail
      go_quiet (fail)
      go_wp2_with fail
      go_ret3
      exact ⟨⟨true, by rw [H2.out, H3.out]; rfl⟩, _, rfl⟩
  go_enter Try.func53, Try.ntmps53
  go_wp2_with fail
  refine inner.mono ?_
  rintro e w1 ⟨⟨b, rfl⟩, n, rfl⟩
  go_wp2_with fail
  go_ret3
  exact ⟨⟨b, rfl⟩, n, rfl⟩

theorem clone_any (s : List UInt8) (w : World) (hs : s.length ≤ 20) :
    Calls Try.prog 21 #[str s] w fun e w' => e = .returned (str s) ∧ Below w.heap.size w w' := by
  go_enter Try.func21, Try.ntmps21
  go_wp2_with fail
  refine (Try.stringslite_Clone ⟨s.toArray⟩ _ (by show s.length ≤ _; omega)).mono ?_
  rintro e w1 ⟨rfl, hb⟩
  go_wp2_with fail
  go_ret
  exact ⟨rfl, hb⟩
theorem kind_any (s : List UInt8) (w : World) :
    Calls Try.prog 40 #[str s] w fun e w' => e = .returned (.bool (knd s)) ∧ w = w' := by
  go_enter Try.func40, Try.ntmps40
  go_wp2_with fail
  refine (consists_any s kindL _).mono ?_
  rintro e w1 ⟨rfl, rfl⟩
  go_wp2
  go_ret
  exact ⟨rfl, rfl⟩
theorem id_any (s : List UInt8) (w : World) :
    Calls Try.prog 41 #[str s] w fun e w' => e = .returned (.bool (idn s)) ∧ w = w' := by
  go_enter Try.func41, Try.ntmps41
  go_wp2_with fail
  refine (consists_any s idL _).mono ?_
  rintro e w1 ⟨rfl, rfl⟩
  go_wp2
  go_ret
  exact ⟨rfl, rfl⟩
theorem Gl.drewN {w : World} (h : Gl w) (n : Nat) : Gl (w.drewN n) := h
set_option maxHeartbeats 1000000 in
theorem partsKey
    (s : List UInt8) (w : World) (hs : s.length ≤ maxLen) (hg : Gl w) :
    Calls Try.prog 39 #[str s, .func (.func 40) #[] #[], .func (.func 41) #[] #[]] w fun e w' => e = .returned (pairV (two knd idn s)) ∧ Below w.heap.size w w' := by
  go_enter Try.func39, Try.ntmps39
  go_wp2_with fail
  refine (cut_any s _ hs).mono ?_
  rintro e w1 ⟨⟨b, rfl⟩, n, rfl⟩
  have hb0 : Below w.heap.size w (w.drewN n) := below_drewN (Below.refl _ _) n
  have hg1 := hg.drewN n
  have Htwo := Lib.hid (show two knd idn s = if knd (fore s) && idn (aft s) then some (fore s, aft s) else none from rfl)
  generalize fore s = a at *
  generalize aft s = d at *
  go_wp2_with fail
  refine (kind_any a _).mono ?_
  rintro e w2 ⟨rfl, rfl⟩
  cases hpa : knd a
  · have H := Lib.hid (show two knd idn s = none by rw [Htwo.out, hpa]; rfl)
    go_wp2_with fail
    go_ret3
    exact ⟨by rw [H.out]; rfl, hb0⟩
  · go_wp2_with fail
    refine (id_any d _).mono ?_
    rintro e w2 ⟨rfl, rfl⟩
    cases hqd : idn d
    · have H := Lib.hid (show two knd idn s = none by rw [Htwo.out, hpa, hqd]; rfl)
      go_wp2_with fail
      go_ret3
      exact ⟨by rw [H.out]; rfl, hb0⟩
    · have H := Lib.hid (show two knd idn s = some (a, d) by rw [Htwo.out, hpa, hqd]; rfl)
      have ha20 := (isNm_len hpa).2.1
      have hd20 := (isNm_len hqd).2.1
      go_wp2_with fail
      refine (clone_any a _ ha20).mono ?_
      rintro e w2 ⟨rfl, hb2⟩
      go_wp2_with fail
      refine (clone_any d _ hd20).mono ?_
      rintro e w3 ⟨rfl, hb3⟩
      go_wp2_with fail
      go_ret3
      exact ⟨by rw [H.out]; rfl, hb0.trans (hb2.trans (hb3.mono hb2.size))⟩
theorem key_any (s : List UInt8) (w : World) (hs : s.length ≤ maxLen) (hg : Gl w) :
    Calls Try.prog 35 #[str s] w fun e w' => e = .returned (pairV (key s)) ∧ Below w.heap.size w w' := by
  go_enter Try.func35, Try.ntmps35
  go_wp2_with fail
  refine (partsKey s _ hs hg).mono ?_
  rintro e w1 ⟨rfl, hb⟩
  have Hk := Lib.hid (show key s = two knd idn s from rfl)
  rcases h : two knd idn s with _ | ⟨a, b⟩
  · have Hh := Lib.hid h
    clear h
    simp only [pairV]
    go_wp2_with fail
    go_ret3
    exact ⟨by rw [Hk.out, Hh.out]; rfl, hb⟩
  · have Hh := Lib.hid h
    clear h
    simp only [pairV]
    go_wp2_with fail
    go_ret3
    exact ⟨by rw [Hk.out, Hh.out]; rfl, hb⟩
end Go.Proofs.Ytaamoilkphjhgab
