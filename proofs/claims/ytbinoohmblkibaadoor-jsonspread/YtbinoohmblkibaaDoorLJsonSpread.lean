/- Proved here: for every list of integers and every number, the value that the list stands for, written with blanks at all places where they may stand and with its keys the other way round, is parsed as the same value, unless it or the text is too large (statement JsonSpread). No condition. -/
import Derived.Test.YtbinoohmblkibaaDoorJGenW
import Derived.Test.YtbinoohmblkibaaDoorJSure
import Derived.Test.YtbinoohmblkibaaDoorJObj
import Derived.Test.YtbinoohmblkibaaDoorJFit
import Derived.Test.YtbinoohmblkibaaDoorOpenI
import Derived.Test.YtbinoohmblkibaaDoorLaid
namespace Go.Proofs.YtbinoohmblkibaaDoor
set_option linter.unusedVariables false
set_option linter.unusedSimpArgs false
open Go.RowKit

attribute [local go_sem high] str_mk
set_option maxRecDepth 100000 in
set_option maxHeartbeats 4000000 in
theorem walkJsonSpread (A0 : Option Addr) (n0 c0 : Nat) (x1 : Int) (w : World) (hx0 : IntsAt w w.heap.size A0 n0 c0) (hx1 : -9223372036854775808 ≤ x1 ∧ x1 ≤ 9223372036854775807) (htab : Tab w.heap.size w) :
    Calls Tryd.prog 7 #[.slice A0 n0 c0, .int .i64 x1] w fun e w' => e = .returned (.bool true) ∧ Below w.heap.size w w' := by
  have hg : GenOk 4 := genOk 4 (by omega) (by omega)
  have pk4 := fun W => picked_any x1 4 W (by decide) (by decide)
  have hsure := fun y (hb : Below w.heap.size w y) => jsure_any y (htab.on hb).here
  go_enter Tryd.func7, Tryd.ntmps7
  go_wp2_with fail
  refine (hg A0 n0 c0 w.heap.size w (Nat.le_refl _) hx0).mono ?_
  rintro e y1 ⟨va, ca, Aa, na, cca, rfl, hva, hoka, hcta, _, hb1⟩
  obtain ⟨k1, m1, t1, Ak1, nk1, ck1, Ap1, np1, cp1, rfl⟩ := hva.form
  have hva1 := VInS.toB (B := y1.heap.size) (fun b hb => hb.2) _ _ hva
  have hcva : count va ≤ 256 := hcta
  have hfa := fine_of 0 va (hoka 0 (by omega))
  have Hck := Lib.hid (okAt_check hoka (by omega))
  have hba := Blk.new y1 25 #[.int .i64 k1, .int .i64 m1, str t1, .slice Ak1 nk1 ck1, .slice Ap1 np1 cp1]
  have hB1 := hb1.alloc hb1.size (.cells #[.int .i64 k1, .int .i64 m1, str t1, .slice Ak1 nk1 ck1, .slice Ap1 np1 cp1] 25)
  have hva2 : VIn (y1.alloc (.cells #[.int .i64 k1, .int .i64 m1, str t1, .slice Ak1 nk1 ck1, .slice Ap1 np1 cp1] 25)) y1.heap.size va [.int .i64 k1, .int .i64 m1, str t1, .slice Ak1 nk1 ck1, .slice Ap1 np1 cp1] :=
    VIn.kept (fun p hp => World.cell?_alloc_lt _ _ p hp) _ _ hva1
  have hsz1 : (y1.alloc (.cells #[.int .i64 k1, .int .i64 m1, str t1, .slice Ak1 nk1 ck1, .slice Ap1 np1 cp1] 25)).heap.size = y1.heap.size + 1 := by simp
  clear hva hva1 hoka hcta hg
  go_wp2_with fail
  generalize (y1.alloc (.cells #[.int .i64 k1, .int .i64 m1, str t1, .slice Ak1 nk1 ck1, .slice Ap1 np1 cp1] 25)) = y2 at *
  refine (pk4 _).mono ?_
  rintro e y2' ⟨rfl, rfl⟩
  clear pk4
  have Hfa := Lib.hid hfa
  have Htab := Lib.hid htab
  clear hfa htab
  have hr0 := Int.emod_nonneg x1 (show (4 : Int) ≠ 0 by decide)
  have hr4 := Int.emod_lt_of_pos x1 (show (0 : Int) < 4 by decide)
  rcases (by omega : x1 % 4 = 0 ∨ x1 % 4 = 1 ∨ x1 % 4 = 2 ∨ x1 % 4 = 3) with h | h | h | h
  · rw [h]
    clear h hr0 hr4
    have hG : Gap ([] : List UInt8) := by unfold Gap; decide
    have hba3 := hba.alloc (.cells #[str [], str [32], str [10, 9], str [32, 32, 13]] 9)
    have hB3 := hB1.alloc hB1.size (.cells #[str [], str [32], str [10, 9], str [32, 32, 13]] 9)
    have hva3 : VIn (y2.alloc (.cells #[str [], str [32], str [10, 9], str [32, 32, 13]] 9)) y1.heap.size va [.int .i64 k1, .int .i64 m1, str t1, .slice Ak1 nk1 ck1, .slice Ap1 np1 cp1] :=
      VIn.kept (fun p hp => World.cell?_alloc_lt _ _ p (by omega)) _ _ hva2
    have hsz3 : (y2.alloc (.cells #[str [], str [32], str [10, 9], str [32, 32, 13]] 9)).heap.size = y1.heap.size + 2 := by simp; omega
    obtain ⟨p0, p1, p2, p3, p4, _, _, _, _, _⟩ := box_facts hba
    have hlt2 : y1.heap.size < y2.heap.size := by omega
    go_wp2_with fail
    generalize (y2.alloc (.cells #[str [], str [32], str [10, 9], str [32, 32, 13]] 9)) = y3 at *
    clear p0 p1 p2 p3 p4 hba hB1 hva2
    refine (spread_any ([] : List UInt8) (by simp) 256 va _ y3 y1.heap.size hcva (by omega) Hfa.out (by omega) hva3 (Htab.out.on hB3).here).mono ?_
    rintro e y4 ⟨rfl, hb4⟩
    have hz4 := hb4.size
    have hB4 := hB3.trans (hb4.mono hB3.size)
    have hba4 := hba3.below hb4 (by omega)
    have hva4 := hva3.below (hb4.mono (by omega))
    have Hrd := Lib.hid (fun h => readR_spread ([] : List UInt8) hG va Hfa.out h)
    have hXl := sp_bd ([] : List UInt8) (by simp) va
    have hXl2 : (sp ([] : List UInt8) va).length ≤ 360000 := by omega
    clear hXl hb4 hba3 hva3 hB3 hG
    generalize sp ([] : List UInt8) va = X at *
    have c1 := add3 (P := Tryd.prog) 9 ([] : List UInt8) X (by simp only [List.length_cons, List.length_nil]; omega)
    have c2 := add3 (P := Tryd.prog) 9 (([] : List UInt8) ++ X) ([] : List UInt8) (by simp only [List.length_append, List.length_cons, List.length_nil]; omega)
    generalize hS : ([] : List UInt8) ++ X ++ ([] : List UInt8) = S at *
    generalize hS1 : ([] : List UInt8) ++ X = S1 at *
    clear hS hS1
    obtain ⟨p0, p1, p2, p3, p4, _, _, _, _, _⟩ := box_facts hba4
    by_cases hlen : 1200 < S.length
    · have hlb : decide ((1200 : Int) < (S.length : Int)) = true := by simp; omega
      go_wp2_with fail
      refine (hsure _ hB4).mono ?_
      rintro e y8 ⟨rfl, hb8⟩
      go_wp2_with fail
      go_ret
      exact ⟨rfl, hB4.trans (hb8.mono hB4.size)⟩
    have hlb : decide ((1200 : Int) < (S.length : Int)) = false := by simp; omega
    go_wp2_with fail
    refine (Check_any va _ y4 y1.heap.size (by omega) hva4 (Htab.out.on hB4).here (by omega)).mono ?_
    rintro e y5 ⟨rfl, hb5⟩
    have hz5 := hb5.size
    have hB5 := hB4.trans (hb5.mono hB4.size)
    have hba5 := hba4.below hb5 (by omega)
    have hva5 := hva4.below (hb5.mono (by omega))
    clear hb5 hba4 hva4 p0 p1 p2 p3 p4
    by_cases hc0 : checkN va = 0
    rotate_left
    · have hc1 : checkN va = 1 := by rcases Hck.out with h | h; exact absurd h hc0; exact h
      rw [hc1]
      go_wp2_with fail
      refine (hsure _ hB5).mono ?_
      rintro e y8 ⟨rfl, hb8⟩
      go_wp2_with fail
      go_ret
      exact ⟨rfl, hB5.trans (hb8.mono hB5.size)⟩
    have Hra := Lib.hid (Hrd.out (fit_of va Hfa.out (check_len hc0)))
    have Hc0 := Lib.hid hc0
    rw [hc0]
    clear hc0 Hrd
    go_wp2_with fail
    refine (Parse_all S y5 (by omega) (Htab.out.on hB5).here).mono ?_
    intro e y6 ho
    rcases ho with ⟨v, cs, _, hrd, _, rfl, hv, hb6⟩ | ⟨hne, _⟩
    rotate_left
    · exfalso
      apply hne
      unfold parseE
      rw [if_neg (by omega), Hra.out]
      exact Hc0.out
    rw [Hra.out] at hrd
    injection hrd with hrd
    subst hrd
    clear Hra Hc0
    obtain ⟨k3, m3, t3, Ak3, nk3, ck3, Ap3, np3, cp3, rfl⟩ := hv.form
    have hv6 := VInS.toB (B := y6.heap.size) (fun b hb => hb.2) _ _ hv
    have hv7 : VIn (y6.alloc (.cells #[.int .i64 k3, .int .i64 m3, str t3, .slice Ak3 nk3 ck3, .slice Ap3 np3 cp3] 25)) y6.heap.size va [.int .i64 k3, .int .i64 m3, str t3, .slice Ak3 nk3 ck3, .slice Ap3 np3 cp3] :=
      VIn.kept (fun p hp => World.cell?_alloc_lt _ _ p hp) _ _ hv6
    have hB6 := hB5.trans (hb6.mono hB5.size)
    have hB7 := hB6.alloc hB6.size (.cells #[.int .i64 k3, .int .i64 m3, str t3, .slice Ak3 nk3 ck3, .slice Ap3 np3 cp3] 25)
    have hbc7 := Blk.new y6 25 #[.int .i64 k3, .int .i64 m3, str t3, .slice Ak3 nk3 ck3, .slice Ap3 np3 cp3]
    have hz6 := hb6.size
    have hbl7 : Below y5.heap.size y5 (y6.alloc (.cells #[.int .i64 k3, .int .i64 m3, str t3, .slice Ak3 nk3 ck3, .slice Ap3 np3 cp3] 25)) := hb6.alloc hb6.size _
    have hba7 := hba5.below hbl7 (by omega)
    have hva7 := hva5.below (hbl7.mono (by omega))
    have hsz7 : (y6.alloc (.cells #[.int .i64 k3, .int .i64 m3, str t3, .slice Ak3 nk3 ck3, .slice Ap3 np3 cp3] 25)).heap.size = y6.heap.size + 1 := by simp
    clear hv hv6 hb6 hbl7 hba5 hva5 hB5
    go_wp2_with fail
    generalize (y6.alloc (.cells #[.int .i64 k3, .int .i64 m3, str t3, .slice Ak3 nk3 ck3, .slice Ap3 np3 cp3] 25)) = y7 at *
    refine (hsure _ hB7).mono ?_
    rintro e y8 ⟨rfl, hb8⟩
    have hz8 := hb8.size
    have hB8 := hB7.trans (hb8.mono hB7.size)
    have hba8 := hba7.below hb8 (by omega)
    have hbc8 := hbc7.below hb8 (by omega)
    have hva8 := hva7.below (hb8.mono (by omega))
    have hv8 := hv7.below (hb8.mono (by omega))
    obtain ⟨p0, p1, p2, p3, p4, _, _, _, _, _⟩ := box_facts hba8
    obtain ⟨r0, r1, r2, r3, r4, _, _, _, _, _⟩ := box_facts hbc8
    clear hba7 hbc7 hva7 hv7 hb8
    go_wp2_with fail
    refine (same_any 256 va va _ _ y8 y6.heap.size hcva (by omega) hv8 (VIn.wider (by omega) _ _ hva8)).mono ?_
    rintro e y9 ⟨bb, rfl, hbb, hb9⟩
    obtain rfl := hbb.2 rfl
    go_wp2_with fail
    go_ret
    exact ⟨rfl, hB8.trans (hb9.mono hB8.size)⟩
  · rw [h]
    clear h hr0 hr4
    have hG : Gap ([32] : List UInt8) := by unfold Gap; decide
    have hba3 := hba.alloc (.cells #[str [], str [32], str [10, 9], str [32, 32, 13]] 9)
    have hB3 := hB1.alloc hB1.size (.cells #[str [], str [32], str [10, 9], str [32, 32, 13]] 9)
    have hva3 : VIn (y2.alloc (.cells #[str [], str [32], str [10, 9], str [32, 32, 13]] 9)) y1.heap.size va [.int .i64 k1, .int .i64 m1, str t1, .slice Ak1 nk1 ck1, .slice Ap1 np1 cp1] :=
      VIn.kept (fun p hp => World.cell?_alloc_lt _ _ p (by omega)) _ _ hva2
    have hsz3 : (y2.alloc (.cells #[str [], str [32], str [10, 9], str [32, 32, 13]] 9)).heap.size = y1.heap.size + 2 := by simp; omega
    obtain ⟨p0, p1, p2, p3, p4, _, _, _, _, _⟩ := box_facts hba
    have hlt2 : y1.heap.size < y2.heap.size := by omega
    go_wp2_with fail
    generalize (y2.alloc (.cells #[str [], str [32], str [10, 9], str [32, 32, 13]] 9)) = y3 at *
    clear p0 p1 p2 p3 p4 hba hB1 hva2
    refine (spread_any ([32] : List UInt8) (by simp) 256 va _ y3 y1.heap.size hcva (by omega) Hfa.out (by omega) hva3 (Htab.out.on hB3).here).mono ?_
    rintro e y4 ⟨rfl, hb4⟩
    have hz4 := hb4.size
    have hB4 := hB3.trans (hb4.mono hB3.size)
    have hba4 := hba3.below hb4 (by omega)
    have hva4 := hva3.below (hb4.mono (by omega))
    have Hrd := Lib.hid (fun h => readR_spread ([32] : List UInt8) hG va Hfa.out h)
    have hXl := sp_bd ([32] : List UInt8) (by simp) va
    have hXl2 : (sp ([32] : List UInt8) va).length ≤ 360000 := by omega
    clear hXl hb4 hba3 hva3 hB3 hG
    generalize sp ([32] : List UInt8) va = X at *
    have c1 := add3 (P := Tryd.prog) 9 ([32] : List UInt8) X (by simp only [List.length_cons, List.length_nil]; omega)
    have c2 := add3 (P := Tryd.prog) 9 (([32] : List UInt8) ++ X) ([32] : List UInt8) (by simp only [List.length_append, List.length_cons, List.length_nil]; omega)
    generalize hS : ([32] : List UInt8) ++ X ++ ([32] : List UInt8) = S at *
    generalize hS1 : ([32] : List UInt8) ++ X = S1 at *
    clear hS hS1
    obtain ⟨p0, p1, p2, p3, p4, _, _, _, _, _⟩ := box_facts hba4
    by_cases hlen : 1200 < S.length
    · have hlb : decide ((1200 : Int) < (S.length : Int)) = true := by simp; omega
      go_wp2_with fail
      refine (hsure _ hB4).mono ?_
      rintro e y8 ⟨rfl, hb8⟩
      go_wp2_with fail
      go_ret
      exact ⟨rfl, hB4.trans (hb8.mono hB4.size)⟩
    have hlb : decide ((1200 : Int) < (S.length : Int)) = false := by simp; omega
    go_wp2_with fail
    refine (Check_any va _ y4 y1.heap.size (by omega) hva4 (Htab.out.on hB4).here (by omega)).mono ?_
    rintro e y5 ⟨rfl, hb5⟩
    have hz5 := hb5.size
    have hB5 := hB4.trans (hb5.mono hB4.size)
    have hba5 := hba4.below hb5 (by omega)
    have hva5 := hva4.below (hb5.mono (by omega))
    clear hb5 hba4 hva4 p0 p1 p2 p3 p4
    by_cases hc0 : checkN va = 0
    rotate_left
    · have hc1 : checkN va = 1 := by rcases Hck.out with h | h; exact absurd h hc0; exact h
      rw [hc1]
      go_wp2_with fail
      refine (hsure _ hB5).mono ?_
      rintro e y8 ⟨rfl, hb8⟩
      go_wp2_with fail
      go_ret
      exact ⟨rfl, hB5.trans (hb8.mono hB5.size)⟩
    have Hra := Lib.hid (Hrd.out (fit_of va Hfa.out (check_len hc0)))
    have Hc0 := Lib.hid hc0
    rw [hc0]
    clear hc0 Hrd
    go_wp2_with fail
    refine (Parse_all S y5 (by omega) (Htab.out.on hB5).here).mono ?_
    intro e y6 ho
    rcases ho with ⟨v, cs, _, hrd, _, rfl, hv, hb6⟩ | ⟨hne, _⟩
    rotate_left
    · exfalso
      apply hne
      unfold parseE
      rw [if_neg (by omega), Hra.out]
      exact Hc0.out
    rw [Hra.out] at hrd
    injection hrd with hrd
    subst hrd
    clear Hra Hc0
    obtain ⟨k3, m3, t3, Ak3, nk3, ck3, Ap3, np3, cp3, rfl⟩ := hv.form
    have hv6 := VInS.toB (B := y6.heap.size) (fun b hb => hb.2) _ _ hv
    have hv7 : VIn (y6.alloc (.cells #[.int .i64 k3, .int .i64 m3, str t3, .slice Ak3 nk3 ck3, .slice Ap3 np3 cp3] 25)) y6.heap.size va [.int .i64 k3, .int .i64 m3, str t3, .slice Ak3 nk3 ck3, .slice Ap3 np3 cp3] :=
      VIn.kept (fun p hp => World.cell?_alloc_lt _ _ p hp) _ _ hv6
    have hB6 := hB5.trans (hb6.mono hB5.size)
    have hB7 := hB6.alloc hB6.size (.cells #[.int .i64 k3, .int .i64 m3, str t3, .slice Ak3 nk3 ck3, .slice Ap3 np3 cp3] 25)
    have hbc7 := Blk.new y6 25 #[.int .i64 k3, .int .i64 m3, str t3, .slice Ak3 nk3 ck3, .slice Ap3 np3 cp3]
    have hz6 := hb6.size
    have hbl7 : Below y5.heap.size y5 (y6.alloc (.cells #[.int .i64 k3, .int .i64 m3, str t3, .slice Ak3 nk3 ck3, .slice Ap3 np3 cp3] 25)) := hb6.alloc hb6.size _
    have hba7 := hba5.below hbl7 (by omega)
    have hva7 := hva5.below (hbl7.mono (by omega))
    have hsz7 : (y6.alloc (.cells #[.int .i64 k3, .int .i64 m3, str t3, .slice Ak3 nk3 ck3, .slice Ap3 np3 cp3] 25)).heap.size = y6.heap.size + 1 := by simp
    clear hv hv6 hb6 hbl7 hba5 hva5 hB5
    go_wp2_with fail
    generalize (y6.alloc (.cells #[.int .i64 k3, .int .i64 m3, str t3, .slice Ak3 nk3 ck3, .slice Ap3 np3 cp3] 25)) = y7 at *
    refine (hsure _ hB7).mono ?_
    rintro e y8 ⟨rfl, hb8⟩
    have hz8 := hb8.size
    have hB8 := hB7.trans (hb8.mono hB7.size)
    have hba8 := hba7.below hb8 (by omega)
    have hbc8 := hbc7.below hb8 (by omega)
    have hva8 := hva7.below (hb8.mono (by omega))
    have hv8 := hv7.below (hb8.mono (by omega))
    obtain ⟨p0, p1, p2, p3, p4, _, _, _, _, _⟩ := box_facts hba8
    obtain ⟨r0, r1, r2, r3, r4, _, _, _, _, _⟩ := box_facts hbc8
    clear hba7 hbc7 hva7 hv7 hb8
    go_wp2_with fail
    refine (same_any 256 va va _ _ y8 y6.heap.size hcva (by omega) hv8 (VIn.wider (by omega) _ _ hva8)).mono ?_
    rintro e y9 ⟨bb, rfl, hbb, hb9⟩
    obtain rfl := hbb.2 rfl
    go_wp2_with fail
    go_ret
    exact ⟨rfl, hB8.trans (hb9.mono hB8.size)⟩
  · rw [h]
    clear h hr0 hr4
    have hG : Gap ([10, 9] : List UInt8) := by unfold Gap; decide
    have hba3 := hba.alloc (.cells #[str [], str [32], str [10, 9], str [32, 32, 13]] 9)
    have hB3 := hB1.alloc hB1.size (.cells #[str [], str [32], str [10, 9], str [32, 32, 13]] 9)
    have hva3 : VIn (y2.alloc (.cells #[str [], str [32], str [10, 9], str [32, 32, 13]] 9)) y1.heap.size va [.int .i64 k1, .int .i64 m1, str t1, .slice Ak1 nk1 ck1, .slice Ap1 np1 cp1] :=
      VIn.kept (fun p hp => World.cell?_alloc_lt _ _ p (by omega)) _ _ hva2
    have hsz3 : (y2.alloc (.cells #[str [], str [32], str [10, 9], str [32, 32, 13]] 9)).heap.size = y1.heap.size + 2 := by simp; omega
    obtain ⟨p0, p1, p2, p3, p4, _, _, _, _, _⟩ := box_facts hba
    have hlt2 : y1.heap.size < y2.heap.size := by omega
    go_wp2_with fail
    generalize (y2.alloc (.cells #[str [], str [32], str [10, 9], str [32, 32, 13]] 9)) = y3 at *
    clear p0 p1 p2 p3 p4 hba hB1 hva2
    refine (spread_any ([10, 9] : List UInt8) (by simp) 256 va _ y3 y1.heap.size hcva (by omega) Hfa.out (by omega) hva3 (Htab.out.on hB3).here).mono ?_
    rintro e y4 ⟨rfl, hb4⟩
    have hz4 := hb4.size
    have hB4 := hB3.trans (hb4.mono hB3.size)
    have hba4 := hba3.below hb4 (by omega)
    have hva4 := hva3.below (hb4.mono (by omega))
    have Hrd := Lib.hid (fun h => readR_spread ([10, 9] : List UInt8) hG va Hfa.out h)
    have hXl := sp_bd ([10, 9] : List UInt8) (by simp) va
    have hXl2 : (sp ([10, 9] : List UInt8) va).length ≤ 360000 := by omega
    clear hXl hb4 hba3 hva3 hB3 hG
    generalize sp ([10, 9] : List UInt8) va = X at *
    have c1 := add3 (P := Tryd.prog) 9 ([10, 9] : List UInt8) X (by simp only [List.length_cons, List.length_nil]; omega)
    have c2 := add3 (P := Tryd.prog) 9 (([10, 9] : List UInt8) ++ X) ([10, 9] : List UInt8) (by simp only [List.length_append, List.length_cons, List.length_nil]; omega)
    generalize hS : ([10, 9] : List UInt8) ++ X ++ ([10, 9] : List UInt8) = S at *
    generalize hS1 : ([10, 9] : List UInt8) ++ X = S1 at *
    clear hS hS1
    obtain ⟨p0, p1, p2, p3, p4, _, _, _, _, _⟩ := box_facts hba4
    by_cases hlen : 1200 < S.length
    · have hlb : decide ((1200 : Int) < (S.length : Int)) = true := by simp; omega
      go_wp2_with fail
      refine (hsure _ hB4).mono ?_
      rintro e y8 ⟨rfl, hb8⟩
      go_wp2_with fail
      go_ret
      exact ⟨rfl, hB4.trans (hb8.mono hB4.size)⟩
    have hlb : decide ((1200 : Int) < (S.length : Int)) = false := by simp; omega
    go_wp2_with fail
    refine (Check_any va _ y4 y1.heap.size (by omega) hva4 (Htab.out.on hB4).here (by omega)).mono ?_
    rintro e y5 ⟨rfl, hb5⟩
    have hz5 := hb5.size
    have hB5 := hB4.trans (hb5.mono hB4.size)
    have hba5 := hba4.below hb5 (by omega)
    have hva5 := hva4.below (hb5.mono (by omega))
    clear hb5 hba4 hva4 p0 p1 p2 p3 p4
    by_cases hc0 : checkN va = 0
    rotate_left
    · have hc1 : checkN va = 1 := by rcases Hck.out with h | h; exact absurd h hc0; exact h
      rw [hc1]
      go_wp2_with fail
      refine (hsure _ hB5).mono ?_
      rintro e y8 ⟨rfl, hb8⟩
      go_wp2_with fail
      go_ret
      exact ⟨rfl, hB5.trans (hb8.mono hB5.size)⟩
    have Hra := Lib.hid (Hrd.out (fit_of va Hfa.out (check_len hc0)))
    have Hc0 := Lib.hid hc0
    rw [hc0]
    clear hc0 Hrd
    go_wp2_with fail
    refine (Parse_all S y5 (by omega) (Htab.out.on hB5).here).mono ?_
    intro e y6 ho
    rcases ho with ⟨v, cs, _, hrd, _, rfl, hv, hb6⟩ | ⟨hne, _⟩
    rotate_left
    · exfalso
      apply hne
      unfold parseE
      rw [if_neg (by omega), Hra.out]
      exact Hc0.out
    rw [Hra.out] at hrd
    injection hrd with hrd
    subst hrd
    clear Hra Hc0
    obtain ⟨k3, m3, t3, Ak3, nk3, ck3, Ap3, np3, cp3, rfl⟩ := hv.form
    have hv6 := VInS.toB (B := y6.heap.size) (fun b hb => hb.2) _ _ hv
    have hv7 : VIn (y6.alloc (.cells #[.int .i64 k3, .int .i64 m3, str t3, .slice Ak3 nk3 ck3, .slice Ap3 np3 cp3] 25)) y6.heap.size va [.int .i64 k3, .int .i64 m3, str t3, .slice Ak3 nk3 ck3, .slice Ap3 np3 cp3] :=
      VIn.kept (fun p hp => World.cell?_alloc_lt _ _ p hp) _ _ hv6
    have hB6 := hB5.trans (hb6.mono hB5.size)
    have hB7 := hB6.alloc hB6.size (.cells #[.int .i64 k3, .int .i64 m3, str t3, .slice Ak3 nk3 ck3, .slice Ap3 np3 cp3] 25)
    have hbc7 := Blk.new y6 25 #[.int .i64 k3, .int .i64 m3, str t3, .slice Ak3 nk3 ck3, .slice Ap3 np3 cp3]
    have hz6 := hb6.size
    have hbl7 : Below y5.heap.size y5 (y6.alloc (.cells #[.int .i64 k3, .int .i64 m3, str t3, .slice Ak3 nk3 ck3, .slice Ap3 np3 cp3] 25)) := hb6.alloc hb6.size _
    have hba7 := hba5.below hbl7 (by omega)
    have hva7 := hva5.below (hbl7.mono (by omega))
    have hsz7 : (y6.alloc (.cells #[.int .i64 k3, .int .i64 m3, str t3, .slice Ak3 nk3 ck3, .slice Ap3 np3 cp3] 25)).heap.size = y6.heap.size + 1 := by simp
    clear hv hv6 hb6 hbl7 hba5 hva5 hB5
    go_wp2_with fail
    generalize (y6.alloc (.cells #[.int .i64 k3, .int .i64 m3, str t3, .slice Ak3 nk3 ck3, .slice Ap3 np3 cp3] 25)) = y7 at *
    refine (hsure _ hB7).mono ?_
    rintro e y8 ⟨rfl, hb8⟩
    have hz8 := hb8.size
    have hB8 := hB7.trans (hb8.mono hB7.size)
    have hba8 := hba7.below hb8 (by omega)
    have hbc8 := hbc7.below hb8 (by omega)
    have hva8 := hva7.below (hb8.mono (by omega))
    have hv8 := hv7.below (hb8.mono (by omega))
    obtain ⟨p0, p1, p2, p3, p4, _, _, _, _, _⟩ := box_facts hba8
    obtain ⟨r0, r1, r2, r3, r4, _, _, _, _, _⟩ := box_facts hbc8
    clear hba7 hbc7 hva7 hv7 hb8
    go_wp2_with fail
    refine (same_any 256 va va _ _ y8 y6.heap.size hcva (by omega) hv8 (VIn.wider (by omega) _ _ hva8)).mono ?_
    rintro e y9 ⟨bb, rfl, hbb, hb9⟩
    obtain rfl := hbb.2 rfl
    go_wp2_with fail
    go_ret
    exact ⟨rfl, hB8.trans (hb9.mono hB8.size)⟩
  · rw [h]
    clear h hr0 hr4
    have hG : Gap ([32, 32, 13] : List UInt8) := by unfold Gap; decide
    have hba3 := hba.alloc (.cells #[str [], str [32], str [10, 9], str [32, 32, 13]] 9)
    have hB3 := hB1.alloc hB1.size (.cells #[str [], str [32], str [10, 9], str [32, 32, 13]] 9)
    have hva3 : VIn (y2.alloc (.cells #[str [], str [32], str [10, 9], str [32, 32, 13]] 9)) y1.heap.size va [.int .i64 k1, .int .i64 m1, str t1, .slice Ak1 nk1 ck1, .slice Ap1 np1 cp1] :=
      VIn.kept (fun p hp => World.cell?_alloc_lt _ _ p (by omega)) _ _ hva2
    have hsz3 : (y2.alloc (.cells #[str [], str [32], str [10, 9], str [32, 32, 13]] 9)).heap.size = y1.heap.size + 2 := by simp; omega
    obtain ⟨p0, p1, p2, p3, p4, _, _, _, _, _⟩ := box_facts hba
    have hlt2 : y1.heap.size < y2.heap.size := by omega
    go_wp2_with fail
    generalize (y2.alloc (.cells #[str [], str [32], str [10, 9], str [32, 32, 13]] 9)) = y3 at *
    clear p0 p1 p2 p3 p4 hba hB1 hva2
    refine (spread_any ([32, 32, 13] : List UInt8) (by simp) 256 va _ y3 y1.heap.size hcva (by omega) Hfa.out (by omega) hva3 (Htab.out.on hB3).here).mono ?_
    rintro e y4 ⟨rfl, hb4⟩
    have hz4 := hb4.size
    have hB4 := hB3.trans (hb4.mono hB3.size)
    have hba4 := hba3.below hb4 (by omega)
    have hva4 := hva3.below (hb4.mono (by omega))
    have Hrd := Lib.hid (fun h => readR_spread ([32, 32, 13] : List UInt8) hG va Hfa.out h)
    have hXl := sp_bd ([32, 32, 13] : List UInt8) (by simp) va
    have hXl2 : (sp ([32, 32, 13] : List UInt8) va).length ≤ 360000 := by omega
    clear hXl hb4 hba3 hva3 hB3 hG
    generalize sp ([32, 32, 13] : List UInt8) va = X at *
    have c1 := add3 (P := Tryd.prog) 9 ([32, 32, 13] : List UInt8) X (by simp only [List.length_cons, List.length_nil]; omega)
    have c2 := add3 (P := Tryd.prog) 9 (([32, 32, 13] : List UInt8) ++ X) ([32, 32, 13] : List UInt8) (by simp only [List.length_append, List.length_cons, List.length_nil]; omega)
    generalize hS : ([32, 32, 13] : List UInt8) ++ X ++ ([32, 32, 13] : List UInt8) = S at *
    generalize hS1 : ([32, 32, 13] : List UInt8) ++ X = S1 at *
    clear hS hS1
    obtain ⟨p0, p1, p2, p3, p4, _, _, _, _, _⟩ := box_facts hba4
    by_cases hlen : 1200 < S.length
    · have hlb : decide ((1200 : Int) < (S.length : Int)) = true := by simp; omega
      go_wp2_with fail
      refine (hsure _ hB4).mono ?_
      rintro e y8 ⟨rfl, hb8⟩
      go_wp2_with fail
      go_ret
      exact ⟨rfl, hB4.trans (hb8.mono hB4.size)⟩
    have hlb : decide ((1200 : Int) < (S.length : Int)) = false := by simp; omega
    go_wp2_with fail
    refine (Check_any va _ y4 y1.heap.size (by omega) hva4 (Htab.out.on hB4).here (by omega)).mono ?_
    rintro e y5 ⟨rfl, hb5⟩
    have hz5 := hb5.size
    have hB5 := hB4.trans (hb5.mono hB4.size)
    have hba5 := hba4.below hb5 (by omega)
    have hva5 := hva4.below (hb5.mono (by omega))
    clear hb5 hba4 hva4 p0 p1 p2 p3 p4
    by_cases hc0 : checkN va = 0
    rotate_left
    · have hc1 : checkN va = 1 := by rcases Hck.out with h | h; exact absurd h hc0; exact h
      rw [hc1]
      go_wp2_with fail
      refine (hsure _ hB5).mono ?_
      rintro e y8 ⟨rfl, hb8⟩
      go_wp2_with fail
      go_ret
      exact ⟨rfl, hB5.trans (hb8.mono hB5.size)⟩
    have Hra := Lib.hid (Hrd.out (fit_of va Hfa.out (check_len hc0)))
    have Hc0 := Lib.hid hc0
    rw [hc0]
    clear hc0 Hrd
    go_wp2_with fail
    refine (Parse_all S y5 (by omega) (Htab.out.on hB5).here).mono ?_
    intro e y6 ho
    rcases ho with ⟨v, cs, _, hrd, _, rfl, hv, hb6⟩ | ⟨hne, _⟩
    rotate_left
    · exfalso
      apply hne
      unfold parseE
      rw [if_neg (by omega), Hra.out]
      exact Hc0.out
    rw [Hra.out] at hrd
    injection hrd with hrd
    subst hrd
    clear Hra Hc0
    obtain ⟨k3, m3, t3, Ak3, nk3, ck3, Ap3, np3, cp3, rfl⟩ := hv.form
    have hv6 := VInS.toB (B := y6.heap.size) (fun b hb => hb.2) _ _ hv
    have hv7 : VIn (y6.alloc (.cells #[.int .i64 k3, .int .i64 m3, str t3, .slice Ak3 nk3 ck3, .slice Ap3 np3 cp3] 25)) y6.heap.size va [.int .i64 k3, .int .i64 m3, str t3, .slice Ak3 nk3 ck3, .slice Ap3 np3 cp3] :=
      VIn.kept (fun p hp => World.cell?_alloc_lt _ _ p hp) _ _ hv6
    have hB6 := hB5.trans (hb6.mono hB5.size)
    have hB7 := hB6.alloc hB6.size (.cells #[.int .i64 k3, .int .i64 m3, str t3, .slice Ak3 nk3 ck3, .slice Ap3 np3 cp3] 25)
    have hbc7 := Blk.new y6 25 #[.int .i64 k3, .int .i64 m3, str t3, .slice Ak3 nk3 ck3, .slice Ap3 np3 cp3]
    have hz6 := hb6.size
    have hbl7 : Below y5.heap.size y5 (y6.alloc (.cells #[.int .i64 k3, .int .i64 m3, str t3, .slice Ak3 nk3 ck3, .slice Ap3 np3 cp3] 25)) := hb6.alloc hb6.size _
    have hba7 := hba5.below hbl7 (by omega)
    have hva7 := hva5.below (hbl7.mono (by omega))
    have hsz7 : (y6.alloc (.cells #[.int .i64 k3, .int .i64 m3, str t3, .slice Ak3 nk3 ck3, .slice Ap3 np3 cp3] 25)).heap.size = y6.heap.size + 1 := by simp
    clear hv hv6 hb6 hbl7 hba5 hva5 hB5
    go_wp2_with fail
    generalize (y6.alloc (.cells #[.int .i64 k3, .int .i64 m3, str t3, .slice Ak3 nk3 ck3, .slice Ap3 np3 cp3] 25)) = y7 at *
    refine (hsure _ hB7).mono ?_
    rintro e y8 ⟨rfl, hb8⟩
    have hz8 := hb8.size
    have hB8 := hB7.trans (hb8.mono hB7.size)
    have hba8 := hba7.below hb8 (by omega)
    have hbc8 := hbc7.below hb8 (by omega)
    have hva8 := hva7.below (hb8.mono (by omega))
    have hv8 := hv7.below (hb8.mono (by omega))
    obtain ⟨p0, p1, p2, p3, p4, _, _, _, _, _⟩ := box_facts hba8
    obtain ⟨r0, r1, r2, r3, r4, _, _, _, _, _⟩ := box_facts hbc8
    clear hba7 hbc7 hva7 hv7 hb8
    go_wp2_with fail
    refine (same_any 256 va va _ _ y8 y6.heap.size hcva (by omega) hv8 (VIn.wider (by omega) _ _ hva8)).mono ?_
    rintro e y9 ⟨bb, rfl, hbb, hb9⟩
    obtain rfl := hbb.2 rfl
    go_wp2_with fail
    go_ret
    exact ⟨rfl, hB8.trans (hb9.mono hB8.size)⟩
namespace jsonSpread
open Go.ChangeShapes Go.WideShapes Go.ChangeAt Go.RowKit
theorem own : ownKnob Tryd.prog.godebug = none := by kernel_rfl
theorem laidOut : laidOutB Tryd.prog = true := by kernel_rfl
set_option linter.unusedVariables false
theorem laid_met (os : Os) : laidMet Tryd.prog Rows.jsonSpreadRow.laid ((laidWorld os).forCall (fun _ _ => 0) ⟨#[], #[.slice none 0 0, .int .i64 0], []⟩).memory :=
  laidMet_of_run' 8 (by kernel_rfl) (by kernel_rfl)
theorem reads (os : Os) {H : Type} (enc : TypeId × Value → H) : ∃ places, DataW.whole enc Tryd.prog ((laidWorld os).forCall (fun _ _ => 0) ⟨#[], #[.slice none 0 0, .int .i64 0], []⟩).memory Tryd.f7.params.toList Rows.jsonSpreadSpec.vars false #[Value.slice none 0 0, Value.int .i64 0].toList 8 = some ([.nil, .lit (.int .i64 0)], [], places) :=
  ⟨[], by kernel_rfl⟩
set_option maxRecDepth 100000 in
theorem contract (H : Type) (enc : TypeId × Value → H) (W : World) (base : Nat) (args : Array Value) (ds gs : List (DataW H)) (before : List MemPlace)
    (hval0 : ∀ (j : Nat) t v, Tryd.f7.params[j]? = some t → args[j]? = some v → Value.okWide Tryd.prog W .any base t v)
    (hW : DataW.Whole enc Tryd.prog Tryd.f7.params.toList Rows.jsonSpreadSpec.vars false W args.toList ds gs before) (hL : laidMetH Tryd.prog Rows.jsonSpreadRow.laid W) :
    Calls Tryd.prog 7 args W fun e W' => ∃ v, e = .returned v ∧ Rows.jsonSpreadSpec.post enc Tryd.prog Tryd.f7 false true false false W args v W' := by
  have hval : ∀ (j : Nat) t v, Tryd.f7.params[j]? = some t → args[j]? = some v → Value.okWide Tryd.prog W .any base t v := hval0
  have hW' := hW
  obtain ⟨p, q, hA0, hV, rfl, hfz, hnd⟩ := hW
  have hA : DataW.TrodAll enc Tryd.prog W 0 (fun _ => true) true Tryd.f7.params.toList args.toList ds p := hA0
  rw [Tryd.params7] at hA hval
  obtain ⟨v0, vs0, d0, ds0, p0, q0, hargs, rfl, rfl, h0, r0⟩ := trodAll_cons hA
  obtain ⟨v1, vs1, d1, ds1, p1, q1, rfl, rfl, rfl, h1, r1⟩ := trodAll_cons r0
  obtain ⟨rfl, rfl, rfl⟩ := trodAll_nil r1
  obtain rfl : args = #[v0, v1] := by cases args; simp_all
  obtain ⟨rfl, rfl⟩ := trodVars_none hV
  have k0 := h0
  have lt0 : ∀ x ∈ p0, x.block < W.heap.size := by obtain ⟨m, hm⟩ := k0; exact DataW.trod_lt m _ _ _ hm
  obtain ⟨A0, n0, c0, rfl, hx0⟩ := open_intsl Tryd.underlying35 Tryd.underlying3 (by kernel_rfl) (hval 0 35 v0 rfl rfl) h0
  have k1 := h1
  have lt1 : ∀ x ∈ p1, x.block < W.heap.size := by obtain ⟨m, hm⟩ := k1; exact DataW.trod_lt m _ _ _ hm
  obtain ⟨x1, rfl, hx1⟩ := open_i64 Tryd.underlying3 (hval 1 3 v1 rfl rfl) h1
  clear hA0 hval0
  refine (walkJsonSpread A0 n0 c0 x1 W hx0 hx1 (laidTab hL)).mono fun e W' ⟨he, bel⟩ => ?_
  subst he
  exact ⟨_, rfl, _, _, _, [], _, [], hW', trodAll_mk1 (shut_bool Tryd.underlying4 _), (trodAll_cons_mk (Below.trod laidOut (by kernel_rfl) (of_decide_eq_true (by kernel_rfl)) k0 bel lt0) (trodAll_cons_mk (Below.trod laidOut (by kernel_rfl) (of_decide_eq_true (by kernel_rfl)) k1 bel lt1) trodAll_mk0)), rfl, bel.frame _, fun h => by cases h⟩
set_option maxRecDepth 100000 in
theorem lifted (os : Os) (started : os.Started) (H : Type) (enc : TypeId × Value → H) (F : Stop.Interp) :
    ReturnsInHanded {} Tryd.checked os 7 .any ((OpenSpec.ofChange Rows.jsonSpreadSpec).preRow enc Tryd.prog Tryd.f7 Rows.jsonSpreadRow.domain false Rows.jsonSpreadRow.laid) (((OpenSpec.ofChange Rows.jsonSpreadSpec).at F).post enc Tryd.prog Tryd.f7 false true false false) := by
  obtain ⟨places, hx⟩ := reads os enc
  refine returnsInHanded_of_row (C := Tryd.checked) (s := OpenSpec.ofChange Rows.jsonSpreadSpec) own started (by kernel_rfl) Tryd.func7
    (witness_row_at (enc := enc) (C := Tryd.checked) false (laidWorld os) #[.slice none 0 0, .int .i64 0] rfl (by kernel_rfl) (by kernel_rfl) (by kernel_rfl)
      (OpenSpec.preRow_of_cond 8 hx (by kernel_rfl) (fun k hk => by cases hk) (by kernel_rfl) (laid_met os))) ?_
  intro W base args ds gs before hval hW _ _ _ hL _ _
  exact contract H enc W base args ds gs before hval hW hL
theorem said : Rows.JsonSpreadSaid :=
  OpenClaim.holds_of_cond 7 Tryd.f7 rfl rfl rfl rfl rfl rfl rfl ⟨rfl, rfl, rfl, rfl, rfl⟩ rfl rfl rfl rfl rfl (by kernel_rfl) Tryd.func7 (by kernel_rfl)
    (of_decide_eq_true (by kernel_rfl)) (by unfold Func.isWrapper; first | (rw [if_pos (by decide +kernel)]; kernel_rfl) | (rw [if_neg (by decide +kernel)]; exact ⟨rfl, rfl⟩))
    (fun os started H enc _ F => by rw [OpenClaim.pre_eq_preRow]; exact lifted os started H enc F)
theorem plain (f : FuncId) (fn : Func) (hf : Tryd.pinned.checked.prog.funcNamed "bagnall/bagnallkeep.JsonSpread" = some f) (hfn : Tryd.pinned.checked.prog.funcs[f]? = some fn) :
    false = Tryd.pinned.checked.prog.looks [] ∧ ∀ (j : Nat) t, fn.params[j]? = some t → Tryd.pinned.checked.prog.wantsStandIn t = false := by
  obtain rfl : f = 7 := Option.some.inj ((show Tryd.prog.funcNamed "bagnall/bagnallkeep.JsonSpread" = some 7 by kernel_rfl).symm.trans hf) |>.symm
  obtain rfl : fn = Tryd.f7 := (Option.some.inj (Tryd.func7.symm.trans hfn)).symm
  refine ⟨by kernel_rfl, fun j t ht => ?_⟩
  rw [Tryd.params7] at ht
  have hm := Array.mem_of_getElem? ht
  have hm2 : t = 35 ∨ t = 3 := by simpa using hm
  rcases hm2 with rfl | rfl
  · exact (show Tryd.prog.wantsStandIn 35 = false by kernel_rfl)
  · exact (show Tryd.prog.wantsStandIn 3 = false by kernel_rfl)
theorem proved : Rows.JsonSpreadCardSaid :=
  Claim7.holds_tied_plain_at .later [] _ _ _ _ said (fun _ h => by cases h) (by kernel_rfl) (fun _ h => by cases h) jsonSpread_row_tie rfl ⟨rfl, rfl⟩ (by kernel_rfl) rfl plain (by kernel_rfl)
#print axioms proved
end jsonSpread
end Go.Proofs.YtbinoohmblkibaaDoor
