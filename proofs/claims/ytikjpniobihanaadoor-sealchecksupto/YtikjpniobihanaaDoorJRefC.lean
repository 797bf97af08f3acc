/- The document's own JsonFault and JsonText: what each call returns. -/
import Derived.Test.YtikjpniobihanaaDoorJRefX
namespace Go.Proofs.YtikjpniobihanaaDoor
set_option linter.unusedVariables false
set_option linter.unusedSimpArgs false
open Go.RowKit
attribute [local go_sem high] str_mk
theorem counts_one (v : JV) : counts [v] = count v := by simp [counts]

set_option maxRecDepth 100000 in
set_option maxHeartbeats 4000000 in
theorem refCheck_any (v : JV) (cs : List Value) (w : World) (B : Nat) (hB : B ≤ w.heap.size) (hv : VIn w B v cs) (hcnt : count v ≤ 4611686018427387904) :
    Calls Tryd.prog 23 #[.agg cs.toArray] w fun e w' => e = .returned (.int .i64 (checkN v)) ∧ Below w.heap.size w w' := by
  obtain ⟨k, n, t, Ak, nk, ck, Ap, np, cp, rfl⟩ : ∃ k n t Ak nk ck Ap np cp, cs = [.int .i64 k, .int .i64 n, str t, .slice Ak nk ck, .slice Ap np cp] := by
    cases v; unfold VIn at hv; obtain ⟨Ak, ck, Ap, cp, pc, rfl, _⟩ := hv; exact ⟨_, _, _, _, _, _, _, _, _, rfl⟩
  have Hc := Lib.hid (show checkN v = if fault 0 v ≠ 0 then fault 0 v else if 100 < count v ∨ 600 < (jtext v).length then 1 else 0 from rfl)
  have hW : Below w.heap.size w (w.alloc (.cells #[.int .i64 k, .int .i64 n, str t, .slice Ak nk ck, .slice Ap np cp] 25)) := (Below.refl _ _).alloc (Nat.le_refl _) _
  have hbA := Blk.new w 25 #[.int .i64 k, .int .i64 n, str t, .slice Ak nk ck, .slice Ap np cp]
  have hv1 : VIn (w.alloc (.cells #[.int .i64 k, .int .i64 n, str t, .slice Ak nk ck, .slice Ap np cp] 25)) B v [.int .i64 k, .int .i64 n, str t, .slice Ak nk ck, .slice Ap np cp] := VIn.kept (fun p hp => World.cell?_alloc_lt _ _ p (by omega)) _ _ hv
  have hsz1 : (w.alloc (.cells #[.int .i64 k, .int .i64 n, str t, .slice Ak nk ck, .slice Ap np cp] 25)).heap.size = w.heap.size + 1 := by simp
  have HW := Lib.hid hW
  have HbA := Lib.hid hbA
  have Hv1 := Lib.hid hv1
  have Hsz1 := Lib.hid hsz1
  clear hW hbA hv1 hsz1
  go_enter Tryd.func23, Tryd.ntmps23
  go_wp2_with fail
  have hW := HW.out
  have hbA := HbA.out
  have hv1 := Hv1.out
  have hsz1 := Hsz1.out
  generalize (w.alloc (.cells #[.int .i64 k, .int .i64 n, str t, .slice Ak nk ck, .slice Ap np cp] 25)) = W0 at *
  clear HW HbA Hv1 Hsz1
  refine (refFault_any 7 v 0 _ W0 B (by omega) (by omega) (by omega) hv1).mono ?_
  rintro e w1 ⟨rfl, hb1⟩
  have hw1 := hW.trans (hb1.mono hW.size)
  have hz1 := hb1.size
  have hbA1 := hbA.below hb1 (by omega)
  have hv2 := hv1.below (hb1.mono (by omega))
  by_cases hf : fault 0 v = 0
  rotate_left
  · have Hf := Lib.hid (show checkN v = fault 0 v by rw [Hc.out, if_pos hf])
    clear Hc
    generalize fault 0 v = a at *
    have hab : (a != 0) = true := by simpa using hf
    go_wp2_with fail
    go_ret
    exact ⟨by rw [Hf.out]; rfl, hw1⟩
  have Hfine := Lib.hid (fine_of 0 v hf)
  have Hc2 := Lib.hid (show checkN v = if 100 < count v ∨ 600 < (jtext v).length then 1 else 0 by rw [Hc.out, if_neg (by simpa using hf)])
  rw [hf]
  clear Hc hf hbA hv1
  obtain ⟨c0, c1, c2, c3, c4, _, _, _, _, _⟩ := box_facts2 hbA1
  have hw2 := hw1.alloc hw1.size (.cells #[.int .i64 k, .int .i64 n, str t, .slice Ak nk ck, .slice Ap np cp] 25)
  have hbN := Blk.new w1 25 #[.int .i64 k, .int .i64 n, str t, .slice Ak nk ck, .slice Ap np cp]
  have hbA2 := hbA1.alloc (.cells #[.int .i64 k, .int .i64 n, str t, .slice Ak nk ck, .slice Ap np cp] 25)
  have hv3 : VIn (w1.alloc (.cells #[.int .i64 k, .int .i64 n, str t, .slice Ak nk ck, .slice Ap np cp] 25)) B v [.int .i64 k, .int .i64 n, str t, .slice Ak nk ck, .slice Ap np cp] := VIn.kept (fun p hp => World.cell?_alloc_lt _ _ p (by omega)) _ _ hv2
  have hsz2 : (w1.alloc (.cells #[.int .i64 k, .int .i64 n, str t, .slice Ak nk ck, .slice Ap np cp] 25)).heap.size = w1.heap.size + 1 := by simp
  have hh : Holds (w1.alloc (.cells #[.int .i64 k, .int .i64 n, str t, .slice Ak nk ck, .slice Ap np cp] 25)) (w1.heap.size + 1) 5 (some ⟨w1.heap.size, 0, none⟩) [v].length [.int .i64 k, .int .i64 n, str t, .slice Ak nk ck, .slice Ap np cp] :=
    ⟨rfl, fun _ => ⟨w1.heap.size, 0, rfl, by omega, fun j u hu => by rw [Nat.zero_add, hbN.cell j]; simpa using hu⟩⟩
  have hpi : PIn (w1.alloc (.cells #[.int .i64 k, .int .i64 n, str t, .slice Ak nk ck, .slice Ap np cp] 25)) (w1.heap.size + 1) [v] [.int .i64 k, .int .i64 n, str t, .slice Ak nk ck, .slice Ap np cp] := by
    unfold PIn
    exact ⟨_, [], rfl, VIn.wider (by omega) _ _ hv3, by unfold PIn; rfl⟩
  have Hcount := Lib.hid (refCount_any (counts [v]) [v] _ _ 1 _ _ (Nat.le_refl _) (by rw [counts_one]; exact hcnt) (by rw [hsz2]; exact Nat.le_refl _) hh hpi)
  rw [counts_one] at Hcount
  have Hw2 := Lib.hid hw2
  have HbA2 := Lib.hid hbA2
  have Hv3 := Lib.hid hv3
  have Hsz2 := Lib.hid hsz2
  clear hh hpi hbN hv2 hw2 hbA2 hv3 hsz2
  go_wp2_with fail
  refine Hcount.out.mono ?_
  rintro e w3 ⟨rfl, hb3⟩
  have hw3 := Hw2.out.trans (hb3.mono Hw2.out.size)
  have hz3 := hb3.size
  rw [Hsz2.out] at hz3
  have hbA3 := HbA2.out.below hb3 (by rw [Hsz2.out]; omega)
  have hv4 := Hv3.out.below (hb3.mono (by rw [Hsz2.out]; omega))
  by_cases h100 : 100 < count v
  · have h100b : decide ((100 : Int) < (count v : Int)) = true := decide_eq_true (by omega)
    go_wp2_with fail
    go_ret
    exact ⟨by rw [Hc2.out, if_pos (.inl h100)]; rfl, hw3⟩
  have h100b : decide ((100 : Int) < (count v : Int)) = false := decide_eq_false (by omega)
  have hcle : count v ≤ 100 := by omega
  obtain ⟨d0, d1, d2, d3, d4, _, _, _, _, _⟩ := box_facts2 hbA3
  clear c0 c1 c2 c3 c4
  go_wp2_with fail
  refine (refJText_any 100 v _ w3 B hcle (by omega) Hfine.out (by omega) hv4).mono ?_
  rintro e w4 ⟨rfl, hb4⟩
  have hw4 := hw3.trans (hb4.mono hw3.size)
  by_cases h600 : 600 < (jtext v).length
  · have h6b : decide ((600 : Int) < ((jtext v).length : Int)) = true := decide_eq_true (by omega)
    generalize jtext v = T at *
    go_wp2_with fail
    go_ret
    exact ⟨by rw [Hc2.out, if_pos (.inr h600)]; rfl, hw4⟩
  · have h6b : decide ((600 : Int) < ((jtext v).length : Int)) = false := decide_eq_false (by omega)
    generalize jtext v = T at *
    go_wp2_with fail
    go_ret
    exact ⟨by rw [Hc2.out, if_neg (by rintro (h | h); exact h100 h; exact h600 h)]; rfl, hw4⟩

end Go.Proofs.YtikjpniobihanaaDoor
