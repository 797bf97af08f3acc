/- seal.Text: what the call returns. -/
import Derived.Test.YtbdbcffnjibjoaaGreatDoorSlWo
namespace Go.Proofs.YtbdbcffnjibjoaaGreatDoor
set_option linter.unusedVariables false
set_option linter.unusedSimpArgs false
open Go.RowKit
attribute [local go_sem high] str_mk
theorem strip_count (v : JV) : count (strip v) ≤ count v := by
  cases v with
  | mk k n t ks ps =>
  have := wo_counts ks ps
  simp only [count, strip, JV.keys, JV.parts]; omega
theorem textR_ok {v : JV} (h : checkN v = 0) : textR v = .tuple #[str (jtext v), .int .i64 0] := by
  unfold textR; rw [if_pos h, h]
theorem sTextR_ok {v : JV} (h : sTextN v = 0) : sTextR v = .tuple #[str (jtext (strip v)), .int .i64 0] := by
  unfold sTextR; rw [(sText_facts h).2.2.1, h]
theorem sTextR_no {v : JV} {e : Int} (h : sTextN v = e) (he : e ≠ 0) : sTextR v = .tuple #[str [], .int .i64 e] := by
  unfold sTextR sTextL; rw [h, if_neg he]
theorem VIn.kind {w : World} {B : Nat} {v : JV} {k : Int} {r : List Value} (h : VIn w B v (.int .i64 k :: r)) : v.kind = k := by
  cases v; unfold VIn at h; obtain ⟨_, _, _, _, _, e, _⟩ := h; injection e with e1 _; injection e1 with _ e1; exact e1.symm
theorem fine_check {v : JV} (h : checkN v = 0) : Fine v := fine_of 0 v (check_facts h).1
theorem fine_keys {v : JV} (h : Fine v) : v.keys.length ≤ v.parts.length := by
  cases v; exact (fine_obj h).1
set_option maxRecDepth 100000 in
set_option maxHeartbeats 2000000 in
theorem sealText_any (v : JV) (cs : List Value) (w : World) (B : Nat) (hB : B ≤ w.heap.size) (hv : VIn w B v cs) (htab : Tab w.heap.size w) (hcnt : count v ≤ 1073741824) :
    Calls Tryz.prog 21 #[.agg cs.toArray] w fun e w' => e = .returned (sTextR v) ∧ Below w.heap.size w w' := by
  obtain ⟨k, n, t, Ak, nk, ck, Ap, np, cp, rfl⟩ := hv.form
  have hkind := hv.kind
  have Hk := Lib.hid hkind
  clear hkind
  have hW : Below w.heap.size w (w.alloc (.cells #[.int .i64 k, .int .i64 n, str t, .slice Ak nk ck, .slice Ap np cp] 25)) := (Below.refl _ _).alloc (Nat.le_refl _) _
  have hbox := (Blk.new w 25 #[.int .i64 k, .int .i64 n, str t, .slice Ak nk ck, .slice Ap np cp])
  have HW := Lib.hid hW
  have Hbox := Lib.hid hbox
  clear hW hbox
  have HN := Lib.hid (show sTextN v = if checkN v ≠ 0 then checkN v else if v.kind ≠ 7 then 4 else 0 from rfl)
  go_enter Tryz.func21, Tryz.ntmps21
  go_wp2_with fail
  refine (Check_any v _ _ B (Nat.le_trans hB HW.out.size) (hv.below (HW.out.mono hB)) (htab.on HW.out).here hcnt).mono ?_
  rintro e w1 ⟨rfl, hb1⟩
  have hw1 : Below w.heap.size w w1 := HW.out.trans (hb1.mono HW.out.size)
  obtain ⟨c0, c1, c2, c3, c4, -, -, -, -, -⟩ := sl_box (Hbox.out.below hb1 (by simp))
  clear hb1
  by_cases hf : checkN v = 0
  · have Hf := Lib.hid hf
    rw [hf]
    by_cases h7 : k = 7
    · subst h7
      have HN0 := Lib.hid (show sTextN v = 0 by rw [HN.out, if_neg (by simpa using hf), if_neg (by simp [Hk.out])])
      have hA : Below w1.heap.size w1 (w1.alloc (.cells #[str [115, 105, 103, 110, 97, 116, 117, 114, 101, 115], str [117, 110, 115, 105, 103, 110, 101, 100]] 9)) := (Below.refl _ _).alloc (Nat.le_refl _) _
      have hho : Holds (w1.alloc (.cells #[str [115, 105, 103, 110, 97, 116, 117, 114, 101, 115], str [117, 110, 115, 105, 103, 110, 101, 100]] 9)) (w1.alloc (.cells #[str [115, 105, 103, 110, 97, 116, 117, 114, 101, 115], str [117, 110, 115, 105, 103, 110, 101, 100]] 9)).heap.size 1 (some ⟨w1.heap.size, 0, none⟩) 2 [str sigK, str unsK] := by
        refine ⟨rfl, fun _ => ⟨w1.heap.size, 0, rfl, by simp, fun j u hu => ?_⟩⟩
        rw [Nat.zero_add, (Blk.new w1 9 _).cell j]
        simpa [sigK, unsK] using hu
      have Hho := Lib.hid hho
      have HA := Lib.hid hA
      clear hho hA hf
      go_wp2_with fail
      refine (without_any v _ _ 2 _ B ?_ ?_ (fine_keys (fine_check Hf.out)) Hho.out).mono ?_
      · exact Nat.le_trans (Nat.le_trans hB hw1.size) HA.out.size
      · exact (hv.below (hw1.mono hB)).below (HA.out.mono (Nat.le_trans hB hw1.size))
      rintro e w2 ⟨cs', rfl, hv', hb2⟩
      have hw2 : Below w.heap.size w w2 := hw1.trans ((HA.out.mono hw1.size).trans (hb2.mono (Nat.le_trans hw1.size HA.out.size)))
      obtain ⟨k', n', t', Ak', nk', ck', Ap', np', cp', rfl⟩ := hv'.form
      go_wp2_with fail
      refine (Text_any (strip v) _ _ w2.heap.size (Nat.le_refl _) hv' (htab.on hw2).here (Nat.le_trans (strip_count v) hcnt)).mono ?_
      rintro e w3 ⟨rfl, hb3⟩
      rw [textR_ok (strip_check Hf.out Hk.out)]
      go_wp2_with fail
      go_ret2
      exact ⟨by rw [sTextR_ok HN0.out]; rfl, hw2.trans (hb3.mono hw2.size)⟩
    · have HN0 := Lib.hid (show sTextN v = 4 by rw [HN.out, if_neg (by simpa using hf), if_pos (by rw [Hk.out]; exact h7)])
      have h7b : (k != 7) = true := by simpa using h7
      go_wp2_with fail
      go_ret2
      exact ⟨by rw [sTextR_no HN0.out (by omega)]; rfl, hw1⟩
  · have HN0 := Lib.hid (show sTextN v = checkN v by rw [HN.out, if_pos hf])
    have Hf := Lib.hid hf
    generalize checkN v = a at *
    have hab : (a != 0) = true := by simpa using hf
    go_wp2_with fail
    go_ret2
    exact ⟨by rw [sTextR_no HN0.out Hf.out]; rfl, hw1⟩
end Go.Proofs.YtbdbcffnjibjoaaGreatDoor
