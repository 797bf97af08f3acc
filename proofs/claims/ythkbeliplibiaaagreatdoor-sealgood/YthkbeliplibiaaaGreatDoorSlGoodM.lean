/- The rows of an object with something unsigned put in (statement SealGood). -/
import Derived.Test.YthkbeliplibiaaaGreatDoorSlGood
namespace Go.Proofs.YthkbeliplibiaaaGreatDoor
set_option linter.unusedVariables false
set_option linter.unusedSimpArgs false
open Go.RowKit
theorem PIn.ins {w : World} {B : Nat} {v : JV} {c : List Value} (hv : VIn w B v c) : ∀ {ps : List JV} {pc : List Value} (i : Nat), i ≤ ps.length → PIn w B ps pc → PIn w B (ps.insertIdx i v) (pc.take (i * 5) ++ c ++ pc.drop (i * 5))
  | ps, pc, 0, _, h => by
    rw [List.insertIdx_zero]
    unfold PIn
    exact ⟨c, pc, by simp, hv, h⟩
  | [], pc, i + 1, hi, h => by simp at hi
  | p :: r, pc, i + 1, hi, h => by
    rw [List.insertIdx_succ_cons]
    unfold PIn at h ⊢
    obtain ⟨c', rest, rfl, h2, h3⟩ := h
    have hl := h2.len
    refine ⟨c', rest.take (i * 5) ++ c ++ rest.drop (i * 5), ?_, h2, PIn.ins hv i (by simpa using hi) h3⟩
    rw [show (i + 1) * 5 = c'.length + i * 5 by omega, List.take_length_add_append, List.drop_length_add_append]
    simp
def fiveC : List Value := [.int .i64 4, .int .i64 5, str [], .slice none 0 0, .slice none 0 0]
theorem nu5_in (W : World) (B : Nat) : VIn W B (nuJ 5) fiveC := by
  unfold nuJ VIn
  exact ⟨none, 0, none, 0, [], rfl, by omega, by omega, by simp, by simp, by simp, by simp, by simp, by simp, Holds.empty, Holds.empty, by unfold PIn; rfl⟩
/-- The object with the unsigned number, out of its two rows. -/
theorem uns_in {W : World} {B : Nat} {J : JV} {A8 A9 : Option Addr} {c8 c9 b8 b9 nk pl : Nat} {pc : List Value} (hpl : pl = place J.keys unsK) (h8 : W.ownsRow b8 9 1 (.slice A8 (nk + 1) c8) (nk + 1) ((J.keys.insertIdx pl unsK).map str)) (h9 : W.ownsRow b9 25 5 (.slice A9 (nk + 1) c9) (nk + 1) (pc.take (pl * 5) ++ fiveC ++ pc.drop (pl * 5)))
    (hp : PIn W B J.parts pc) (hB : B ≤ W.heap.size) (hk : nk = J.keys.length) (hn : nk = J.parts.length) (hk1 : nk ≤ 5) (hs : ∀ s ∈ J.keys, s.length ≤ 1048576) :
    VIn W W.heap.size (insO unsK J (nuJ 5)) [.int .i64 7, .int .i64 0, str [], .slice A8 (nk + 1) c8, .slice A9 (nk + 1) c9] := by
  subst hpl
  have hple := place_le J.keys unsK
  have e1 : nk + 1 = (J.keys.insertIdx (place J.keys unsK) unsK).length := by rw [ins_len _ _ _ hple]; omega
  have e2 : nk + 1 = (J.parts.insertIdx (place J.keys unsK) (nuJ 5)).length := by rw [ins_len _ _ _ (by omega)]; omega
  have g8 := Holds.own h8
  have g9 := Holds.own h9
  have k8 := sl_own_cap h8
  have k9 := sl_own_cap h9
  have hpp := PIn.ins (nu5_in W B) (place J.keys unsK) (by omega) hp
  unfold insO VIn
  refine ⟨A8, c8, A9, c9, pc.take (place J.keys unsK * 5) ++ fiveC ++ pc.drop (place J.keys unsK * 5), by rw [← e1, ← e2], by omega, by omega, by simp, by omega, by omega, ?_, by omega, by omega, by rw [← e1]; exact g8, by rw [← e2]; exact g9, PIn.wider hB _ _ hpp⟩
  intro s hs'
  rcases mem_ins _ _ hs' with rfl | hs'
  · decide
  · exact hs s hs'
theorem len_25 {pc : List Value} (h : pc.length = 25) : ∃ q a b c d e, pc = q ++ [a, b, c, d, e] ∧ q.length = 20 := by
  refine ⟨pc.take 20, pc[20], pc[21], pc[22], pc[23], pc[24], ?_, by simp [h]⟩
  apply List.ext_getElem
  · simp [h]
  · intro i h1 h2
    by_cases hi : i < 20
    · rw [List.getElem_append_left (by simp; omega)]; simp
    · rw [List.getElem_append_right (by simp; omega)]
      have : i = 20 ∨ i = 21 ∨ i = 22 ∨ i = 23 ∨ i = 24 := by omega
      simp only [List.length_take, h]
      rcases this with rfl | rfl | rfl | rfl | rfl <;> simp
theorem swap_parts {q : List Value} (hq : q.length = 20) (a b c d e f0 f1 f2 f3 f4 : Value) :
    ((((((((((q ++ [a, b, c, d, e] ++ [f0, f1, f2, f3, f4]).set 20 f0).set 21 f1).set 22 f2).set 23 f3).set 24 f4).set 25 a).set 26 b).set 27 c).set 28 d).set 29 e = (q ++ [a, b, c, d, e]).take 20 ++ [f0, f1, f2, f3, f4] ++ (q ++ [a, b, c, d, e]).drop 20 := by
  rw [← hq, List.take_left, List.drop_left, List.append_assoc]
  simp only [List.set_append_right, Nat.le_refl, Nat.le_add_right, Nat.sub_self, Nat.add_sub_cancel_left, hq]
  rw [List.append_assoc]
  simp [List.set_append_right, hq]
theorem swap_keys {l : List (List UInt8)} {k4 u : List UInt8} (h : l.length = 5) (h4 : l[4]? = some k4) : (((l ++ [u]).map str).set 4 (str u)).set 5 (str k4) = (l.insertIdx 4 u).map str := by
  match l, h with
  | [x0, x1, x2, x3, x4], _ =>
    simp at h4
    subst h4
    simp
end Go.Proofs.YthkbeliplibiaaaGreatDoor
