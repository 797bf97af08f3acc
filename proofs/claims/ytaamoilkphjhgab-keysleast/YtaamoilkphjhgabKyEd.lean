/- One-time keys: the claims that the statements add. -/
import Derived.Test.YtaamoilkphjhgabKyCe
import Derived.Test.YtaamoilkphjhgabKyClm
namespace Go.Proofs.Ytaamoilkphjhgab
set_option linter.unusedVariables false
set_option linter.unusedSimpArgs false
open Go.RowKit
def edS : List UInt8 := [101, 100]
theorem edS_ok : sortR edS = 0 := by decide +kernel
theorem by_new {l : List Ak} (hok : ∀ a ∈ l, OkA a) (S : List UInt8) {b : Int} (hb : 10 ≤ b) : getA (asksR ks0 l).2.cl (S, b) = none := by
  refine asks_cl_new l rfl fun a ha hk => ?_
  obtain ⟨_, h⟩ := hok a ha
  rcases h with ⟨h1, _⟩ | ⟨_, _, _, h2, h3⟩ | ⟨h1, _⟩
  · omega
  · show a.by_ ≠ b; omega
  · omega
theorem clm_ok (b : Int) (h : 0 ≤ b ∧ b ≤ 1000) : AkOk (clm edS b) := ⟨by simp [clm, edS], by simp [clm], by simp [clm], by show -9223372036854775808 ≤ b; omega, by show b ≤ 9223372036854775807; omega⟩
theorem clms_ok : ∀ (cnt : Nat) (st : Int), 0 ≤ st → st + cnt ≤ 1000 → ∀ a ∈ clms edS st cnt, AkOk a
  | 0, _, _, _, a, ha => by cases ha
  | cnt + 1, st, h1, h2, a, ha => by
    rcases List.mem_cons.1 ha with rfl | ha
    · exact clm_ok st (by omega)
    · exact clms_ok cnt (st + 1) (by omega) (by push_cast at h2; omega) a ha
/-- One ask more behind a row of the call's own. -/
theorem ask_more {wr w : World} {n : Nat} {v : Value} {l : List Ak} (a : Ak) (cs : Array Value) (hcs : cs = (akL a).toArray) (ho : wr.ownsRow w.heap.size 35 5 v n (pcK akL l)) (hbe : Below w.heap.size w wr) (hn : n + 1 ≤ 1000) :
    ∃ v' wf, (Builtin.append_ #[22, 22] 22 #[v, .slice (some ⟨wr.heap.size, 0, none⟩) 1 1]).run Try.prog (wr.alloc (.cells cs 35)) = .ok v' wf ∧
      wf.ownsRow w.heap.size 35 5 v' (n + 1) (pcK akL (l ++ [a])) ∧ Below w.heap.size w wf := by
  obtain ⟨v', wf, hrun, ho', hg', -⟩ := run_app_el (P := Try.prog) (enc := akL) akL_len akL_one (by omega) Try.underlying22 info_ask rfl (by omega) wr w.heap.size n v l a cs hcs ho (by omega) hbe.size
  exact ⟨v', wf, hrun, ho', below_own (hbe.alloc hbe.size _) hg' (ho.alloc _) (Nat.le_refl _) (by have := hbe.size; simp; omega)⟩
/-- What stands at place n + j of two lists of answers. -/
theorem two_at {R0 R1 : List Gv} {n j : Nat} {g : Gv} (h0 : R0.length = n) (hg : R1[j]? = some g) : ∃ (h : n + j < (R0 ++ R1).length), (R0 ++ R1)[n + j] = g := by
  have hj : j < R1.length := (List.getElem?_eq_some_iff.1 hg).1
  have hl : n + j < (R0 ++ R1).length := by rw [List.length_append]; omega
  refine ⟨hl, ?_⟩
  have : (R0 ++ R1)[n + j]? = some g := by rw [List.getElem?_append_right (by omega), h0, Nat.add_sub_cancel_left]; exact hg
  rw [List.getElem?_eq_getElem hl] at this
  exact Option.some.inj this
end Go.Proofs.Ytaamoilkphjhgab
