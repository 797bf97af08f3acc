/- One-time keys: the asks of one Sort alone; equal answers compared. -/
import Derived.Test.YtaamoilkphjhgabKyCe
import Derived.Laws.StructEq
namespace Go.Proofs.Ytaamoilkphjhgab
set_option linter.unusedVariables false
set_option linter.unusedSimpArgs false
open Go.RowKit
attribute [local go_sem high] str_mk
def isS (S : List UInt8) (p : Ak × Gv) : Bool := p.1.sort == S
def pickS (S : List UInt8) (l : List Ak) (R : List Gv) : List (Ak × Gv) := (l.zip R).filter (isS S)
theorem pick_snoc {S : List UInt8} {l : List Ak} {R : List Gv} {i : Nat} (hi : i < l.length) (hr : i < R.length) :
    pickS S (l.take (i + 1)) (R.take (i + 1)) = pickS S (l.take i) (R.take i) ++ (if l[i].sort == S then [(l[i], R[i])] else []) := by
  unfold pickS
  have h1 : (l.take i).length = (R.take i).length := by rw [List.length_take, List.length_take]; omega
  rw [List.take_succ_eq_append_getElem hi, List.take_succ_eq_append_getElem hr, List.zip_append h1, List.filter_append]
  congr 1
  by_cases h : l[i].sort == S <;> simp [isS, h]
theorem sorts_R (S : List UInt8) : ∀ (l : List Ak) {s t : Ks}, Alike S s t → (asksR t ((pickS S l (asksR s l).1).map (·.1))).1 = (pickS S l (asksR s l).1).map (·.2)
  | [], s, t, _ => rfl
  | a :: l, s, t, h => by
    have e : asksR s (a :: l) = ((ansR s a).1 :: (asksR (ansR s a).2 l).1, (asksR (ansR s a).2 l).2) := rfl
    rw [e]
    unfold pickS
    rw [List.zip_cons_cons, List.filter_cons]
    by_cases hs : a.sort = S
    · have hb : isS S (a, (ansR s a).1) = true := by simp [isS, hs]
      rw [if_pos hb]
      obtain ⟨h1, h2⟩ := h.ans a hs
      rw [List.map_cons, List.map_cons]
      show (ansR t a).1 :: (asksR (ansR t a).2 ((pickS S l (asksR (ansR s a).2 l).1).map (·.1))).1 = _
      rw [sorts_R S l h2, ← h1]
      rfl
    · have hb : ¬ isS S (a, (ansR s a).1) = true := by simp [isS, hs]
      rw [if_neg hb]
      exact sorts_R S l (h.other a hs)
theorem pick_ok {S : List UInt8} {l : List Ak} {R : List Gv} (h : ∀ a ∈ l, AkOk a) : ∀ a ∈ (pickS S l R).map (·.1), AkOk a := by
  intro a ha
  obtain ⟨p, hp, rfl⟩ := List.mem_map.1 ha
  have := (List.mem_filter.1 hp).1
  exact h _ (List.of_mem_zip this).1
theorem pick_len (S : List UInt8) (l : List Ak) (R : List Gv) : (pickS S l R).length ≤ l.length := by
  unfold pickS
  refine Nat.le_trans (List.length_filter_le _ _) ?_
  rw [List.length_zip]; omega
theorem eq_given (c : Int) (i b : List UInt8) (s : Bool) (m : Int) (w : World) : (Op.equalIn 10000 28 (.agg #[.int .i64 c, str [], str i, str b, .bool s, .int .i64 m]) (.agg #[.int .i64 c, str [], str i, str b, .bool s, .int .i64 m])).run Try.prog w = .ok true w := by
  have u9 := Try.underlying9
  have e9 : ∀ (l : List UInt8) (d : Nat), (Op.equalIn (d + 1) 9 (str l) (str l)).run Try.prog w = .ok true w := fun l d => by
    unfold str; rw [run_equalIn_string w d 9 _ _ u9]; simp
  rw [show (10000 : Nat) = 9999 + 1 from rfl, run_equalIn_agg w 9999 28 _ _ (by kernel_rfl) (by kernel_rfl)]
  go_simp
theorem gd_given (op : BinOp) (x y : Operand) (c : Int) (i b : List UInt8) (s : Bool) (m : Int) (w : World) : (eqGuard op 28 x y (.agg #[.int .i64 c, str [], str i, str b, .bool s, .int .i64 m]) (.agg #[.int .i64 c, str [], str i, str b, .bool s, .int .i64 m])).run Try.prog w = .ok () w := run_eqGuard_agg w op 28 x y _ _ (by kernel_rfl)
end Go.Proofs.Ytaamoilkphjhgab
