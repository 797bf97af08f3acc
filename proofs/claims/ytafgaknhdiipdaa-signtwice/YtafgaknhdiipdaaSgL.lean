/- What the calls return for secrets and their keys. -/
import Derived.Test.YtafgaknhdiipdaaSgK
import Derived.Test.YtafgaknhdiipdaaSgN
namespace Go.Proofs.Ytafgaknhdiipdaa
set_option linter.unusedVariables false
set_option linter.unusedSimpArgs false
open Go.RowKit
theorem cut_again (A : Option Addr) (c : Nat) (x : List UInt8) (hx : x.length ≤ 200) (hnc : x.length ≤ c) (hA : A = none → c = 0) (w : World) (hh : Holds w w.heap.size 1 A x.length (x.map bv)) :
    Calls Try.prog 25 #[.slice A x.length c] w fun e w' => ∃ v, e = .returned v ∧ CutOf w w' x v := by
  have := cut_any A x.length c x w hh hnc hA
  rwa [List.take_of_length_le hx] at this
theorem hashR_nat {r n : Nat} {l : List UInt8} (hr : r < 7823) (hn : n ≤ 600) : hashR r n l = (hsh r l, 0) := by
  unfold hashR; rw [if_pos ⟨by omega, by omega⟩, if_neg (by omega), Int.toNat_natCast]
theorem isSec_nat {a : Nat} (h1 : 1 ≤ a) (h2 : a < 3911) : isSec (a : Int) = true := by
  unfold isSec; rw [decide_eq_true_eq]; omega
theorem publicR_nat {a : Nat} (h1 : 1 ≤ a) (h2 : a < 3911) : publicR (a : Int) = (pw 4 a % 7823, 0) := by
  unfold publicR; rw [isSec_nat h1 h2, if_pos rfl, Int.toNat_natCast]
theorem makeR_nat {a k n : Nat} {l : List UInt8} (h1 : 1 ≤ a) (h2 : a < 3911) (h3 : 1 ≤ k) (h4 : k < 3911) (hn : n ≤ 600) :
    makeR (a : Int) (k : Int) n l = (pw 4 k % 7823, (k + a * hsh (pw 4 k % 7823) l) % 3911, 0) := by
  unfold makeR; rw [isSec_nat h1 h2, isSec_nat h3 h4, Bool.true_and, if_pos rfl, if_neg (by omega), Int.toNat_natCast, Int.toNat_natCast]
theorem pubk_nat {k : Nat} (h1 : 1 ≤ k) (h2 : k < 3911) : isPub ((pw 4 k % 7823 : Nat) : Int) = true := four_pub (by rw [Nat.mod_eq_of_lt h2]; omega)
theorem okS_nat' {s : Nat} (h : s < 3911) : okS (s : Int) = true := by unfold okS; rw [decide_eq_true_eq]; omega
/-- Check, for a key and an R that are powers of 4. -/
theorem checkR_nat {a k s n : Nat} {l : List UInt8} (h1 : 1 ≤ a) (h2 : a < 3911) (h3 : 1 ≤ k) (h4 : k < 3911) (hs : s < 3911) (hn : n ≤ 600) :
    checkR ((pw 4 a % 7823 : Nat) : Int) n l ((pw 4 k % 7823 : Nat) : Int) (s : Int) = if s = (k + a * hsh (pw 4 k % 7823) l) % 3911 then 0 else 9 := by
  unfold checkR
  rw [pubk_nat h1 h2, pubk_nat h3 h4, okS_nat' hs, Bool.true_and, Bool.true_and, if_pos rfl, if_neg (by omega), Int.toNat_natCast, Int.toNat_natCast, Int.toNat_natCast, four_right]
  by_cases h : s = (k + a * hsh (pw 4 k % 7823) l) % 3911
  · rw [if_pos h, if_pos (by rw [h, four_mod])]
  · rw [if_neg h, if_neg]
    intro he
    have := four_inj he
    rw [Nat.mod_eq_of_lt hs] at this
    exact h this
/-- Secret, for two signatures by one secret with one nonce. -/
theorem secretR_nat {a k n m : Nat} {l1 l2 : List UInt8} (h1 : 1 ≤ a) (h2 : a < 3911) (h3 : 1 ≤ k) (h4 : k < 3911) (hn : n ≤ 600) (hm : m ≤ 600) :
    secretR n m l1 l2 ((pw 4 k % 7823 : Nat) : Int) (((k + a * hsh (pw 4 k % 7823) l1) % 3911 : Nat) : Int) ((pw 4 k % 7823 : Nat) : Int) (((k + a * hsh (pw 4 k % 7823) l2) % 3911 : Nat) : Int) =
      if hsh (pw 4 k % 7823) l1 = hsh (pw 4 k % 7823) l2 then (0, 8) else (a, 0) := by
  unfold secretR
  have hl1 := hsh_lt (pw 4 k % 7823) l1
  have hl2 := hsh_lt (pw 4 k % 7823) l2
  rw [pubk_nat h3 h4, okS_nat' (Nat.mod_lt _ (by decide)), okS_nat' (Nat.mod_lt _ (by decide)), Bool.true_and, Bool.true_and, if_pos rfl, if_neg (by omega), if_pos rfl, Int.toNat_natCast, Int.toNat_natCast, Int.toNat_natCast]
  generalize hsh (pw 4 k % 7823) l1 = x at *
  generalize hsh (pw 4 k % 7823) l2 = y at *
  by_cases hxy : x = y
  · subst hxy
    rw [if_pos rfl, if_pos (by omega)]
  · have h0 : (x + 3911 - y) % 3911 ≠ 0 := by omega
    rw [if_neg hxy, if_neg h0]
    congr 1
    symm
    refine (secret_iff h2 hl1 hl2 (Nat.mod_lt _ (by decide)) (Nat.mod_lt _ (by decide)) h0).1 ?_
    have e1 := Nat.div_add_mod (k + a * x) 3911
    have e2 := Nat.div_add_mod (k + a * y) 3911
    generalize (k + a * x) % 3911 = s at *
    generalize (k + a * y) % 3911 = t at *
    generalize (k + a * x) / 3911 = u at *
    generalize (k + a * y) / 3911 = v at *
    have f1 : ((a * x : Nat) : Int) = (a : Int) * x := Int.natCast_mul _ _
    have f2 : ((a * y : Nat) : Int) = (a : Int) * y := Int.natCast_mul _ _
    rw [← f1, ← f2]
    exact ⟨(u : Int) - v, by omega⟩
/-- A signature in a box of the call's own. -/
def Bx (w : World) (g r s : Nat) : Prop := w.cell? ⟨g, 0, none⟩ = some (.int .i64 r) ∧ w.cell? ⟨g, 1, none⟩ = some (.int .i64 s) ∧ g < w.heap.size
theorem Bx.new (w : World) (r s : Nat) : Bx (w.alloc (.cells #[.int .i64 r, .int .i64 s] 30)) w.heap.size r s := ⟨by simp [go_sem], by simp [go_sem], by simp⟩
theorem Bx.below {w w' : World} {g r s : Nat} (h : Bx w g r s) (hb : Below w.heap.size w w') : Bx w' g r s :=
  ⟨(hb.cell (p := ⟨g, 0, none⟩) h.2.2).trans h.1, (hb.cell (p := ⟨g, 1, none⟩) h.2.2).trans h.2.1, Nat.lt_of_lt_of_le h.2.2 hb.size⟩
theorem Bx.alloc {w : World} {g r s : Nat} (h : Bx w g r s) (o : Obj) : Bx (w.alloc o) g r s := h.below ((Below.refl _ _).alloc (Nat.le_refl _) o)
theorem Bx.drewN {w : World} {g r s : Nat} (h : Bx w g r s) (q : Nat) : Bx (w.drewN q) g r s := h
end Go.Proofs.Ytafgaknhdiipdaa
