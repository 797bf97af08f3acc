/- json.increasing: what the call returns. -/
import Derived.Test.YtbdbcffnjibjoaaGreatDoorRows
import Derived.Test.YtbdbcffnjibjoaaGreatDoorBunA
import Derived.Deep.QuietTactic
import Derived.BigQuiet
import Derived.Outline
namespace Go.Proofs.YtbdbcffnjibjoaaGreatDoor
set_option linter.unusedVariables false
set_option linter.unusedSimpArgs false
open Go.RowKit

theorem incr_drop (ks : List (List UInt8)) (k : Nat) (h1 : 1 ≤ k) (hk : k < ks.length) : incr (ks.drop (k - 1)) = (Op.bytesLess ks[k - 1] ks[k] && incr (ks.drop k)) := by
  rw [List.drop_eq_getElem_cons (show k - 1 < ks.length by omega), show k - 1 + 1 = k by omega, List.drop_eq_getElem_cons hk, incr]
theorem incr_end (ks : List (List UInt8)) (k : Nat) (hk : ks.length ≤ k + 1) : incr (ks.drop k) = true := by
  have : (ks.drop k).length ≤ 1 := by simp; omega
  match h : ks.drop k with
  | [] => rfl
  | [a] => rfl
  | a :: b :: r => rw [h] at this; simp at this

def IncrR (ks : List (List UInt8)) (w : World) (gk : Nat) (i : Value) (wr : World) : Prop :=
  ∃ k : Nat, i = .int .i64 k ∧ 1 ≤ k ∧ (k = 1 ∨ k ≤ ks.length) ∧ gk = ks.length + 1 - k ∧ incr ks = incr (ks.drop (k - 1)) ∧ ∃ n, wr = w.drewN n

theorem Holds.str {w : World} {B n k : Nat} {A : Option Addr} {l : List (List UInt8)} (h : Holds w B 1 A n (l.map str)) (hk : k < n) :
    ∃ b off, ∃ hl : k < l.length, A = some ⟨b, off, none⟩ ∧ b < B ∧ w.cell? ⟨b, off + k, none⟩ = some (Go.Proofs.YtbdbcffnjibjoaaGreatDoor.str l[k]) := by
  obtain ⟨b, off, u, e, hb, hu, hc⟩ := h.at1 hk
  have hl : k < l.length := by have := h.1; simp at this; omega
  refine ⟨b, off, hl, e, hb, ?_⟩
  rw [hc]
  simp [List.getElem?_eq_getElem hl] at hu
  rw [← hu]

set_option maxHeartbeats 1000000 in
theorem incr_any (A : Option Addr) (c : Nat) (ks : List (List UInt8)) (w : World) (B : Nat) (hh : Holds w B 1 A ks.length (ks.map str)) (hl : ks.length ≤ 1048576) :
    Calls Tryz.prog 82 #[.slice A ks.length c] w fun e w' => e = .returned (.bool (incr ks)) ∧ ∃ n, w' = w.drewN n := by
  go_enter Tryz.func82, Tryz.ntmps82
  go_wp2
  go_loopg [3] ks.length (IncrR ks w)
  case atStart => exact ⟨1, rfl, by omega, .inl rfl, by omega, by simp, 0, rfl⟩
  case round =>
    obtain ⟨k, rfl, h1, hk, hgk, hin, n, rfl⟩ := hrel
    by_cases hlt : k < ks.length
    · obtain ⟨b, off, hl1, rfl, hb, hc1⟩ := hh.str hlt
      obtain ⟨b', off', hl0, he, hb', hc0⟩ := hh.str (k := k - 1) (by omega)
      injection he with he
      injection he with he1 he2
      subst he1 he2
      have hin2 := incr_drop ks k h1 hlt
      have Hin := Lib.hid (hin.trans hin2)
      have Hgk := Lib.hid hgk
      clear hin hin2 hgk hh
      generalize ks[k - 1] = sa at *
      generalize ks[k] = sb at *
      have e1 : ((k : Int) - 1).toNat = k - 1 := by omega
      have e2 : (0 : Int) ≤ (k : Int) - 1 := by omega
      have e3 : (k : Int) - 1 < (ks.length : Int) := by omega
      go_wp2
      go_quiet (fail)
      cases hlt : Op.bytesLess sa sb
      · go_wp2
        go_ret
        exact ⟨by rw [Hin.out, hlt]; rfl, _, World.drewN_drewN _ _ _⟩
      · go_wp2
        go_roundg (ks.length - k)
        case measure => have := Hgk.out; omega
        case rel => exact ⟨k + 1, by go_num, by omega, .inr (by omega), by omega, by rw [Hin.out, hlt]; simp, _, rfl⟩
    · have Hin := Lib.hid (hin.trans (incr_end ks (k - 1) (by omega)))
      clear hin
      go_wp2
      go_ret
      exact ⟨by rw [Hin.out]; rfl, _, rfl⟩
end Go.Proofs.YtbdbcffnjibjoaaGreatDoor
