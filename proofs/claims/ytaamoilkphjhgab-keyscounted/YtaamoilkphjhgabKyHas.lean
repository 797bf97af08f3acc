/- hasInt: whether a number is listed. -/
import Derived.Test.YtaamoilkphjhgabIdx
import Derived.Test.YtaamoilkphjhgabBunA
import Derived.Test.YtaamoilkphjhgabInts
namespace Go.Proofs.Ytaamoilkphjhgab
set_option linter.unusedVariables false
set_option linter.unusedSimpArgs false
open Go.RowKit
theorem has_left {P : Program} {f : FuncId} {args : Array Value} {w : World} {n : Nat} {v : Value}
    (h : Calls P f args (w.drewN n) fun e w' => e = .returned v ∧ w.drewN n = w') : Calls P f args (w.drewN n) fun e w'' => e = .returned v ∧ ∃ m, w'' = w.drewN m :=
  h.mono fun _ _ ⟨he, hm⟩ => ⟨he, n, hm.symm⟩
def HasR (hs : List Int) (x : Int) (w : World) (gk : Nat) (s5 : Value) (wr : World) : Prop :=
  ∃ k : Nat, s5 = .int .i64 (k : Int) ∧ k ≤ hs.length ∧ gk = hs.length - k ∧ x ∉ hs.take k ∧ wr = w
theorem has_succ {hs : List Int} {x : Int} {k : Nat} (h : x ∉ hs.take k) (hk : k < hs.length) (hne : hs[k] ≠ x) : x ∉ hs.take (k + 1) := by
  intro hm
  rw [List.take_succ_eq_append_getElem hk, List.mem_append] at hm
  rcases hm with hm | hm
  · exact h hm
  · simp at hm; exact hne hm.symm
set_option maxRecDepth 100000 in
set_option maxHeartbeats 1000000 in
theorem hasInt_any (A : Option Addr) (c n : Nat) (hs : List Int) (x : Int) (w : World) (B : Nat) (hh : Holds w B 1 A n (hs.map (Value.int .i64))) (hn : hs.length = n) (hl : n ≤ 1048576) :
    Calls Try.prog 14 #[.slice A n c, .int .i64 x] w fun e w' => e = .returned (.bool (decide (x ∈ hs))) ∧ w = w' := by
  subst hn
  go_enter Try.func14, Try.ntmps14
  go_wp2_with fail
  go_loopg [5] hs.length (HasR hs x w)
  case atStart => exact ⟨0, rfl, by omega, by omega, by simp, rfl⟩
  case round =>
    obtain ⟨k, rfl, hk, hgk, hnot, rfl⟩ := hrel
    have Hgk := Lib.hid hgk
    have Hnot := Lib.hid hnot
    clear hgk hnot
    by_cases hlt : k < hs.length
    · have hki : (k : Int) < (hs.length : Int) := by omega
      obtain ⟨b, off, u, rfl, hb, hu, hc⟩ := hh.at1 hlt
      have hu2 : u = .int .i64 hs[k] := by
        rw [List.getElem?_map, List.getElem?_eq_getElem hlt] at hu
        injection hu with hu; exact hu.symm
      subst hu2
      have Hmem := Lib.hid (List.getElem_mem hlt)
      have Hsucc := Lib.hid (fun hne => has_succ Hnot.out hlt hne)
      clear hu
      generalize hs[k] = y at *
      by_cases hy : y = x
      · subst hy
        go_wp2_with fail
        go_ret
        exact ⟨ret_bool (by simpa using Hmem.out), rfl⟩
      · have hyb : (y == x) = false := by simpa using hy
        have Hs2 := Lib.hid (Hsucc.out hy)
        go_wp2_with fail
        go_roundg (hs.length - (k + 1))
        case measure => have := Hgk.out; omega
        case rel => exact ⟨k + 1, by go_num, by omega, rfl, Hs2.out, rfl⟩
    · have hki : ¬ (k : Int) < (hs.length : Int) := by omega
      have hkn : k = hs.length := by omega
      have Hn := Lib.hid (show x ∉ hs by have := Hnot.out; rw [hkn, List.take_length] at this; exact this)
      clear hkn
      go_wp2_with fail
      go_ret
      exact ⟨ret_bool (by simpa using Hn.out), rfl⟩
end Go.Proofs.Ytaamoilkphjhgab
