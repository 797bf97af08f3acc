/- json's reader: skipSpace, take, takeMark, next: what each call returns and where it leaves the reader. -/
import Derived.Test.YthkbeliplibiaaaGreatDoorJByte
import Derived.Test.YthkbeliplibiaaaGreatDoorJIncr
namespace Go.Proofs.YthkbeliplibiaaaGreatDoor
set_option linter.unusedVariables false
set_option linter.unusedSimpArgs false
open Go.RowKit

theorem quiet_left {P : Program} {f : FuncId} {args : Array Value} {w : World} {n : Nat} {v : Value}
    (h : Calls P f args (w.drewN n) fun e w' => e = .returned v ∧ w.drewN n = w') : Calls P f args (w.drewN n) fun e w'' => e = .returned v ∧ ∃ m, w'' = w.drewN m :=
  h.mono fun _ _ ⟨he, hm⟩ => ⟨he, n, hm.symm⟩

theorem ws_idx (c : UInt8) : (0 ≤ Lib.indexByte [32, 9, 10, 13] c) = (isWs c = true) := by
  by_cases h1 : c = 32
  · subst h1; decide
  by_cases h2 : c = 9
  · subst h2; decide
  by_cases h3 : c = 10
  · subst h3; decide
  by_cases h4 : c = 13
  · subst h4; decide
  simp [isWs, Lib.indexByte, Ne.symm h1, Ne.symm h2, Ne.symm h3, Ne.symm h4, h1, h2, h3, h4]

theorem drewN_only {a w : World} {row : Option Nat} (h : a.grownBy w row) (n : Nat) : a.grownBy (w.drewN n) row := ⟨h.os, h.tape, h.output, h.size, h.block⟩
attribute [local go_sem high] str_mk
theorem hasPrefix_app (a b : List UInt8) : Lib.hasPrefix (a ++ b) a = true := by
  simp [Lib.hasPrefix]

theorem drop_cons {s : List UInt8} {p : Nat} {c : UInt8} {r : List UInt8} (hp : p + (c :: r).length = s.length) (hd : s.drop p = c :: r) :
    ∃ hlt : p < s.length, s[p] = c ∧ s.drop (p + 1) = r ∧ p + 1 + r.length = s.length := by
  simp at hp
  have hlt : p < s.length := by omega
  rw [List.drop_eq_getElem_cons hlt] at hd
  exact ⟨hlt, (List.cons.inj hd).1, (List.cons.inj hd).2, by omega⟩
end Go.Proofs.YthkbeliplibiaaaGreatDoor
