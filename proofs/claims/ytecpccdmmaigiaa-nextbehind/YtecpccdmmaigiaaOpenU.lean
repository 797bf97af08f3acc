/- How a string that came in is read, where the arguments' bulk is bounded. -/
import Derived.Test.YtecpccdmmaigiaaOpenV
namespace Go.Proofs.Ytecpccdmmaigiaa
set_option linter.unusedVariables false
set_option linter.unusedSimpArgs false
open Go.ChangeShapes Go.WideShapes Go.ChangeAt Go.RowKit
open Go.ChangeMaps (open_string)
theorem open_strU {H : Type} {enc : TypeId × Value → H} {W : World} {base : Nat} {t : TypeId} {v : Value} {d : DataW H} {ps : List MemPlace} (ht : Try.prog.underlying t = some .string) (hval : Value.okWide Try.prog W .any base t v)
    (hd : DataW.Trod enc Try.prog W 0 (fun _ => true) true t v d ps) (hb : Rows.uptoBulk d ≤ 1048576) : ∃ l : List UInt8, v = str l ∧ l.length ≤ 1048576 := by
  obtain ⟨s, rfl, rfl, _, hs⟩ := open_string ht hval hd
  obtain ⟨l, hl, hz⟩ := str_of s
  refine ⟨l, hl, ?_⟩
  simp only [Rows.uptoBulk, Array.length_toList] at hb
  have : s.size = s.data.size := rfl
  omega
end Go.Proofs.Ytecpccdmmaigiaa
