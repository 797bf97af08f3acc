/-
  No cell of these rows narrows 'for every input' (looked for: loops, veiled, ifaces, maps, wideKeys, modest, calm, conditions, laid).
  DERIVED. THE GIVEN ROWS OF THIS SEAT. 11 by the template 'for every input the law returns true; each argument reads behind the call as it read before'; 0 by the template 'total and deterministic' (their statements: YtecpccdmmaigiaaTotals.lean).
  GIVEN WITH THE SEED: the statements are not yours to turn. If you find one false, say at which input.
  Laid BY PROGRAM, IN A SANDBOX (cutbox-rows.mjs): the forced cells as the released guide's own fill.sh prints them over the translation 0b2f185ef49df86c… (all of the seat's roots in one cut). By AI agents, Wed Nov 11 2026. No macro, syntax, notation, axiom, sorry.
-/
import Derived.Test.YtecpccdmmaigiaaChecked
import GoSem.Claim
import GoSem.ClaimJoined
import GoSem.ClaimMapViews
import Derived.JoinedTies
import Derived.KernelRfl
namespace Go.Proofs.Ytecpccdmmaigiaa
/- THE CELL 'sum', in the pinned program and in every row, IS THE sha256 OF THE DUMP (.gsa) THAT YtecpccdmmaigiaaProg.lean LOADS. Nothing in Lean hashes anything: it is a label: what it is worth is what the hold of that sum in a sandbox is worth. -/
noncomputable def Try.pinned : Pinned := { name := "ytecpccdmmaigiaa", sum := "0b2f185ef49df86cc686549773c5446a55da9385d0db12d81bc13ebd2c5bc0de", checked := Try.checked }
namespace Rows
def none {H : Type} : Left H := { results := [], args := [] }

/-- 'bagnalllaw.RowsChecks': WHATEVER THE INPUT: true; the input reads as it did. -/
def rowsChecksSpec : ChangeSpec := { name := "rowsChecks", fn := fun _ => fun
  | [d] => { results := [.lit (.bool true)], args := [d] }
  | _ => none }
def rowsChecksRow : OpenClaim := { program := "ytecpccdmmaigiaa", sum := "0b2f185ef49df86cc686549773c5446a55da9385d0db12d81bc13ebd2c5bc0de", func := "bagnall/bagnalllaw.RowsChecks", spec := "rowsChecks", apart := false }
def RowsChecksSaid : Prop := rowsChecksRow.holds Try.pinned (OpenSpec.ofChange rowsChecksSpec)

/-- ITS FALSE NEIGHBOUR: 'it returns false'. Refute it at one input. -/
def rowsChecksWrong : ChangeSpec := { name := "rowsChecks", fn := fun _ => fun
  | [d] => { results := [.lit (.bool false)], args := [d] }
  | _ => none }
def RowsChecksWrongFalsely : Prop := rowsChecksRow.holds Try.pinned (OpenSpec.ofChange rowsChecksWrong)

/-- 'bagnalllaw.RowsSets': WHATEVER THE INPUT: true; the input reads as it did. -/
def rowsSetsSpec : ChangeSpec := { name := "rowsSets", fn := fun _ => fun
  | [d1, d2] => { results := [.lit (.bool true)], args := [d1, d2] }
  | _ => none }
def rowsSetsRow : OpenClaim := { program := "ytecpccdmmaigiaa", sum := "0b2f185ef49df86cc686549773c5446a55da9385d0db12d81bc13ebd2c5bc0de", func := "bagnall/bagnalllaw.RowsSets", spec := "rowsSets", inPlace := ["slices.overlaps[bagnall/api.Row]"], unfollowed := true, recurses := true, apart := false }
def RowsSetsSaid : Prop := rowsSetsRow.holds Try.pinned (OpenSpec.ofChange rowsSetsSpec)

/-- ITS FALSE NEIGHBOUR: 'it returns false'. Refute it at one input. -/
def rowsSetsWrong : ChangeSpec := { name := "rowsSets", fn := fun _ => fun
  | [d1, d2] => { results := [.lit (.bool false)], args := [d1, d2] }
  | _ => none }
def RowsSetsWrongFalsely : Prop := rowsSetsRow.holds Try.pinned (OpenSpec.ofChange rowsSetsWrong)

/-- 'bagnalllaw.RowsFinds': WHATEVER THE INPUT: true; the input reads as it did. -/
def rowsFindsSpec : ChangeSpec := { name := "rowsFinds", fn := fun _ => fun
  | [d1, d2] => { results := [.lit (.bool true)], args := [d1, d2] }
  | _ => none }
def rowsFindsRow : OpenClaim := { program := "ytecpccdmmaigiaa", sum := "0b2f185ef49df86cc686549773c5446a55da9385d0db12d81bc13ebd2c5bc0de", func := "bagnall/bagnalllaw.RowsFinds", spec := "rowsFinds", unfollowed := true, recurses := true, apart := false }
def RowsFindsSaid : Prop := rowsFindsRow.holds Try.pinned (OpenSpec.ofChange rowsFindsSpec)

/-- ITS FALSE NEIGHBOUR: 'it returns false'. Refute it at one input. -/
def rowsFindsWrong : ChangeSpec := { name := "rowsFinds", fn := fun _ => fun
  | [d1, d2] => { results := [.lit (.bool false)], args := [d1, d2] }
  | _ => none }
def RowsFindsWrongFalsely : Prop := rowsFindsRow.holds Try.pinned (OpenSpec.ofChange rowsFindsWrong)

/-- 'bagnalllaw.RowsBegins': WHATEVER THE INPUT: true; the input reads as it did. -/
def rowsBeginsSpec : ChangeSpec := { name := "rowsBegins", fn := fun _ => fun
  | [d1, d2] => { results := [.lit (.bool true)], args := [d1, d2] }
  | _ => none }
def rowsBeginsRow : OpenClaim := { program := "ytecpccdmmaigiaa", sum := "0b2f185ef49df86cc686549773c5446a55da9385d0db12d81bc13ebd2c5bc0de", func := "bagnall/bagnalllaw.RowsBegins", spec := "rowsBegins", unfollowed := true, recurses := true, apart := false }
def RowsBeginsSaid : Prop := rowsBeginsRow.holds Try.pinned (OpenSpec.ofChange rowsBeginsSpec)

/-- ITS FALSE NEIGHBOUR: 'it returns false'. Refute it at one input. -/
def rowsBeginsWrong : ChangeSpec := { name := "rowsBegins", fn := fun _ => fun
  | [d1, d2] => { results := [.lit (.bool false)], args := [d1, d2] }
  | _ => none }
def RowsBeginsWrongFalsely : Prop := rowsBeginsRow.holds Try.pinned (OpenSpec.ofChange rowsBeginsWrong)

/-- 'bagnalllaw.RowsNexts': WHATEVER THE INPUT: true; the input reads as it did. -/
def rowsNextsSpec : ChangeSpec := { name := "rowsNexts", fn := fun _ => fun
  | [d] => { results := [.lit (.bool true)], args := [d] }
  | _ => none }
def rowsNextsRow : OpenClaim := { program := "ytecpccdmmaigiaa", sum := "0b2f185ef49df86cc686549773c5446a55da9385d0db12d81bc13ebd2c5bc0de", func := "bagnall/bagnalllaw.RowsNexts", spec := "rowsNexts", apart := false }
def RowsNextsSaid : Prop := rowsNextsRow.holds Try.pinned (OpenSpec.ofChange rowsNextsSpec)

/-- ITS FALSE NEIGHBOUR: 'it returns false'. Refute it at one input. -/
def rowsNextsWrong : ChangeSpec := { name := "rowsNexts", fn := fun _ => fun
  | [d] => { results := [.lit (.bool false)], args := [d] }
  | _ => none }
def RowsNextsWrongFalsely : Prop := rowsNextsRow.holds Try.pinned (OpenSpec.ofChange rowsNextsWrong)

/-- 'bagnallkeep.RowsLast': WHATEVER THE INPUT: true; the input reads as it did. -/
def rowsLastSpec : ChangeSpec := { name := "rowsLast", fn := fun _ => fun
  | [d1, d2] => { results := [.lit (.bool true)], args := [d1, d2] }
  | _ => none }
def rowsLastRow : OpenClaim := { program := "ytecpccdmmaigiaa", sum := "0b2f185ef49df86cc686549773c5446a55da9385d0db12d81bc13ebd2c5bc0de", func := "bagnall/bagnallkeep.RowsLast", spec := "rowsLast", inPlace := ["slices.overlaps[bagnall/api.Row]"], unfollowed := true, recurses := true, apart := false }
def RowsLastSaid : Prop := rowsLastRow.holds Try.pinned (OpenSpec.ofChange rowsLastSpec)

/-- ITS FALSE NEIGHBOUR: 'it returns false'. Refute it at one input. -/
def rowsLastWrong : ChangeSpec := { name := "rowsLast", fn := fun _ => fun
  | [d1, d2] => { results := [.lit (.bool false)], args := [d1, d2] }
  | _ => none }
def RowsLastWrongFalsely : Prop := rowsLastRow.holds Try.pinned (OpenSpec.ofChange rowsLastWrong)

/-- 'bagnallkeep.RowsParts': WHATEVER THE INPUT: true; the input reads as it did. -/
def rowsPartsSpec : ChangeSpec := { name := "rowsParts", fn := fun _ => fun
  | [d1, d2] => { results := [.lit (.bool true)], args := [d1, d2] }
  | _ => none }
def rowsPartsRow : OpenClaim := { program := "ytecpccdmmaigiaa", sum := "0b2f185ef49df86cc686549773c5446a55da9385d0db12d81bc13ebd2c5bc0de", func := "bagnall/bagnallkeep.RowsParts", spec := "rowsParts", inPlace := ["slices.overlaps[bagnall/api.Row]"], unfollowed := true, recurses := true, apart := false }
def RowsPartsSaid : Prop := rowsPartsRow.holds Try.pinned (OpenSpec.ofChange rowsPartsSpec)

/-- ITS FALSE NEIGHBOUR: 'it returns false'. Refute it at one input. -/
def rowsPartsWrong : ChangeSpec := { name := "rowsParts", fn := fun _ => fun
  | [d1, d2] => { results := [.lit (.bool false)], args := [d1, d2] }
  | _ => none }
def RowsPartsWrongFalsely : Prop := rowsPartsRow.holds Try.pinned (OpenSpec.ofChange rowsPartsWrong)

/-- 'bagnallkeep.RowsHeads': WHATEVER THE INPUT: true; the input reads as it did. -/
def rowsHeadsSpec : ChangeSpec := { name := "rowsHeads", fn := fun _ => fun
  | [d1, d2] => { results := [.lit (.bool true)], args := [d1, d2] }
  | _ => none }
def rowsHeadsRow : OpenClaim := { program := "ytecpccdmmaigiaa", sum := "0b2f185ef49df86cc686549773c5446a55da9385d0db12d81bc13ebd2c5bc0de", func := "bagnall/bagnallkeep.RowsHeads", spec := "rowsHeads", inPlace := ["slices.overlaps[bagnall/api.Row]"], unfollowed := true, recurses := true, apart := false }
def RowsHeadsSaid : Prop := rowsHeadsRow.holds Try.pinned (OpenSpec.ofChange rowsHeadsSpec)

/-- ITS FALSE NEIGHBOUR: 'it returns false'. Refute it at one input. -/
def rowsHeadsWrong : ChangeSpec := { name := "rowsHeads", fn := fun _ => fun
  | [d1, d2] => { results := [.lit (.bool false)], args := [d1, d2] }
  | _ => none }
def RowsHeadsWrongFalsely : Prop := rowsHeadsRow.holds Try.pinned (OpenSpec.ofChange rowsHeadsWrong)

/-- 'bagnallkeep.NextBehind': WHATEVER THE INPUT: true; the input reads as it did. -/
def nextBehindSpec : ChangeSpec := { name := "nextBehind", fn := fun _ => fun
  | [d1, d2, d3] => { results := [.lit (.bool true)], args := [d1, d2, d3] }
  | _ => none }
def nextBehindRow : OpenClaim := { program := "ytecpccdmmaigiaa", sum := "0b2f185ef49df86cc686549773c5446a55da9385d0db12d81bc13ebd2c5bc0de", func := "bagnall/bagnallkeep.NextBehind", spec := "nextBehind", apart := false }
def NextBehindSaid : Prop := nextBehindRow.holds Try.pinned (OpenSpec.ofChange nextBehindSpec)

/-- ITS FALSE NEIGHBOUR: 'it returns false'. Refute it at one input. -/
def nextBehindWrong : ChangeSpec := { name := "nextBehind", fn := fun _ => fun
  | [d1, d2, d3] => { results := [.lit (.bool false)], args := [d1, d2, d3] }
  | _ => none }
def NextBehindWrongFalsely : Prop := nextBehindRow.holds Try.pinned (OpenSpec.ofChange nextBehindWrong)

/-- 'bagnallkeep.RowsOrder': WHATEVER THE INPUT: true; the input reads as it did. -/
def rowsOrderSpec : ChangeSpec := { name := "rowsOrder", fn := fun _ => fun
  | [d1, d2] => { results := [.lit (.bool true)], args := [d1, d2] }
  | _ => none }
def rowsOrderRow : OpenClaim := { program := "ytecpccdmmaigiaa", sum := "0b2f185ef49df86cc686549773c5446a55da9385d0db12d81bc13ebd2c5bc0de", func := "bagnall/bagnallkeep.RowsOrder", spec := "rowsOrder", inPlace := ["slices.overlaps[bagnall/api.Row]"], unfollowed := true, recurses := true, apart := false }
def RowsOrderSaid : Prop := rowsOrderRow.holds Try.pinned (OpenSpec.ofChange rowsOrderSpec)

/-- ITS FALSE NEIGHBOUR: 'it returns false'. Refute it at one input. -/
def rowsOrderWrong : ChangeSpec := { name := "rowsOrder", fn := fun _ => fun
  | [d1, d2] => { results := [.lit (.bool false)], args := [d1, d2] }
  | _ => none }
def RowsOrderWrongFalsely : Prop := rowsOrderRow.holds Try.pinned (OpenSpec.ofChange rowsOrderWrong)

/-- 'bagnallkeep.RowsFull': WHATEVER THE INPUT: true; the input reads as it did. -/
def rowsFullSpec : ChangeSpec := { name := "rowsFull", fn := fun _ => fun
  | [d] => { results := [.lit (.bool true)], args := [d] }
  | _ => none }
def rowsFullRow : OpenClaim := { program := "ytecpccdmmaigiaa", sum := "0b2f185ef49df86cc686549773c5446a55da9385d0db12d81bc13ebd2c5bc0de", func := "bagnall/bagnallkeep.RowsFull", spec := "rowsFull", inPlace := ["slices.overlaps[bagnall/api.Row]"], unfollowed := true, recurses := true, apart := false }
def RowsFullSaid : Prop := rowsFullRow.holds Try.pinned (OpenSpec.ofChange rowsFullSpec)

/-- ITS FALSE NEIGHBOUR: 'it returns false'. Refute it at one input. -/
def rowsFullWrong : ChangeSpec := { name := "rowsFull", fn := fun _ => fun
  | [d] => { results := [.lit (.bool false)], args := [d] }
  | _ => none }
def RowsFullWrongFalsely : Prop := rowsFullRow.holds Try.pinned (OpenSpec.ofChange rowsFullWrong)

/- THE SECOND FORM. 'bulk': how many values and letters a reading holds, each counted each time it is reached (what is shared counts as often as it is met; a slice's spare places count too). A statement '..UptoSaid' is the law's where the arguments, and the package variables that the reading takes, are together of bulk at most 1048576: NARROWER than '..Said'. Prove '..Said' where nothing that the law and all that it calls make is longer than what came in: it says more and counts as full. Else prove '..UptoSaid'. A law counts once. -/
mutual
def uptoBulk {H : Type} : DataW H → Nat
  | .lit (.string bytes) => bytes.length + 1
  | .lit _ => 1
  | .nil => 1
  | .ptr d => uptoBulk d + 1
  | .slice elems spare => uptoBulkAll elems + uptoBulkAll spare + 1
  | .agg parts => uptoBulkAll parts + 1
  | .iface _ d => uptoBulk d + 1
  | .map entries => uptoBulkEntries entries + 1
  | .held _ => 1
def uptoBulkAll {H : Type} : List (DataW H) → Nat
  | [] => 0
  | d :: r => uptoBulk d + uptoBulkAll r
def uptoBulkEntries {H : Type} : List (Lit × DataW H) → Nat
  | [] => 0
  | x :: r => uptoBulkEntry x + uptoBulkEntries r
def uptoBulkEntry {H : Type} : Lit × DataW H → Nat
  | (.string bytes, d) => bytes.length + uptoBulk d + 1
  | (_, d) => uptoBulk d + 1
 end
def uptoSmall : (H : Type) → List (DataW H) → Bool := fun _ ds => decide (uptoBulkAll ds ≤ 1048576)
def OpenSpec.upto (s : _root_.Go.ChangeSpec) : _root_.Go.OpenSpec := { _root_.Go.OpenSpec.ofChange s with cond := some uptoSmall }

/-- 'bagnalllaw.RowsChecks', WHERE WHAT IT READS IS OF BULK AT MOST 1048576: true; the input reads as it did. -/
def rowsChecksUptoRow : OpenClaim := { program := "ytecpccdmmaigiaa", sum := "0b2f185ef49df86cc686549773c5446a55da9385d0db12d81bc13ebd2c5bc0de", func := "bagnall/bagnalllaw.RowsChecks", spec := "rowsChecks", apart := false, narrowed := true }
def RowsChecksUptoSaid : Prop := rowsChecksUptoRow.holds Try.pinned (OpenSpec.upto rowsChecksSpec)

/-- 'bagnalllaw.RowsSets', WHERE WHAT IT READS IS OF BULK AT MOST 1048576: true; the input reads as it did. -/
def rowsSetsUptoRow : OpenClaim := { program := "ytecpccdmmaigiaa", sum := "0b2f185ef49df86cc686549773c5446a55da9385d0db12d81bc13ebd2c5bc0de", func := "bagnall/bagnalllaw.RowsSets", spec := "rowsSets", inPlace := ["slices.overlaps[bagnall/api.Row]"], unfollowed := true, recurses := true, apart := false, narrowed := true }
def RowsSetsUptoSaid : Prop := rowsSetsUptoRow.holds Try.pinned (OpenSpec.upto rowsSetsSpec)

/-- 'bagnalllaw.RowsFinds', WHERE WHAT IT READS IS OF BULK AT MOST 1048576: true; the input reads as it did. -/
def rowsFindsUptoRow : OpenClaim := { program := "ytecpccdmmaigiaa", sum := "0b2f185ef49df86cc686549773c5446a55da9385d0db12d81bc13ebd2c5bc0de", func := "bagnall/bagnalllaw.RowsFinds", spec := "rowsFinds", unfollowed := true, recurses := true, apart := false, narrowed := true }
def RowsFindsUptoSaid : Prop := rowsFindsUptoRow.holds Try.pinned (OpenSpec.upto rowsFindsSpec)

/-- 'bagnalllaw.RowsBegins', WHERE WHAT IT READS IS OF BULK AT MOST 1048576: true; the input reads as it did. -/
def rowsBeginsUptoRow : OpenClaim := { program := "ytecpccdmmaigiaa", sum := "0b2f185ef49df86cc686549773c5446a55da9385d0db12d81bc13ebd2c5bc0de", func := "bagnall/bagnalllaw.RowsBegins", spec := "rowsBegins", unfollowed := true, recurses := true, apart := false, narrowed := true }
def RowsBeginsUptoSaid : Prop := rowsBeginsUptoRow.holds Try.pinned (OpenSpec.upto rowsBeginsSpec)

/-- 'bagnalllaw.RowsNexts', WHERE WHAT IT READS IS OF BULK AT MOST 1048576: true; the input reads as it did. -/
def rowsNextsUptoRow : OpenClaim := { program := "ytecpccdmmaigiaa", sum := "0b2f185ef49df86cc686549773c5446a55da9385d0db12d81bc13ebd2c5bc0de", func := "bagnall/bagnalllaw.RowsNexts", spec := "rowsNexts", apart := false, narrowed := true }
def RowsNextsUptoSaid : Prop := rowsNextsUptoRow.holds Try.pinned (OpenSpec.upto rowsNextsSpec)

/-- 'bagnallkeep.RowsLast', WHERE WHAT IT READS IS OF BULK AT MOST 1048576: true; the input reads as it did. -/
def rowsLastUptoRow : OpenClaim := { program := "ytecpccdmmaigiaa", sum := "0b2f185ef49df86cc686549773c5446a55da9385d0db12d81bc13ebd2c5bc0de", func := "bagnall/bagnallkeep.RowsLast", spec := "rowsLast", inPlace := ["slices.overlaps[bagnall/api.Row]"], unfollowed := true, recurses := true, apart := false, narrowed := true }
def RowsLastUptoSaid : Prop := rowsLastUptoRow.holds Try.pinned (OpenSpec.upto rowsLastSpec)

/-- 'bagnallkeep.RowsParts', WHERE WHAT IT READS IS OF BULK AT MOST 1048576: true; the input reads as it did. -/
def rowsPartsUptoRow : OpenClaim := { program := "ytecpccdmmaigiaa", sum := "0b2f185ef49df86cc686549773c5446a55da9385d0db12d81bc13ebd2c5bc0de", func := "bagnall/bagnallkeep.RowsParts", spec := "rowsParts", inPlace := ["slices.overlaps[bagnall/api.Row]"], unfollowed := true, recurses := true, apart := false, narrowed := true }
def RowsPartsUptoSaid : Prop := rowsPartsUptoRow.holds Try.pinned (OpenSpec.upto rowsPartsSpec)

/-- 'bagnallkeep.RowsHeads', WHERE WHAT IT READS IS OF BULK AT MOST 1048576: true; the input reads as it did. -/
def rowsHeadsUptoRow : OpenClaim := { program := "ytecpccdmmaigiaa", sum := "0b2f185ef49df86cc686549773c5446a55da9385d0db12d81bc13ebd2c5bc0de", func := "bagnall/bagnallkeep.RowsHeads", spec := "rowsHeads", inPlace := ["slices.overlaps[bagnall/api.Row]"], unfollowed := true, recurses := true, apart := false, narrowed := true }
def RowsHeadsUptoSaid : Prop := rowsHeadsUptoRow.holds Try.pinned (OpenSpec.upto rowsHeadsSpec)

/-- 'bagnallkeep.NextBehind', WHERE WHAT IT READS IS OF BULK AT MOST 1048576: true; the input reads as it did. -/
def nextBehindUptoRow : OpenClaim := { program := "ytecpccdmmaigiaa", sum := "0b2f185ef49df86cc686549773c5446a55da9385d0db12d81bc13ebd2c5bc0de", func := "bagnall/bagnallkeep.NextBehind", spec := "nextBehind", apart := false, narrowed := true }
def NextBehindUptoSaid : Prop := nextBehindUptoRow.holds Try.pinned (OpenSpec.upto nextBehindSpec)

/-- 'bagnallkeep.RowsOrder', WHERE WHAT IT READS IS OF BULK AT MOST 1048576: true; the input reads as it did. -/
def rowsOrderUptoRow : OpenClaim := { program := "ytecpccdmmaigiaa", sum := "0b2f185ef49df86cc686549773c5446a55da9385d0db12d81bc13ebd2c5bc0de", func := "bagnall/bagnallkeep.RowsOrder", spec := "rowsOrder", inPlace := ["slices.overlaps[bagnall/api.Row]"], unfollowed := true, recurses := true, apart := false, narrowed := true }
def RowsOrderUptoSaid : Prop := rowsOrderUptoRow.holds Try.pinned (OpenSpec.upto rowsOrderSpec)

/-- 'bagnallkeep.RowsFull', WHERE WHAT IT READS IS OF BULK AT MOST 1048576: true; the input reads as it did. -/
def rowsFullUptoRow : OpenClaim := { program := "ytecpccdmmaigiaa", sum := "0b2f185ef49df86cc686549773c5446a55da9385d0db12d81bc13ebd2c5bc0de", func := "bagnall/bagnallkeep.RowsFull", spec := "rowsFull", inPlace := ["slices.overlaps[bagnall/api.Row]"], unfollowed := true, recurses := true, apart := false, narrowed := true }
def RowsFullUptoSaid : Prop := rowsFullUptoRow.holds Try.pinned (OpenSpec.upto rowsFullSpec)

end Rows
end Go.Proofs.Ytecpccdmmaigiaa
