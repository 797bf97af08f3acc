/-
  DERIVED. GIVEN WITH THE SEED: THE CARDS: each row of YtgghncgefhanjaaDoorRows.lean that lists a variable, with what it lists TIED to the program's text (the seventh form; the later family's looks); each row that meets fmt, with fmt's text TOLD by the authors' own Lean function (tested against real Go, not proved from fmt's source: count such statements apart). THE CARD IS WHAT COUNTS. Prove the row's statement (the work); the ties are given (YtgghncgefhanjaaDoorTie.lean); close each card by the builder's one call (the guide's Derived/Test/ToyasCard.lean, 'card_holds'). Laid BY PROGRAM, IN A SANDBOX (cutbox-door.mjs). By AI agents, Wed Nov 11 2026. No macro, syntax, notation, axiom, sorry.
-/
import Derived.Test.YtgghncgefhanjaaDoorRows
import GoSem.ClaimSeven
namespace Go.Proofs.YtgghncgefhanjaaDoor
namespace Rows

/-- THE TIED CARD OF 'bagnalllaw.JsonParses'. -/
def jsonParsesCard : Claim7 := { stood := { row := jsonParsesRow, standIns := [], harness := (true, "48a5243428e54f75c5e970cbe43431b1af01ff0794165e2268c0de4575c591e1"), looks := false }, kinds := [], alts := [], laidByText := true, laidKinds := [.data, .data, .data], laidTests := true, laidLooks := .later }
def JsonParsesCardSaid : Prop := Claim7.holds Tryd.pinned (.plain (OpenSpec.ofChange jsonParsesSpec)) jsonParsesCard

/-- THE TIED CARD OF 'bagnallkeep.SealText'. -/
def sealTextCard : Claim7 := { stood := { row := sealTextRow, standIns := [], harness := (true, "48a5243428e54f75c5e970cbe43431b1af01ff0794165e2268c0de4575c591e1"), looks := false }, kinds := [], alts := [], laidByText := true, laidKinds := [.data, .data, .data], laidTests := true, laidLooks := .later }
def SealTextCardSaid : Prop := Claim7.holds Tryd.pinned (.plain (OpenSpec.ofChange sealTextSpec)) sealTextCard

/-- THE SECOND FORM's CARD OF 'bagnalllaw.JsonParses'. -/
def jsonParsesUptoCard : Claim7 := { stood := { row := jsonParsesUptoRow, standIns := [], harness := (true, "48a5243428e54f75c5e970cbe43431b1af01ff0794165e2268c0de4575c591e1"), looks := false }, kinds := [], alts := [], laidByText := true, laidKinds := [.data, .data, .data], laidTests := true, laidLooks := .later }
def JsonParsesUptoCardSaid : Prop := Claim7.holds Tryd.pinned (.plain (OpenSpec.upto jsonParsesSpec)) jsonParsesUptoCard

/-- THE SECOND FORM's CARD OF 'bagnallkeep.SealText'. -/
def sealTextUptoCard : Claim7 := { stood := { row := sealTextUptoRow, standIns := [], harness := (true, "48a5243428e54f75c5e970cbe43431b1af01ff0794165e2268c0de4575c591e1"), looks := false }, kinds := [], alts := [], laidByText := true, laidKinds := [.data, .data, .data], laidTests := true, laidLooks := .later }
def SealTextUptoCardSaid : Prop := Claim7.holds Tryd.pinned (.plain (OpenSpec.upto sealTextSpec)) sealTextUptoCard
end Rows
end Go.Proofs.YtgghncgefhanjaaDoor
