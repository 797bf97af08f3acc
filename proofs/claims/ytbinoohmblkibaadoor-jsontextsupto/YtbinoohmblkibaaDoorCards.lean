/-
  DERIVED. GIVEN WITH THE SEED: THE CARDS: each row of YtbinoohmblkibaaDoorRows.lean that lists a variable, with what it lists TIED to the program's text (the seventh form; the later family's looks); each row that meets fmt, with fmt's text TOLD by the authors' own Lean function (tested against real Go, not proved from fmt's source: count such statements apart). THE CARD IS WHAT COUNTS. Prove the row's statement (the work); the ties are given (YtbinoohmblkibaaDoorTie.lean); close each card by the builder's one call (the guide's Derived/Test/ToyasCard.lean, 'card_holds'). Laid BY PROGRAM, IN A SANDBOX (cutbox-door.mjs). By AI agents, Wed Nov 11 2026. No macro, syntax, notation, axiom, sorry.
-/
import Derived.Test.YtbinoohmblkibaaDoorRows
import GoSem.ClaimSeven
namespace Go.Proofs.YtbinoohmblkibaaDoor
namespace Rows

/-- THE TIED CARD OF 'bagnalllaw.JsonChecks'. -/
def jsonChecksCard : Claim7 := { stood := { row := jsonChecksRow, standIns := [], harness := (true, "74a038759c627f03a956775467962e6bae4bcd6a3f7cb05055942325182e5120"), looks := false }, kinds := [], alts := [], laidByText := true, laidKinds := [.data, .data, .data], laidTests := true, laidLooks := .later }
def JsonChecksCardSaid : Prop := Claim7.holds Tryd.pinned (.plain (OpenSpec.ofChange jsonChecksSpec)) jsonChecksCard

/-- THE TIED CARD OF 'bagnalllaw.JsonTexts'. -/
def jsonTextsCard : Claim7 := { stood := { row := jsonTextsRow, standIns := [], harness := (true, "74a038759c627f03a956775467962e6bae4bcd6a3f7cb05055942325182e5120"), looks := false }, kinds := [], alts := [], laidByText := true, laidKinds := [.data, .data, .data], laidTests := true, laidLooks := .later }
def JsonTextsCardSaid : Prop := Claim7.holds Tryd.pinned (.plain (OpenSpec.ofChange jsonTextsSpec)) jsonTextsCard

/-- THE TIED CARD OF 'bagnalllaw.JsonParses'. -/
def jsonParsesCard : Claim7 := { stood := { row := jsonParsesRow, standIns := [], harness := (true, "74a038759c627f03a956775467962e6bae4bcd6a3f7cb05055942325182e5120"), looks := false }, kinds := [], alts := [], laidByText := true, laidKinds := [.data, .data, .data], laidTests := true, laidLooks := .later }
def JsonParsesCardSaid : Prop := Claim7.holds Tryd.pinned (.plain (OpenSpec.ofChange jsonParsesSpec)) jsonParsesCard

/-- THE TIED CARD OF 'bagnallkeep.JsonBack'. -/
def jsonBackCard : Claim7 := { stood := { row := jsonBackRow, standIns := [], harness := (true, "74a038759c627f03a956775467962e6bae4bcd6a3f7cb05055942325182e5120"), looks := false }, kinds := [], alts := [], laidByText := true, laidKinds := [.data, .data, .data], laidTests := true, laidLooks := .later }
def JsonBackCardSaid : Prop := Claim7.holds Tryd.pinned (.plain (OpenSpec.ofChange jsonBackSpec)) jsonBackCard

/-- THE TIED CARD OF 'bagnallkeep.JsonSpread'. -/
def jsonSpreadCard : Claim7 := { stood := { row := jsonSpreadRow, standIns := [], harness := (true, "74a038759c627f03a956775467962e6bae4bcd6a3f7cb05055942325182e5120"), looks := false }, kinds := [], alts := [], laidByText := true, laidKinds := [.data, .data, .data], laidTests := true, laidLooks := .later }
def JsonSpreadCardSaid : Prop := Claim7.holds Tryd.pinned (.plain (OpenSpec.ofChange jsonSpreadSpec)) jsonSpreadCard

/-- THE TIED CARD OF 'bagnallkeep.JsonFixed'. -/
def jsonFixedCard : Claim7 := { stood := { row := jsonFixedRow, standIns := [], harness := (true, "74a038759c627f03a956775467962e6bae4bcd6a3f7cb05055942325182e5120"), looks := false }, kinds := [], alts := [], laidByText := true, laidKinds := [.data, .data, .data], laidTests := true, laidLooks := .later }
def JsonFixedCardSaid : Prop := Claim7.holds Tryd.pinned (.plain (OpenSpec.ofChange jsonFixedSpec)) jsonFixedCard

/-- THE SECOND FORM's CARD OF 'bagnalllaw.JsonChecks'. -/
def jsonChecksUptoCard : Claim7 := { stood := { row := jsonChecksUptoRow, standIns := [], harness := (true, "74a038759c627f03a956775467962e6bae4bcd6a3f7cb05055942325182e5120"), looks := false }, kinds := [], alts := [], laidByText := true, laidKinds := [.data, .data, .data], laidTests := true, laidLooks := .later }
def JsonChecksUptoCardSaid : Prop := Claim7.holds Tryd.pinned (.plain (OpenSpec.upto jsonChecksSpec)) jsonChecksUptoCard

/-- THE SECOND FORM's CARD OF 'bagnalllaw.JsonTexts'. -/
def jsonTextsUptoCard : Claim7 := { stood := { row := jsonTextsUptoRow, standIns := [], harness := (true, "74a038759c627f03a956775467962e6bae4bcd6a3f7cb05055942325182e5120"), looks := false }, kinds := [], alts := [], laidByText := true, laidKinds := [.data, .data, .data], laidTests := true, laidLooks := .later }
def JsonTextsUptoCardSaid : Prop := Claim7.holds Tryd.pinned (.plain (OpenSpec.upto jsonTextsSpec)) jsonTextsUptoCard

/-- THE SECOND FORM's CARD OF 'bagnalllaw.JsonParses'. -/
def jsonParsesUptoCard : Claim7 := { stood := { row := jsonParsesUptoRow, standIns := [], harness := (true, "74a038759c627f03a956775467962e6bae4bcd6a3f7cb05055942325182e5120"), looks := false }, kinds := [], alts := [], laidByText := true, laidKinds := [.data, .data, .data], laidTests := true, laidLooks := .later }
def JsonParsesUptoCardSaid : Prop := Claim7.holds Tryd.pinned (.plain (OpenSpec.upto jsonParsesSpec)) jsonParsesUptoCard

/-- THE SECOND FORM's CARD OF 'bagnallkeep.JsonBack'. -/
def jsonBackUptoCard : Claim7 := { stood := { row := jsonBackUptoRow, standIns := [], harness := (true, "74a038759c627f03a956775467962e6bae4bcd6a3f7cb05055942325182e5120"), looks := false }, kinds := [], alts := [], laidByText := true, laidKinds := [.data, .data, .data], laidTests := true, laidLooks := .later }
def JsonBackUptoCardSaid : Prop := Claim7.holds Tryd.pinned (.plain (OpenSpec.upto jsonBackSpec)) jsonBackUptoCard

/-- THE SECOND FORM's CARD OF 'bagnallkeep.JsonSpread'. -/
def jsonSpreadUptoCard : Claim7 := { stood := { row := jsonSpreadUptoRow, standIns := [], harness := (true, "74a038759c627f03a956775467962e6bae4bcd6a3f7cb05055942325182e5120"), looks := false }, kinds := [], alts := [], laidByText := true, laidKinds := [.data, .data, .data], laidTests := true, laidLooks := .later }
def JsonSpreadUptoCardSaid : Prop := Claim7.holds Tryd.pinned (.plain (OpenSpec.upto jsonSpreadSpec)) jsonSpreadUptoCard

/-- THE SECOND FORM's CARD OF 'bagnallkeep.JsonFixed'. -/
def jsonFixedUptoCard : Claim7 := { stood := { row := jsonFixedUptoRow, standIns := [], harness := (true, "74a038759c627f03a956775467962e6bae4bcd6a3f7cb05055942325182e5120"), looks := false }, kinds := [], alts := [], laidByText := true, laidKinds := [.data, .data, .data], laidTests := true, laidLooks := .later }
def JsonFixedUptoCardSaid : Prop := Claim7.holds Tryd.pinned (.plain (OpenSpec.upto jsonFixedSpec)) jsonFixedUptoCard
end Rows
end Go.Proofs.YtbinoohmblkibaaDoor
