/-
  DERIVED. GIVEN WITH THE SEED: THE CARDS: each row of YtikjpniobihanaaDoorRows.lean that lists a variable, with what it lists TIED to the program's text (the seventh form; the later family's looks); each row that meets fmt, with fmt's text TOLD by the authors' own Lean function (tested against real Go, not proved from fmt's source: count such statements apart). THE CARD IS WHAT COUNTS. Prove the row's statement (the work); the ties are given (YtikjpniobihanaaDoorTie.lean); close each card by the builder's one call (the guide's Derived/Test/ToyasCard.lean, 'card_holds'). Laid BY PROGRAM, IN A SANDBOX (cutbox-door.mjs). By AI agents, Wed Nov 11 2026. No macro, syntax, notation, axiom, sorry.
-/
import Derived.Test.YtikjpniobihanaaDoorRows
import GoSem.ClaimSeven
namespace Go.Proofs.YtikjpniobihanaaDoor
namespace Rows

/-- THE TIED CARD OF 'bagnalllaw.JsonParses'. -/
def jsonParsesCard : Claim7 := { stood := { row := jsonParsesRow, standIns := [], harness := (true, "1afd6cfb9d8a789f2ab84fbee285951863708b8929acfca58a90db406468b02a"), looks := false }, kinds := [], alts := [], laidByText := true, laidKinds := [.data, .data, .data], laidTests := true, laidLooks := .later }
def JsonParsesCardSaid : Prop := Claim7.holds Tryd.pinned (.plain (OpenSpec.ofChange jsonParsesSpec)) jsonParsesCard

/-- THE TIED CARD OF 'bagnalllaw.SealTexts'. -/
def sealTextsCard : Claim7 := { stood := { row := sealTextsRow, standIns := [], harness := (true, "1afd6cfb9d8a789f2ab84fbee285951863708b8929acfca58a90db406468b02a"), looks := false }, kinds := [], alts := [], laidByText := true, laidKinds := [.data, .data, .data], laidTests := true, laidLooks := .later }
def SealTextsCardSaid : Prop := Claim7.holds Tryd.pinned (.plain (OpenSpec.ofChange sealTextsSpec)) sealTextsCard

/-- THE TIED CARD OF 'bagnalllaw.SealChecks'. -/
def sealChecksCard : Claim7 := { stood := { row := sealChecksRow, standIns := [], harness := (true, "1afd6cfb9d8a789f2ab84fbee285951863708b8929acfca58a90db406468b02a"), looks := false }, kinds := [], alts := [], laidByText := true, laidKinds := [.data, .data, .data], laidTests := true, laidLooks := .later }
def SealChecksCardSaid : Prop := Claim7.holds Tryd.pinned (.plain (OpenSpec.ofChange sealChecksSpec)) sealChecksCard

/-- THE TIED CARD OF 'bagnallkeep.SealText'. -/
def sealTextCard : Claim7 := { stood := { row := sealTextRow, standIns := [], harness := (true, "1afd6cfb9d8a789f2ab84fbee285951863708b8929acfca58a90db406468b02a"), looks := false }, kinds := [], alts := [], laidByText := true, laidKinds := [.data, .data, .data], laidTests := true, laidLooks := .later }
def SealTextCardSaid : Prop := Claim7.holds Tryd.pinned (.plain (OpenSpec.ofChange sealTextSpec)) sealTextCard

/-- THE SECOND FORM's CARD OF 'bagnalllaw.JsonParses'. -/
def jsonParsesUptoCard : Claim7 := { stood := { row := jsonParsesUptoRow, standIns := [], harness := (true, "1afd6cfb9d8a789f2ab84fbee285951863708b8929acfca58a90db406468b02a"), looks := false }, kinds := [], alts := [], laidByText := true, laidKinds := [.data, .data, .data], laidTests := true, laidLooks := .later }
def JsonParsesUptoCardSaid : Prop := Claim7.holds Tryd.pinned (.plain (OpenSpec.upto jsonParsesSpec)) jsonParsesUptoCard

/-- THE SECOND FORM's CARD OF 'bagnalllaw.SealTexts'. -/
def sealTextsUptoCard : Claim7 := { stood := { row := sealTextsUptoRow, standIns := [], harness := (true, "1afd6cfb9d8a789f2ab84fbee285951863708b8929acfca58a90db406468b02a"), looks := false }, kinds := [], alts := [], laidByText := true, laidKinds := [.data, .data, .data], laidTests := true, laidLooks := .later }
def SealTextsUptoCardSaid : Prop := Claim7.holds Tryd.pinned (.plain (OpenSpec.upto sealTextsSpec)) sealTextsUptoCard

/-- THE SECOND FORM's CARD OF 'bagnalllaw.SealChecks'. -/
def sealChecksUptoCard : Claim7 := { stood := { row := sealChecksUptoRow, standIns := [], harness := (true, "1afd6cfb9d8a789f2ab84fbee285951863708b8929acfca58a90db406468b02a"), looks := false }, kinds := [], alts := [], laidByText := true, laidKinds := [.data, .data, .data], laidTests := true, laidLooks := .later }
def SealChecksUptoCardSaid : Prop := Claim7.holds Tryd.pinned (.plain (OpenSpec.upto sealChecksSpec)) sealChecksUptoCard

/-- THE SECOND FORM's CARD OF 'bagnallkeep.SealText'. -/
def sealTextUptoCard : Claim7 := { stood := { row := sealTextUptoRow, standIns := [], harness := (true, "1afd6cfb9d8a789f2ab84fbee285951863708b8929acfca58a90db406468b02a"), looks := false }, kinds := [], alts := [], laidByText := true, laidKinds := [.data, .data, .data], laidTests := true, laidLooks := .later }
def SealTextUptoCardSaid : Prop := Claim7.holds Tryd.pinned (.plain (OpenSpec.upto sealTextSpec)) sealTextUptoCard
end Rows
end Go.Proofs.YtikjpniobihanaaDoor
