/-
  DERIVED. GIVEN WITH THE SEED: THE CARDS: each row of YtgghncgefhanjaaGreatDoorRows.lean that lists a variable, with what it lists TIED to the program's text (the seventh form; the later family's looks); each row that meets fmt, with fmt's text TOLD by the authors' own Lean function (tested against real Go, not proved from fmt's source: count such statements apart). THE CARD IS WHAT COUNTS. Prove the row's statement (the work); the ties are given (YtgghncgefhanjaaGreatDoorTie.lean); close each card by the builder's one call (the guide's Derived/Test/ToyasCard.lean, 'card_holds'). Laid BY PROGRAM, IN A SANDBOX (cutbox-door.mjs). By AI agents, Wed Nov 11 2026. No macro, syntax, notation, axiom, sorry.
-/
import Derived.Test.YtgghncgefhanjaaGreatDoorRows
import GoSem.ClaimSeven
namespace Go.Proofs.YtgghncgefhanjaaGreatDoor
namespace Rows

/-- THE TIED CARD OF 'bagnalllaw.SealPuts'. -/
def sealPutsCard : Claim7 := { stood := { row := sealPutsRow, standIns := [], harness := (true, "e2f20f5cb66960647b50771eb037385487ac4342b35af255abdd2d33e8159461"), looks := false }, kinds := [], alts := [], laidByText := true, laidKinds := [.data, .data, .data], laidTests := true, laidLooks := .later }
def SealPutsCardSaid : Prop := Claim7.holds Tryz.pinned (.plain (OpenSpec.ofChange sealPutsSpec)) sealPutsCard

/-- THE TIED CARD OF 'bagnallkeep.SealGood'. -/
def sealGoodCard : Claim7 := { stood := { row := sealGoodRow, standIns := [], harness := (true, "e2f20f5cb66960647b50771eb037385487ac4342b35af255abdd2d33e8159461"), looks := false }, kinds := [], alts := [], laidByText := true, laidKinds := [.data, .data, .data], laidTests := true, laidLooks := .later }
def SealGoodCardSaid : Prop := Claim7.holds Tryz.pinned (.plain (OpenSpec.ofChange sealGoodSpec)) sealGoodCard

/-- THE TIED CARD OF 'bagnallkeep.SealTurned'. -/
def sealTurnedCard : Claim7 := { stood := { row := sealTurnedRow, standIns := [], harness := (true, "e2f20f5cb66960647b50771eb037385487ac4342b35af255abdd2d33e8159461"), looks := false }, kinds := [], alts := [], laidByText := true, laidKinds := [.data, .data, .data], laidTests := true, laidLooks := .later }
def SealTurnedCardSaid : Prop := Claim7.holds Tryz.pinned (.plain (OpenSpec.ofChange sealTurnedSpec)) sealTurnedCard

/-- THE TIED CARD OF 'bagnallkeep.SealAgain'. -/
def sealAgainCard : Claim7 := { stood := { row := sealAgainRow, standIns := [], harness := (true, "e2f20f5cb66960647b50771eb037385487ac4342b35af255abdd2d33e8159461"), looks := false }, kinds := [], alts := [], laidByText := true, laidKinds := [.data, .data, .data], laidTests := true, laidLooks := .later }
def SealAgainCardSaid : Prop := Claim7.holds Tryz.pinned (.plain (OpenSpec.ofChange sealAgainSpec)) sealAgainCard

/-- THE TIED CARD OF 'bagnalltop.TopSealed'. -/
def topSealedCard : Claim7 := { stood := { row := topSealedRow, standIns := [], harness := (true, "e2f20f5cb66960647b50771eb037385487ac4342b35af255abdd2d33e8159461"), looks := false }, kinds := [], alts := [], laidByText := true, laidKinds := [.data, .data, .data], laidTests := true, laidLooks := .later }
def TopSealedCardSaid : Prop := Claim7.holds Tryz.pinned (.plain (OpenSpec.ofChange topSealedSpec)) topSealedCard

/-- THE SECOND FORM's CARD OF 'bagnalllaw.SealPuts'. -/
def sealPutsUptoCard : Claim7 := { stood := { row := sealPutsUptoRow, standIns := [], harness := (true, "e2f20f5cb66960647b50771eb037385487ac4342b35af255abdd2d33e8159461"), looks := false }, kinds := [], alts := [], laidByText := true, laidKinds := [.data, .data, .data], laidTests := true, laidLooks := .later }
def SealPutsUptoCardSaid : Prop := Claim7.holds Tryz.pinned (.plain (OpenSpec.upto sealPutsSpec)) sealPutsUptoCard

/-- THE SECOND FORM's CARD OF 'bagnallkeep.SealGood'. -/
def sealGoodUptoCard : Claim7 := { stood := { row := sealGoodUptoRow, standIns := [], harness := (true, "e2f20f5cb66960647b50771eb037385487ac4342b35af255abdd2d33e8159461"), looks := false }, kinds := [], alts := [], laidByText := true, laidKinds := [.data, .data, .data], laidTests := true, laidLooks := .later }
def SealGoodUptoCardSaid : Prop := Claim7.holds Tryz.pinned (.plain (OpenSpec.upto sealGoodSpec)) sealGoodUptoCard

/-- THE SECOND FORM's CARD OF 'bagnallkeep.SealTurned'. -/
def sealTurnedUptoCard : Claim7 := { stood := { row := sealTurnedUptoRow, standIns := [], harness := (true, "e2f20f5cb66960647b50771eb037385487ac4342b35af255abdd2d33e8159461"), looks := false }, kinds := [], alts := [], laidByText := true, laidKinds := [.data, .data, .data], laidTests := true, laidLooks := .later }
def SealTurnedUptoCardSaid : Prop := Claim7.holds Tryz.pinned (.plain (OpenSpec.upto sealTurnedSpec)) sealTurnedUptoCard

/-- THE SECOND FORM's CARD OF 'bagnallkeep.SealAgain'. -/
def sealAgainUptoCard : Claim7 := { stood := { row := sealAgainUptoRow, standIns := [], harness := (true, "e2f20f5cb66960647b50771eb037385487ac4342b35af255abdd2d33e8159461"), looks := false }, kinds := [], alts := [], laidByText := true, laidKinds := [.data, .data, .data], laidTests := true, laidLooks := .later }
def SealAgainUptoCardSaid : Prop := Claim7.holds Tryz.pinned (.plain (OpenSpec.upto sealAgainSpec)) sealAgainUptoCard

/-- THE SECOND FORM's CARD OF 'bagnalltop.TopSealed'. -/
def topSealedUptoCard : Claim7 := { stood := { row := topSealedUptoRow, standIns := [], harness := (true, "e2f20f5cb66960647b50771eb037385487ac4342b35af255abdd2d33e8159461"), looks := false }, kinds := [], alts := [], laidByText := true, laidKinds := [.data, .data, .data], laidTests := true, laidLooks := .later }
def TopSealedUptoCardSaid : Prop := Claim7.holds Tryz.pinned (.plain (OpenSpec.upto topSealedSpec)) topSealedUptoCard
end Rows
end Go.Proofs.YtgghncgefhanjaaGreatDoor
