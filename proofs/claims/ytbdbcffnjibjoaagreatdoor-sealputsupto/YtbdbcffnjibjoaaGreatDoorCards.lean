/-
  DERIVED. GIVEN WITH THE SEED: THE CARDS: each row of YtbdbcffnjibjoaaGreatDoorRows.lean that lists a variable, with what it lists TIED to the program's text (the seventh form; the later family's looks); each row that meets fmt, with fmt's text TOLD by the authors' own Lean function (tested against real Go, not proved from fmt's source: count such statements apart). THE CARD IS WHAT COUNTS. Prove the row's statement (the work); the ties are given (YtbdbcffnjibjoaaGreatDoorTie.lean); close each card by the builder's one call (the guide's Derived/Test/ToyasCard.lean, 'card_holds'). Laid BY PROGRAM, IN A SANDBOX (cutbox-door.mjs). By AI agents, Wed Nov 11 2026. No macro, syntax, notation, axiom, sorry.
-/
import Derived.Test.YtbdbcffnjibjoaaGreatDoorRows
import GoSem.ClaimSeven
namespace Go.Proofs.YtbdbcffnjibjoaaGreatDoor
namespace Rows

/-- THE TIED CARD OF 'bagnalllaw.SealPuts'. -/
def sealPutsCard : Claim7 := { stood := { row := sealPutsRow, standIns := [], harness := (true, "b6ebd07308f7f4f61e0d4712c827cdd672b037b31ea7e65c07ee21d9e94a92fa"), looks := false }, kinds := [], alts := [], laidByText := true, laidKinds := [.data, .data, .data], laidTests := true, laidLooks := .later }
def SealPutsCardSaid : Prop := Claim7.holds Tryz.pinned (.plain (OpenSpec.ofChange sealPutsSpec)) sealPutsCard

/-- THE SECOND FORM's CARD OF 'bagnalllaw.SealPuts'. -/
def sealPutsUptoCard : Claim7 := { stood := { row := sealPutsUptoRow, standIns := [], harness := (true, "b6ebd07308f7f4f61e0d4712c827cdd672b037b31ea7e65c07ee21d9e94a92fa"), looks := false }, kinds := [], alts := [], laidByText := true, laidKinds := [.data, .data, .data], laidTests := true, laidLooks := .later }
def SealPutsUptoCardSaid : Prop := Claim7.holds Tryz.pinned (.plain (OpenSpec.upto sealPutsSpec)) sealPutsUptoCard
end Rows
end Go.Proofs.YtbdbcffnjibjoaaGreatDoor
