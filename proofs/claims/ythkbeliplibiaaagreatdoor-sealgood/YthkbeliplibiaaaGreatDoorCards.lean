/-
  DERIVED. GIVEN WITH THE SEED: THE CARDS: each row of YthkbeliplibiaaaGreatDoorRows.lean that lists a variable, with what it lists TIED to the program's text (the seventh form; the later family's looks); each row that meets fmt, with fmt's text TOLD by the authors' own Lean function (tested against real Go, not proved from fmt's source: count such statements apart). THE CARD IS WHAT COUNTS. Prove the row's statement (the work); the ties are given (YthkbeliplibiaaaGreatDoorTie.lean); close each card by the builder's one call (the guide's Derived/Test/ToyasCard.lean, 'card_holds'). Laid BY PROGRAM, IN A SANDBOX (cutbox-door.mjs). By AI agents, Wed Nov 11 2026. No macro, syntax, notation, axiom, sorry.
-/
import Derived.Test.YthkbeliplibiaaaGreatDoorRows
import GoSem.ClaimSeven
namespace Go.Proofs.YthkbeliplibiaaaGreatDoor
namespace Rows

/-- THE TIED CARD OF 'bagnalllaw.SealPuts'. -/
def sealPutsCard : Claim7 := { stood := { row := sealPutsRow, standIns := [], harness := (true, "461630c3dcf0fcb71636b21547b420467d824f48337bd1f0fe09c758585e294b"), looks := false }, kinds := [], alts := [], laidByText := true, laidKinds := [.data, .data, .data], laidTests := true, laidLooks := .later }
def SealPutsCardSaid : Prop := Claim7.holds Tryz.pinned (.plain (OpenSpec.ofChange sealPutsSpec)) sealPutsCard

/-- THE TIED CARD OF 'bagnallkeep.SealGood'. -/
def sealGoodCard : Claim7 := { stood := { row := sealGoodRow, standIns := [], harness := (true, "461630c3dcf0fcb71636b21547b420467d824f48337bd1f0fe09c758585e294b"), looks := false }, kinds := [], alts := [], laidByText := true, laidKinds := [.data, .data, .data], laidTests := true, laidLooks := .later }
def SealGoodCardSaid : Prop := Claim7.holds Tryz.pinned (.plain (OpenSpec.ofChange sealGoodSpec)) sealGoodCard

/-- THE SECOND FORM's CARD OF 'bagnalllaw.SealPuts'. -/
def sealPutsUptoCard : Claim7 := { stood := { row := sealPutsUptoRow, standIns := [], harness := (true, "461630c3dcf0fcb71636b21547b420467d824f48337bd1f0fe09c758585e294b"), looks := false }, kinds := [], alts := [], laidByText := true, laidKinds := [.data, .data, .data], laidTests := true, laidLooks := .later }
def SealPutsUptoCardSaid : Prop := Claim7.holds Tryz.pinned (.plain (OpenSpec.upto sealPutsSpec)) sealPutsUptoCard

/-- THE SECOND FORM's CARD OF 'bagnallkeep.SealGood'. -/
def sealGoodUptoCard : Claim7 := { stood := { row := sealGoodUptoRow, standIns := [], harness := (true, "461630c3dcf0fcb71636b21547b420467d824f48337bd1f0fe09c758585e294b"), looks := false }, kinds := [], alts := [], laidByText := true, laidKinds := [.data, .data, .data], laidTests := true, laidLooks := .later }
def SealGoodUptoCardSaid : Prop := Claim7.holds Tryz.pinned (.plain (OpenSpec.upto sealGoodSpec)) sealGoodUptoCard
end Rows
end Go.Proofs.YthkbeliplibiaaaGreatDoor
