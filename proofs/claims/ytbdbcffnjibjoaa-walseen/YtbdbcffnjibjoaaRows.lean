/-
  No cell of these rows narrows 'for every input' (looked for: loops, veiled, ifaces, maps, wideKeys, modest, calm, conditions, laid).
  DERIVED. THE GIVEN ROWS OF THIS SEAT. 7 by the template 'for every input the law returns true; each argument reads behind the call as it read before'; 0 by the template 'total and deterministic' (their statements: YtbdbcffnjibjoaaTotals.lean).
  GIVEN WITH THE SEED: the statements are not yours to turn. If you find one false, say at which input.
  Laid BY PROGRAM, IN A SANDBOX (cutbox-rows.mjs): the forced cells as the released guide's own fill.sh prints them over the translation 4210206854307c03… (all of the seat's roots in one cut). By AI agents, Wed Nov 11 2026. No macro, syntax, notation, axiom, sorry.
-/
import Derived.Test.YtbdbcffnjibjoaaChecked
import GoSem.Claim
import GoSem.ClaimJoined
import GoSem.ClaimMapViews
import Derived.JoinedTies
import Derived.KernelRfl
namespace Go.Proofs.Ytbdbcffnjibjoaa
/- THE CELL 'sum', in the pinned program and in every row, IS THE sha256 OF THE DUMP (.gsa) THAT YtbdbcffnjibjoaaProg.lean LOADS. Nothing in Lean hashes anything: it is a label: what it is worth is what the hold of that sum in a sandbox is worth. -/
noncomputable def Try.pinned : Pinned := { name := "ytbdbcffnjibjoaa", sum := "4210206854307c03bd428e2c1308d4cf0353efee6a586918a4314aea7b9b1386", checked := Try.checked }
namespace Rows
def none {H : Type} : Left H := { results := [], args := [] }

/-- 'bagnalllaw.WalPacks': WHATEVER THE INPUT: true; the input reads as it did. -/
def walPacksSpec : ChangeSpec := { name := "walPacks", fn := fun _ => fun
  | [d] => { results := [.lit (.bool true)], args := [d] }
  | _ => none }
def walPacksRow : OpenClaim := { program := "ytbdbcffnjibjoaa", sum := "4210206854307c03bd428e2c1308d4cf0353efee6a586918a4314aea7b9b1386", func := "bagnall/bagnalllaw.WalPacks", spec := "walPacks", unfollowed := true, recurses := true, apart := false }
def WalPacksSaid : Prop := walPacksRow.holds Try.pinned (OpenSpec.ofChange walPacksSpec)

/-- ITS FALSE NEIGHBOUR: 'it returns false'. Refute it at one input. -/
def walPacksWrong : ChangeSpec := { name := "walPacks", fn := fun _ => fun
  | [d] => { results := [.lit (.bool false)], args := [d] }
  | _ => none }
def WalPacksWrongFalsely : Prop := walPacksRow.holds Try.pinned (OpenSpec.ofChange walPacksWrong)

/-- 'bagnalllaw.WalScans': WHATEVER THE INPUT: true; the input reads as it did. -/
def walScansSpec : ChangeSpec := { name := "walScans", fn := fun _ => fun
  | [d] => { results := [.lit (.bool true)], args := [d] }
  | _ => none }
def walScansRow : OpenClaim := { program := "ytbdbcffnjibjoaa", sum := "4210206854307c03bd428e2c1308d4cf0353efee6a586918a4314aea7b9b1386", func := "bagnall/bagnalllaw.WalScans", spec := "walScans", unfollowed := true, recurses := true, apart := false }
def WalScansSaid : Prop := walScansRow.holds Try.pinned (OpenSpec.ofChange walScansSpec)

/-- ITS FALSE NEIGHBOUR: 'it returns false'. Refute it at one input. -/
def walScansWrong : ChangeSpec := { name := "walScans", fn := fun _ => fun
  | [d] => { results := [.lit (.bool false)], args := [d] }
  | _ => none }
def WalScansWrongFalsely : Prop := walScansRow.holds Try.pinned (OpenSpec.ofChange walScansWrong)

/-- 'bagnallkeep.WalTorn': WHATEVER THE INPUT: true; the input reads as it did. -/
def walTornSpec : ChangeSpec := { name := "walTorn", fn := fun _ => fun
  | [d1, d2] => { results := [.lit (.bool true)], args := [d1, d2] }
  | _ => none }
def walTornRow : OpenClaim := { program := "ytbdbcffnjibjoaa", sum := "4210206854307c03bd428e2c1308d4cf0353efee6a586918a4314aea7b9b1386", func := "bagnall/bagnallkeep.WalTorn", spec := "walTorn", unfollowed := true, recurses := true, apart := false }
def WalTornSaid : Prop := walTornRow.holds Try.pinned (OpenSpec.ofChange walTornSpec)

/-- ITS FALSE NEIGHBOUR: 'it returns false'. Refute it at one input. -/
def walTornWrong : ChangeSpec := { name := "walTorn", fn := fun _ => fun
  | [d1, d2] => { results := [.lit (.bool false)], args := [d1, d2] }
  | _ => none }
def WalTornWrongFalsely : Prop := walTornRow.holds Try.pinned (OpenSpec.ofChange walTornWrong)

/-- 'bagnallkeep.WalMore': WHATEVER THE INPUT: true; the input reads as it did. -/
def walMoreSpec : ChangeSpec := { name := "walMore", fn := fun _ => fun
  | [d1, d2] => { results := [.lit (.bool true)], args := [d1, d2] }
  | _ => none }
def walMoreRow : OpenClaim := { program := "ytbdbcffnjibjoaa", sum := "4210206854307c03bd428e2c1308d4cf0353efee6a586918a4314aea7b9b1386", func := "bagnall/bagnallkeep.WalMore", spec := "walMore", unfollowed := true, recurses := true, apart := false }
def WalMoreSaid : Prop := walMoreRow.holds Try.pinned (OpenSpec.ofChange walMoreSpec)

/-- ITS FALSE NEIGHBOUR: 'it returns false'. Refute it at one input. -/
def walMoreWrong : ChangeSpec := { name := "walMore", fn := fun _ => fun
  | [d1, d2] => { results := [.lit (.bool false)], args := [d1, d2] }
  | _ => none }
def WalMoreWrongFalsely : Prop := walMoreRow.holds Try.pinned (OpenSpec.ofChange walMoreWrong)

/-- 'bagnallkeep.WalSeen': WHATEVER THE INPUT: true; the input reads as it did. -/
def walSeenSpec : ChangeSpec := { name := "walSeen", fn := fun _ => fun
  | [d1, d2, d3] => { results := [.lit (.bool true)], args := [d1, d2, d3] }
  | _ => none }
def walSeenRow : OpenClaim := { program := "ytbdbcffnjibjoaa", sum := "4210206854307c03bd428e2c1308d4cf0353efee6a586918a4314aea7b9b1386", func := "bagnall/bagnallkeep.WalSeen", spec := "walSeen", unfollowed := true, recurses := true, apart := false }
def WalSeenSaid : Prop := walSeenRow.holds Try.pinned (OpenSpec.ofChange walSeenSpec)

/-- ITS FALSE NEIGHBOUR: 'it returns false'. Refute it at one input. -/
def walSeenWrong : ChangeSpec := { name := "walSeen", fn := fun _ => fun
  | [d1, d2, d3] => { results := [.lit (.bool false)], args := [d1, d2, d3] }
  | _ => none }
def WalSeenWrongFalsely : Prop := walSeenRow.holds Try.pinned (OpenSpec.ofChange walSeenWrong)

/-- 'bagnallkeep.WalLong': WHATEVER THE INPUT: true; the input reads as it did. -/
def walLongSpec : ChangeSpec := { name := "walLong", fn := fun _ => fun
  | [d] => { results := [.lit (.bool true)], args := [d] }
  | _ => none }
def walLongRow : OpenClaim := { program := "ytbdbcffnjibjoaa", sum := "4210206854307c03bd428e2c1308d4cf0353efee6a586918a4314aea7b9b1386", func := "bagnall/bagnallkeep.WalLong", spec := "walLong", unfollowed := true, recurses := true, apart := false }
def WalLongSaid : Prop := walLongRow.holds Try.pinned (OpenSpec.ofChange walLongSpec)

/-- ITS FALSE NEIGHBOUR: 'it returns false'. Refute it at one input. -/
def walLongWrong : ChangeSpec := { name := "walLong", fn := fun _ => fun
  | [d] => { results := [.lit (.bool false)], args := [d] }
  | _ => none }
def WalLongWrongFalsely : Prop := walLongRow.holds Try.pinned (OpenSpec.ofChange walLongWrong)

/-- 'bagnallkeep.WalUsed': WHATEVER THE INPUT: true; the input reads as it did. -/
def walUsedSpec : ChangeSpec := { name := "walUsed", fn := fun _ => fun
  | [d1, d2] => { results := [.lit (.bool true)], args := [d1, d2] }
  | _ => none }
def walUsedRow : OpenClaim := { program := "ytbdbcffnjibjoaa", sum := "4210206854307c03bd428e2c1308d4cf0353efee6a586918a4314aea7b9b1386", func := "bagnall/bagnallkeep.WalUsed", spec := "walUsed", unfollowed := true, recurses := true, apart := false }
def WalUsedSaid : Prop := walUsedRow.holds Try.pinned (OpenSpec.ofChange walUsedSpec)

/-- ITS FALSE NEIGHBOUR: 'it returns false'. Refute it at one input. -/
def walUsedWrong : ChangeSpec := { name := "walUsed", fn := fun _ => fun
  | [d1, d2] => { results := [.lit (.bool false)], args := [d1, d2] }
  | _ => none }
def WalUsedWrongFalsely : Prop := walUsedRow.holds Try.pinned (OpenSpec.ofChange walUsedWrong)

/- THE SECOND FORM. 'bulk': how many values and letters a reading holds, each counted each time it is reached (what is shared counts as often as it is met; a slice's spare places count too). A statement '..UptoSaid' is the law's where the arguments, and the package variables that the reading takes, are together of bulk at most 1048576: NARROWER than '..Said'. Prove '..Said' where nothing that the law and all that it calls make is longer than what came in: it says more and counts as full. Else prove '..UptoSaid'. A law counts once. -/
mutual
def uptoBulk {H : Type} : DataW H → Nat
  | .lit (.string bytes) => bytes.length + 1
  | .lit _ => 1
  | .nil => 1
  | .ptr d => uptoBulk d + 1
  | .slice elems spare => uptoBulkAll elems + uptoBulkAll spare + 1
  | .agg parts => uptoBulkAll parts + 1
  | .iface _ d => uptoBulk d + 1
  | .map entries => uptoBulkEntries entries + 1
  | .held _ => 1
def uptoBulkAll {H : Type} : List (DataW H) → Nat
  | [] => 0
  | d :: r => uptoBulk d + uptoBulkAll r
def uptoBulkEntries {H : Type} : List (Lit × DataW H) → Nat
  | [] => 0
  | x :: r => uptoBulkEntry x + uptoBulkEntries r
def uptoBulkEntry {H : Type} : Lit × DataW H → Nat
  | (.string bytes, d) => bytes.length + uptoBulk d + 1
  | (_, d) => uptoBulk d + 1
 end
def uptoSmall : (H : Type) → List (DataW H) → Bool := fun _ ds => decide (uptoBulkAll ds ≤ 1048576)
def OpenSpec.upto (s : _root_.Go.ChangeSpec) : _root_.Go.OpenSpec := { _root_.Go.OpenSpec.ofChange s with cond := some uptoSmall }

/-- 'bagnalllaw.WalPacks', WHERE WHAT IT READS IS OF BULK AT MOST 1048576: true; the input reads as it did. -/
def walPacksUptoRow : OpenClaim := { program := "ytbdbcffnjibjoaa", sum := "4210206854307c03bd428e2c1308d4cf0353efee6a586918a4314aea7b9b1386", func := "bagnall/bagnalllaw.WalPacks", spec := "walPacks", unfollowed := true, recurses := true, apart := false, narrowed := true }
def WalPacksUptoSaid : Prop := walPacksUptoRow.holds Try.pinned (OpenSpec.upto walPacksSpec)

/-- 'bagnalllaw.WalScans', WHERE WHAT IT READS IS OF BULK AT MOST 1048576: true; the input reads as it did. -/
def walScansUptoRow : OpenClaim := { program := "ytbdbcffnjibjoaa", sum := "4210206854307c03bd428e2c1308d4cf0353efee6a586918a4314aea7b9b1386", func := "bagnall/bagnalllaw.WalScans", spec := "walScans", unfollowed := true, recurses := true, apart := false, narrowed := true }
def WalScansUptoSaid : Prop := walScansUptoRow.holds Try.pinned (OpenSpec.upto walScansSpec)

/-- 'bagnallkeep.WalTorn', WHERE WHAT IT READS IS OF BULK AT MOST 1048576: true; the input reads as it did. -/
def walTornUptoRow : OpenClaim := { program := "ytbdbcffnjibjoaa", sum := "4210206854307c03bd428e2c1308d4cf0353efee6a586918a4314aea7b9b1386", func := "bagnall/bagnallkeep.WalTorn", spec := "walTorn", unfollowed := true, recurses := true, apart := false, narrowed := true }
def WalTornUptoSaid : Prop := walTornUptoRow.holds Try.pinned (OpenSpec.upto walTornSpec)

/-- 'bagnallkeep.WalMore', WHERE WHAT IT READS IS OF BULK AT MOST 1048576: true; the input reads as it did. -/
def walMoreUptoRow : OpenClaim := { program := "ytbdbcffnjibjoaa", sum := "4210206854307c03bd428e2c1308d4cf0353efee6a586918a4314aea7b9b1386", func := "bagnall/bagnallkeep.WalMore", spec := "walMore", unfollowed := true, recurses := true, apart := false, narrowed := true }
def WalMoreUptoSaid : Prop := walMoreUptoRow.holds Try.pinned (OpenSpec.upto walMoreSpec)

/-- 'bagnallkeep.WalSeen', WHERE WHAT IT READS IS OF BULK AT MOST 1048576: true; the input reads as it did. -/
def walSeenUptoRow : OpenClaim := { program := "ytbdbcffnjibjoaa", sum := "4210206854307c03bd428e2c1308d4cf0353efee6a586918a4314aea7b9b1386", func := "bagnall/bagnallkeep.WalSeen", spec := "walSeen", unfollowed := true, recurses := true, apart := false, narrowed := true }
def WalSeenUptoSaid : Prop := walSeenUptoRow.holds Try.pinned (OpenSpec.upto walSeenSpec)

/-- 'bagnallkeep.WalLong', WHERE WHAT IT READS IS OF BULK AT MOST 1048576: true; the input reads as it did. -/
def walLongUptoRow : OpenClaim := { program := "ytbdbcffnjibjoaa", sum := "4210206854307c03bd428e2c1308d4cf0353efee6a586918a4314aea7b9b1386", func := "bagnall/bagnallkeep.WalLong", spec := "walLong", unfollowed := true, recurses := true, apart := false, narrowed := true }
def WalLongUptoSaid : Prop := walLongUptoRow.holds Try.pinned (OpenSpec.upto walLongSpec)

/-- 'bagnallkeep.WalUsed', WHERE WHAT IT READS IS OF BULK AT MOST 1048576: true; the input reads as it did. -/
def walUsedUptoRow : OpenClaim := { program := "ytbdbcffnjibjoaa", sum := "4210206854307c03bd428e2c1308d4cf0353efee6a586918a4314aea7b9b1386", func := "bagnall/bagnallkeep.WalUsed", spec := "walUsed", unfollowed := true, recurses := true, apart := false, narrowed := true }
def WalUsedUptoSaid : Prop := walUsedUptoRow.holds Try.pinned (OpenSpec.upto walUsedSpec)

end Rows
end Go.Proofs.Ytbdbcffnjibjoaa
