/-
  No cell of these rows narrows 'for every input' (looked for: loops, veiled, ifaces, maps, wideKeys, modest, calm, conditions, laid).
  DERIVED. THE GIVEN ROWS OF THIS SEAT. 8 by the template 'for every input the law returns true; each argument reads behind the call as it read before'; 0 by the template 'total and deterministic' (their statements: YtlgiajcjkejhaaaTotals.lean).
  GIVEN WITH THE SEED: the statements are not yours to turn. If you find one false, say at which input.
  Laid BY PROGRAM, IN A SANDBOX (cutbox-rows.mjs): the forced cells as the released guide's own fill.sh prints them over the translation 17266e4a46d52e0a… (all of the seat's roots in one cut). By AI agents, Wed Nov 11 2026. No macro, syntax, notation, axiom, sorry.
-/
import Derived.Test.YtlgiajcjkejhaaaChecked
import GoSem.Claim
import GoSem.ClaimJoined
import GoSem.ClaimMapViews
import Derived.JoinedTies
import Derived.KernelRfl
namespace Go.Proofs.Ytlgiajcjkejhaaa
/- THE CELL 'sum', in the pinned program and in every row, IS THE sha256 OF THE DUMP (.gsa) THAT YtlgiajcjkejhaaaProg.lean LOADS. Nothing in Lean hashes anything: it is a label: what it is worth is what the hold of that sum in a sandbox is worth. -/
noncomputable def Try.pinned : Pinned := { name := "ytlgiajcjkejhaaa", sum := "17266e4a46d52e0a125bbd7a2f6462658c780cb9a24b033acf8aaf06a9c27610", checked := Try.checked }
namespace Rows
def none {H : Type} : Left H := { results := [], args := [] }

/-- 'bagnalllaw.NameUsers': WHATEVER THE INPUT: true; the input reads as it did. -/
def nameUsersSpec : ChangeSpec := { name := "nameUsers", fn := fun _ => fun
  | [d] => { results := [.lit (.bool true)], args := [d] }
  | _ => none }
def nameUsersRow : OpenClaim := { program := "ytlgiajcjkejhaaa", sum := "17266e4a46d52e0a125bbd7a2f6462658c780cb9a24b033acf8aaf06a9c27610", func := "bagnall/bagnalllaw.NameUsers", spec := "nameUsers", inPlace := ["internal/bytealg.IndexByteString", "internal/bytealg.IndexString"], unfollowed := true, recurses := true, named := ["internal/bytealg.MaxLen"], apart := false }
def NameUsersSaid : Prop := nameUsersRow.holds Try.pinned (OpenSpec.ofChange nameUsersSpec)

/-- ITS FALSE NEIGHBOUR: 'it returns false'. Refute it at one input. -/
def nameUsersWrong : ChangeSpec := { name := "nameUsers", fn := fun _ => fun
  | [d] => { results := [.lit (.bool false)], args := [d] }
  | _ => none }
def NameUsersWrongFalsely : Prop := nameUsersRow.holds Try.pinned (OpenSpec.ofChange nameUsersWrong)

/-- 'bagnalllaw.NameKeys': WHATEVER THE INPUT: true; the input reads as it did. -/
def nameKeysSpec : ChangeSpec := { name := "nameKeys", fn := fun _ => fun
  | [d] => { results := [.lit (.bool true)], args := [d] }
  | _ => none }
def nameKeysRow : OpenClaim := { program := "ytlgiajcjkejhaaa", sum := "17266e4a46d52e0a125bbd7a2f6462658c780cb9a24b033acf8aaf06a9c27610", func := "bagnall/bagnalllaw.NameKeys", spec := "nameKeys", inPlace := ["internal/bytealg.IndexByteString", "internal/bytealg.IndexString"], unfollowed := true, recurses := true, named := ["internal/bytealg.MaxLen"], apart := false }
def NameKeysSaid : Prop := nameKeysRow.holds Try.pinned (OpenSpec.ofChange nameKeysSpec)

/-- ITS FALSE NEIGHBOUR: 'it returns false'. Refute it at one input. -/
def nameKeysWrong : ChangeSpec := { name := "nameKeys", fn := fun _ => fun
  | [d] => { results := [.lit (.bool false)], args := [d] }
  | _ => none }
def NameKeysWrongFalsely : Prop := nameKeysRow.holds Try.pinned (OpenSpec.ofChange nameKeysWrong)

/-- 'bagnalllaw.NameLocals': WHATEVER THE INPUT: true; the input reads as it did. -/
def nameLocalsSpec : ChangeSpec := { name := "nameLocals", fn := fun _ => fun
  | [d] => { results := [.lit (.bool true)], args := [d] }
  | _ => none }
def nameLocalsRow : OpenClaim := { program := "ytlgiajcjkejhaaa", sum := "17266e4a46d52e0a125bbd7a2f6462658c780cb9a24b033acf8aaf06a9c27610", func := "bagnall/bagnalllaw.NameLocals", spec := "nameLocals", inPlace := ["internal/bytealg.IndexByteString"], apart := false }
def NameLocalsSaid : Prop := nameLocalsRow.holds Try.pinned (OpenSpec.ofChange nameLocalsSpec)

/-- ITS FALSE NEIGHBOUR: 'it returns false'. Refute it at one input. -/
def nameLocalsWrong : ChangeSpec := { name := "nameLocals", fn := fun _ => fun
  | [d] => { results := [.lit (.bool false)], args := [d] }
  | _ => none }
def NameLocalsWrongFalsely : Prop := nameLocalsRow.holds Try.pinned (OpenSpec.ofChange nameLocalsWrong)

/-- 'bagnalllaw.NameServers': WHATEVER THE INPUT: true; the input reads as it did. -/
def nameServersSpec : ChangeSpec := { name := "nameServers", fn := fun _ => fun
  | [d] => { results := [.lit (.bool true)], args := [d] }
  | _ => none }
def nameServersRow : OpenClaim := { program := "ytlgiajcjkejhaaa", sum := "17266e4a46d52e0a125bbd7a2f6462658c780cb9a24b033acf8aaf06a9c27610", func := "bagnall/bagnalllaw.NameServers", spec := "nameServers", inPlace := ["internal/bytealg.IndexByteString", "internal/bytealg.IndexString"], named := ["internal/bytealg.MaxLen"], apart := false }
def NameServersSaid : Prop := nameServersRow.holds Try.pinned (OpenSpec.ofChange nameServersSpec)

/-- ITS FALSE NEIGHBOUR: 'it returns false'. Refute it at one input. -/
def nameServersWrong : ChangeSpec := { name := "nameServers", fn := fun _ => fun
  | [d] => { results := [.lit (.bool false)], args := [d] }
  | _ => none }
def NameServersWrongFalsely : Prop := nameServersRow.holds Try.pinned (OpenSpec.ofChange nameServersWrong)

/-- 'bagnallkeep.UserParts': WHATEVER THE INPUT: true; the input reads as it did. -/
def userPartsSpec : ChangeSpec := { name := "userParts", fn := fun _ => fun
  | [d1, d2, d3] => { results := [.lit (.bool true)], args := [d1, d2, d3] }
  | _ => none }
def userPartsRow : OpenClaim := { program := "ytlgiajcjkejhaaa", sum := "17266e4a46d52e0a125bbd7a2f6462658c780cb9a24b033acf8aaf06a9c27610", func := "bagnall/bagnallkeep.UserParts", spec := "userParts", inPlace := ["internal/bytealg.IndexByteString", "internal/bytealg.IndexString"], unfollowed := true, recurses := true, named := ["internal/bytealg.MaxLen"], apart := false }
def UserPartsSaid : Prop := userPartsRow.holds Try.pinned (OpenSpec.ofChange userPartsSpec)

/-- ITS FALSE NEIGHBOUR: 'it returns false'. Refute it at one input. -/
def userPartsWrong : ChangeSpec := { name := "userParts", fn := fun _ => fun
  | [d1, d2, d3] => { results := [.lit (.bool false)], args := [d1, d2, d3] }
  | _ => none }
def UserPartsWrongFalsely : Prop := userPartsRow.holds Try.pinned (OpenSpec.ofChange userPartsWrong)

/-- 'bagnallkeep.ServerParts': WHATEVER THE INPUT: true; the input reads as it did. -/
def serverPartsSpec : ChangeSpec := { name := "serverParts", fn := fun _ => fun
  | [d1, d2] => { results := [.lit (.bool true)], args := [d1, d2] }
  | _ => none }
def serverPartsRow : OpenClaim := { program := "ytlgiajcjkejhaaa", sum := "17266e4a46d52e0a125bbd7a2f6462658c780cb9a24b033acf8aaf06a9c27610", func := "bagnall/bagnallkeep.ServerParts", spec := "serverParts", inPlace := ["internal/bytealg.IndexByteString", "internal/bytealg.IndexString"], named := ["internal/bytealg.MaxLen"], apart := false }
def ServerPartsSaid : Prop := serverPartsRow.holds Try.pinned (OpenSpec.ofChange serverPartsSpec)

/-- ITS FALSE NEIGHBOUR: 'it returns false'. Refute it at one input. -/
def serverPartsWrong : ChangeSpec := { name := "serverParts", fn := fun _ => fun
  | [d1, d2] => { results := [.lit (.bool false)], args := [d1, d2] }
  | _ => none }
def ServerPartsWrongFalsely : Prop := serverPartsRow.holds Try.pinned (OpenSpec.ofChange serverPartsWrong)

/-- 'bagnallkeep.KeyParts': WHATEVER THE INPUT: true; the input reads as it did. -/
def keyPartsSpec : ChangeSpec := { name := "keyParts", fn := fun _ => fun
  | [d1, d2] => { results := [.lit (.bool true)], args := [d1, d2] }
  | _ => none }
def keyPartsRow : OpenClaim := { program := "ytlgiajcjkejhaaa", sum := "17266e4a46d52e0a125bbd7a2f6462658c780cb9a24b033acf8aaf06a9c27610", func := "bagnall/bagnallkeep.KeyParts", spec := "keyParts", inPlace := ["internal/bytealg.IndexByteString", "internal/bytealg.IndexString"], unfollowed := true, recurses := true, named := ["internal/bytealg.MaxLen"], apart := false }
def KeyPartsSaid : Prop := keyPartsRow.holds Try.pinned (OpenSpec.ofChange keyPartsSpec)

/-- ITS FALSE NEIGHBOUR: 'it returns false'. Refute it at one input. -/
def keyPartsWrong : ChangeSpec := { name := "keyParts", fn := fun _ => fun
  | [d1, d2] => { results := [.lit (.bool false)], args := [d1, d2] }
  | _ => none }
def KeyPartsWrongFalsely : Prop := keyPartsRow.holds Try.pinned (OpenSpec.ofChange keyPartsWrong)

/-- 'bagnallkeep.NameLong': WHATEVER THE INPUT: true; the input reads as it did. -/
def nameLongSpec : ChangeSpec := { name := "nameLong", fn := fun _ => fun
  | [d] => { results := [.lit (.bool true)], args := [d] }
  | _ => none }
def nameLongRow : OpenClaim := { program := "ytlgiajcjkejhaaa", sum := "17266e4a46d52e0a125bbd7a2f6462658c780cb9a24b033acf8aaf06a9c27610", func := "bagnall/bagnallkeep.NameLong", spec := "nameLong", inPlace := ["internal/bytealg.IndexByteString", "internal/bytealg.IndexString"], unfollowed := true, recurses := true, named := ["internal/bytealg.MaxLen"], apart := false }
def NameLongSaid : Prop := nameLongRow.holds Try.pinned (OpenSpec.ofChange nameLongSpec)

/-- ITS FALSE NEIGHBOUR: 'it returns false'. Refute it at one input. -/
def nameLongWrong : ChangeSpec := { name := "nameLong", fn := fun _ => fun
  | [d] => { results := [.lit (.bool false)], args := [d] }
  | _ => none }
def NameLongWrongFalsely : Prop := nameLongRow.holds Try.pinned (OpenSpec.ofChange nameLongWrong)

/- THE SECOND FORM. 'bulk': how many values and letters a reading holds, each counted each time it is reached (what is shared counts as often as it is met; a slice's spare places count too). A statement '..UptoSaid' is the law's where the arguments, and the package variables that the reading takes, are together of bulk at most 1048576: NARROWER than '..Said'. Prove '..Said' where nothing that the law and all that it calls make is longer than what came in: it says more and counts as full. Else prove '..UptoSaid'. A law counts once. -/
mutual
def uptoBulk {H : Type} : DataW H → Nat
  | .lit (.string bytes) => bytes.length + 1
  | .lit _ => 1
  | .nil => 1
  | .ptr d => uptoBulk d + 1
  | .slice elems spare => uptoBulkAll elems + uptoBulkAll spare + 1
  | .agg parts => uptoBulkAll parts + 1
  | .iface _ d => uptoBulk d + 1
  | .map entries => uptoBulkEntries entries + 1
  | .held _ => 1
def uptoBulkAll {H : Type} : List (DataW H) → Nat
  | [] => 0
  | d :: r => uptoBulk d + uptoBulkAll r
def uptoBulkEntries {H : Type} : List (Lit × DataW H) → Nat
  | [] => 0
  | x :: r => uptoBulkEntry x + uptoBulkEntries r
def uptoBulkEntry {H : Type} : Lit × DataW H → Nat
  | (.string bytes, d) => bytes.length + uptoBulk d + 1
  | (_, d) => uptoBulk d + 1
 end
def uptoSmall : (H : Type) → List (DataW H) → Bool := fun _ ds => decide (uptoBulkAll ds ≤ 1048576)
def OpenSpec.upto (s : _root_.Go.ChangeSpec) : _root_.Go.OpenSpec := { _root_.Go.OpenSpec.ofChange s with cond := some uptoSmall }

/-- 'bagnalllaw.NameUsers', WHERE WHAT IT READS IS OF BULK AT MOST 1048576: true; the input reads as it did. -/
def nameUsersUptoRow : OpenClaim := { program := "ytlgiajcjkejhaaa", sum := "17266e4a46d52e0a125bbd7a2f6462658c780cb9a24b033acf8aaf06a9c27610", func := "bagnall/bagnalllaw.NameUsers", spec := "nameUsers", inPlace := ["internal/bytealg.IndexByteString", "internal/bytealg.IndexString"], unfollowed := true, recurses := true, named := ["internal/bytealg.MaxLen"], apart := false, narrowed := true }
def NameUsersUptoSaid : Prop := nameUsersUptoRow.holds Try.pinned (OpenSpec.upto nameUsersSpec)

/-- 'bagnalllaw.NameKeys', WHERE WHAT IT READS IS OF BULK AT MOST 1048576: true; the input reads as it did. -/
def nameKeysUptoRow : OpenClaim := { program := "ytlgiajcjkejhaaa", sum := "17266e4a46d52e0a125bbd7a2f6462658c780cb9a24b033acf8aaf06a9c27610", func := "bagnall/bagnalllaw.NameKeys", spec := "nameKeys", inPlace := ["internal/bytealg.IndexByteString", "internal/bytealg.IndexString"], unfollowed := true, recurses := true, named := ["internal/bytealg.MaxLen"], apart := false, narrowed := true }
def NameKeysUptoSaid : Prop := nameKeysUptoRow.holds Try.pinned (OpenSpec.upto nameKeysSpec)

/-- 'bagnalllaw.NameLocals', WHERE WHAT IT READS IS OF BULK AT MOST 1048576: true; the input reads as it did. -/
def nameLocalsUptoRow : OpenClaim := { program := "ytlgiajcjkejhaaa", sum := "17266e4a46d52e0a125bbd7a2f6462658c780cb9a24b033acf8aaf06a9c27610", func := "bagnall/bagnalllaw.NameLocals", spec := "nameLocals", inPlace := ["internal/bytealg.IndexByteString"], apart := false, narrowed := true }
def NameLocalsUptoSaid : Prop := nameLocalsUptoRow.holds Try.pinned (OpenSpec.upto nameLocalsSpec)

/-- 'bagnalllaw.NameServers', WHERE WHAT IT READS IS OF BULK AT MOST 1048576: true; the input reads as it did. -/
def nameServersUptoRow : OpenClaim := { program := "ytlgiajcjkejhaaa", sum := "17266e4a46d52e0a125bbd7a2f6462658c780cb9a24b033acf8aaf06a9c27610", func := "bagnall/bagnalllaw.NameServers", spec := "nameServers", inPlace := ["internal/bytealg.IndexByteString", "internal/bytealg.IndexString"], named := ["internal/bytealg.MaxLen"], apart := false, narrowed := true }
def NameServersUptoSaid : Prop := nameServersUptoRow.holds Try.pinned (OpenSpec.upto nameServersSpec)

/-- 'bagnallkeep.UserParts', WHERE WHAT IT READS IS OF BULK AT MOST 1048576: true; the input reads as it did. -/
def userPartsUptoRow : OpenClaim := { program := "ytlgiajcjkejhaaa", sum := "17266e4a46d52e0a125bbd7a2f6462658c780cb9a24b033acf8aaf06a9c27610", func := "bagnall/bagnallkeep.UserParts", spec := "userParts", inPlace := ["internal/bytealg.IndexByteString", "internal/bytealg.IndexString"], unfollowed := true, recurses := true, named := ["internal/bytealg.MaxLen"], apart := false, narrowed := true }
def UserPartsUptoSaid : Prop := userPartsUptoRow.holds Try.pinned (OpenSpec.upto userPartsSpec)

/-- 'bagnallkeep.ServerParts', WHERE WHAT IT READS IS OF BULK AT MOST 1048576: true; the input reads as it did. -/
def serverPartsUptoRow : OpenClaim := { program := "ytlgiajcjkejhaaa", sum := "17266e4a46d52e0a125bbd7a2f6462658c780cb9a24b033acf8aaf06a9c27610", func := "bagnall/bagnallkeep.ServerParts", spec := "serverParts", inPlace := ["internal/bytealg.IndexByteString", "internal/bytealg.IndexString"], named := ["internal/bytealg.MaxLen"], apart := false, narrowed := true }
def ServerPartsUptoSaid : Prop := serverPartsUptoRow.holds Try.pinned (OpenSpec.upto serverPartsSpec)

/-- 'bagnallkeep.KeyParts', WHERE WHAT IT READS IS OF BULK AT MOST 1048576: true; the input reads as it did. -/
def keyPartsUptoRow : OpenClaim := { program := "ytlgiajcjkejhaaa", sum := "17266e4a46d52e0a125bbd7a2f6462658c780cb9a24b033acf8aaf06a9c27610", func := "bagnall/bagnallkeep.KeyParts", spec := "keyParts", inPlace := ["internal/bytealg.IndexByteString", "internal/bytealg.IndexString"], unfollowed := true, recurses := true, named := ["internal/bytealg.MaxLen"], apart := false, narrowed := true }
def KeyPartsUptoSaid : Prop := keyPartsUptoRow.holds Try.pinned (OpenSpec.upto keyPartsSpec)

/-- 'bagnallkeep.NameLong', WHERE WHAT IT READS IS OF BULK AT MOST 1048576: true; the input reads as it did. -/
def nameLongUptoRow : OpenClaim := { program := "ytlgiajcjkejhaaa", sum := "17266e4a46d52e0a125bbd7a2f6462658c780cb9a24b033acf8aaf06a9c27610", func := "bagnall/bagnallkeep.NameLong", spec := "nameLong", inPlace := ["internal/bytealg.IndexByteString", "internal/bytealg.IndexString"], unfollowed := true, recurses := true, named := ["internal/bytealg.MaxLen"], apart := false, narrowed := true }
def NameLongUptoSaid : Prop := nameLongUptoRow.holds Try.pinned (OpenSpec.upto nameLongSpec)

end Rows
end Go.Proofs.Ytlgiajcjkejhaaa
