/-
  No cell of these rows narrows 'for every input' (looked for: loops, veiled, ifaces, maps, wideKeys, modest, calm, conditions, laid).
  DERIVED. THE GIVEN ROWS OF THIS SEAT. 10 by the template 'for every input the law returns true; each argument reads behind the call as it read before'; 0 by the template 'total and deterministic' (their statements: YtmlgaedhfannmaaTotals.lean).
  GIVEN WITH THE SEED: the statements are not yours to turn. If you find one false, say at which input.
  Laid BY PROGRAM, IN A SANDBOX (cutbox-rows.mjs): the forced cells as the released guide's own fill.sh prints them over the translation 9d34b565609aae66… (all of the seat's roots in one cut). By AI agents, Wed Nov 11 2026. No macro, syntax, notation, axiom, sorry.
-/
import Derived.Test.YtmlgaedhfannmaaChecked
import GoSem.Claim
import GoSem.ClaimJoined
import GoSem.ClaimMapViews
import Derived.JoinedTies
import Derived.KernelRfl
namespace Go.Proofs.Ytmlgaedhfannmaa
/- THE CELL 'sum', in the pinned program and in every row, IS THE sha256 OF THE DUMP (.gsa) THAT YtmlgaedhfannmaaProg.lean LOADS. Nothing in Lean hashes anything: it is a label: what it is worth is what the hold of that sum in a sandbox is worth. -/
noncomputable def Try.pinned : Pinned := { name := "ytmlgaedhfannmaa", sum := "9d34b565609aae6652f6985f0825e2d03049d52d7e9403ceff24788c2c38d674", checked := Try.checked }
namespace Rows
def none {H : Type} : Left H := { results := [], args := [] }

/-- 'bagnalllaw.DevicePlays': WHATEVER THE INPUT: true; the input reads as it did. -/
def devicePlaysSpec : ChangeSpec := { name := "devicePlays", fn := fun _ => fun
  | [d] => { results := [.lit (.bool true)], args := [d] }
  | _ => none }
def devicePlaysRow : OpenClaim := { program := "ytmlgaedhfannmaa", sum := "9d34b565609aae6652f6985f0825e2d03049d52d7e9403ceff24788c2c38d674", func := "bagnall/bagnalllaw.DevicePlays", spec := "devicePlays", inPlace := ["internal/bytealg.IndexByteString", "slices.overlaps[bagnall/api.Device]"], unfollowed := true, recurses := true, plainKeys := false, apart := false }
def DevicePlaysSaid : Prop := devicePlaysRow.holds Try.pinned (OpenSpec.ofChange devicePlaysSpec)

/-- ITS FALSE NEIGHBOUR: 'it returns false'. Refute it at one input. -/
def devicePlaysWrong : ChangeSpec := { name := "devicePlays", fn := fun _ => fun
  | [d] => { results := [.lit (.bool false)], args := [d] }
  | _ => none }
def DevicePlaysWrongFalsely : Prop := devicePlaysRow.holds Try.pinned (OpenSpec.ofChange devicePlaysWrong)

/-- 'bagnalllaw.DeviceSinces': WHATEVER THE INPUT: true; the input reads as it did. -/
def deviceSincesSpec : ChangeSpec := { name := "deviceSinces", fn := fun _ => fun
  | [d1, d2] => { results := [.lit (.bool true)], args := [d1, d2] }
  | _ => none }
def deviceSincesRow : OpenClaim := { program := "ytmlgaedhfannmaa", sum := "9d34b565609aae6652f6985f0825e2d03049d52d7e9403ceff24788c2c38d674", func := "bagnall/bagnalllaw.DeviceSinces", spec := "deviceSinces", inPlace := ["internal/bytealg.IndexByteString", "slices.overlaps[bagnall/api.Device]"], unfollowed := true, recurses := true, plainKeys := false, apart := false }
def DeviceSincesSaid : Prop := deviceSincesRow.holds Try.pinned (OpenSpec.ofChange deviceSincesSpec)

/-- ITS FALSE NEIGHBOUR: 'it returns false'. Refute it at one input. -/
def deviceSincesWrong : ChangeSpec := { name := "deviceSinces", fn := fun _ => fun
  | [d1, d2] => { results := [.lit (.bool false)], args := [d1, d2] }
  | _ => none }
def DeviceSincesWrongFalsely : Prop := deviceSincesRow.holds Try.pinned (OpenSpec.ofChange deviceSincesWrong)

/-- 'bagnallkeep.DevicesSum': WHATEVER THE INPUT: true; the input reads as it did. -/
def devicesSumSpec : ChangeSpec := { name := "devicesSum", fn := fun _ => fun
  | [d] => { results := [.lit (.bool true)], args := [d] }
  | _ => none }
def devicesSumRow : OpenClaim := { program := "ytmlgaedhfannmaa", sum := "9d34b565609aae6652f6985f0825e2d03049d52d7e9403ceff24788c2c38d674", func := "bagnall/bagnallkeep.DevicesSum", spec := "devicesSum", inPlace := ["internal/bytealg.IndexByteString", "slices.overlaps[bagnall/api.Device]"], unfollowed := true, recurses := true, plainKeys := false, apart := false }
def DevicesSumSaid : Prop := devicesSumRow.holds Try.pinned (OpenSpec.ofChange devicesSumSpec)

/-- ITS FALSE NEIGHBOUR: 'it returns false'. Refute it at one input. -/
def devicesSumWrong : ChangeSpec := { name := "devicesSum", fn := fun _ => fun
  | [d] => { results := [.lit (.bool false)], args := [d] }
  | _ => none }
def DevicesSumWrongFalsely : Prop := devicesSumRow.holds Try.pinned (OpenSpec.ofChange devicesSumWrong)

/-- 'bagnallkeep.DevicesSince': WHATEVER THE INPUT: true; the input reads as it did. -/
def devicesSinceSpec : ChangeSpec := { name := "devicesSince", fn := fun _ => fun
  | [d1, d2] => { results := [.lit (.bool true)], args := [d1, d2] }
  | _ => none }
def devicesSinceRow : OpenClaim := { program := "ytmlgaedhfannmaa", sum := "9d34b565609aae6652f6985f0825e2d03049d52d7e9403ceff24788c2c38d674", func := "bagnall/bagnallkeep.DevicesSince", spec := "devicesSince", inPlace := ["internal/bytealg.IndexByteString", "slices.overlaps[bagnall/api.Device]"], unfollowed := true, recurses := true, plainKeys := false, apart := false }
def DevicesSinceSaid : Prop := devicesSinceRow.holds Try.pinned (OpenSpec.ofChange devicesSinceSpec)

/-- ITS FALSE NEIGHBOUR: 'it returns false'. Refute it at one input. -/
def devicesSinceWrong : ChangeSpec := { name := "devicesSince", fn := fun _ => fun
  | [d1, d2] => { results := [.lit (.bool false)], args := [d1, d2] }
  | _ => none }
def DevicesSinceWrongFalsely : Prop := devicesSinceRow.holds Try.pinned (OpenSpec.ofChange devicesSinceWrong)

/-- 'bagnallkeep.DevicesLast': WHATEVER THE INPUT: true; the input reads as it did. -/
def devicesLastSpec : ChangeSpec := { name := "devicesLast", fn := fun _ => fun
  | [d1, d2] => { results := [.lit (.bool true)], args := [d1, d2] }
  | _ => none }
def devicesLastRow : OpenClaim := { program := "ytmlgaedhfannmaa", sum := "9d34b565609aae6652f6985f0825e2d03049d52d7e9403ceff24788c2c38d674", func := "bagnall/bagnallkeep.DevicesLast", spec := "devicesLast", inPlace := ["internal/bytealg.IndexByteString", "slices.overlaps[bagnall/api.Device]"], unfollowed := true, recurses := true, plainKeys := false, apart := false }
def DevicesLastSaid : Prop := devicesLastRow.holds Try.pinned (OpenSpec.ofChange devicesLastSpec)

/-- ITS FALSE NEIGHBOUR: 'it returns false'. Refute it at one input. -/
def devicesLastWrong : ChangeSpec := { name := "devicesLast", fn := fun _ => fun
  | [d1, d2] => { results := [.lit (.bool false)], args := [d1, d2] }
  | _ => none }
def DevicesLastWrongFalsely : Prop := devicesLastRow.holds Try.pinned (OpenSpec.ofChange devicesLastWrong)

/-- 'bagnallkeep.DevicesTurn': WHATEVER THE INPUT: true; the input reads as it did. -/
def devicesTurnSpec : ChangeSpec := { name := "devicesTurn", fn := fun _ => fun
  | [d1, d2] => { results := [.lit (.bool true)], args := [d1, d2] }
  | _ => none }
def devicesTurnRow : OpenClaim := { program := "ytmlgaedhfannmaa", sum := "9d34b565609aae6652f6985f0825e2d03049d52d7e9403ceff24788c2c38d674", func := "bagnall/bagnallkeep.DevicesTurn", spec := "devicesTurn", inPlace := ["internal/bytealg.IndexByteString", "slices.overlaps[bagnall/api.Device]"], unfollowed := true, recurses := true, plainKeys := false, apart := false }
def DevicesTurnSaid : Prop := devicesTurnRow.holds Try.pinned (OpenSpec.ofChange devicesTurnSpec)

/-- ITS FALSE NEIGHBOUR: 'it returns false'. Refute it at one input. -/
def devicesTurnWrong : ChangeSpec := { name := "devicesTurn", fn := fun _ => fun
  | [d1, d2] => { results := [.lit (.bool false)], args := [d1, d2] }
  | _ => none }
def DevicesTurnWrongFalsely : Prop := devicesTurnRow.holds Try.pinned (OpenSpec.ofChange devicesTurnWrong)

/-- 'bagnallkeep.DevicesAll': WHATEVER THE INPUT: true; the input reads as it did. -/
def devicesAllSpec : ChangeSpec := { name := "devicesAll", fn := fun _ => fun
  | [d] => { results := [.lit (.bool true)], args := [d] }
  | _ => none }
def devicesAllRow : OpenClaim := { program := "ytmlgaedhfannmaa", sum := "9d34b565609aae6652f6985f0825e2d03049d52d7e9403ceff24788c2c38d674", func := "bagnall/bagnallkeep.DevicesAll", spec := "devicesAll", inPlace := ["internal/bytealg.IndexByteString", "slices.overlaps[bagnall/api.Device]"], unfollowed := true, recurses := true, plainKeys := false, apart := false }
def DevicesAllSaid : Prop := devicesAllRow.holds Try.pinned (OpenSpec.ofChange devicesAllSpec)

/-- ITS FALSE NEIGHBOUR: 'it returns false'. Refute it at one input. -/
def devicesAllWrong : ChangeSpec := { name := "devicesAll", fn := fun _ => fun
  | [d] => { results := [.lit (.bool false)], args := [d] }
  | _ => none }
def DevicesAllWrongFalsely : Prop := devicesAllRow.holds Try.pinned (OpenSpec.ofChange devicesAllWrong)

/-- 'bagnalltop.TopRows': WHATEVER THE INPUT: true; the input reads as it did. -/
def topRowsSpec : ChangeSpec := { name := "topRows", fn := fun _ => fun
  | [d] => { results := [.lit (.bool true)], args := [d] }
  | _ => none }
def topRowsRow : OpenClaim := { program := "ytmlgaedhfannmaa", sum := "9d34b565609aae6652f6985f0825e2d03049d52d7e9403ceff24788c2c38d674", func := "bagnall/bagnalltop.TopRows", spec := "topRows", inPlace := ["internal/bytealg.IndexByteString", "slices.overlaps[bagnall/api.Device]", "slices.overlaps[bagnall/api.Row]"], unfollowed := true, recurses := true, plainKeys := false, apart := false }
def TopRowsSaid : Prop := topRowsRow.holds Try.pinned (OpenSpec.ofChange topRowsSpec)

/-- ITS FALSE NEIGHBOUR: 'it returns false'. Refute it at one input. -/
def topRowsWrong : ChangeSpec := { name := "topRows", fn := fun _ => fun
  | [d] => { results := [.lit (.bool false)], args := [d] }
  | _ => none }
def TopRowsWrongFalsely : Prop := topRowsRow.holds Try.pinned (OpenSpec.ofChange topRowsWrong)

/-- 'bagnalllaw.KeysPlays': WHATEVER THE INPUT: true; the input reads as it did. -/
def keysPlaysSpec : ChangeSpec := { name := "keysPlays", fn := fun _ => fun
  | [d] => { results := [.lit (.bool true)], args := [d] }
  | _ => none }
def keysPlaysRow : OpenClaim := { program := "ytmlgaedhfannmaa", sum := "9d34b565609aae6652f6985f0825e2d03049d52d7e9403ceff24788c2c38d674", func := "bagnall/bagnalllaw.KeysPlays", spec := "keysPlays", inPlace := ["internal/bytealg.IndexByteString", "internal/bytealg.IndexString", "internal/bytealg.abigen_runtime_cmpstring"], unfollowed := true, recurses := true, named := ["internal/bytealg.MaxLen"], plainKeys := false, apart := false }
def KeysPlaysSaid : Prop := keysPlaysRow.holds Try.pinned (OpenSpec.ofChange keysPlaysSpec)

/-- ITS FALSE NEIGHBOUR: 'it returns false'. Refute it at one input. -/
def keysPlaysWrong : ChangeSpec := { name := "keysPlays", fn := fun _ => fun
  | [d] => { results := [.lit (.bool false)], args := [d] }
  | _ => none }
def KeysPlaysWrongFalsely : Prop := keysPlaysRow.holds Try.pinned (OpenSpec.ofChange keysPlaysWrong)

/-- 'bagnallkeep.BoxAgain': WHATEVER THE INPUT: true; the input reads as it did. -/
def boxAgainSpec : ChangeSpec := { name := "boxAgain", fn := fun _ => fun
  | [d1, d2] => { results := [.lit (.bool true)], args := [d1, d2] }
  | _ => none }
def boxAgainRow : OpenClaim := { program := "ytmlgaedhfannmaa", sum := "9d34b565609aae6652f6985f0825e2d03049d52d7e9403ceff24788c2c38d674", func := "bagnall/bagnallkeep.BoxAgain", spec := "boxAgain", inPlace := ["internal/bytealg.IndexByteString", "internal/bytealg.IndexString"], unfollowed := true, recurses := true, named := ["internal/bytealg.MaxLen"], plainKeys := false, apart := false }
def BoxAgainSaid : Prop := boxAgainRow.holds Try.pinned (OpenSpec.ofChange boxAgainSpec)

/-- ITS FALSE NEIGHBOUR: 'it returns false'. Refute it at one input. -/
def boxAgainWrong : ChangeSpec := { name := "boxAgain", fn := fun _ => fun
  | [d1, d2] => { results := [.lit (.bool false)], args := [d1, d2] }
  | _ => none }
def BoxAgainWrongFalsely : Prop := boxAgainRow.holds Try.pinned (OpenSpec.ofChange boxAgainWrong)

/- THE SECOND FORM. 'bulk': how many values and letters a reading holds, each counted each time it is reached (what is shared counts as often as it is met; a slice's spare places count too). A statement '..UptoSaid' is the law's where the arguments, and the package variables that the reading takes, are together of bulk at most 1048576: NARROWER than '..Said'. Prove '..Said' where nothing that the law and all that it calls make is longer than what came in: it says more and counts as full. Else prove '..UptoSaid'. A law counts once. -/
mutual
def uptoBulk {H : Type} : DataW H → Nat
  | .lit (.string bytes) => bytes.length + 1
  | .lit _ => 1
  | .nil => 1
  | .ptr d => uptoBulk d + 1
  | .slice elems spare => uptoBulkAll elems + uptoBulkAll spare + 1
  | .agg parts => uptoBulkAll parts + 1
  | .iface _ d => uptoBulk d + 1
  | .map entries => uptoBulkEntries entries + 1
  | .held _ => 1
def uptoBulkAll {H : Type} : List (DataW H) → Nat
  | [] => 0
  | d :: r => uptoBulk d + uptoBulkAll r
def uptoBulkEntries {H : Type} : List (Lit × DataW H) → Nat
  | [] => 0
  | x :: r => uptoBulkEntry x + uptoBulkEntries r
def uptoBulkEntry {H : Type} : Lit × DataW H → Nat
  | (.string bytes, d) => bytes.length + uptoBulk d + 1
  | (_, d) => uptoBulk d + 1
 end
def uptoSmall : (H : Type) → List (DataW H) → Bool := fun _ ds => decide (uptoBulkAll ds ≤ 1048576)
def OpenSpec.upto (s : _root_.Go.ChangeSpec) : _root_.Go.OpenSpec := { _root_.Go.OpenSpec.ofChange s with cond := some uptoSmall }

/-- 'bagnalllaw.DevicePlays', WHERE WHAT IT READS IS OF BULK AT MOST 1048576: true; the input reads as it did. -/
def devicePlaysUptoRow : OpenClaim := { program := "ytmlgaedhfannmaa", sum := "9d34b565609aae6652f6985f0825e2d03049d52d7e9403ceff24788c2c38d674", func := "bagnall/bagnalllaw.DevicePlays", spec := "devicePlays", inPlace := ["internal/bytealg.IndexByteString", "slices.overlaps[bagnall/api.Device]"], unfollowed := true, recurses := true, plainKeys := false, apart := false, narrowed := true }
def DevicePlaysUptoSaid : Prop := devicePlaysUptoRow.holds Try.pinned (OpenSpec.upto devicePlaysSpec)

/-- 'bagnalllaw.DeviceSinces', WHERE WHAT IT READS IS OF BULK AT MOST 1048576: true; the input reads as it did. -/
def deviceSincesUptoRow : OpenClaim := { program := "ytmlgaedhfannmaa", sum := "9d34b565609aae6652f6985f0825e2d03049d52d7e9403ceff24788c2c38d674", func := "bagnall/bagnalllaw.DeviceSinces", spec := "deviceSinces", inPlace := ["internal/bytealg.IndexByteString", "slices.overlaps[bagnall/api.Device]"], unfollowed := true, recurses := true, plainKeys := false, apart := false, narrowed := true }
def DeviceSincesUptoSaid : Prop := deviceSincesUptoRow.holds Try.pinned (OpenSpec.upto deviceSincesSpec)

/-- 'bagnallkeep.DevicesSum', WHERE WHAT IT READS IS OF BULK AT MOST 1048576: true; the input reads as it did. -/
def devicesSumUptoRow : OpenClaim := { program := "ytmlgaedhfannmaa", sum := "9d34b565609aae6652f6985f0825e2d03049d52d7e9403ceff24788c2c38d674", func := "bagnall/bagnallkeep.DevicesSum", spec := "devicesSum", inPlace := ["internal/bytealg.IndexByteString", "slices.overlaps[bagnall/api.Device]"], unfollowed := true, recurses := true, plainKeys := false, apart := false, narrowed := true }
def DevicesSumUptoSaid : Prop := devicesSumUptoRow.holds Try.pinned (OpenSpec.upto devicesSumSpec)

/-- 'bagnallkeep.DevicesSince', WHERE WHAT IT READS IS OF BULK AT MOST 1048576: true; the input reads as it did. -/
def devicesSinceUptoRow : OpenClaim := { program := "ytmlgaedhfannmaa", sum := "9d34b565609aae6652f6985f0825e2d03049d52d7e9403ceff24788c2c38d674", func := "bagnall/bagnallkeep.DevicesSince", spec := "devicesSince", inPlace := ["internal/bytealg.IndexByteString", "slices.overlaps[bagnall/api.Device]"], unfollowed := true, recurses := true, plainKeys := false, apart := false, narrowed := true }
def DevicesSinceUptoSaid : Prop := devicesSinceUptoRow.holds Try.pinned (OpenSpec.upto devicesSinceSpec)

/-- 'bagnallkeep.DevicesLast', WHERE WHAT IT READS IS OF BULK AT MOST 1048576: true; the input reads as it did. -/
def devicesLastUptoRow : OpenClaim := { program := "ytmlgaedhfannmaa", sum := "9d34b565609aae6652f6985f0825e2d03049d52d7e9403ceff24788c2c38d674", func := "bagnall/bagnallkeep.DevicesLast", spec := "devicesLast", inPlace := ["internal/bytealg.IndexByteString", "slices.overlaps[bagnall/api.Device]"], unfollowed := true, recurses := true, plainKeys := false, apart := false, narrowed := true }
def DevicesLastUptoSaid : Prop := devicesLastUptoRow.holds Try.pinned (OpenSpec.upto devicesLastSpec)

/-- 'bagnallkeep.DevicesTurn', WHERE WHAT IT READS IS OF BULK AT MOST 1048576: true; the input reads as it did. -/
def devicesTurnUptoRow : OpenClaim := { program := "ytmlgaedhfannmaa", sum := "9d34b565609aae6652f6985f0825e2d03049d52d7e9403ceff24788c2c38d674", func := "bagnall/bagnallkeep.DevicesTurn", spec := "devicesTurn", inPlace := ["internal/bytealg.IndexByteString", "slices.overlaps[bagnall/api.Device]"], unfollowed := true, recurses := true, plainKeys := false, apart := false, narrowed := true }
def DevicesTurnUptoSaid : Prop := devicesTurnUptoRow.holds Try.pinned (OpenSpec.upto devicesTurnSpec)

/-- 'bagnallkeep.DevicesAll', WHERE WHAT IT READS IS OF BULK AT MOST 1048576: true; the input reads as it did. -/
def devicesAllUptoRow : OpenClaim := { program := "ytmlgaedhfannmaa", sum := "9d34b565609aae6652f6985f0825e2d03049d52d7e9403ceff24788c2c38d674", func := "bagnall/bagnallkeep.DevicesAll", spec := "devicesAll", inPlace := ["internal/bytealg.IndexByteString", "slices.overlaps[bagnall/api.Device]"], unfollowed := true, recurses := true, plainKeys := false, apart := false, narrowed := true }
def DevicesAllUptoSaid : Prop := devicesAllUptoRow.holds Try.pinned (OpenSpec.upto devicesAllSpec)

/-- 'bagnalltop.TopRows', WHERE WHAT IT READS IS OF BULK AT MOST 1048576: true; the input reads as it did. -/
def topRowsUptoRow : OpenClaim := { program := "ytmlgaedhfannmaa", sum := "9d34b565609aae6652f6985f0825e2d03049d52d7e9403ceff24788c2c38d674", func := "bagnall/bagnalltop.TopRows", spec := "topRows", inPlace := ["internal/bytealg.IndexByteString", "slices.overlaps[bagnall/api.Device]", "slices.overlaps[bagnall/api.Row]"], unfollowed := true, recurses := true, plainKeys := false, apart := false, narrowed := true }
def TopRowsUptoSaid : Prop := topRowsUptoRow.holds Try.pinned (OpenSpec.upto topRowsSpec)

/-- 'bagnalllaw.KeysPlays', WHERE WHAT IT READS IS OF BULK AT MOST 1048576: true; the input reads as it did. -/
def keysPlaysUptoRow : OpenClaim := { program := "ytmlgaedhfannmaa", sum := "9d34b565609aae6652f6985f0825e2d03049d52d7e9403ceff24788c2c38d674", func := "bagnall/bagnalllaw.KeysPlays", spec := "keysPlays", inPlace := ["internal/bytealg.IndexByteString", "internal/bytealg.IndexString", "internal/bytealg.abigen_runtime_cmpstring"], unfollowed := true, recurses := true, named := ["internal/bytealg.MaxLen"], plainKeys := false, apart := false, narrowed := true }
def KeysPlaysUptoSaid : Prop := keysPlaysUptoRow.holds Try.pinned (OpenSpec.upto keysPlaysSpec)

/-- 'bagnallkeep.BoxAgain', WHERE WHAT IT READS IS OF BULK AT MOST 1048576: true; the input reads as it did. -/
def boxAgainUptoRow : OpenClaim := { program := "ytmlgaedhfannmaa", sum := "9d34b565609aae6652f6985f0825e2d03049d52d7e9403ceff24788c2c38d674", func := "bagnall/bagnallkeep.BoxAgain", spec := "boxAgain", inPlace := ["internal/bytealg.IndexByteString", "internal/bytealg.IndexString"], unfollowed := true, recurses := true, named := ["internal/bytealg.MaxLen"], plainKeys := false, apart := false, narrowed := true }
def BoxAgainUptoSaid : Prop := boxAgainUptoRow.holds Try.pinned (OpenSpec.upto boxAgainSpec)

end Rows
end Go.Proofs.Ytmlgaedhfannmaa
