/-
  No cell of these rows narrows 'for every input' (looked for: loops, veiled, ifaces, maps, wideKeys, modest, calm, conditions, laid).
  DERIVED. THE GIVEN ROWS OF THIS SEAT. 7 by the template 'for every input the law returns true; each argument reads behind the call as it read before'; 0 by the template 'total and deterministic' (their statements: YtaamoilkphjhgabTotals.lean).
  GIVEN WITH THE SEED: the statements are not yours to turn. If you find one false, say at which input.
  Laid BY PROGRAM, IN A SANDBOX (cutbox-rows.mjs): the forced cells as the released guide's own fill.sh prints them over the translation 9760f8cf3e1f068b… (all of the seat's roots in one cut). By AI agents, Wed Nov 11 2026. No macro, syntax, notation, axiom, sorry.
-/
import Derived.Test.YtaamoilkphjhgabChecked
import GoSem.Claim
import GoSem.ClaimJoined
import GoSem.ClaimMapViews
import Derived.JoinedTies
import Derived.KernelRfl
namespace Go.Proofs.Ytaamoilkphjhgab
/- THE CELL 'sum', in the pinned program and in every row, IS THE sha256 OF THE DUMP (.gsa) THAT YtaamoilkphjhgabProg.lean LOADS. Nothing in Lean hashes anything: it is a label: what it is worth is what the hold of that sum in a sandbox is worth. -/
noncomputable def Try.pinned : Pinned := { name := "ytaamoilkphjhgab", sum := "9760f8cf3e1f068b63a956a9cfb4b9402e628c978800f7fcb28feea5aa638397", checked := Try.checked }
namespace Rows
def none {H : Type} : Left H := { results := [], args := [] }

/-- 'bagnalllaw.KeysPlays': WHATEVER THE INPUT: true; the input reads as it did. -/
def keysPlaysSpec : ChangeSpec := { name := "keysPlays", fn := fun _ => fun
  | [d] => { results := [.lit (.bool true)], args := [d] }
  | _ => none }
def keysPlaysRow : OpenClaim := { program := "ytaamoilkphjhgab", sum := "9760f8cf3e1f068b63a956a9cfb4b9402e628c978800f7fcb28feea5aa638397", func := "bagnall/bagnalllaw.KeysPlays", spec := "keysPlays", inPlace := ["internal/bytealg.IndexByteString", "internal/bytealg.IndexString", "internal/bytealg.abigen_runtime_cmpstring"], unfollowed := true, recurses := true, named := ["internal/bytealg.MaxLen"], plainKeys := false, apart := false }
def KeysPlaysSaid : Prop := keysPlaysRow.holds Try.pinned (OpenSpec.ofChange keysPlaysSpec)

/-- ITS FALSE NEIGHBOUR: 'it returns false'. Refute it at one input. -/
def keysPlaysWrong : ChangeSpec := { name := "keysPlays", fn := fun _ => fun
  | [d] => { results := [.lit (.bool false)], args := [d] }
  | _ => none }
def KeysPlaysWrongFalsely : Prop := keysPlaysRow.holds Try.pinned (OpenSpec.ofChange keysPlaysWrong)

/-- 'bagnallkeep.KeysOnce': WHATEVER THE INPUT: true; the input reads as it did. -/
def keysOnceSpec : ChangeSpec := { name := "keysOnce", fn := fun _ => fun
  | [d] => { results := [.lit (.bool true)], args := [d] }
  | _ => none }
def keysOnceRow : OpenClaim := { program := "ytaamoilkphjhgab", sum := "9760f8cf3e1f068b63a956a9cfb4b9402e628c978800f7fcb28feea5aa638397", func := "bagnall/bagnallkeep.KeysOnce", spec := "keysOnce", inPlace := ["internal/bytealg.IndexByteString", "internal/bytealg.IndexString", "internal/bytealg.abigen_runtime_cmpstring"], unfollowed := true, recurses := true, named := ["internal/bytealg.MaxLen"], plainKeys := false, apart := false }
def KeysOnceSaid : Prop := keysOnceRow.holds Try.pinned (OpenSpec.ofChange keysOnceSpec)

/-- ITS FALSE NEIGHBOUR: 'it returns false'. Refute it at one input. -/
def keysOnceWrong : ChangeSpec := { name := "keysOnce", fn := fun _ => fun
  | [d] => { results := [.lit (.bool false)], args := [d] }
  | _ => none }
def KeysOnceWrongFalsely : Prop := keysOnceRow.holds Try.pinned (OpenSpec.ofChange keysOnceWrong)

/-- 'bagnallkeep.KeysCounted': WHATEVER THE INPUT: true; the input reads as it did. -/
def keysCountedSpec : ChangeSpec := { name := "keysCounted", fn := fun _ => fun
  | [d] => { results := [.lit (.bool true)], args := [d] }
  | _ => none }
def keysCountedRow : OpenClaim := { program := "ytaamoilkphjhgab", sum := "9760f8cf3e1f068b63a956a9cfb4b9402e628c978800f7fcb28feea5aa638397", func := "bagnall/bagnallkeep.KeysCounted", spec := "keysCounted", inPlace := ["internal/bytealg.IndexByteString", "internal/bytealg.IndexString", "internal/bytealg.abigen_runtime_cmpstring"], unfollowed := true, recurses := true, named := ["internal/bytealg.MaxLen"], plainKeys := false, apart := false }
def KeysCountedSaid : Prop := keysCountedRow.holds Try.pinned (OpenSpec.ofChange keysCountedSpec)

/-- ITS FALSE NEIGHBOUR: 'it returns false'. Refute it at one input. -/
def keysCountedWrong : ChangeSpec := { name := "keysCounted", fn := fun _ => fun
  | [d] => { results := [.lit (.bool false)], args := [d] }
  | _ => none }
def KeysCountedWrongFalsely : Prop := keysCountedRow.holds Try.pinned (OpenSpec.ofChange keysCountedWrong)

/-- 'bagnallkeep.KeysLeast': WHATEVER THE INPUT: true; the input reads as it did. -/
def keysLeastSpec : ChangeSpec := { name := "keysLeast", fn := fun _ => fun
  | [d] => { results := [.lit (.bool true)], args := [d] }
  | _ => none }
def keysLeastRow : OpenClaim := { program := "ytaamoilkphjhgab", sum := "9760f8cf3e1f068b63a956a9cfb4b9402e628c978800f7fcb28feea5aa638397", func := "bagnall/bagnallkeep.KeysLeast", spec := "keysLeast", inPlace := ["internal/bytealg.IndexByteString", "internal/bytealg.IndexString", "internal/bytealg.abigen_runtime_cmpstring"], unfollowed := true, recurses := true, named := ["internal/bytealg.MaxLen"], plainKeys := false, apart := false }
def KeysLeastSaid : Prop := keysLeastRow.holds Try.pinned (OpenSpec.ofChange keysLeastSpec)

/-- ITS FALSE NEIGHBOUR: 'it returns false'. Refute it at one input. -/
def keysLeastWrong : ChangeSpec := { name := "keysLeast", fn := fun _ => fun
  | [d] => { results := [.lit (.bool false)], args := [d] }
  | _ => none }
def KeysLeastWrongFalsely : Prop := keysLeastRow.holds Try.pinned (OpenSpec.ofChange keysLeastWrong)

/-- 'bagnallkeep.KeysSorts': WHATEVER THE INPUT: true; the input reads as it did. -/
def keysSortsSpec : ChangeSpec := { name := "keysSorts", fn := fun _ => fun
  | [d] => { results := [.lit (.bool true)], args := [d] }
  | _ => none }
def keysSortsRow : OpenClaim := { program := "ytaamoilkphjhgab", sum := "9760f8cf3e1f068b63a956a9cfb4b9402e628c978800f7fcb28feea5aa638397", func := "bagnall/bagnallkeep.KeysSorts", spec := "keysSorts", inPlace := ["internal/bytealg.IndexByteString", "internal/bytealg.IndexString", "internal/bytealg.abigen_runtime_cmpstring"], unfollowed := true, recurses := true, named := ["internal/bytealg.MaxLen"], plainKeys := false, apart := false }
def KeysSortsSaid : Prop := keysSortsRow.holds Try.pinned (OpenSpec.ofChange keysSortsSpec)

/-- ITS FALSE NEIGHBOUR: 'it returns false'. Refute it at one input. -/
def keysSortsWrong : ChangeSpec := { name := "keysSorts", fn := fun _ => fun
  | [d] => { results := [.lit (.bool false)], args := [d] }
  | _ => none }
def KeysSortsWrongFalsely : Prop := keysSortsRow.holds Try.pinned (OpenSpec.ofChange keysSortsWrong)

/-- 'bagnallkeep.KeysSpare': WHATEVER THE INPUT: true; the input reads as it did. -/
def keysSpareSpec : ChangeSpec := { name := "keysSpare", fn := fun _ => fun
  | [d1, d2] => { results := [.lit (.bool true)], args := [d1, d2] }
  | _ => none }
def keysSpareRow : OpenClaim := { program := "ytaamoilkphjhgab", sum := "9760f8cf3e1f068b63a956a9cfb4b9402e628c978800f7fcb28feea5aa638397", func := "bagnall/bagnallkeep.KeysSpare", spec := "keysSpare", inPlace := ["internal/bytealg.IndexByteString", "internal/bytealg.IndexString", "internal/bytealg.abigen_runtime_cmpstring"], unfollowed := true, recurses := true, named := ["internal/bytealg.MaxLen"], plainKeys := false, apart := false }
def KeysSpareSaid : Prop := keysSpareRow.holds Try.pinned (OpenSpec.ofChange keysSpareSpec)

/-- ITS FALSE NEIGHBOUR: 'it returns false'. Refute it at one input. -/
def keysSpareWrong : ChangeSpec := { name := "keysSpare", fn := fun _ => fun
  | [d1, d2] => { results := [.lit (.bool false)], args := [d1, d2] }
  | _ => none }
def KeysSpareWrongFalsely : Prop := keysSpareRow.holds Try.pinned (OpenSpec.ofChange keysSpareWrong)

/-- 'bagnallkeep.KeysGone': WHATEVER THE INPUT: true; the input reads as it did. -/
def keysGoneSpec : ChangeSpec := { name := "keysGone", fn := fun _ => fun
  | [d] => { results := [.lit (.bool true)], args := [d] }
  | _ => none }
def keysGoneRow : OpenClaim := { program := "ytaamoilkphjhgab", sum := "9760f8cf3e1f068b63a956a9cfb4b9402e628c978800f7fcb28feea5aa638397", func := "bagnall/bagnallkeep.KeysGone", spec := "keysGone", inPlace := ["internal/bytealg.IndexByteString", "internal/bytealg.IndexString", "internal/bytealg.abigen_runtime_cmpstring"], unfollowed := true, recurses := true, named := ["internal/bytealg.MaxLen"], plainKeys := false, apart := false }
def KeysGoneSaid : Prop := keysGoneRow.holds Try.pinned (OpenSpec.ofChange keysGoneSpec)

/-- ITS FALSE NEIGHBOUR: 'it returns false'. Refute it at one input. -/
def keysGoneWrong : ChangeSpec := { name := "keysGone", fn := fun _ => fun
  | [d] => { results := [.lit (.bool false)], args := [d] }
  | _ => none }
def KeysGoneWrongFalsely : Prop := keysGoneRow.holds Try.pinned (OpenSpec.ofChange keysGoneWrong)

/- THE SECOND FORM. 'bulk': how many values and letters a reading holds, each counted each time it is reached (what is shared counts as often as it is met; a slice's spare places count too). A statement '..UptoSaid' is the law's where the arguments, and the package variables that the reading takes, are together of bulk at most 1048576: NARROWER than '..Said'. Prove '..Said' where nothing that the law and all that it calls make is longer than what came in: it says more and counts as full. Else prove '..UptoSaid'. A law counts once. -/
mutual
def uptoBulk {H : Type} : DataW H → Nat
  | .lit (.string bytes) => bytes.length + 1
  | .lit _ => 1
  | .nil => 1
  | .ptr d => uptoBulk d + 1
  | .slice elems spare => uptoBulkAll elems + uptoBulkAll spare + 1
  | .agg parts => uptoBulkAll parts + 1
  | .iface _ d => uptoBulk d + 1
  | .map entries => uptoBulkEntries entries + 1
  | .held _ => 1
def uptoBulkAll {H : Type} : List (DataW H) → Nat
  | [] => 0
  | d :: r => uptoBulk d + uptoBulkAll r
def uptoBulkEntries {H : Type} : List (Lit × DataW H) → Nat
  | [] => 0
  | x :: r => uptoBulkEntry x + uptoBulkEntries r
def uptoBulkEntry {H : Type} : Lit × DataW H → Nat
  | (.string bytes, d) => bytes.length + uptoBulk d + 1
  | (_, d) => uptoBulk d + 1
 end
def uptoSmall : (H : Type) → List (DataW H) → Bool := fun _ ds => decide (uptoBulkAll ds ≤ 1048576)
def OpenSpec.upto (s : _root_.Go.ChangeSpec) : _root_.Go.OpenSpec := { _root_.Go.OpenSpec.ofChange s with cond := some uptoSmall }

/-- 'bagnalllaw.KeysPlays', WHERE WHAT IT READS IS OF BULK AT MOST 1048576: true; the input reads as it did. -/
def keysPlaysUptoRow : OpenClaim := { program := "ytaamoilkphjhgab", sum := "9760f8cf3e1f068b63a956a9cfb4b9402e628c978800f7fcb28feea5aa638397", func := "bagnall/bagnalllaw.KeysPlays", spec := "keysPlays", inPlace := ["internal/bytealg.IndexByteString", "internal/bytealg.IndexString", "internal/bytealg.abigen_runtime_cmpstring"], unfollowed := true, recurses := true, named := ["internal/bytealg.MaxLen"], plainKeys := false, apart := false, narrowed := true }
def KeysPlaysUptoSaid : Prop := keysPlaysUptoRow.holds Try.pinned (OpenSpec.upto keysPlaysSpec)

/-- 'bagnallkeep.KeysOnce', WHERE WHAT IT READS IS OF BULK AT MOST 1048576: true; the input reads as it did. -/
def keysOnceUptoRow : OpenClaim := { program := "ytaamoilkphjhgab", sum := "9760f8cf3e1f068b63a956a9cfb4b9402e628c978800f7fcb28feea5aa638397", func := "bagnall/bagnallkeep.KeysOnce", spec := "keysOnce", inPlace := ["internal/bytealg.IndexByteString", "internal/bytealg.IndexString", "internal/bytealg.abigen_runtime_cmpstring"], unfollowed := true, recurses := true, named := ["internal/bytealg.MaxLen"], plainKeys := false, apart := false, narrowed := true }
def KeysOnceUptoSaid : Prop := keysOnceUptoRow.holds Try.pinned (OpenSpec.upto keysOnceSpec)

/-- 'bagnallkeep.KeysCounted', WHERE WHAT IT READS IS OF BULK AT MOST 1048576: true; the input reads as it did. -/
def keysCountedUptoRow : OpenClaim := { program := "ytaamoilkphjhgab", sum := "9760f8cf3e1f068b63a956a9cfb4b9402e628c978800f7fcb28feea5aa638397", func := "bagnall/bagnallkeep.KeysCounted", spec := "keysCounted", inPlace := ["internal/bytealg.IndexByteString", "internal/bytealg.IndexString", "internal/bytealg.abigen_runtime_cmpstring"], unfollowed := true, recurses := true, named := ["internal/bytealg.MaxLen"], plainKeys := false, apart := false, narrowed := true }
def KeysCountedUptoSaid : Prop := keysCountedUptoRow.holds Try.pinned (OpenSpec.upto keysCountedSpec)

/-- 'bagnallkeep.KeysLeast', WHERE WHAT IT READS IS OF BULK AT MOST 1048576: true; the input reads as it did. -/
def keysLeastUptoRow : OpenClaim := { program := "ytaamoilkphjhgab", sum := "9760f8cf3e1f068b63a956a9cfb4b9402e628c978800f7fcb28feea5aa638397", func := "bagnall/bagnallkeep.KeysLeast", spec := "keysLeast", inPlace := ["internal/bytealg.IndexByteString", "internal/bytealg.IndexString", "internal/bytealg.abigen_runtime_cmpstring"], unfollowed := true, recurses := true, named := ["internal/bytealg.MaxLen"], plainKeys := false, apart := false, narrowed := true }
def KeysLeastUptoSaid : Prop := keysLeastUptoRow.holds Try.pinned (OpenSpec.upto keysLeastSpec)

/-- 'bagnallkeep.KeysSorts', WHERE WHAT IT READS IS OF BULK AT MOST 1048576: true; the input reads as it did. -/
def keysSortsUptoRow : OpenClaim := { program := "ytaamoilkphjhgab", sum := "9760f8cf3e1f068b63a956a9cfb4b9402e628c978800f7fcb28feea5aa638397", func := "bagnall/bagnallkeep.KeysSorts", spec := "keysSorts", inPlace := ["internal/bytealg.IndexByteString", "internal/bytealg.IndexString", "internal/bytealg.abigen_runtime_cmpstring"], unfollowed := true, recurses := true, named := ["internal/bytealg.MaxLen"], plainKeys := false, apart := false, narrowed := true }
def KeysSortsUptoSaid : Prop := keysSortsUptoRow.holds Try.pinned (OpenSpec.upto keysSortsSpec)

/-- 'bagnallkeep.KeysSpare', WHERE WHAT IT READS IS OF BULK AT MOST 1048576: true; the input reads as it did. -/
def keysSpareUptoRow : OpenClaim := { program := "ytaamoilkphjhgab", sum := "9760f8cf3e1f068b63a956a9cfb4b9402e628c978800f7fcb28feea5aa638397", func := "bagnall/bagnallkeep.KeysSpare", spec := "keysSpare", inPlace := ["internal/bytealg.IndexByteString", "internal/bytealg.IndexString", "internal/bytealg.abigen_runtime_cmpstring"], unfollowed := true, recurses := true, named := ["internal/bytealg.MaxLen"], plainKeys := false, apart := false, narrowed := true }
def KeysSpareUptoSaid : Prop := keysSpareUptoRow.holds Try.pinned (OpenSpec.upto keysSpareSpec)

/-- 'bagnallkeep.KeysGone', WHERE WHAT IT READS IS OF BULK AT MOST 1048576: true; the input reads as it did. -/
def keysGoneUptoRow : OpenClaim := { program := "ytaamoilkphjhgab", sum := "9760f8cf3e1f068b63a956a9cfb4b9402e628c978800f7fcb28feea5aa638397", func := "bagnall/bagnallkeep.KeysGone", spec := "keysGone", inPlace := ["internal/bytealg.IndexByteString", "internal/bytealg.IndexString", "internal/bytealg.abigen_runtime_cmpstring"], unfollowed := true, recurses := true, named := ["internal/bytealg.MaxLen"], plainKeys := false, apart := false, narrowed := true }
def KeysGoneUptoSaid : Prop := keysGoneUptoRow.holds Try.pinned (OpenSpec.upto keysGoneSpec)

end Rows
end Go.Proofs.Ytaamoilkphjhgab
