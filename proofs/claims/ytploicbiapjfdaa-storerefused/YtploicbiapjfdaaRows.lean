/-
  No cell of these rows narrows 'for every input' (looked for: loops, veiled, ifaces, maps, wideKeys, modest, calm, conditions, laid).
  DERIVED. THE GIVEN ROWS OF THIS SEAT. 10 by the template 'for every input the law returns true; each argument reads behind the call as it read before'; 0 by the template 'total and deterministic' (their statements: YtploicbiapjfdaaTotals.lean).
  GIVEN WITH THE SEED: the statements are not yours to turn. If you find one false, say at which input.
  Laid BY PROGRAM, IN A SANDBOX (cutbox-rows.mjs): the forced cells as the released guide's own fill.sh prints them over the translation e0d71f8ca13c4691… (all of the seat's roots in one cut). By AI agents, Wed Nov 11 2026. No macro, syntax, notation, axiom, sorry.
-/
import Derived.Test.YtploicbiapjfdaaChecked
import GoSem.Claim
import GoSem.ClaimJoined
import GoSem.ClaimMapViews
import Derived.JoinedTies
import Derived.KernelRfl
namespace Go.Proofs.Ytploicbiapjfdaa
/- THE CELL 'sum', in the pinned program and in every row, IS THE sha256 OF THE DUMP (.gsa) THAT YtploicbiapjfdaaProg.lean LOADS. Nothing in Lean hashes anything: it is a label: what it is worth is what the hold of that sum in a sandbox is worth. -/
noncomputable def Try.pinned : Pinned := { name := "ytploicbiapjfdaa", sum := "e0d71f8ca13c46919d52ad4cc712f275de57a04144011d491ad48f61165bab78", checked := Try.checked }
namespace Rows
def none {H : Type} : Left H := { results := [], args := [] }

/-- 'bagnalllaw.StorePlays': WHATEVER THE INPUT: true; the input reads as it did. -/
def storePlaysSpec : ChangeSpec := { name := "storePlays", fn := fun _ => fun
  | [d] => { results := [.lit (.bool true)], args := [d] }
  | _ => none }
def storePlaysRow : OpenClaim := { program := "ytploicbiapjfdaa", sum := "e0d71f8ca13c46919d52ad4cc712f275de57a04144011d491ad48f61165bab78", func := "bagnall/bagnalllaw.StorePlays", spec := "storePlays", inPlace := ["slices.overlaps[bagnall/api.Row]"], unfollowed := true, recurses := true, apart := false }
def StorePlaysSaid : Prop := storePlaysRow.holds Try.pinned (OpenSpec.ofChange storePlaysSpec)

/-- ITS FALSE NEIGHBOUR: 'it returns false'. Refute it at one input. -/
def storePlaysWrong : ChangeSpec := { name := "storePlays", fn := fun _ => fun
  | [d] => { results := [.lit (.bool false)], args := [d] }
  | _ => none }
def StorePlaysWrongFalsely : Prop := storePlaysRow.holds Try.pinned (OpenSpec.ofChange storePlaysWrong)

/-- 'bagnalllaw.StoreRecovers': WHATEVER THE INPUT: true; the input reads as it did. -/
def storeRecoversSpec : ChangeSpec := { name := "storeRecovers", fn := fun _ => fun
  | [d] => { results := [.lit (.bool true)], args := [d] }
  | _ => none }
def storeRecoversRow : OpenClaim := { program := "ytploicbiapjfdaa", sum := "e0d71f8ca13c46919d52ad4cc712f275de57a04144011d491ad48f61165bab78", func := "bagnall/bagnalllaw.StoreRecovers", spec := "storeRecovers", inPlace := ["slices.overlaps[bagnall/api.Row]"], unfollowed := true, recurses := true, apart := false }
def StoreRecoversSaid : Prop := storeRecoversRow.holds Try.pinned (OpenSpec.ofChange storeRecoversSpec)

/-- ITS FALSE NEIGHBOUR: 'it returns false'. Refute it at one input. -/
def storeRecoversWrong : ChangeSpec := { name := "storeRecovers", fn := fun _ => fun
  | [d] => { results := [.lit (.bool false)], args := [d] }
  | _ => none }
def StoreRecoversWrongFalsely : Prop := storeRecoversRow.holds Try.pinned (OpenSpec.ofChange storeRecoversWrong)

/-- 'bagnallkeep.StoreThere': WHATEVER THE INPUT: true; the input reads as it did. -/
def storeThereSpec : ChangeSpec := { name := "storeThere", fn := fun _ => fun
  | [d] => { results := [.lit (.bool true)], args := [d] }
  | _ => none }
def storeThereRow : OpenClaim := { program := "ytploicbiapjfdaa", sum := "e0d71f8ca13c46919d52ad4cc712f275de57a04144011d491ad48f61165bab78", func := "bagnall/bagnallkeep.StoreThere", spec := "storeThere", inPlace := ["slices.overlaps[bagnall/api.Row]"], unfollowed := true, recurses := true, apart := false }
def StoreThereSaid : Prop := storeThereRow.holds Try.pinned (OpenSpec.ofChange storeThereSpec)

/-- ITS FALSE NEIGHBOUR: 'it returns false'. Refute it at one input. -/
def storeThereWrong : ChangeSpec := { name := "storeThere", fn := fun _ => fun
  | [d] => { results := [.lit (.bool false)], args := [d] }
  | _ => none }
def StoreThereWrongFalsely : Prop := storeThereRow.holds Try.pinned (OpenSpec.ofChange storeThereWrong)

/-- 'bagnallkeep.StoreTorn': WHATEVER THE INPUT: true; the input reads as it did. -/
def storeTornSpec : ChangeSpec := { name := "storeTorn", fn := fun _ => fun
  | [d1, d2, d3] => { results := [.lit (.bool true)], args := [d1, d2, d3] }
  | _ => none }
def storeTornRow : OpenClaim := { program := "ytploicbiapjfdaa", sum := "e0d71f8ca13c46919d52ad4cc712f275de57a04144011d491ad48f61165bab78", func := "bagnall/bagnallkeep.StoreTorn", spec := "storeTorn", inPlace := ["slices.overlaps[bagnall/api.Row]"], unfollowed := true, recurses := true, apart := false }
def StoreTornSaid : Prop := storeTornRow.holds Try.pinned (OpenSpec.ofChange storeTornSpec)

/-- ITS FALSE NEIGHBOUR: 'it returns false'. Refute it at one input. -/
def storeTornWrong : ChangeSpec := { name := "storeTorn", fn := fun _ => fun
  | [d1, d2, d3] => { results := [.lit (.bool false)], args := [d1, d2, d3] }
  | _ => none }
def StoreTornWrongFalsely : Prop := storeTornRow.holds Try.pinned (OpenSpec.ofChange storeTornWrong)

/-- 'bagnallkeep.StorePack': WHATEVER THE INPUT: true; the input reads as it did. -/
def storePackSpec : ChangeSpec := { name := "storePack", fn := fun _ => fun
  | [d] => { results := [.lit (.bool true)], args := [d] }
  | _ => none }
def storePackRow : OpenClaim := { program := "ytploicbiapjfdaa", sum := "e0d71f8ca13c46919d52ad4cc712f275de57a04144011d491ad48f61165bab78", func := "bagnall/bagnallkeep.StorePack", spec := "storePack", inPlace := ["slices.overlaps[bagnall/api.Row]"], unfollowed := true, recurses := true, apart := false }
def StorePackSaid : Prop := storePackRow.holds Try.pinned (OpenSpec.ofChange storePackSpec)

/-- ITS FALSE NEIGHBOUR: 'it returns false'. Refute it at one input. -/
def storePackWrong : ChangeSpec := { name := "storePack", fn := fun _ => fun
  | [d] => { results := [.lit (.bool false)], args := [d] }
  | _ => none }
def StorePackWrongFalsely : Prop := storePackRow.holds Try.pinned (OpenSpec.ofChange storePackWrong)

/-- 'bagnallkeep.StoreRefused': WHATEVER THE INPUT: true; the input reads as it did. -/
def storeRefusedSpec : ChangeSpec := { name := "storeRefused", fn := fun _ => fun
  | [d] => { results := [.lit (.bool true)], args := [d] }
  | _ => none }
def storeRefusedRow : OpenClaim := { program := "ytploicbiapjfdaa", sum := "e0d71f8ca13c46919d52ad4cc712f275de57a04144011d491ad48f61165bab78", func := "bagnall/bagnallkeep.StoreRefused", spec := "storeRefused", inPlace := ["slices.overlaps[bagnall/api.Row]"], unfollowed := true, recurses := true, apart := false }
def StoreRefusedSaid : Prop := storeRefusedRow.holds Try.pinned (OpenSpec.ofChange storeRefusedSpec)

/-- ITS FALSE NEIGHBOUR: 'it returns false'. Refute it at one input. -/
def storeRefusedWrong : ChangeSpec := { name := "storeRefused", fn := fun _ => fun
  | [d] => { results := [.lit (.bool false)], args := [d] }
  | _ => none }
def StoreRefusedWrongFalsely : Prop := storeRefusedRow.holds Try.pinned (OpenSpec.ofChange storeRefusedWrong)

/-- 'bagnallkeep.StoreReads': WHATEVER THE INPUT: true; the input reads as it did. -/
def storeReadsSpec : ChangeSpec := { name := "storeReads", fn := fun _ => fun
  | [d1, d2] => { results := [.lit (.bool true)], args := [d1, d2] }
  | _ => none }
def storeReadsRow : OpenClaim := { program := "ytploicbiapjfdaa", sum := "e0d71f8ca13c46919d52ad4cc712f275de57a04144011d491ad48f61165bab78", func := "bagnall/bagnallkeep.StoreReads", spec := "storeReads", inPlace := ["slices.overlaps[bagnall/api.Row]"], unfollowed := true, recurses := true, apart := false }
def StoreReadsSaid : Prop := storeReadsRow.holds Try.pinned (OpenSpec.ofChange storeReadsSpec)

/-- ITS FALSE NEIGHBOUR: 'it returns false'. Refute it at one input. -/
def storeReadsWrong : ChangeSpec := { name := "storeReads", fn := fun _ => fun
  | [d1, d2] => { results := [.lit (.bool false)], args := [d1, d2] }
  | _ => none }
def StoreReadsWrongFalsely : Prop := storeReadsRow.holds Try.pinned (OpenSpec.ofChange storeReadsWrong)

/-- 'bagnallkeep.StoreCrash': WHATEVER THE INPUT: true; the input reads as it did. -/
def storeCrashSpec : ChangeSpec := { name := "storeCrash", fn := fun _ => fun
  | [d1, d2, d3] => { results := [.lit (.bool true)], args := [d1, d2, d3] }
  | _ => none }
def storeCrashRow : OpenClaim := { program := "ytploicbiapjfdaa", sum := "e0d71f8ca13c46919d52ad4cc712f275de57a04144011d491ad48f61165bab78", func := "bagnall/bagnallkeep.StoreCrash", spec := "storeCrash", inPlace := ["slices.overlaps[bagnall/api.Row]"], unfollowed := true, recurses := true, apart := false }
def StoreCrashSaid : Prop := storeCrashRow.holds Try.pinned (OpenSpec.ofChange storeCrashSpec)

/-- ITS FALSE NEIGHBOUR: 'it returns false'. Refute it at one input. -/
def storeCrashWrong : ChangeSpec := { name := "storeCrash", fn := fun _ => fun
  | [d1, d2, d3] => { results := [.lit (.bool false)], args := [d1, d2, d3] }
  | _ => none }
def StoreCrashWrongFalsely : Prop := storeCrashRow.holds Try.pinned (OpenSpec.ofChange storeCrashWrong)

/-- 'bagnalltop.TopDisk': WHATEVER THE INPUT: true; the input reads as it did. -/
def topDiskSpec : ChangeSpec := { name := "topDisk", fn := fun _ => fun
  | [d1, d2, d3] => { results := [.lit (.bool true)], args := [d1, d2, d3] }
  | _ => none }
def topDiskRow : OpenClaim := { program := "ytploicbiapjfdaa", sum := "e0d71f8ca13c46919d52ad4cc712f275de57a04144011d491ad48f61165bab78", func := "bagnall/bagnalltop.TopDisk", spec := "topDisk", inPlace := ["slices.overlaps[bagnall/api.Row]"], unfollowed := true, recurses := true, apart := false }
def TopDiskSaid : Prop := topDiskRow.holds Try.pinned (OpenSpec.ofChange topDiskSpec)

/-- ITS FALSE NEIGHBOUR: 'it returns false'. Refute it at one input. -/
def topDiskWrong : ChangeSpec := { name := "topDisk", fn := fun _ => fun
  | [d1, d2, d3] => { results := [.lit (.bool false)], args := [d1, d2, d3] }
  | _ => none }
def TopDiskWrongFalsely : Prop := topDiskRow.holds Try.pinned (OpenSpec.ofChange topDiskWrong)

/-- 'bagnalltop.TopLog': WHATEVER THE INPUT: true; the input reads as it did. -/
def topLogSpec : ChangeSpec := { name := "topLog", fn := fun _ => fun
  | [d] => { results := [.lit (.bool true)], args := [d] }
  | _ => none }
def topLogRow : OpenClaim := { program := "ytploicbiapjfdaa", sum := "e0d71f8ca13c46919d52ad4cc712f275de57a04144011d491ad48f61165bab78", func := "bagnall/bagnalltop.TopLog", spec := "topLog", inPlace := ["slices.overlaps[bagnall/api.Row]"], unfollowed := true, recurses := true, apart := false }
def TopLogSaid : Prop := topLogRow.holds Try.pinned (OpenSpec.ofChange topLogSpec)

/-- ITS FALSE NEIGHBOUR: 'it returns false'. Refute it at one input. -/
def topLogWrong : ChangeSpec := { name := "topLog", fn := fun _ => fun
  | [d] => { results := [.lit (.bool false)], args := [d] }
  | _ => none }
def TopLogWrongFalsely : Prop := topLogRow.holds Try.pinned (OpenSpec.ofChange topLogWrong)

/- THE SECOND FORM. 'bulk': how many values and letters a reading holds, each counted each time it is reached (what is shared counts as often as it is met; a slice's spare places count too). A statement '..UptoSaid' is the law's where the arguments, and the package variables that the reading takes, are together of bulk at most 1048576: NARROWER than '..Said'. Prove '..Said' where nothing that the law and all that it calls make is longer than what came in: it says more and counts as full. Else prove '..UptoSaid'. A law counts once. -/
mutual
def uptoBulk {H : Type} : DataW H → Nat
  | .lit (.string bytes) => bytes.length + 1
  | .lit _ => 1
  | .nil => 1
  | .ptr d => uptoBulk d + 1
  | .slice elems spare => uptoBulkAll elems + uptoBulkAll spare + 1
  | .agg parts => uptoBulkAll parts + 1
  | .iface _ d => uptoBulk d + 1
  | .map entries => uptoBulkEntries entries + 1
  | .held _ => 1
def uptoBulkAll {H : Type} : List (DataW H) → Nat
  | [] => 0
  | d :: r => uptoBulk d + uptoBulkAll r
def uptoBulkEntries {H : Type} : List (Lit × DataW H) → Nat
  | [] => 0
  | x :: r => uptoBulkEntry x + uptoBulkEntries r
def uptoBulkEntry {H : Type} : Lit × DataW H → Nat
  | (.string bytes, d) => bytes.length + uptoBulk d + 1
  | (_, d) => uptoBulk d + 1
 end
def uptoSmall : (H : Type) → List (DataW H) → Bool := fun _ ds => decide (uptoBulkAll ds ≤ 1048576)
def OpenSpec.upto (s : _root_.Go.ChangeSpec) : _root_.Go.OpenSpec := { _root_.Go.OpenSpec.ofChange s with cond := some uptoSmall }

/-- 'bagnalllaw.StorePlays', WHERE WHAT IT READS IS OF BULK AT MOST 1048576: true; the input reads as it did. -/
def storePlaysUptoRow : OpenClaim := { program := "ytploicbiapjfdaa", sum := "e0d71f8ca13c46919d52ad4cc712f275de57a04144011d491ad48f61165bab78", func := "bagnall/bagnalllaw.StorePlays", spec := "storePlays", inPlace := ["slices.overlaps[bagnall/api.Row]"], unfollowed := true, recurses := true, apart := false, narrowed := true }
def StorePlaysUptoSaid : Prop := storePlaysUptoRow.holds Try.pinned (OpenSpec.upto storePlaysSpec)

/-- 'bagnalllaw.StoreRecovers', WHERE WHAT IT READS IS OF BULK AT MOST 1048576: true; the input reads as it did. -/
def storeRecoversUptoRow : OpenClaim := { program := "ytploicbiapjfdaa", sum := "e0d71f8ca13c46919d52ad4cc712f275de57a04144011d491ad48f61165bab78", func := "bagnall/bagnalllaw.StoreRecovers", spec := "storeRecovers", inPlace := ["slices.overlaps[bagnall/api.Row]"], unfollowed := true, recurses := true, apart := false, narrowed := true }
def StoreRecoversUptoSaid : Prop := storeRecoversUptoRow.holds Try.pinned (OpenSpec.upto storeRecoversSpec)

/-- 'bagnallkeep.StoreThere', WHERE WHAT IT READS IS OF BULK AT MOST 1048576: true; the input reads as it did. -/
def storeThereUptoRow : OpenClaim := { program := "ytploicbiapjfdaa", sum := "e0d71f8ca13c46919d52ad4cc712f275de57a04144011d491ad48f61165bab78", func := "bagnall/bagnallkeep.StoreThere", spec := "storeThere", inPlace := ["slices.overlaps[bagnall/api.Row]"], unfollowed := true, recurses := true, apart := false, narrowed := true }
def StoreThereUptoSaid : Prop := storeThereUptoRow.holds Try.pinned (OpenSpec.upto storeThereSpec)

/-- 'bagnallkeep.StoreTorn', WHERE WHAT IT READS IS OF BULK AT MOST 1048576: true; the input reads as it did. -/
def storeTornUptoRow : OpenClaim := { program := "ytploicbiapjfdaa", sum := "e0d71f8ca13c46919d52ad4cc712f275de57a04144011d491ad48f61165bab78", func := "bagnall/bagnallkeep.StoreTorn", spec := "storeTorn", inPlace := ["slices.overlaps[bagnall/api.Row]"], unfollowed := true, recurses := true, apart := false, narrowed := true }
def StoreTornUptoSaid : Prop := storeTornUptoRow.holds Try.pinned (OpenSpec.upto storeTornSpec)

/-- 'bagnallkeep.StorePack', WHERE WHAT IT READS IS OF BULK AT MOST 1048576: true; the input reads as it did. -/
def storePackUptoRow : OpenClaim := { program := "ytploicbiapjfdaa", sum := "e0d71f8ca13c46919d52ad4cc712f275de57a04144011d491ad48f61165bab78", func := "bagnall/bagnallkeep.StorePack", spec := "storePack", inPlace := ["slices.overlaps[bagnall/api.Row]"], unfollowed := true, recurses := true, apart := false, narrowed := true }
def StorePackUptoSaid : Prop := storePackUptoRow.holds Try.pinned (OpenSpec.upto storePackSpec)

/-- 'bagnallkeep.StoreRefused', WHERE WHAT IT READS IS OF BULK AT MOST 1048576: true; the input reads as it did. -/
def storeRefusedUptoRow : OpenClaim := { program := "ytploicbiapjfdaa", sum := "e0d71f8ca13c46919d52ad4cc712f275de57a04144011d491ad48f61165bab78", func := "bagnall/bagnallkeep.StoreRefused", spec := "storeRefused", inPlace := ["slices.overlaps[bagnall/api.Row]"], unfollowed := true, recurses := true, apart := false, narrowed := true }
def StoreRefusedUptoSaid : Prop := storeRefusedUptoRow.holds Try.pinned (OpenSpec.upto storeRefusedSpec)

/-- 'bagnallkeep.StoreReads', WHERE WHAT IT READS IS OF BULK AT MOST 1048576: true; the input reads as it did. -/
def storeReadsUptoRow : OpenClaim := { program := "ytploicbiapjfdaa", sum := "e0d71f8ca13c46919d52ad4cc712f275de57a04144011d491ad48f61165bab78", func := "bagnall/bagnallkeep.StoreReads", spec := "storeReads", inPlace := ["slices.overlaps[bagnall/api.Row]"], unfollowed := true, recurses := true, apart := false, narrowed := true }
def StoreReadsUptoSaid : Prop := storeReadsUptoRow.holds Try.pinned (OpenSpec.upto storeReadsSpec)

/-- 'bagnallkeep.StoreCrash', WHERE WHAT IT READS IS OF BULK AT MOST 1048576: true; the input reads as it did. -/
def storeCrashUptoRow : OpenClaim := { program := "ytploicbiapjfdaa", sum := "e0d71f8ca13c46919d52ad4cc712f275de57a04144011d491ad48f61165bab78", func := "bagnall/bagnallkeep.StoreCrash", spec := "storeCrash", inPlace := ["slices.overlaps[bagnall/api.Row]"], unfollowed := true, recurses := true, apart := false, narrowed := true }
def StoreCrashUptoSaid : Prop := storeCrashUptoRow.holds Try.pinned (OpenSpec.upto storeCrashSpec)

/-- 'bagnalltop.TopDisk', WHERE WHAT IT READS IS OF BULK AT MOST 1048576: true; the input reads as it did. -/
def topDiskUptoRow : OpenClaim := { program := "ytploicbiapjfdaa", sum := "e0d71f8ca13c46919d52ad4cc712f275de57a04144011d491ad48f61165bab78", func := "bagnall/bagnalltop.TopDisk", spec := "topDisk", inPlace := ["slices.overlaps[bagnall/api.Row]"], unfollowed := true, recurses := true, apart := false, narrowed := true }
def TopDiskUptoSaid : Prop := topDiskUptoRow.holds Try.pinned (OpenSpec.upto topDiskSpec)

/-- 'bagnalltop.TopLog', WHERE WHAT IT READS IS OF BULK AT MOST 1048576: true; the input reads as it did. -/
def topLogUptoRow : OpenClaim := { program := "ytploicbiapjfdaa", sum := "e0d71f8ca13c46919d52ad4cc712f275de57a04144011d491ad48f61165bab78", func := "bagnall/bagnalltop.TopLog", spec := "topLog", inPlace := ["slices.overlaps[bagnall/api.Row]"], unfollowed := true, recurses := true, apart := false, narrowed := true }
def TopLogUptoSaid : Prop := topLogUptoRow.holds Try.pinned (OpenSpec.upto topLogSpec)

end Rows
end Go.Proofs.Ytploicbiapjfdaa
