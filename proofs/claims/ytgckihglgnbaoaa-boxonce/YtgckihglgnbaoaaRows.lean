/-
  No cell of these rows narrows 'for every input' (looked for: loops, veiled, ifaces, maps, wideKeys, modest, calm, conditions, laid).
  DERIVED. THE GIVEN ROWS OF THIS SEAT. 8 by the template 'for every input the law returns true; each argument reads behind the call as it read before'; 0 by the template 'total and deterministic' (their statements: YtgckihglgnbaoaaTotals.lean).
  GIVEN WITH THE SEED: the statements are not yours to turn. If you find one false, say at which input.
  Laid BY PROGRAM, IN A SANDBOX (cutbox-rows.mjs): the forced cells as the released guide's own fill.sh prints them over the translation 2c4592710dab7561… (all of the seat's roots in one cut). By AI agents, Wed Nov 11 2026. No macro, syntax, notation, axiom, sorry.
-/
import Derived.Test.YtgckihglgnbaoaaChecked
import GoSem.Claim
import GoSem.ClaimJoined
import GoSem.ClaimMapViews
import Derived.JoinedTies
import Derived.KernelRfl
namespace Go.Proofs.Ytgckihglgnbaoaa
/- THE CELL 'sum', in the pinned program and in every row, IS THE sha256 OF THE DUMP (.gsa) THAT YtgckihglgnbaoaaProg.lean LOADS. Nothing in Lean hashes anything: it is a label: what it is worth is what the hold of that sum in a sandbox is worth. -/
noncomputable def Try.pinned : Pinned := { name := "ytgckihglgnbaoaa", sum := "2c4592710dab75618b510fa78ce1a2d72b07a8cc353fb55a0d67631592f0491e", checked := Try.checked }
namespace Rows
def none {H : Type} : Left H := { results := [], args := [] }

/-- 'bagnalllaw.KeysPlays': WHATEVER THE INPUT: true; the input reads as it did. -/
def keysPlaysSpec : ChangeSpec := { name := "keysPlays", fn := fun _ => fun
  | [d] => { results := [.lit (.bool true)], args := [d] }
  | _ => none }
def keysPlaysRow : OpenClaim := { program := "ytgckihglgnbaoaa", sum := "2c4592710dab75618b510fa78ce1a2d72b07a8cc353fb55a0d67631592f0491e", func := "bagnall/bagnalllaw.KeysPlays", spec := "keysPlays", inPlace := ["internal/bytealg.IndexByteString", "internal/bytealg.IndexString", "internal/bytealg.abigen_runtime_cmpstring"], unfollowed := true, recurses := true, named := ["internal/bytealg.MaxLen"], plainKeys := false, apart := false }
def KeysPlaysSaid : Prop := keysPlaysRow.holds Try.pinned (OpenSpec.ofChange keysPlaysSpec)

/-- ITS FALSE NEIGHBOUR: 'it returns false'. Refute it at one input. -/
def keysPlaysWrong : ChangeSpec := { name := "keysPlays", fn := fun _ => fun
  | [d] => { results := [.lit (.bool false)], args := [d] }
  | _ => none }
def KeysPlaysWrongFalsely : Prop := keysPlaysRow.holds Try.pinned (OpenSpec.ofChange keysPlaysWrong)

/-- 'bagnalllaw.BoxPlays': WHATEVER THE INPUT: true; the input reads as it did. -/
def boxPlaysSpec : ChangeSpec := { name := "boxPlays", fn := fun _ => fun
  | [d] => { results := [.lit (.bool true)], args := [d] }
  | _ => none }
def boxPlaysRow : OpenClaim := { program := "ytgckihglgnbaoaa", sum := "2c4592710dab75618b510fa78ce1a2d72b07a8cc353fb55a0d67631592f0491e", func := "bagnall/bagnalllaw.BoxPlays", spec := "boxPlays", inPlace := ["internal/bytealg.IndexByteString", "internal/bytealg.IndexString"], unfollowed := true, recurses := true, named := ["internal/bytealg.MaxLen"], plainKeys := false, apart := false }
def BoxPlaysSaid : Prop := boxPlaysRow.holds Try.pinned (OpenSpec.ofChange boxPlaysSpec)

/-- ITS FALSE NEIGHBOUR: 'it returns false'. Refute it at one input. -/
def boxPlaysWrong : ChangeSpec := { name := "boxPlays", fn := fun _ => fun
  | [d] => { results := [.lit (.bool false)], args := [d] }
  | _ => none }
def BoxPlaysWrongFalsely : Prop := boxPlaysRow.holds Try.pinned (OpenSpec.ofChange boxPlaysWrong)

/-- 'bagnallkeep.BoxOnce': WHATEVER THE INPUT: true; the input reads as it did. -/
def boxOnceSpec : ChangeSpec := { name := "boxOnce", fn := fun _ => fun
  | [d] => { results := [.lit (.bool true)], args := [d] }
  | _ => none }
def boxOnceRow : OpenClaim := { program := "ytgckihglgnbaoaa", sum := "2c4592710dab75618b510fa78ce1a2d72b07a8cc353fb55a0d67631592f0491e", func := "bagnall/bagnallkeep.BoxOnce", spec := "boxOnce", inPlace := ["internal/bytealg.IndexByteString", "internal/bytealg.IndexString"], unfollowed := true, recurses := true, named := ["internal/bytealg.MaxLen"], plainKeys := false, apart := false }
def BoxOnceSaid : Prop := boxOnceRow.holds Try.pinned (OpenSpec.ofChange boxOnceSpec)

/-- ITS FALSE NEIGHBOUR: 'it returns false'. Refute it at one input. -/
def boxOnceWrong : ChangeSpec := { name := "boxOnce", fn := fun _ => fun
  | [d] => { results := [.lit (.bool false)], args := [d] }
  | _ => none }
def BoxOnceWrongFalsely : Prop := boxOnceRow.holds Try.pinned (OpenSpec.ofChange boxOnceWrong)

/-- 'bagnallkeep.BoxAgain': WHATEVER THE INPUT: true; the input reads as it did. -/
def boxAgainSpec : ChangeSpec := { name := "boxAgain", fn := fun _ => fun
  | [d1, d2] => { results := [.lit (.bool true)], args := [d1, d2] }
  | _ => none }
def boxAgainRow : OpenClaim := { program := "ytgckihglgnbaoaa", sum := "2c4592710dab75618b510fa78ce1a2d72b07a8cc353fb55a0d67631592f0491e", func := "bagnall/bagnallkeep.BoxAgain", spec := "boxAgain", inPlace := ["internal/bytealg.IndexByteString", "internal/bytealg.IndexString"], unfollowed := true, recurses := true, named := ["internal/bytealg.MaxLen"], plainKeys := false, apart := false }
def BoxAgainSaid : Prop := boxAgainRow.holds Try.pinned (OpenSpec.ofChange boxAgainSpec)

/-- ITS FALSE NEIGHBOUR: 'it returns false'. Refute it at one input. -/
def boxAgainWrong : ChangeSpec := { name := "boxAgain", fn := fun _ => fun
  | [d1, d2] => { results := [.lit (.bool false)], args := [d1, d2] }
  | _ => none }
def BoxAgainWrongFalsely : Prop := boxAgainRow.holds Try.pinned (OpenSpec.ofChange boxAgainWrong)

/-- 'bagnallkeep.BoxRefused': WHATEVER THE INPUT: true; the input reads as it did. -/
def boxRefusedSpec : ChangeSpec := { name := "boxRefused", fn := fun _ => fun
  | [d] => { results := [.lit (.bool true)], args := [d] }
  | _ => none }
def boxRefusedRow : OpenClaim := { program := "ytgckihglgnbaoaa", sum := "2c4592710dab75618b510fa78ce1a2d72b07a8cc353fb55a0d67631592f0491e", func := "bagnall/bagnallkeep.BoxRefused", spec := "boxRefused", inPlace := ["internal/bytealg.IndexByteString", "internal/bytealg.IndexString"], unfollowed := true, recurses := true, named := ["internal/bytealg.MaxLen"], plainKeys := false, apart := false }
def BoxRefusedSaid : Prop := boxRefusedRow.holds Try.pinned (OpenSpec.ofChange boxRefusedSpec)

/-- ITS FALSE NEIGHBOUR: 'it returns false'. Refute it at one input. -/
def boxRefusedWrong : ChangeSpec := { name := "boxRefused", fn := fun _ => fun
  | [d] => { results := [.lit (.bool false)], args := [d] }
  | _ => none }
def BoxRefusedWrongFalsely : Prop := boxRefusedRow.holds Try.pinned (OpenSpec.ofChange boxRefusedWrong)

/-- 'bagnallkeep.BoxShut': WHATEVER THE INPUT: true; the input reads as it did. -/
def boxShutSpec : ChangeSpec := { name := "boxShut", fn := fun _ => fun
  | [d1, d2] => { results := [.lit (.bool true)], args := [d1, d2] }
  | _ => none }
def boxShutRow : OpenClaim := { program := "ytgckihglgnbaoaa", sum := "2c4592710dab75618b510fa78ce1a2d72b07a8cc353fb55a0d67631592f0491e", func := "bagnall/bagnallkeep.BoxShut", spec := "boxShut", inPlace := ["internal/bytealg.IndexByteString", "internal/bytealg.IndexString"], unfollowed := true, recurses := true, named := ["internal/bytealg.MaxLen"], plainKeys := false, apart := false }
def BoxShutSaid : Prop := boxShutRow.holds Try.pinned (OpenSpec.ofChange boxShutSpec)

/-- ITS FALSE NEIGHBOUR: 'it returns false'. Refute it at one input. -/
def boxShutWrong : ChangeSpec := { name := "boxShut", fn := fun _ => fun
  | [d1, d2] => { results := [.lit (.bool false)], args := [d1, d2] }
  | _ => none }
def BoxShutWrongFalsely : Prop := boxShutRow.holds Try.pinned (OpenSpec.ofChange boxShutWrong)

/-- 'bagnallkeep.BoxSenders': WHATEVER THE INPUT: true; the input reads as it did. -/
def boxSendersSpec : ChangeSpec := { name := "boxSenders", fn := fun _ => fun
  | [d1, d2] => { results := [.lit (.bool true)], args := [d1, d2] }
  | _ => none }
def boxSendersRow : OpenClaim := { program := "ytgckihglgnbaoaa", sum := "2c4592710dab75618b510fa78ce1a2d72b07a8cc353fb55a0d67631592f0491e", func := "bagnall/bagnallkeep.BoxSenders", spec := "boxSenders", inPlace := ["internal/bytealg.IndexByteString", "internal/bytealg.IndexString"], unfollowed := true, recurses := true, named := ["internal/bytealg.MaxLen"], plainKeys := false, apart := false }
def BoxSendersSaid : Prop := boxSendersRow.holds Try.pinned (OpenSpec.ofChange boxSendersSpec)

/-- ITS FALSE NEIGHBOUR: 'it returns false'. Refute it at one input. -/
def boxSendersWrong : ChangeSpec := { name := "boxSenders", fn := fun _ => fun
  | [d1, d2] => { results := [.lit (.bool false)], args := [d1, d2] }
  | _ => none }
def BoxSendersWrongFalsely : Prop := boxSendersRow.holds Try.pinned (OpenSpec.ofChange boxSendersWrong)

/-- 'bagnalltop.TopMail': WHATEVER THE INPUT: true; the input reads as it did. -/
def topMailSpec : ChangeSpec := { name := "topMail", fn := fun _ => fun
  | [d] => { results := [.lit (.bool true)], args := [d] }
  | _ => none }
def topMailRow : OpenClaim := { program := "ytgckihglgnbaoaa", sum := "2c4592710dab75618b510fa78ce1a2d72b07a8cc353fb55a0d67631592f0491e", func := "bagnall/bagnalltop.TopMail", spec := "topMail", inPlace := ["internal/bytealg.IndexByteString", "internal/bytealg.IndexString", "internal/bytealg.abigen_runtime_cmpstring"], unfollowed := true, recurses := true, named := ["internal/bytealg.MaxLen"], plainKeys := false, apart := false }
def TopMailSaid : Prop := topMailRow.holds Try.pinned (OpenSpec.ofChange topMailSpec)

/-- ITS FALSE NEIGHBOUR: 'it returns false'. Refute it at one input. -/
def topMailWrong : ChangeSpec := { name := "topMail", fn := fun _ => fun
  | [d] => { results := [.lit (.bool false)], args := [d] }
  | _ => none }
def TopMailWrongFalsely : Prop := topMailRow.holds Try.pinned (OpenSpec.ofChange topMailWrong)

/- THE SECOND FORM. 'bulk': how many values and letters a reading holds, each counted each time it is reached (what is shared counts as often as it is met; a slice's spare places count too). A statement '..UptoSaid' is the law's where the arguments, and the package variables that the reading takes, are together of bulk at most 1048576: NARROWER than '..Said'. Prove '..Said' where nothing that the law and all that it calls make is longer than what came in: it says more and counts as full. Else prove '..UptoSaid'. A law counts once. -/
mutual
def uptoBulk {H : Type} : DataW H → Nat
  | .lit (.string bytes) => bytes.length + 1
  | .lit _ => 1
  | .nil => 1
  | .ptr d => uptoBulk d + 1
  | .slice elems spare => uptoBulkAll elems + uptoBulkAll spare + 1
  | .agg parts => uptoBulkAll parts + 1
  | .iface _ d => uptoBulk d + 1
  | .map entries => uptoBulkEntries entries + 1
  | .held _ => 1
def uptoBulkAll {H : Type} : List (DataW H) → Nat
  | [] => 0
  | d :: r => uptoBulk d + uptoBulkAll r
def uptoBulkEntries {H : Type} : List (Lit × DataW H) → Nat
  | [] => 0
  | x :: r => uptoBulkEntry x + uptoBulkEntries r
def uptoBulkEntry {H : Type} : Lit × DataW H → Nat
  | (.string bytes, d) => bytes.length + uptoBulk d + 1
  | (_, d) => uptoBulk d + 1
 end
def uptoSmall : (H : Type) → List (DataW H) → Bool := fun _ ds => decide (uptoBulkAll ds ≤ 1048576)
def OpenSpec.upto (s : _root_.Go.ChangeSpec) : _root_.Go.OpenSpec := { _root_.Go.OpenSpec.ofChange s with cond := some uptoSmall }

/-- 'bagnalllaw.KeysPlays', WHERE WHAT IT READS IS OF BULK AT MOST 1048576: true; the input reads as it did. -/
def keysPlaysUptoRow : OpenClaim := { program := "ytgckihglgnbaoaa", sum := "2c4592710dab75618b510fa78ce1a2d72b07a8cc353fb55a0d67631592f0491e", func := "bagnall/bagnalllaw.KeysPlays", spec := "keysPlays", inPlace := ["internal/bytealg.IndexByteString", "internal/bytealg.IndexString", "internal/bytealg.abigen_runtime_cmpstring"], unfollowed := true, recurses := true, named := ["internal/bytealg.MaxLen"], plainKeys := false, apart := false, narrowed := true }
def KeysPlaysUptoSaid : Prop := keysPlaysUptoRow.holds Try.pinned (OpenSpec.upto keysPlaysSpec)

/-- 'bagnalllaw.BoxPlays', WHERE WHAT IT READS IS OF BULK AT MOST 1048576: true; the input reads as it did. -/
def boxPlaysUptoRow : OpenClaim := { program := "ytgckihglgnbaoaa", sum := "2c4592710dab75618b510fa78ce1a2d72b07a8cc353fb55a0d67631592f0491e", func := "bagnall/bagnalllaw.BoxPlays", spec := "boxPlays", inPlace := ["internal/bytealg.IndexByteString", "internal/bytealg.IndexString"], unfollowed := true, recurses := true, named := ["internal/bytealg.MaxLen"], plainKeys := false, apart := false, narrowed := true }
def BoxPlaysUptoSaid : Prop := boxPlaysUptoRow.holds Try.pinned (OpenSpec.upto boxPlaysSpec)

/-- 'bagnallkeep.BoxOnce', WHERE WHAT IT READS IS OF BULK AT MOST 1048576: true; the input reads as it did. -/
def boxOnceUptoRow : OpenClaim := { program := "ytgckihglgnbaoaa", sum := "2c4592710dab75618b510fa78ce1a2d72b07a8cc353fb55a0d67631592f0491e", func := "bagnall/bagnallkeep.BoxOnce", spec := "boxOnce", inPlace := ["internal/bytealg.IndexByteString", "internal/bytealg.IndexString"], unfollowed := true, recurses := true, named := ["internal/bytealg.MaxLen"], plainKeys := false, apart := false, narrowed := true }
def BoxOnceUptoSaid : Prop := boxOnceUptoRow.holds Try.pinned (OpenSpec.upto boxOnceSpec)

/-- 'bagnallkeep.BoxAgain', WHERE WHAT IT READS IS OF BULK AT MOST 1048576: true; the input reads as it did. -/
def boxAgainUptoRow : OpenClaim := { program := "ytgckihglgnbaoaa", sum := "2c4592710dab75618b510fa78ce1a2d72b07a8cc353fb55a0d67631592f0491e", func := "bagnall/bagnallkeep.BoxAgain", spec := "boxAgain", inPlace := ["internal/bytealg.IndexByteString", "internal/bytealg.IndexString"], unfollowed := true, recurses := true, named := ["internal/bytealg.MaxLen"], plainKeys := false, apart := false, narrowed := true }
def BoxAgainUptoSaid : Prop := boxAgainUptoRow.holds Try.pinned (OpenSpec.upto boxAgainSpec)

/-- 'bagnallkeep.BoxRefused', WHERE WHAT IT READS IS OF BULK AT MOST 1048576: true; the input reads as it did. -/
def boxRefusedUptoRow : OpenClaim := { program := "ytgckihglgnbaoaa", sum := "2c4592710dab75618b510fa78ce1a2d72b07a8cc353fb55a0d67631592f0491e", func := "bagnall/bagnallkeep.BoxRefused", spec := "boxRefused", inPlace := ["internal/bytealg.IndexByteString", "internal/bytealg.IndexString"], unfollowed := true, recurses := true, named := ["internal/bytealg.MaxLen"], plainKeys := false, apart := false, narrowed := true }
def BoxRefusedUptoSaid : Prop := boxRefusedUptoRow.holds Try.pinned (OpenSpec.upto boxRefusedSpec)

/-- 'bagnallkeep.BoxShut', WHERE WHAT IT READS IS OF BULK AT MOST 1048576: true; the input reads as it did. -/
def boxShutUptoRow : OpenClaim := { program := "ytgckihglgnbaoaa", sum := "2c4592710dab75618b510fa78ce1a2d72b07a8cc353fb55a0d67631592f0491e", func := "bagnall/bagnallkeep.BoxShut", spec := "boxShut", inPlace := ["internal/bytealg.IndexByteString", "internal/bytealg.IndexString"], unfollowed := true, recurses := true, named := ["internal/bytealg.MaxLen"], plainKeys := false, apart := false, narrowed := true }
def BoxShutUptoSaid : Prop := boxShutUptoRow.holds Try.pinned (OpenSpec.upto boxShutSpec)

/-- 'bagnallkeep.BoxSenders', WHERE WHAT IT READS IS OF BULK AT MOST 1048576: true; the input reads as it did. -/
def boxSendersUptoRow : OpenClaim := { program := "ytgckihglgnbaoaa", sum := "2c4592710dab75618b510fa78ce1a2d72b07a8cc353fb55a0d67631592f0491e", func := "bagnall/bagnallkeep.BoxSenders", spec := "boxSenders", inPlace := ["internal/bytealg.IndexByteString", "internal/bytealg.IndexString"], unfollowed := true, recurses := true, named := ["internal/bytealg.MaxLen"], plainKeys := false, apart := false, narrowed := true }
def BoxSendersUptoSaid : Prop := boxSendersUptoRow.holds Try.pinned (OpenSpec.upto boxSendersSpec)

/-- 'bagnalltop.TopMail', WHERE WHAT IT READS IS OF BULK AT MOST 1048576: true; the input reads as it did. -/
def topMailUptoRow : OpenClaim := { program := "ytgckihglgnbaoaa", sum := "2c4592710dab75618b510fa78ce1a2d72b07a8cc353fb55a0d67631592f0491e", func := "bagnall/bagnalltop.TopMail", spec := "topMail", inPlace := ["internal/bytealg.IndexByteString", "internal/bytealg.IndexString", "internal/bytealg.abigen_runtime_cmpstring"], unfollowed := true, recurses := true, named := ["internal/bytealg.MaxLen"], plainKeys := false, apart := false, narrowed := true }
def TopMailUptoSaid : Prop := topMailUptoRow.holds Try.pinned (OpenSpec.upto topMailSpec)

end Rows
end Go.Proofs.Ytgckihglgnbaoaa
