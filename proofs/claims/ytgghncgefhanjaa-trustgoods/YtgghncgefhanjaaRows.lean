/-
  No cell of these rows narrows 'for every input' (looked for: loops, veiled, ifaces, maps, wideKeys, modest, calm, conditions, laid).
  DERIVED. THE GIVEN ROWS OF THIS SEAT. 5 by the template 'for every input the law returns true; each argument reads behind the call as it read before'; 0 by the template 'total and deterministic' (their statements: YtgghncgefhanjaaTotals.lean).
  GIVEN WITH THE SEED: the statements are not yours to turn. If you find one false, say at which input.
  Laid BY PROGRAM, IN A SANDBOX (cutbox-rows.mjs): the forced cells as the released guide's own fill.sh prints them over the translation 403b00933e0c6e78… (all of the seat's roots in one cut). By AI agents, Wed Nov 11 2026. No macro, syntax, notation, axiom, sorry.
-/
import Derived.Test.YtgghncgefhanjaaChecked
import GoSem.Claim
import GoSem.ClaimJoined
import GoSem.ClaimMapViews
import Derived.JoinedTies
import Derived.KernelRfl
namespace Go.Proofs.Ytgghncgefhanjaa
/- THE CELL 'sum', in the pinned program and in every row, IS THE sha256 OF THE DUMP (.gsa) THAT YtgghncgefhanjaaProg.lean LOADS. Nothing in Lean hashes anything: it is a label: what it is worth is what the hold of that sum in a sandbox is worth. -/
noncomputable def Try.pinned : Pinned := { name := "ytgghncgefhanjaa", sum := "403b00933e0c6e78852d341583b2a18f3e52ff4bc858b339883c0e3f58d92f29", checked := Try.checked }
namespace Rows
def none {H : Type} : Left H := { results := [], args := [] }

/-- 'bagnalllaw.TrustGoods': WHATEVER THE INPUT: true; the input reads as it did. -/
def trustGoodsSpec : ChangeSpec := { name := "trustGoods", fn := fun _ => fun
  | [d] => { results := [.lit (.bool true)], args := [d] }
  | _ => none }
def trustGoodsRow : OpenClaim := { program := "ytgghncgefhanjaa", sum := "403b00933e0c6e78852d341583b2a18f3e52ff4bc858b339883c0e3f58d92f29", func := "bagnall/bagnalllaw.TrustGoods", spec := "trustGoods", apart := false }
def TrustGoodsSaid : Prop := trustGoodsRow.holds Try.pinned (OpenSpec.ofChange trustGoodsSpec)

/-- ITS FALSE NEIGHBOUR: 'it returns false'. Refute it at one input. -/
def trustGoodsWrong : ChangeSpec := { name := "trustGoods", fn := fun _ => fun
  | [d] => { results := [.lit (.bool false)], args := [d] }
  | _ => none }
def TrustGoodsWrongFalsely : Prop := trustGoodsRow.holds Try.pinned (OpenSpec.ofChange trustGoodsWrong)

/-- 'bagnalllaw.TrustReaches': WHATEVER THE INPUT: true; the input reads as it did. -/
def trustReachesSpec : ChangeSpec := { name := "trustReaches", fn := fun _ => fun
  | [d1, d2] => { results := [.lit (.bool true)], args := [d1, d2] }
  | _ => none }
def trustReachesRow : OpenClaim := { program := "ytgghncgefhanjaa", sum := "403b00933e0c6e78852d341583b2a18f3e52ff4bc858b339883c0e3f58d92f29", func := "bagnall/bagnalllaw.TrustReaches", spec := "trustReaches", unfollowed := true, recurses := true, apart := false }
def TrustReachesSaid : Prop := trustReachesRow.holds Try.pinned (OpenSpec.ofChange trustReachesSpec)

/-- ITS FALSE NEIGHBOUR: 'it returns false'. Refute it at one input. -/
def trustReachesWrong : ChangeSpec := { name := "trustReaches", fn := fun _ => fun
  | [d1, d2] => { results := [.lit (.bool false)], args := [d1, d2] }
  | _ => none }
def TrustReachesWrongFalsely : Prop := trustReachesRow.holds Try.pinned (OpenSpec.ofChange trustReachesWrong)

/-- 'bagnalllaw.TrustPaths': WHATEVER THE INPUT: true; the input reads as it did. -/
def trustPathsSpec : ChangeSpec := { name := "trustPaths", fn := fun _ => fun
  | [d1, d2, d3] => { results := [.lit (.bool true)], args := [d1, d2, d3] }
  | _ => none }
def trustPathsRow : OpenClaim := { program := "ytgghncgefhanjaa", sum := "403b00933e0c6e78852d341583b2a18f3e52ff4bc858b339883c0e3f58d92f29", func := "bagnall/bagnalllaw.TrustPaths", spec := "trustPaths", unfollowed := true, recurses := true, apart := false }
def TrustPathsSaid : Prop := trustPathsRow.holds Try.pinned (OpenSpec.ofChange trustPathsSpec)

/-- ITS FALSE NEIGHBOUR: 'it returns false'. Refute it at one input. -/
def trustPathsWrong : ChangeSpec := { name := "trustPaths", fn := fun _ => fun
  | [d1, d2, d3] => { results := [.lit (.bool false)], args := [d1, d2, d3] }
  | _ => none }
def TrustPathsWrongFalsely : Prop := trustPathsRow.holds Try.pinned (OpenSpec.ofChange trustPathsWrong)

/-- 'bagnallkeep.TrustMore': WHATEVER THE INPUT: true; the input reads as it did. -/
def trustMoreSpec : ChangeSpec := { name := "trustMore", fn := fun _ => fun
  | [d1, d2] => { results := [.lit (.bool true)], args := [d1, d2] }
  | _ => none }
def trustMoreRow : OpenClaim := { program := "ytgghncgefhanjaa", sum := "403b00933e0c6e78852d341583b2a18f3e52ff4bc858b339883c0e3f58d92f29", func := "bagnall/bagnallkeep.TrustMore", spec := "trustMore", unfollowed := true, recurses := true, apart := false }
def TrustMoreSaid : Prop := trustMoreRow.holds Try.pinned (OpenSpec.ofChange trustMoreSpec)

/-- ITS FALSE NEIGHBOUR: 'it returns false'. Refute it at one input. -/
def trustMoreWrong : ChangeSpec := { name := "trustMore", fn := fun _ => fun
  | [d1, d2] => { results := [.lit (.bool false)], args := [d1, d2] }
  | _ => none }
def TrustMoreWrongFalsely : Prop := trustMoreRow.holds Try.pinned (OpenSpec.ofChange trustMoreWrong)

/-- 'bagnallkeep.TrustPath': WHATEVER THE INPUT: true; the input reads as it did. -/
def trustPathSpec : ChangeSpec := { name := "trustPath", fn := fun _ => fun
  | [d1, d2] => { results := [.lit (.bool true)], args := [d1, d2] }
  | _ => none }
def trustPathRow : OpenClaim := { program := "ytgghncgefhanjaa", sum := "403b00933e0c6e78852d341583b2a18f3e52ff4bc858b339883c0e3f58d92f29", func := "bagnall/bagnallkeep.TrustPath", spec := "trustPath", unfollowed := true, recurses := true, apart := false }
def TrustPathSaid : Prop := trustPathRow.holds Try.pinned (OpenSpec.ofChange trustPathSpec)

/-- ITS FALSE NEIGHBOUR: 'it returns false'. Refute it at one input. -/
def trustPathWrong : ChangeSpec := { name := "trustPath", fn := fun _ => fun
  | [d1, d2] => { results := [.lit (.bool false)], args := [d1, d2] }
  | _ => none }
def TrustPathWrongFalsely : Prop := trustPathRow.holds Try.pinned (OpenSpec.ofChange trustPathWrong)

/- THE SECOND FORM. 'bulk': how many values and letters a reading holds, each counted each time it is reached (what is shared counts as often as it is met; a slice's spare places count too). A statement '..UptoSaid' is the law's where the arguments, and the package variables that the reading takes, are together of bulk at most 1048576: NARROWER than '..Said'. Prove '..Said' where nothing that the law and all that it calls make is longer than what came in: it says more and counts as full. Else prove '..UptoSaid'. A law counts once. -/
mutual
def uptoBulk {H : Type} : DataW H → Nat
  | .lit (.string bytes) => bytes.length + 1
  | .lit _ => 1
  | .nil => 1
  | .ptr d => uptoBulk d + 1
  | .slice elems spare => uptoBulkAll elems + uptoBulkAll spare + 1
  | .agg parts => uptoBulkAll parts + 1
  | .iface _ d => uptoBulk d + 1
  | .map entries => uptoBulkEntries entries + 1
  | .held _ => 1
def uptoBulkAll {H : Type} : List (DataW H) → Nat
  | [] => 0
  | d :: r => uptoBulk d + uptoBulkAll r
def uptoBulkEntries {H : Type} : List (Lit × DataW H) → Nat
  | [] => 0
  | x :: r => uptoBulkEntry x + uptoBulkEntries r
def uptoBulkEntry {H : Type} : Lit × DataW H → Nat
  | (.string bytes, d) => bytes.length + uptoBulk d + 1
  | (_, d) => uptoBulk d + 1
 end
def uptoSmall : (H : Type) → List (DataW H) → Bool := fun _ ds => decide (uptoBulkAll ds ≤ 1048576)
def OpenSpec.upto (s : _root_.Go.ChangeSpec) : _root_.Go.OpenSpec := { _root_.Go.OpenSpec.ofChange s with cond := some uptoSmall }

/-- 'bagnalllaw.TrustGoods', WHERE WHAT IT READS IS OF BULK AT MOST 1048576: true; the input reads as it did. -/
def trustGoodsUptoRow : OpenClaim := { program := "ytgghncgefhanjaa", sum := "403b00933e0c6e78852d341583b2a18f3e52ff4bc858b339883c0e3f58d92f29", func := "bagnall/bagnalllaw.TrustGoods", spec := "trustGoods", apart := false, narrowed := true }
def TrustGoodsUptoSaid : Prop := trustGoodsUptoRow.holds Try.pinned (OpenSpec.upto trustGoodsSpec)

/-- 'bagnalllaw.TrustReaches', WHERE WHAT IT READS IS OF BULK AT MOST 1048576: true; the input reads as it did. -/
def trustReachesUptoRow : OpenClaim := { program := "ytgghncgefhanjaa", sum := "403b00933e0c6e78852d341583b2a18f3e52ff4bc858b339883c0e3f58d92f29", func := "bagnall/bagnalllaw.TrustReaches", spec := "trustReaches", unfollowed := true, recurses := true, apart := false, narrowed := true }
def TrustReachesUptoSaid : Prop := trustReachesUptoRow.holds Try.pinned (OpenSpec.upto trustReachesSpec)

/-- 'bagnalllaw.TrustPaths', WHERE WHAT IT READS IS OF BULK AT MOST 1048576: true; the input reads as it did. -/
def trustPathsUptoRow : OpenClaim := { program := "ytgghncgefhanjaa", sum := "403b00933e0c6e78852d341583b2a18f3e52ff4bc858b339883c0e3f58d92f29", func := "bagnall/bagnalllaw.TrustPaths", spec := "trustPaths", unfollowed := true, recurses := true, apart := false, narrowed := true }
def TrustPathsUptoSaid : Prop := trustPathsUptoRow.holds Try.pinned (OpenSpec.upto trustPathsSpec)

/-- 'bagnallkeep.TrustMore', WHERE WHAT IT READS IS OF BULK AT MOST 1048576: true; the input reads as it did. -/
def trustMoreUptoRow : OpenClaim := { program := "ytgghncgefhanjaa", sum := "403b00933e0c6e78852d341583b2a18f3e52ff4bc858b339883c0e3f58d92f29", func := "bagnall/bagnallkeep.TrustMore", spec := "trustMore", unfollowed := true, recurses := true, apart := false, narrowed := true }
def TrustMoreUptoSaid : Prop := trustMoreUptoRow.holds Try.pinned (OpenSpec.upto trustMoreSpec)

/-- 'bagnallkeep.TrustPath', WHERE WHAT IT READS IS OF BULK AT MOST 1048576: true; the input reads as it did. -/
def trustPathUptoRow : OpenClaim := { program := "ytgghncgefhanjaa", sum := "403b00933e0c6e78852d341583b2a18f3e52ff4bc858b339883c0e3f58d92f29", func := "bagnall/bagnallkeep.TrustPath", spec := "trustPath", unfollowed := true, recurses := true, apart := false, narrowed := true }
def TrustPathUptoSaid : Prop := trustPathUptoRow.holds Try.pinned (OpenSpec.upto trustPathSpec)

end Rows
end Go.Proofs.Ytgghncgefhanjaa
