/-
  No cell of these rows narrows 'for every input' (looked for: loops, veiled, ifaces, maps, wideKeys, modest, calm, conditions, laid).
  DERIVED. THE GIVEN ROWS OF THIS SEAT. 11 by the template 'for every input the law returns true; each argument reads behind the call as it read before'; 0 by the template 'total and deterministic' (their statements: YtafgaknhdiipdaaTotals.lean).
  GIVEN WITH THE SEED: the statements are not yours to turn. If you find one false, say at which input.
  Laid BY PROGRAM, IN A SANDBOX (cutbox-rows.mjs): the forced cells as the released guide's own fill.sh prints them over the translation e2d5f770af170bf7… (all of the seat's roots in one cut). By AI agents, Wed Nov 11 2026. No macro, syntax, notation, axiom, sorry.
-/
import Derived.Test.YtafgaknhdiipdaaChecked
import GoSem.Claim
import GoSem.ClaimJoined
import GoSem.ClaimMapViews
import Derived.JoinedTies
import Derived.KernelRfl
namespace Go.Proofs.Ytafgaknhdiipdaa
/- THE CELL 'sum', in the pinned program and in every row, IS THE sha256 OF THE DUMP (.gsa) THAT YtafgaknhdiipdaaProg.lean LOADS. Nothing in Lean hashes anything: it is a label: what it is worth is what the hold of that sum in a sandbox is worth. -/
noncomputable def Try.pinned : Pinned := { name := "ytafgaknhdiipdaa", sum := "e2d5f770af170bf7fff9709ac57f5e3df8aa1785592db3c5378b69763cf4a8a9", checked := Try.checked }
namespace Rows
def none {H : Type} : Left H := { results := [], args := [] }

/-- 'bagnalllaw.SignPublics': WHATEVER THE INPUT: true; the input reads as it did. -/
def signPublicsSpec : ChangeSpec := { name := "signPublics", fn := fun _ => fun
  | [d] => { results := [.lit (.bool true)], args := [d] }
  | _ => none }
def signPublicsRow : OpenClaim := { program := "ytafgaknhdiipdaa", sum := "e2d5f770af170bf7fff9709ac57f5e3df8aa1785592db3c5378b69763cf4a8a9", func := "bagnall/bagnalllaw.SignPublics", spec := "signPublics", apart := false }
def SignPublicsSaid : Prop := signPublicsRow.holds Try.pinned (OpenSpec.ofChange signPublicsSpec)

/-- ITS FALSE NEIGHBOUR: 'it returns false'. Refute it at one input. -/
def signPublicsWrong : ChangeSpec := { name := "signPublics", fn := fun _ => fun
  | [d] => { results := [.lit (.bool false)], args := [d] }
  | _ => none }
def SignPublicsWrongFalsely : Prop := signPublicsRow.holds Try.pinned (OpenSpec.ofChange signPublicsWrong)

/-- 'bagnalllaw.SignHashes': WHATEVER THE INPUT: true; the input reads as it did. -/
def signHashesSpec : ChangeSpec := { name := "signHashes", fn := fun _ => fun
  | [d1, d2] => { results := [.lit (.bool true)], args := [d1, d2] }
  | _ => none }
def signHashesRow : OpenClaim := { program := "ytafgaknhdiipdaa", sum := "e2d5f770af170bf7fff9709ac57f5e3df8aa1785592db3c5378b69763cf4a8a9", func := "bagnall/bagnalllaw.SignHashes", spec := "signHashes", apart := false }
def SignHashesSaid : Prop := signHashesRow.holds Try.pinned (OpenSpec.ofChange signHashesSpec)

/-- ITS FALSE NEIGHBOUR: 'it returns false'. Refute it at one input. -/
def signHashesWrong : ChangeSpec := { name := "signHashes", fn := fun _ => fun
  | [d1, d2] => { results := [.lit (.bool false)], args := [d1, d2] }
  | _ => none }
def SignHashesWrongFalsely : Prop := signHashesRow.holds Try.pinned (OpenSpec.ofChange signHashesWrong)

/-- 'bagnalllaw.SignMakes': WHATEVER THE INPUT: true; the input reads as it did. -/
def signMakesSpec : ChangeSpec := { name := "signMakes", fn := fun _ => fun
  | [d1, d2, d3] => { results := [.lit (.bool true)], args := [d1, d2, d3] }
  | _ => none }
def signMakesRow : OpenClaim := { program := "ytafgaknhdiipdaa", sum := "e2d5f770af170bf7fff9709ac57f5e3df8aa1785592db3c5378b69763cf4a8a9", func := "bagnall/bagnalllaw.SignMakes", spec := "signMakes", apart := false }
def SignMakesSaid : Prop := signMakesRow.holds Try.pinned (OpenSpec.ofChange signMakesSpec)

/-- ITS FALSE NEIGHBOUR: 'it returns false'. Refute it at one input. -/
def signMakesWrong : ChangeSpec := { name := "signMakes", fn := fun _ => fun
  | [d1, d2, d3] => { results := [.lit (.bool false)], args := [d1, d2, d3] }
  | _ => none }
def SignMakesWrongFalsely : Prop := signMakesRow.holds Try.pinned (OpenSpec.ofChange signMakesWrong)

/-- 'bagnalllaw.SignChecks': WHATEVER THE INPUT: true; the input reads as it did. -/
def signChecksSpec : ChangeSpec := { name := "signChecks", fn := fun _ => fun
  | [d1, d2, d3] => { results := [.lit (.bool true)], args := [d1, d2, d3] }
  | _ => none }
def signChecksRow : OpenClaim := { program := "ytafgaknhdiipdaa", sum := "e2d5f770af170bf7fff9709ac57f5e3df8aa1785592db3c5378b69763cf4a8a9", func := "bagnall/bagnalllaw.SignChecks", spec := "signChecks", apart := false }
def SignChecksSaid : Prop := signChecksRow.holds Try.pinned (OpenSpec.ofChange signChecksSpec)

/-- ITS FALSE NEIGHBOUR: 'it returns false'. Refute it at one input. -/
def signChecksWrong : ChangeSpec := { name := "signChecks", fn := fun _ => fun
  | [d1, d2, d3] => { results := [.lit (.bool false)], args := [d1, d2, d3] }
  | _ => none }
def SignChecksWrongFalsely : Prop := signChecksRow.holds Try.pinned (OpenSpec.ofChange signChecksWrong)

/-- 'bagnalllaw.SignSecrets': WHATEVER THE INPUT: true; the input reads as it did. -/
def signSecretsSpec : ChangeSpec := { name := "signSecrets", fn := fun _ => fun
  | [d1, d2, d3, d4] => { results := [.lit (.bool true)], args := [d1, d2, d3, d4] }
  | _ => none }
def signSecretsRow : OpenClaim := { program := "ytafgaknhdiipdaa", sum := "e2d5f770af170bf7fff9709ac57f5e3df8aa1785592db3c5378b69763cf4a8a9", func := "bagnall/bagnalllaw.SignSecrets", spec := "signSecrets", apart := false }
def SignSecretsSaid : Prop := signSecretsRow.holds Try.pinned (OpenSpec.ofChange signSecretsSpec)

/-- ITS FALSE NEIGHBOUR: 'it returns false'. Refute it at one input. -/
def signSecretsWrong : ChangeSpec := { name := "signSecrets", fn := fun _ => fun
  | [d1, d2, d3, d4] => { results := [.lit (.bool false)], args := [d1, d2, d3, d4] }
  | _ => none }
def SignSecretsWrongFalsely : Prop := signSecretsRow.holds Try.pinned (OpenSpec.ofChange signSecretsWrong)

/-- 'bagnallkeep.SignGood': WHATEVER THE INPUT: true; the input reads as it did. -/
def signGoodSpec : ChangeSpec := { name := "signGood", fn := fun _ => fun
  | [d1, d2, d3, d4] => { results := [.lit (.bool true)], args := [d1, d2, d3, d4] }
  | _ => none }
def signGoodRow : OpenClaim := { program := "ytafgaknhdiipdaa", sum := "e2d5f770af170bf7fff9709ac57f5e3df8aa1785592db3c5378b69763cf4a8a9", func := "bagnall/bagnallkeep.SignGood", spec := "signGood", apart := false }
def SignGoodSaid : Prop := signGoodRow.holds Try.pinned (OpenSpec.ofChange signGoodSpec)

/-- ITS FALSE NEIGHBOUR: 'it returns false'. Refute it at one input. -/
def signGoodWrong : ChangeSpec := { name := "signGood", fn := fun _ => fun
  | [d1, d2, d3, d4] => { results := [.lit (.bool false)], args := [d1, d2, d3, d4] }
  | _ => none }
def SignGoodWrongFalsely : Prop := signGoodRow.holds Try.pinned (OpenSpec.ofChange signGoodWrong)

/-- 'bagnallkeep.SignTwice': WHATEVER THE INPUT: true; the input reads as it did. -/
def signTwiceSpec : ChangeSpec := { name := "signTwice", fn := fun _ => fun
  | [d1, d2, d3, d4] => { results := [.lit (.bool true)], args := [d1, d2, d3, d4] }
  | _ => none }
def signTwiceRow : OpenClaim := { program := "ytafgaknhdiipdaa", sum := "e2d5f770af170bf7fff9709ac57f5e3df8aa1785592db3c5378b69763cf4a8a9", func := "bagnall/bagnallkeep.SignTwice", spec := "signTwice", apart := false }
def SignTwiceSaid : Prop := signTwiceRow.holds Try.pinned (OpenSpec.ofChange signTwiceSpec)

/-- ITS FALSE NEIGHBOUR: 'it returns false'. Refute it at one input. -/
def signTwiceWrong : ChangeSpec := { name := "signTwice", fn := fun _ => fun
  | [d1, d2, d3, d4] => { results := [.lit (.bool false)], args := [d1, d2, d3, d4] }
  | _ => none }
def SignTwiceWrongFalsely : Prop := signTwiceRow.holds Try.pinned (OpenSpec.ofChange signTwiceWrong)

/-- 'bagnallkeep.SignApart': WHATEVER THE INPUT: true; the input reads as it did. -/
def signApartSpec : ChangeSpec := { name := "signApart", fn := fun _ => fun
  | [d1, d2, d3, d4] => { results := [.lit (.bool true)], args := [d1, d2, d3, d4] }
  | _ => none }
def signApartRow : OpenClaim := { program := "ytafgaknhdiipdaa", sum := "e2d5f770af170bf7fff9709ac57f5e3df8aa1785592db3c5378b69763cf4a8a9", func := "bagnall/bagnallkeep.SignApart", spec := "signApart", apart := false }
def SignApartSaid : Prop := signApartRow.holds Try.pinned (OpenSpec.ofChange signApartSpec)

/-- ITS FALSE NEIGHBOUR: 'it returns false'. Refute it at one input. -/
def signApartWrong : ChangeSpec := { name := "signApart", fn := fun _ => fun
  | [d1, d2, d3, d4] => { results := [.lit (.bool false)], args := [d1, d2, d3, d4] }
  | _ => none }
def SignApartWrongFalsely : Prop := signApartRow.holds Try.pinned (OpenSpec.ofChange signApartWrong)

/-- 'bagnallkeep.SignPowers': WHATEVER THE INPUT: true; the input reads as it did. -/
def signPowersSpec : ChangeSpec := { name := "signPowers", fn := fun _ => fun
  | [d1, d2] => { results := [.lit (.bool true)], args := [d1, d2] }
  | _ => none }
def signPowersRow : OpenClaim := { program := "ytafgaknhdiipdaa", sum := "e2d5f770af170bf7fff9709ac57f5e3df8aa1785592db3c5378b69763cf4a8a9", func := "bagnall/bagnallkeep.SignPowers", spec := "signPowers", apart := false }
def SignPowersSaid : Prop := signPowersRow.holds Try.pinned (OpenSpec.ofChange signPowersSpec)

/-- ITS FALSE NEIGHBOUR: 'it returns false'. Refute it at one input. -/
def signPowersWrong : ChangeSpec := { name := "signPowers", fn := fun _ => fun
  | [d1, d2] => { results := [.lit (.bool false)], args := [d1, d2] }
  | _ => none }
def SignPowersWrongFalsely : Prop := signPowersRow.holds Try.pinned (OpenSpec.ofChange signPowersWrong)

/-- 'bagnallkeep.HashParts': WHATEVER THE INPUT: true; the input reads as it did. -/
def hashPartsSpec : ChangeSpec := { name := "hashParts", fn := fun _ => fun
  | [d1, d2, d3] => { results := [.lit (.bool true)], args := [d1, d2, d3] }
  | _ => none }
def hashPartsRow : OpenClaim := { program := "ytafgaknhdiipdaa", sum := "e2d5f770af170bf7fff9709ac57f5e3df8aa1785592db3c5378b69763cf4a8a9", func := "bagnall/bagnallkeep.HashParts", spec := "hashParts", apart := false }
def HashPartsSaid : Prop := hashPartsRow.holds Try.pinned (OpenSpec.ofChange hashPartsSpec)

/-- ITS FALSE NEIGHBOUR: 'it returns false'. Refute it at one input. -/
def hashPartsWrong : ChangeSpec := { name := "hashParts", fn := fun _ => fun
  | [d1, d2, d3] => { results := [.lit (.bool false)], args := [d1, d2, d3] }
  | _ => none }
def HashPartsWrongFalsely : Prop := hashPartsRow.holds Try.pinned (OpenSpec.ofChange hashPartsWrong)

/-- 'bagnallkeep.SignTexts': WHATEVER THE INPUT: true; the input reads as it did. -/
def signTextsSpec : ChangeSpec := { name := "signTexts", fn := fun _ => fun
  | [d1, d2, d3, d4] => { results := [.lit (.bool true)], args := [d1, d2, d3, d4] }
  | _ => none }
def signTextsRow : OpenClaim := { program := "ytafgaknhdiipdaa", sum := "e2d5f770af170bf7fff9709ac57f5e3df8aa1785592db3c5378b69763cf4a8a9", func := "bagnall/bagnallkeep.SignTexts", spec := "signTexts", apart := false }
def SignTextsSaid : Prop := signTextsRow.holds Try.pinned (OpenSpec.ofChange signTextsSpec)

/-- ITS FALSE NEIGHBOUR: 'it returns false'. Refute it at one input. -/
def signTextsWrong : ChangeSpec := { name := "signTexts", fn := fun _ => fun
  | [d1, d2, d3, d4] => { results := [.lit (.bool false)], args := [d1, d2, d3, d4] }
  | _ => none }
def SignTextsWrongFalsely : Prop := signTextsRow.holds Try.pinned (OpenSpec.ofChange signTextsWrong)

/- THE SECOND FORM. 'bulk': how many values and letters a reading holds, each counted each time it is reached (what is shared counts as often as it is met; a slice's spare places count too). A statement '..UptoSaid' is the law's where the arguments, and the package variables that the reading takes, are together of bulk at most 1048576: NARROWER than '..Said'. Prove '..Said' where nothing that the law and all that it calls make is longer than what came in: it says more and counts as full. Else prove '..UptoSaid'. A law counts once. -/
mutual
def uptoBulk {H : Type} : DataW H → Nat
  | .lit (.string bytes) => bytes.length + 1
  | .lit _ => 1
  | .nil => 1
  | .ptr d => uptoBulk d + 1
  | .slice elems spare => uptoBulkAll elems + uptoBulkAll spare + 1
  | .agg parts => uptoBulkAll parts + 1
  | .iface _ d => uptoBulk d + 1
  | .map entries => uptoBulkEntries entries + 1
  | .held _ => 1
def uptoBulkAll {H : Type} : List (DataW H) → Nat
  | [] => 0
  | d :: r => uptoBulk d + uptoBulkAll r
def uptoBulkEntries {H : Type} : List (Lit × DataW H) → Nat
  | [] => 0
  | x :: r => uptoBulkEntry x + uptoBulkEntries r
def uptoBulkEntry {H : Type} : Lit × DataW H → Nat
  | (.string bytes, d) => bytes.length + uptoBulk d + 1
  | (_, d) => uptoBulk d + 1
 end
def uptoSmall : (H : Type) → List (DataW H) → Bool := fun _ ds => decide (uptoBulkAll ds ≤ 1048576)
def OpenSpec.upto (s : _root_.Go.ChangeSpec) : _root_.Go.OpenSpec := { _root_.Go.OpenSpec.ofChange s with cond := some uptoSmall }

/-- 'bagnalllaw.SignPublics', WHERE WHAT IT READS IS OF BULK AT MOST 1048576: true; the input reads as it did. -/
def signPublicsUptoRow : OpenClaim := { program := "ytafgaknhdiipdaa", sum := "e2d5f770af170bf7fff9709ac57f5e3df8aa1785592db3c5378b69763cf4a8a9", func := "bagnall/bagnalllaw.SignPublics", spec := "signPublics", apart := false, narrowed := true }
def SignPublicsUptoSaid : Prop := signPublicsUptoRow.holds Try.pinned (OpenSpec.upto signPublicsSpec)

/-- 'bagnalllaw.SignHashes', WHERE WHAT IT READS IS OF BULK AT MOST 1048576: true; the input reads as it did. -/
def signHashesUptoRow : OpenClaim := { program := "ytafgaknhdiipdaa", sum := "e2d5f770af170bf7fff9709ac57f5e3df8aa1785592db3c5378b69763cf4a8a9", func := "bagnall/bagnalllaw.SignHashes", spec := "signHashes", apart := false, narrowed := true }
def SignHashesUptoSaid : Prop := signHashesUptoRow.holds Try.pinned (OpenSpec.upto signHashesSpec)

/-- 'bagnalllaw.SignMakes', WHERE WHAT IT READS IS OF BULK AT MOST 1048576: true; the input reads as it did. -/
def signMakesUptoRow : OpenClaim := { program := "ytafgaknhdiipdaa", sum := "e2d5f770af170bf7fff9709ac57f5e3df8aa1785592db3c5378b69763cf4a8a9", func := "bagnall/bagnalllaw.SignMakes", spec := "signMakes", apart := false, narrowed := true }
def SignMakesUptoSaid : Prop := signMakesUptoRow.holds Try.pinned (OpenSpec.upto signMakesSpec)

/-- 'bagnalllaw.SignChecks', WHERE WHAT IT READS IS OF BULK AT MOST 1048576: true; the input reads as it did. -/
def signChecksUptoRow : OpenClaim := { program := "ytafgaknhdiipdaa", sum := "e2d5f770af170bf7fff9709ac57f5e3df8aa1785592db3c5378b69763cf4a8a9", func := "bagnall/bagnalllaw.SignChecks", spec := "signChecks", apart := false, narrowed := true }
def SignChecksUptoSaid : Prop := signChecksUptoRow.holds Try.pinned (OpenSpec.upto signChecksSpec)

/-- 'bagnalllaw.SignSecrets', WHERE WHAT IT READS IS OF BULK AT MOST 1048576: true; the input reads as it did. -/
def signSecretsUptoRow : OpenClaim := { program := "ytafgaknhdiipdaa", sum := "e2d5f770af170bf7fff9709ac57f5e3df8aa1785592db3c5378b69763cf4a8a9", func := "bagnall/bagnalllaw.SignSecrets", spec := "signSecrets", apart := false, narrowed := true }
def SignSecretsUptoSaid : Prop := signSecretsUptoRow.holds Try.pinned (OpenSpec.upto signSecretsSpec)

/-- 'bagnallkeep.SignGood', WHERE WHAT IT READS IS OF BULK AT MOST 1048576: true; the input reads as it did. -/
def signGoodUptoRow : OpenClaim := { program := "ytafgaknhdiipdaa", sum := "e2d5f770af170bf7fff9709ac57f5e3df8aa1785592db3c5378b69763cf4a8a9", func := "bagnall/bagnallkeep.SignGood", spec := "signGood", apart := false, narrowed := true }
def SignGoodUptoSaid : Prop := signGoodUptoRow.holds Try.pinned (OpenSpec.upto signGoodSpec)

/-- 'bagnallkeep.SignTwice', WHERE WHAT IT READS IS OF BULK AT MOST 1048576: true; the input reads as it did. -/
def signTwiceUptoRow : OpenClaim := { program := "ytafgaknhdiipdaa", sum := "e2d5f770af170bf7fff9709ac57f5e3df8aa1785592db3c5378b69763cf4a8a9", func := "bagnall/bagnallkeep.SignTwice", spec := "signTwice", apart := false, narrowed := true }
def SignTwiceUptoSaid : Prop := signTwiceUptoRow.holds Try.pinned (OpenSpec.upto signTwiceSpec)

/-- 'bagnallkeep.SignApart', WHERE WHAT IT READS IS OF BULK AT MOST 1048576: true; the input reads as it did. -/
def signApartUptoRow : OpenClaim := { program := "ytafgaknhdiipdaa", sum := "e2d5f770af170bf7fff9709ac57f5e3df8aa1785592db3c5378b69763cf4a8a9", func := "bagnall/bagnallkeep.SignApart", spec := "signApart", apart := false, narrowed := true }
def SignApartUptoSaid : Prop := signApartUptoRow.holds Try.pinned (OpenSpec.upto signApartSpec)

/-- 'bagnallkeep.SignPowers', WHERE WHAT IT READS IS OF BULK AT MOST 1048576: true; the input reads as it did. -/
def signPowersUptoRow : OpenClaim := { program := "ytafgaknhdiipdaa", sum := "e2d5f770af170bf7fff9709ac57f5e3df8aa1785592db3c5378b69763cf4a8a9", func := "bagnall/bagnallkeep.SignPowers", spec := "signPowers", apart := false, narrowed := true }
def SignPowersUptoSaid : Prop := signPowersUptoRow.holds Try.pinned (OpenSpec.upto signPowersSpec)

/-- 'bagnallkeep.HashParts', WHERE WHAT IT READS IS OF BULK AT MOST 1048576: true; the input reads as it did. -/
def hashPartsUptoRow : OpenClaim := { program := "ytafgaknhdiipdaa", sum := "e2d5f770af170bf7fff9709ac57f5e3df8aa1785592db3c5378b69763cf4a8a9", func := "bagnall/bagnallkeep.HashParts", spec := "hashParts", apart := false, narrowed := true }
def HashPartsUptoSaid : Prop := hashPartsUptoRow.holds Try.pinned (OpenSpec.upto hashPartsSpec)

/-- 'bagnallkeep.SignTexts', WHERE WHAT IT READS IS OF BULK AT MOST 1048576: true; the input reads as it did. -/
def signTextsUptoRow : OpenClaim := { program := "ytafgaknhdiipdaa", sum := "e2d5f770af170bf7fff9709ac57f5e3df8aa1785592db3c5378b69763cf4a8a9", func := "bagnall/bagnallkeep.SignTexts", spec := "signTexts", apart := false, narrowed := true }
def SignTextsUptoSaid : Prop := signTextsUptoRow.holds Try.pinned (OpenSpec.upto signTextsSpec)

end Rows
end Go.Proofs.Ytafgaknhdiipdaa
