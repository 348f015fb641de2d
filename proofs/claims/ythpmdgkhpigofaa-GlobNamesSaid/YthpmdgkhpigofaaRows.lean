/-
  No cell of these rows narrows 'for every input' (looked for: loops, veiled, ifaces, maps, wideKeys, modest, calm, conditions, laid).
  DERIVED. THE GIVEN ROWS OF THIS SEAT. 7 by the template 'for every input the law returns true; each argument reads behind the call as it read before'; 0 by the template 'total and deterministic' (their statements: YthpmdgkhpigofaaTotals.lean).
  GIVEN WITH THE SEED: the statements are not yours to turn. If you find one false, say at which input.
  Laid BY PROGRAM, IN A SANDBOX (cutbox-rows.mjs): the forced cells as the released guide's own fill.sh prints them over the translation 451ff1658026b028… (all of the seat's roots in one cut). By AI agents, Wed Nov 11 2026. No macro, syntax, notation, axiom, sorry.
-/
import Derived.Test.YthpmdgkhpigofaaChecked
import GoSem.Claim
import GoSem.ClaimJoined
import GoSem.ClaimMapViews
import Derived.JoinedTies
import Derived.KernelRfl
namespace Go.Proofs.Ythpmdgkhpigofaa
/- THE CELL 'sum', in the pinned program and in every row, IS THE sha256 OF THE DUMP (.gsa) THAT YthpmdgkhpigofaaProg.lean LOADS. Nothing in Lean hashes anything: it is a label: what it is worth is what the hold of that sum in a sandbox is worth. -/
noncomputable def Try.pinned : Pinned := { name := "ythpmdgkhpigofaa", sum := "451ff1658026b028df61206da4643908f6a2b5bbf7a929253dfc937bf8b6ff85", checked := Try.checked }
namespace Rows
def none {H : Type} : Left H := { results := [], args := [] }

/-- 'quartermasterlaw1.GlobMatches': WHATEVER THE INPUT: true; the input reads as it did. -/
def globMatchesSpec : ChangeSpec := { name := "globMatches", fn := fun _ => fun
  | [d1, d2] => { results := [.lit (.bool true)], args := [d1, d2] }
  | _ => none }
def globMatchesRow : OpenClaim := { program := "ythpmdgkhpigofaa", sum := "451ff1658026b028df61206da4643908f6a2b5bbf7a929253dfc937bf8b6ff85", func := "quartermaster/quartermasterlaw1.GlobMatches", spec := "globMatches", apart := false }
def GlobMatchesSaid : Prop := globMatchesRow.holds Try.pinned (OpenSpec.ofChange globMatchesSpec)

/-- ITS FALSE NEIGHBOUR: 'it returns false'. Refute it at one input. -/
def globMatchesWrong : ChangeSpec := { name := "globMatches", fn := fun _ => fun
  | [d1, d2] => { results := [.lit (.bool false)], args := [d1, d2] }
  | _ => none }
def GlobMatchesWrongFalsely : Prop := globMatchesRow.holds Try.pinned (OpenSpec.ofChange globMatchesWrong)

/-- 'quartermasterlaw1.GlobNames': WHATEVER THE INPUT: true; the input reads as it did. -/
def globNamesSpec : ChangeSpec := { name := "globNames", fn := fun _ => fun
  | [d1, d2] => { results := [.lit (.bool true)], args := [d1, d2] }
  | _ => none }
def globNamesRow : OpenClaim := { program := "ythpmdgkhpigofaa", sum := "451ff1658026b028df61206da4643908f6a2b5bbf7a929253dfc937bf8b6ff85", func := "quartermaster/quartermasterlaw1.GlobNames", spec := "globNames", recurses := true, apart := false }
def GlobNamesSaid : Prop := globNamesRow.holds Try.pinned (OpenSpec.ofChange globNamesSpec)

/-- ITS FALSE NEIGHBOUR: 'it returns false'. Refute it at one input. -/
def globNamesWrong : ChangeSpec := { name := "globNames", fn := fun _ => fun
  | [d1, d2] => { results := [.lit (.bool false)], args := [d1, d2] }
  | _ => none }
def GlobNamesWrongFalsely : Prop := globNamesRow.holds Try.pinned (OpenSpec.ofChange globNamesWrong)

/-- 'quartermasterlaw1.GlobPlain': WHATEVER THE INPUT: true; the input reads as it did. -/
def globPlainSpec : ChangeSpec := { name := "globPlain", fn := fun _ => fun
  | [d] => { results := [.lit (.bool true)], args := [d] }
  | _ => none }
def globPlainRow : OpenClaim := { program := "ythpmdgkhpigofaa", sum := "451ff1658026b028df61206da4643908f6a2b5bbf7a929253dfc937bf8b6ff85", func := "quartermaster/quartermasterlaw1.GlobPlain", spec := "globPlain", inPlace := ["internal/abi.NoEscape"], apart := false }
def GlobPlainSaid : Prop := globPlainRow.holds Try.pinned (OpenSpec.ofChange globPlainSpec)

/-- ITS FALSE NEIGHBOUR: 'it returns false'. Refute it at one input. -/
def globPlainWrong : ChangeSpec := { name := "globPlain", fn := fun _ => fun
  | [d] => { results := [.lit (.bool false)], args := [d] }
  | _ => none }
def GlobPlainWrongFalsely : Prop := globPlainRow.holds Try.pinned (OpenSpec.ofChange globPlainWrong)

/-- 'quartermasterlaw1.GlobQuote': WHATEVER THE INPUT: true; the input reads as it did. -/
def globQuoteSpec : ChangeSpec := { name := "globQuote", fn := fun _ => fun
  | [d1, d2] => { results := [.lit (.bool true)], args := [d1, d2] }
  | _ => none }
def globQuoteRow : OpenClaim := { program := "ythpmdgkhpigofaa", sum := "451ff1658026b028df61206da4643908f6a2b5bbf7a929253dfc937bf8b6ff85", func := "quartermaster/quartermasterlaw1.GlobQuote", spec := "globQuote", inPlace := ["internal/abi.NoEscape"], apart := false }
def GlobQuoteSaid : Prop := globQuoteRow.holds Try.pinned (OpenSpec.ofChange globQuoteSpec)

/-- ITS FALSE NEIGHBOUR: 'it returns false'. Refute it at one input. -/
def globQuoteWrong : ChangeSpec := { name := "globQuote", fn := fun _ => fun
  | [d1, d2] => { results := [.lit (.bool false)], args := [d1, d2] }
  | _ => none }
def GlobQuoteWrongFalsely : Prop := globQuoteRow.holds Try.pinned (OpenSpec.ofChange globQuoteWrong)

/-- 'quartermasterlaw1.GlobParts': WHATEVER THE INPUT: true; the input reads as it did. -/
def globPartsSpec : ChangeSpec := { name := "globParts", fn := fun _ => fun
  | [d1, d2, d3, d4] => { results := [.lit (.bool true)], args := [d1, d2, d3, d4] }
  | _ => none }
def globPartsRow : OpenClaim := { program := "ythpmdgkhpigofaa", sum := "451ff1658026b028df61206da4643908f6a2b5bbf7a929253dfc937bf8b6ff85", func := "quartermaster/quartermasterlaw1.GlobParts", spec := "globParts", apart := false }
def GlobPartsSaid : Prop := globPartsRow.holds Try.pinned (OpenSpec.ofChange globPartsSpec)

/-- ITS FALSE NEIGHBOUR: 'it returns false'. Refute it at one input. -/
def globPartsWrong : ChangeSpec := { name := "globParts", fn := fun _ => fun
  | [d1, d2, d3, d4] => { results := [.lit (.bool false)], args := [d1, d2, d3, d4] }
  | _ => none }
def GlobPartsWrongFalsely : Prop := globPartsRow.holds Try.pinned (OpenSpec.ofChange globPartsWrong)

/-- 'quartermasterlaw1.GlobSets': WHATEVER THE INPUT: true; the input reads as it did. -/
def globSetsSpec : ChangeSpec := { name := "globSets", fn := fun _ => fun
  | [d1, d2, d3] => { results := [.lit (.bool true)], args := [d1, d2, d3] }
  | _ => none }
def globSetsRow : OpenClaim := { program := "ythpmdgkhpigofaa", sum := "451ff1658026b028df61206da4643908f6a2b5bbf7a929253dfc937bf8b6ff85", func := "quartermaster/quartermasterlaw1.GlobSets", spec := "globSets", apart := false }
def GlobSetsSaid : Prop := globSetsRow.holds Try.pinned (OpenSpec.ofChange globSetsSpec)

/-- ITS FALSE NEIGHBOUR: 'it returns false'. Refute it at one input. -/
def globSetsWrong : ChangeSpec := { name := "globSets", fn := fun _ => fun
  | [d1, d2, d3] => { results := [.lit (.bool false)], args := [d1, d2, d3] }
  | _ => none }
def GlobSetsWrongFalsely : Prop := globSetsRow.holds Try.pinned (OpenSpec.ofChange globSetsWrong)

/-- 'quartermasterlaw1.GlobOnes': WHATEVER THE INPUT: true; the input reads as it did. -/
def globOnesSpec : ChangeSpec := { name := "globOnes", fn := fun _ => fun
  | [d1, d2] => { results := [.lit (.bool true)], args := [d1, d2] }
  | _ => none }
def globOnesRow : OpenClaim := { program := "ythpmdgkhpigofaa", sum := "451ff1658026b028df61206da4643908f6a2b5bbf7a929253dfc937bf8b6ff85", func := "quartermaster/quartermasterlaw1.GlobOnes", spec := "globOnes", apart := false }
def GlobOnesSaid : Prop := globOnesRow.holds Try.pinned (OpenSpec.ofChange globOnesSpec)

/-- ITS FALSE NEIGHBOUR: 'it returns false'. Refute it at one input. -/
def globOnesWrong : ChangeSpec := { name := "globOnes", fn := fun _ => fun
  | [d1, d2] => { results := [.lit (.bool false)], args := [d1, d2] }
  | _ => none }
def GlobOnesWrongFalsely : Prop := globOnesRow.holds Try.pinned (OpenSpec.ofChange globOnesWrong)

/- THE SECOND FORM. 'bulk': how many values and letters a reading holds, each counted each time it is reached (what is shared counts as often as it is met; a slice's spare places count too). A statement '..UptoSaid' is the law's where the arguments, and the package variables that the reading takes, are together of bulk at most 1048576: NARROWER than '..Said'. Prove '..Said' where nothing that the law and all that it calls make is longer than what came in: it says more and counts as full. Else prove '..UptoSaid'. A law counts once. -/
mutual
def uptoBulk {H : Type} : DataW H → Nat
  | .lit (.string bytes) => bytes.length + 1
  | .lit _ => 1
  | .nil => 1
  | .ptr d => uptoBulk d + 1
  | .slice elems spare => uptoBulkAll elems + uptoBulkAll spare + 1
  | .agg parts => uptoBulkAll parts + 1
  | .iface _ d => uptoBulk d + 1
  | .map entries => uptoBulkEntries entries + 1
  | .held _ => 1
def uptoBulkAll {H : Type} : List (DataW H) → Nat
  | [] => 0
  | d :: r => uptoBulk d + uptoBulkAll r
def uptoBulkEntries {H : Type} : List (Lit × DataW H) → Nat
  | [] => 0
  | x :: r => uptoBulkEntry x + uptoBulkEntries r
def uptoBulkEntry {H : Type} : Lit × DataW H → Nat
  | (.string bytes, d) => bytes.length + uptoBulk d + 1
  | (_, d) => uptoBulk d + 1
 end
def uptoSmall : (H : Type) → List (DataW H) → Bool := fun _ ds => decide (uptoBulkAll ds ≤ 1048576)
def OpenSpec.upto (s : _root_.Go.ChangeSpec) : _root_.Go.OpenSpec := { _root_.Go.OpenSpec.ofChange s with cond := some uptoSmall }

/-- 'quartermasterlaw1.GlobMatches', WHERE WHAT IT READS IS OF BULK AT MOST 1048576: true; the input reads as it did. -/
def globMatchesUptoRow : OpenClaim := { program := "ythpmdgkhpigofaa", sum := "451ff1658026b028df61206da4643908f6a2b5bbf7a929253dfc937bf8b6ff85", func := "quartermaster/quartermasterlaw1.GlobMatches", spec := "globMatches", apart := false, narrowed := true }
def GlobMatchesUptoSaid : Prop := globMatchesUptoRow.holds Try.pinned (OpenSpec.upto globMatchesSpec)

/-- 'quartermasterlaw1.GlobNames', WHERE WHAT IT READS IS OF BULK AT MOST 1048576: true; the input reads as it did. -/
def globNamesUptoRow : OpenClaim := { program := "ythpmdgkhpigofaa", sum := "451ff1658026b028df61206da4643908f6a2b5bbf7a929253dfc937bf8b6ff85", func := "quartermaster/quartermasterlaw1.GlobNames", spec := "globNames", recurses := true, apart := false, narrowed := true }
def GlobNamesUptoSaid : Prop := globNamesUptoRow.holds Try.pinned (OpenSpec.upto globNamesSpec)

/-- 'quartermasterlaw1.GlobPlain', WHERE WHAT IT READS IS OF BULK AT MOST 1048576: true; the input reads as it did. -/
def globPlainUptoRow : OpenClaim := { program := "ythpmdgkhpigofaa", sum := "451ff1658026b028df61206da4643908f6a2b5bbf7a929253dfc937bf8b6ff85", func := "quartermaster/quartermasterlaw1.GlobPlain", spec := "globPlain", inPlace := ["internal/abi.NoEscape"], apart := false, narrowed := true }
def GlobPlainUptoSaid : Prop := globPlainUptoRow.holds Try.pinned (OpenSpec.upto globPlainSpec)

/-- 'quartermasterlaw1.GlobQuote', WHERE WHAT IT READS IS OF BULK AT MOST 1048576: true; the input reads as it did. -/
def globQuoteUptoRow : OpenClaim := { program := "ythpmdgkhpigofaa", sum := "451ff1658026b028df61206da4643908f6a2b5bbf7a929253dfc937bf8b6ff85", func := "quartermaster/quartermasterlaw1.GlobQuote", spec := "globQuote", inPlace := ["internal/abi.NoEscape"], apart := false, narrowed := true }
def GlobQuoteUptoSaid : Prop := globQuoteUptoRow.holds Try.pinned (OpenSpec.upto globQuoteSpec)

/-- 'quartermasterlaw1.GlobParts', WHERE WHAT IT READS IS OF BULK AT MOST 1048576: true; the input reads as it did. -/
def globPartsUptoRow : OpenClaim := { program := "ythpmdgkhpigofaa", sum := "451ff1658026b028df61206da4643908f6a2b5bbf7a929253dfc937bf8b6ff85", func := "quartermaster/quartermasterlaw1.GlobParts", spec := "globParts", apart := false, narrowed := true }
def GlobPartsUptoSaid : Prop := globPartsUptoRow.holds Try.pinned (OpenSpec.upto globPartsSpec)

/-- 'quartermasterlaw1.GlobSets', WHERE WHAT IT READS IS OF BULK AT MOST 1048576: true; the input reads as it did. -/
def globSetsUptoRow : OpenClaim := { program := "ythpmdgkhpigofaa", sum := "451ff1658026b028df61206da4643908f6a2b5bbf7a929253dfc937bf8b6ff85", func := "quartermaster/quartermasterlaw1.GlobSets", spec := "globSets", apart := false, narrowed := true }
def GlobSetsUptoSaid : Prop := globSetsUptoRow.holds Try.pinned (OpenSpec.upto globSetsSpec)

/-- 'quartermasterlaw1.GlobOnes', WHERE WHAT IT READS IS OF BULK AT MOST 1048576: true; the input reads as it did. -/
def globOnesUptoRow : OpenClaim := { program := "ythpmdgkhpigofaa", sum := "451ff1658026b028df61206da4643908f6a2b5bbf7a929253dfc937bf8b6ff85", func := "quartermaster/quartermasterlaw1.GlobOnes", spec := "globOnes", apart := false, narrowed := true }
def GlobOnesUptoSaid : Prop := globOnesUptoRow.holds Try.pinned (OpenSpec.upto globOnesSpec)

end Rows
end Go.Proofs.Ythpmdgkhpigofaa
