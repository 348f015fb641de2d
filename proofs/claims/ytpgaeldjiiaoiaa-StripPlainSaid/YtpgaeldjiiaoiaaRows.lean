/-
  No cell of these rows narrows 'for every input' (looked for: loops, veiled, ifaces, maps, wideKeys, modest, calm, conditions, laid).
  DERIVED. THE GIVEN ROWS OF THIS SEAT. 3 by the template 'for every input the law returns true; each argument reads behind the call as it read before'; 0 by the template 'total and deterministic' (their statements: YtpgaeldjiiaoiaaTotals.lean).
  GIVEN WITH THE SEED: the statements are not yours to turn. If you find one false, say at which input.
  Laid BY PROGRAM, IN A SANDBOX (cutbox-rows.mjs): the forced cells as the released guide's own fill.sh prints them over the translation 5687720b358e2cf6… (all of the seat's roots in one cut). By AI agents, Wed Nov 11 2026. No macro, syntax, notation, axiom, sorry.
-/
import Derived.Test.YtpgaeldjiiaoiaaChecked
import GoSem.Claim
import GoSem.ClaimJoined
import GoSem.ClaimMapViews
import Derived.JoinedTies
import Derived.KernelRfl
namespace Go.Proofs.Ytpgaeldjiiaoiaa
/- THE CELL 'sum', in the pinned program and in every row, IS THE sha256 OF THE DUMP (.gsa) THAT YtpgaeldjiiaoiaaProg.lean LOADS. Nothing in Lean hashes anything: it is a label: what it is worth is what the hold of that sum in a sandbox is worth. -/
noncomputable def Try.pinned : Pinned := { name := "ytpgaeldjiiaoiaa", sum := "5687720b358e2cf6042fc9e4c64bab696833102f7f6edff2fb56b6228f51eb90", checked := Try.checked }
namespace Rows
def none {H : Type} : Left H := { results := [], args := [] }

/-- 'quartermasterlaw11.StripTakes': WHATEVER THE INPUT: true; the input reads as it did. -/
def stripTakesSpec : ChangeSpec := { name := "stripTakes", fn := fun _ => fun
  | [d1, d2] => { results := [.lit (.bool true)], args := [d1, d2] }
  | _ => none }
def stripTakesRow : OpenClaim := { program := "ytpgaeldjiiaoiaa", sum := "5687720b358e2cf6042fc9e4c64bab696833102f7f6edff2fb56b6228f51eb90", func := "quartermaster/quartermasterlaw11.StripTakes", spec := "stripTakes", unfollowed := true, recurses := true, apart := false }
def StripTakesSaid : Prop := stripTakesRow.holds Try.pinned (OpenSpec.ofChange stripTakesSpec)

/-- ITS FALSE NEIGHBOUR: 'it returns false'. Refute it at one input. -/
def stripTakesWrong : ChangeSpec := { name := "stripTakes", fn := fun _ => fun
  | [d1, d2] => { results := [.lit (.bool false)], args := [d1, d2] }
  | _ => none }
def StripTakesWrongFalsely : Prop := stripTakesRow.holds Try.pinned (OpenSpec.ofChange stripTakesWrong)

/-- 'quartermasterlaw11.StripEnds': WHATEVER THE INPUT: true; the input reads as it did. -/
def stripEndsSpec : ChangeSpec := { name := "stripEnds", fn := fun _ => fun
  | [d1, d2] => { results := [.lit (.bool true)], args := [d1, d2] }
  | _ => none }
def stripEndsRow : OpenClaim := { program := "ytpgaeldjiiaoiaa", sum := "5687720b358e2cf6042fc9e4c64bab696833102f7f6edff2fb56b6228f51eb90", func := "quartermaster/quartermasterlaw11.StripEnds", spec := "stripEnds", unfollowed := true, recurses := true, apart := false }
def StripEndsSaid : Prop := stripEndsRow.holds Try.pinned (OpenSpec.ofChange stripEndsSpec)

/-- ITS FALSE NEIGHBOUR: 'it returns false'. Refute it at one input. -/
def stripEndsWrong : ChangeSpec := { name := "stripEnds", fn := fun _ => fun
  | [d1, d2] => { results := [.lit (.bool false)], args := [d1, d2] }
  | _ => none }
def StripEndsWrongFalsely : Prop := stripEndsRow.holds Try.pinned (OpenSpec.ofChange stripEndsWrong)

/-- 'quartermasterlaw11.StripPlain': WHATEVER THE INPUT: true; the input reads as it did. -/
def stripPlainSpec : ChangeSpec := { name := "stripPlain", fn := fun _ => fun
  | [d1, d2, d3] => { results := [.lit (.bool true)], args := [d1, d2, d3] }
  | _ => none }
def stripPlainRow : OpenClaim := { program := "ytpgaeldjiiaoiaa", sum := "5687720b358e2cf6042fc9e4c64bab696833102f7f6edff2fb56b6228f51eb90", func := "quartermaster/quartermasterlaw11.StripPlain", spec := "stripPlain", inPlace := ["internal/abi.NoEscape"], unfollowed := true, recurses := true, apart := false }
def StripPlainSaid : Prop := stripPlainRow.holds Try.pinned (OpenSpec.ofChange stripPlainSpec)

/-- ITS FALSE NEIGHBOUR: 'it returns false'. Refute it at one input. -/
def stripPlainWrong : ChangeSpec := { name := "stripPlain", fn := fun _ => fun
  | [d1, d2, d3] => { results := [.lit (.bool false)], args := [d1, d2, d3] }
  | _ => none }
def StripPlainWrongFalsely : Prop := stripPlainRow.holds Try.pinned (OpenSpec.ofChange stripPlainWrong)

/- THE SECOND FORM. 'bulk': how many values and letters a reading holds, each counted each time it is reached (what is shared counts as often as it is met; a slice's spare places count too). A statement '..UptoSaid' is the law's where the arguments, and the package variables that the reading takes, are together of bulk at most 1048576: NARROWER than '..Said'. Prove '..Said' where nothing that the law and all that it calls make is longer than what came in: it says more and counts as full. Else prove '..UptoSaid'. A law counts once. -/
mutual
def uptoBulk {H : Type} : DataW H → Nat
  | .lit (.string bytes) => bytes.length + 1
  | .lit _ => 1
  | .nil => 1
  | .ptr d => uptoBulk d + 1
  | .slice elems spare => uptoBulkAll elems + uptoBulkAll spare + 1
  | .agg parts => uptoBulkAll parts + 1
  | .iface _ d => uptoBulk d + 1
  | .map entries => uptoBulkEntries entries + 1
  | .held _ => 1
def uptoBulkAll {H : Type} : List (DataW H) → Nat
  | [] => 0
  | d :: r => uptoBulk d + uptoBulkAll r
def uptoBulkEntries {H : Type} : List (Lit × DataW H) → Nat
  | [] => 0
  | x :: r => uptoBulkEntry x + uptoBulkEntries r
def uptoBulkEntry {H : Type} : Lit × DataW H → Nat
  | (.string bytes, d) => bytes.length + uptoBulk d + 1
  | (_, d) => uptoBulk d + 1
 end
def uptoSmall : (H : Type) → List (DataW H) → Bool := fun _ ds => decide (uptoBulkAll ds ≤ 1048576)
def OpenSpec.upto (s : _root_.Go.ChangeSpec) : _root_.Go.OpenSpec := { _root_.Go.OpenSpec.ofChange s with cond := some uptoSmall }

/-- 'quartermasterlaw11.StripTakes', WHERE WHAT IT READS IS OF BULK AT MOST 1048576: true; the input reads as it did. -/
def stripTakesUptoRow : OpenClaim := { program := "ytpgaeldjiiaoiaa", sum := "5687720b358e2cf6042fc9e4c64bab696833102f7f6edff2fb56b6228f51eb90", func := "quartermaster/quartermasterlaw11.StripTakes", spec := "stripTakes", unfollowed := true, recurses := true, apart := false, narrowed := true }
def StripTakesUptoSaid : Prop := stripTakesUptoRow.holds Try.pinned (OpenSpec.upto stripTakesSpec)

/-- 'quartermasterlaw11.StripEnds', WHERE WHAT IT READS IS OF BULK AT MOST 1048576: true; the input reads as it did. -/
def stripEndsUptoRow : OpenClaim := { program := "ytpgaeldjiiaoiaa", sum := "5687720b358e2cf6042fc9e4c64bab696833102f7f6edff2fb56b6228f51eb90", func := "quartermaster/quartermasterlaw11.StripEnds", spec := "stripEnds", unfollowed := true, recurses := true, apart := false, narrowed := true }
def StripEndsUptoSaid : Prop := stripEndsUptoRow.holds Try.pinned (OpenSpec.upto stripEndsSpec)

/-- 'quartermasterlaw11.StripPlain', WHERE WHAT IT READS IS OF BULK AT MOST 1048576: true; the input reads as it did. -/
def stripPlainUptoRow : OpenClaim := { program := "ytpgaeldjiiaoiaa", sum := "5687720b358e2cf6042fc9e4c64bab696833102f7f6edff2fb56b6228f51eb90", func := "quartermaster/quartermasterlaw11.StripPlain", spec := "stripPlain", inPlace := ["internal/abi.NoEscape"], unfollowed := true, recurses := true, apart := false, narrowed := true }
def StripPlainUptoSaid : Prop := stripPlainUptoRow.holds Try.pinned (OpenSpec.upto stripPlainSpec)

end Rows
end Go.Proofs.Ytpgaeldjiiaoiaa
