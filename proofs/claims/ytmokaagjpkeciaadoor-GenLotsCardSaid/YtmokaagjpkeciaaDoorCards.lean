/-
  DERIVED. GIVEN WITH THE SEED: THE CARDS: each row of YtmokaagjpkeciaaDoorRows.lean that lists a variable, with what it lists TIED to the program's text (the seventh form; the later family's looks); each row that meets fmt, with fmt's text TOLD by the authors' own Lean function (tested against real Go, not proved from fmt's source: count such statements apart). THE CARD IS WHAT COUNTS. Prove the row's statement (the work); the ties are given (YtmokaagjpkeciaaDoorTie.lean); close each card by the builder's one call (the guide's Derived/Test/ToyasCard.lean, 'card_holds'). Laid BY PROGRAM, IN A SANDBOX (cutbox-door.mjs). By AI agents, Wed Nov 11 2026. No macro, syntax, notation, axiom, sorry.
-/
import Derived.Test.YtmokaagjpkeciaaDoorRows
import GoSem.ClaimSeven
namespace Go.Proofs.YtmokaagjpkeciaaDoor
namespace Rows

/-- THE TIED CARD OF 'quartermasterlaw27.GenLots'. -/
def genLotsCard : Claim7 := { stood := { row := genLotsRow, standIns := [], harness := (true, "e5fd420236646e34c42b921e44c80dc3324b71b0fca22134812eb4b5f197b39e"), looks := false }, kinds := [], alts := [], laidByText := true, laidKinds := [.data, .data, .data], laidTests := true, laidLooks := .later }
def GenLotsCardSaid : Prop := Claim7.holds Tryd.pinned (.plain (OpenSpec.ofChange genLotsSpec)) genLotsCard

/-- THE SECOND FORM's CARD OF 'quartermasterlaw27.GenLots'. -/
def genLotsUptoCard : Claim7 := { stood := { row := genLotsUptoRow, standIns := [], harness := (true, "e5fd420236646e34c42b921e44c80dc3324b71b0fca22134812eb4b5f197b39e"), looks := false }, kinds := [], alts := [], laidByText := true, laidKinds := [.data, .data, .data], laidTests := true, laidLooks := .later }
def GenLotsUptoCardSaid : Prop := Claim7.holds Tryd.pinned (.plain (OpenSpec.upto genLotsSpec)) genLotsUptoCard
end Rows
end Go.Proofs.YtmokaagjpkeciaaDoor
