/-
  DERIVED. GIVEN WITH THE SEED: THE CARDS: each row of YtleflcpdaapddaaDoorRows.lean that lists a variable, with what it lists TIED to the program's text (the seventh form; the later family's looks); each row that meets fmt, with fmt's text TOLD by the authors' own Lean function (tested against real Go, not proved from fmt's source: count such statements apart). THE CARD IS WHAT COUNTS. Prove the row's statement (the work); the ties are given (YtleflcpdaapddaaDoorTie.lean); close each card by the builder's one call (the guide's Derived/Test/ToyasCard.lean, 'card_holds'). Laid BY PROGRAM, IN A SANDBOX (cutbox-door.mjs). By AI agents, Wed Nov 11 2026. No macro, syntax, notation, axiom, sorry.
-/
import Derived.Test.YtleflcpdaapddaaDoorRows
import GoSem.ClaimSeven
namespace Go.Proofs.YtleflcpdaapddaaDoor
namespace Rows

/-- THE TIED CARD OF 'quartermasterlaw2.StemMatches'. -/
def stemMatchesCard : Claim7 := { stood := { row := stemMatchesRow, standIns := [], harness := (true, "b75a5083a8071315c2de9c9fedcbe74a6d6a585ba5ea4c6dd6e555c7e5437700"), looks := false }, kinds := [], alts := [], laidByText := true, laidKinds := [.data, .pinned], laidTests := true, laidLooks := .later }
def StemMatchesCardSaid : Prop := Claim7.holds Tryd.pinned (.plain (OpenSpec.ofChange stemMatchesSpec)) stemMatchesCard

/-- THE TIED CARD OF 'quartermasterlaw2.StemBack'. -/
def stemBackCard : Claim7 := { stood := { row := stemBackRow, standIns := [], harness := (true, "b75a5083a8071315c2de9c9fedcbe74a6d6a585ba5ea4c6dd6e555c7e5437700"), looks := false }, kinds := [], alts := [], laidByText := true, laidKinds := [.data, .pinned], laidTests := true, laidLooks := .later }
def StemBackCardSaid : Prop := Claim7.holds Tryd.pinned (.plain (OpenSpec.ofChange stemBackSpec)) stemBackCard

/-- THE SECOND FORM's CARD OF 'quartermasterlaw2.StemMatches'. -/
def stemMatchesUptoCard : Claim7 := { stood := { row := stemMatchesUptoRow, standIns := [], harness := (true, "b75a5083a8071315c2de9c9fedcbe74a6d6a585ba5ea4c6dd6e555c7e5437700"), looks := false }, kinds := [], alts := [], laidByText := true, laidKinds := [.data, .pinned], laidTests := true, laidLooks := .later }
def StemMatchesUptoCardSaid : Prop := Claim7.holds Tryd.pinned (.plain (OpenSpec.upto stemMatchesSpec)) stemMatchesUptoCard

/-- THE SECOND FORM's CARD OF 'quartermasterlaw2.StemBack'. -/
def stemBackUptoCard : Claim7 := { stood := { row := stemBackUptoRow, standIns := [], harness := (true, "b75a5083a8071315c2de9c9fedcbe74a6d6a585ba5ea4c6dd6e555c7e5437700"), looks := false }, kinds := [], alts := [], laidByText := true, laidKinds := [.data, .pinned], laidTests := true, laidLooks := .later }
def StemBackUptoCardSaid : Prop := Claim7.holds Tryd.pinned (.plain (OpenSpec.upto stemBackSpec)) stemBackUptoCard
end Rows
end Go.Proofs.YtleflcpdaapddaaDoor
