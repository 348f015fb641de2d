/-
  DERIVED. GIVEN WITH THE SEED: THE CARDS: each row of YtdiggmlickdfdaaDoorRows.lean that lists a variable, with what it lists TIED to the program's text (the seventh form; the later family's looks); each row that meets fmt, with fmt's text TOLD by the authors' own Lean function (tested against real Go, not proved from fmt's source: count such statements apart). THE CARD IS WHAT COUNTS. Prove the row's statement (the work); the ties are given (YtdiggmlickdfdaaDoorTie.lean); close each card by the builder's one call (the guide's Derived/Test/ToyasCard.lean, 'card_holds'). Laid BY PROGRAM, IN A SANDBOX (cutbox-door.mjs). By AI agents, Wed Nov 11 2026. No macro, syntax, notation, axiom, sorry.
-/
import Derived.Test.YtdiggmlickdfdaaDoorRows
import GoSem.ClaimSeven
namespace Go.Proofs.YtdiggmlickdfdaaDoor
namespace Rows

/-- THE TIED CARD OF 'quartermasterlaw4.VfsErrors'. -/
def vfsErrorsCard : Claim7 := { stood := { row := vfsErrorsRow, standIns := [], harness := (true, "cc6454adaff27e3aff53c3b51b856acc383b13c01054433fedc5ca293024de47"), looks := false }, kinds := [], alts := [], laidByText := true, laidKinds := [.data, .pinned], laidTests := true, laidLooks := .later }
def VfsErrorsCardSaid : Prop := Claim7.holds Tryd.pinned (.plain (OpenSpec.ofChange vfsErrorsSpec)) vfsErrorsCard

/-- THE TIED CARD OF 'quartermasterlaw4.VfsLists'. -/
def vfsListsCard : Claim7 := { stood := { row := vfsListsRow, standIns := [], harness := (true, "cc6454adaff27e3aff53c3b51b856acc383b13c01054433fedc5ca293024de47"), looks := false }, kinds := [], alts := [], laidByText := true, laidKinds := [.data, .pinned], laidTests := true, laidLooks := .later }
def VfsListsCardSaid : Prop := Claim7.holds Tryd.pinned (.plain (OpenSpec.ofChange vfsListsSpec)) vfsListsCard

/-- THE SECOND FORM's CARD OF 'quartermasterlaw4.VfsErrors'. -/
def vfsErrorsUptoCard : Claim7 := { stood := { row := vfsErrorsUptoRow, standIns := [], harness := (true, "cc6454adaff27e3aff53c3b51b856acc383b13c01054433fedc5ca293024de47"), looks := false }, kinds := [], alts := [], laidByText := true, laidKinds := [.data, .pinned], laidTests := true, laidLooks := .later }
def VfsErrorsUptoCardSaid : Prop := Claim7.holds Tryd.pinned (.plain (OpenSpec.upto vfsErrorsSpec)) vfsErrorsUptoCard

/-- THE SECOND FORM's CARD OF 'quartermasterlaw4.VfsLists'. -/
def vfsListsUptoCard : Claim7 := { stood := { row := vfsListsUptoRow, standIns := [], harness := (true, "cc6454adaff27e3aff53c3b51b856acc383b13c01054433fedc5ca293024de47"), looks := false }, kinds := [], alts := [], laidByText := true, laidKinds := [.data, .pinned], laidTests := true, laidLooks := .later }
def VfsListsUptoCardSaid : Prop := Claim7.holds Tryd.pinned (.plain (OpenSpec.upto vfsListsSpec)) vfsListsUptoCard
end Rows
end Go.Proofs.YtdiggmlickdfdaaDoor
