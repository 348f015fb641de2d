/-
  DERIVED. GIVEN WITH THE SEED: THE CARDS: each row of YtcmjpkfinbakkaaDoorRows.lean that lists a variable, with what it lists TIED to the program's text (the seventh form; the later family's looks); each row that meets fmt, with fmt's text TOLD by the authors' own Lean function (tested against real Go, not proved from fmt's source: count such statements apart). THE CARD IS WHAT COUNTS. Prove the row's statement (the work); the ties are given (YtcmjpkfinbakkaaDoorTie.lean); close each card by the builder's one call (the guide's Derived/Test/ToyasCard.lean, 'card_holds'). Laid BY PROGRAM, IN A SANDBOX (cutbox-door.mjs). By AI agents, Wed Nov 11 2026. No macro, syntax, notation, axiom, sorry.
-/
import Derived.Test.YtcmjpkfinbakkaaDoorRows
import GoSem.ClaimSeven
namespace Go.Proofs.YtcmjpkfinbakkaaDoor
namespace Rows

/-- THE TIED CARD OF 'quartermasterlaw4.VfsErrors'. -/
def vfsErrorsCard : Claim7 := { stood := { row := vfsErrorsRow, standIns := [], harness := (true, "b51e8be6bc92a9f2bd9a4c626f0bb69478b8f13cd43a4ea6b0b1f1fa99b5eb9a"), looks := false }, kinds := [], alts := [], laidByText := true, laidKinds := [.data, .pinned], laidTests := true, laidLooks := .later }
def VfsErrorsCardSaid : Prop := Claim7.holds Tryd.pinned (.plain (OpenSpec.ofChange vfsErrorsSpec)) vfsErrorsCard

/-- THE TIED CARD OF 'quartermasterlaw14.CheckNots'. -/
def checkNotsCard : Claim7 := { stood := { row := checkNotsRow, standIns := [], harness := (true, "b51e8be6bc92a9f2bd9a4c626f0bb69478b8f13cd43a4ea6b0b1f1fa99b5eb9a"), looks := false }, kinds := [], alts := [], laidByText := true, laidKinds := [.data, .pinned], laidTests := true, laidLooks := .later }
def CheckNotsCardSaid : Prop := Claim7.holds Tryd.pinned (.plain (OpenSpec.ofChange checkNotsSpec)) checkNotsCard

/-- THE SECOND FORM's CARD OF 'quartermasterlaw4.VfsErrors'. -/
def vfsErrorsUptoCard : Claim7 := { stood := { row := vfsErrorsUptoRow, standIns := [], harness := (true, "b51e8be6bc92a9f2bd9a4c626f0bb69478b8f13cd43a4ea6b0b1f1fa99b5eb9a"), looks := false }, kinds := [], alts := [], laidByText := true, laidKinds := [.data, .pinned], laidTests := true, laidLooks := .later }
def VfsErrorsUptoCardSaid : Prop := Claim7.holds Tryd.pinned (.plain (OpenSpec.upto vfsErrorsSpec)) vfsErrorsUptoCard

/-- THE SECOND FORM's CARD OF 'quartermasterlaw14.CheckNots'. -/
def checkNotsUptoCard : Claim7 := { stood := { row := checkNotsUptoRow, standIns := [], harness := (true, "b51e8be6bc92a9f2bd9a4c626f0bb69478b8f13cd43a4ea6b0b1f1fa99b5eb9a"), looks := false }, kinds := [], alts := [], laidByText := true, laidKinds := [.data, .pinned], laidTests := true, laidLooks := .later }
def CheckNotsUptoCardSaid : Prop := Claim7.holds Tryd.pinned (.plain (OpenSpec.upto checkNotsSpec)) checkNotsUptoCard
end Rows
end Go.Proofs.YtcmjpkfinbakkaaDoor
