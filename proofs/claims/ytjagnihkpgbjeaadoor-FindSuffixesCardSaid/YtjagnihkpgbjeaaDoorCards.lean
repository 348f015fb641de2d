/-
  DERIVED. GIVEN WITH THE SEED: THE CARDS: each row of YtjagnihkpgbjeaaDoorRows.lean that lists a variable, with what it lists TIED to the program's text (the seventh form; the later family's looks); each row that meets fmt, with fmt's text TOLD by the authors' own Lean function (tested against real Go, not proved from fmt's source: count such statements apart). THE CARD IS WHAT COUNTS. Prove the row's statement (the work); the ties are given (YtjagnihkpgbjeaaDoorTie.lean); close each card by the builder's one call (the guide's Derived/Test/ToyasCard.lean, 'card_holds'). Laid BY PROGRAM, IN A SANDBOX (cutbox-door.mjs). By AI agents, Wed Nov 11 2026. No macro, syntax, notation, axiom, sorry.
-/
import Derived.Test.YtjagnihkpgbjeaaDoorRows
import GoSem.ClaimSeven
namespace Go.Proofs.YtjagnihkpgbjeaaDoor
namespace Rows

/-- THE TIED CARD OF 'quartermasterlaw4.VfsErrors'. -/
def vfsErrorsCard : Claim7 := { stood := { row := vfsErrorsRow, standIns := [], harness := (true, "0ea22137c0e081a947fcbbb8e98407cd85534c488be237ef28ad76efad6a03b5"), looks := false }, kinds := [], alts := [], laidByText := true, laidKinds := [.data, .pinned], laidTests := true, laidLooks := .later }
def VfsErrorsCardSaid : Prop := Claim7.holds Tryd.pinned (.plain (OpenSpec.ofChange vfsErrorsSpec)) vfsErrorsCard

/-- THE TIED CARD OF 'quartermasterlaw14.CheckNots'. -/
def checkNotsCard : Claim7 := { stood := { row := checkNotsRow, standIns := [], harness := (true, "0ea22137c0e081a947fcbbb8e98407cd85534c488be237ef28ad76efad6a03b5"), looks := false }, kinds := [], alts := [], laidByText := true, laidKinds := [.data, .pinned], laidTests := true, laidLooks := .later }
def CheckNotsCardSaid : Prop := Claim7.holds Tryd.pinned (.plain (OpenSpec.ofChange checkNotsSpec)) checkNotsCard

/-- THE TIED CARD OF 'quartermasterlaw21.FindChains'. -/
def findChainsCard : Claim7 := { stood := { row := findChainsRow, standIns := [], harness := (true, "0ea22137c0e081a947fcbbb8e98407cd85534c488be237ef28ad76efad6a03b5"), looks := false }, kinds := [], alts := [], laidByText := true, laidKinds := [.data, .pinned], laidTests := true, laidLooks := .later }
def FindChainsCardSaid : Prop := Claim7.holds Tryd.pinned (.plain (OpenSpec.ofChange findChainsSpec)) findChainsCard

/-- THE TIED CARD OF 'quartermasterlaw21.FindSuffixes'. -/
def findSuffixesCard : Claim7 := { stood := { row := findSuffixesRow, standIns := [], harness := (true, "0ea22137c0e081a947fcbbb8e98407cd85534c488be237ef28ad76efad6a03b5"), looks := false }, kinds := [], alts := [], laidByText := true, laidKinds := [.data, .pinned], laidTests := true, laidLooks := .later }
def FindSuffixesCardSaid : Prop := Claim7.holds Tryd.pinned (.plain (OpenSpec.ofChange findSuffixesSpec)) findSuffixesCard

/-- THE TIED CARD OF 'quartermasterlaw21.FindGathers'. -/
def findGathersCard : Claim7 := { stood := { row := findGathersRow, standIns := [], harness := (true, "0ea22137c0e081a947fcbbb8e98407cd85534c488be237ef28ad76efad6a03b5"), looks := false }, kinds := [], alts := [], laidByText := true, laidKinds := [.data, .pinned], laidTests := true, laidLooks := .later }
def FindGathersCardSaid : Prop := Claim7.holds Tryd.pinned (.plain (OpenSpec.ofChange findGathersSpec)) findGathersCard

/-- THE TIED CARD OF 'quartermasterlaw22.GraphRings'. -/
def graphRingsCard : Claim7 := { stood := { row := graphRingsRow, standIns := [], harness := (true, "0ea22137c0e081a947fcbbb8e98407cd85534c488be237ef28ad76efad6a03b5"), looks := false }, kinds := [], alts := [], laidByText := true, laidKinds := [.data, .pinned], laidTests := true, laidLooks := .later }
def GraphRingsCardSaid : Prop := Claim7.holds Tryd.pinned (.plain (OpenSpec.ofChange graphRingsSpec)) graphRingsCard

/-- THE TIED CARD OF 'quartermasterlaw22.GraphGoal'. -/
def graphGoalCard : Claim7 := { stood := { row := graphGoalRow, standIns := [], harness := (true, "0ea22137c0e081a947fcbbb8e98407cd85534c488be237ef28ad76efad6a03b5"), looks := false }, kinds := [], alts := [], laidByText := true, laidKinds := [.data, .pinned], laidTests := true, laidLooks := .later }
def GraphGoalCardSaid : Prop := Claim7.holds Tryd.pinned (.plain (OpenSpec.ofChange graphGoalSpec)) graphGoalCard

/-- THE TIED CARD OF 'quartermasterlaw23.AgeTouched'. -/
def ageTouchedCard : Claim7 := { stood := { row := ageTouchedRow, standIns := [], harness := (true, "0ea22137c0e081a947fcbbb8e98407cd85534c488be237ef28ad76efad6a03b5"), looks := false }, kinds := [], alts := [], laidByText := true, laidKinds := [.data, .pinned], laidTests := true, laidLooks := .later }
def AgeTouchedCardSaid : Prop := Claim7.holds Tryd.pinned (.plain (OpenSpec.ofChange ageTouchedSpec)) ageTouchedCard

/-- THE TIED CARD OF 'quartermasterlaw23.AgePhony'. -/
def agePhonyCard : Claim7 := { stood := { row := agePhonyRow, standIns := [], harness := (true, "0ea22137c0e081a947fcbbb8e98407cd85534c488be237ef28ad76efad6a03b5"), looks := false }, kinds := [], alts := [], laidByText := true, laidKinds := [.data, .pinned], laidTests := true, laidLooks := .later }
def AgePhonyCardSaid : Prop := Claim7.holds Tryd.pinned (.plain (OpenSpec.ofChange agePhonySpec)) agePhonyCard

/-- THE SECOND FORM's CARD OF 'quartermasterlaw4.VfsErrors'. -/
def vfsErrorsUptoCard : Claim7 := { stood := { row := vfsErrorsUptoRow, standIns := [], harness := (true, "0ea22137c0e081a947fcbbb8e98407cd85534c488be237ef28ad76efad6a03b5"), looks := false }, kinds := [], alts := [], laidByText := true, laidKinds := [.data, .pinned], laidTests := true, laidLooks := .later }
def VfsErrorsUptoCardSaid : Prop := Claim7.holds Tryd.pinned (.plain (OpenSpec.upto vfsErrorsSpec)) vfsErrorsUptoCard

/-- THE SECOND FORM's CARD OF 'quartermasterlaw14.CheckNots'. -/
def checkNotsUptoCard : Claim7 := { stood := { row := checkNotsUptoRow, standIns := [], harness := (true, "0ea22137c0e081a947fcbbb8e98407cd85534c488be237ef28ad76efad6a03b5"), looks := false }, kinds := [], alts := [], laidByText := true, laidKinds := [.data, .pinned], laidTests := true, laidLooks := .later }
def CheckNotsUptoCardSaid : Prop := Claim7.holds Tryd.pinned (.plain (OpenSpec.upto checkNotsSpec)) checkNotsUptoCard

/-- THE SECOND FORM's CARD OF 'quartermasterlaw21.FindChains'. -/
def findChainsUptoCard : Claim7 := { stood := { row := findChainsUptoRow, standIns := [], harness := (true, "0ea22137c0e081a947fcbbb8e98407cd85534c488be237ef28ad76efad6a03b5"), looks := false }, kinds := [], alts := [], laidByText := true, laidKinds := [.data, .pinned], laidTests := true, laidLooks := .later }
def FindChainsUptoCardSaid : Prop := Claim7.holds Tryd.pinned (.plain (OpenSpec.upto findChainsSpec)) findChainsUptoCard

/-- THE SECOND FORM's CARD OF 'quartermasterlaw21.FindSuffixes'. -/
def findSuffixesUptoCard : Claim7 := { stood := { row := findSuffixesUptoRow, standIns := [], harness := (true, "0ea22137c0e081a947fcbbb8e98407cd85534c488be237ef28ad76efad6a03b5"), looks := false }, kinds := [], alts := [], laidByText := true, laidKinds := [.data, .pinned], laidTests := true, laidLooks := .later }
def FindSuffixesUptoCardSaid : Prop := Claim7.holds Tryd.pinned (.plain (OpenSpec.upto findSuffixesSpec)) findSuffixesUptoCard

/-- THE SECOND FORM's CARD OF 'quartermasterlaw21.FindGathers'. -/
def findGathersUptoCard : Claim7 := { stood := { row := findGathersUptoRow, standIns := [], harness := (true, "0ea22137c0e081a947fcbbb8e98407cd85534c488be237ef28ad76efad6a03b5"), looks := false }, kinds := [], alts := [], laidByText := true, laidKinds := [.data, .pinned], laidTests := true, laidLooks := .later }
def FindGathersUptoCardSaid : Prop := Claim7.holds Tryd.pinned (.plain (OpenSpec.upto findGathersSpec)) findGathersUptoCard

/-- THE SECOND FORM's CARD OF 'quartermasterlaw22.GraphRings'. -/
def graphRingsUptoCard : Claim7 := { stood := { row := graphRingsUptoRow, standIns := [], harness := (true, "0ea22137c0e081a947fcbbb8e98407cd85534c488be237ef28ad76efad6a03b5"), looks := false }, kinds := [], alts := [], laidByText := true, laidKinds := [.data, .pinned], laidTests := true, laidLooks := .later }
def GraphRingsUptoCardSaid : Prop := Claim7.holds Tryd.pinned (.plain (OpenSpec.upto graphRingsSpec)) graphRingsUptoCard

/-- THE SECOND FORM's CARD OF 'quartermasterlaw22.GraphGoal'. -/
def graphGoalUptoCard : Claim7 := { stood := { row := graphGoalUptoRow, standIns := [], harness := (true, "0ea22137c0e081a947fcbbb8e98407cd85534c488be237ef28ad76efad6a03b5"), looks := false }, kinds := [], alts := [], laidByText := true, laidKinds := [.data, .pinned], laidTests := true, laidLooks := .later }
def GraphGoalUptoCardSaid : Prop := Claim7.holds Tryd.pinned (.plain (OpenSpec.upto graphGoalSpec)) graphGoalUptoCard

/-- THE SECOND FORM's CARD OF 'quartermasterlaw23.AgeTouched'. -/
def ageTouchedUptoCard : Claim7 := { stood := { row := ageTouchedUptoRow, standIns := [], harness := (true, "0ea22137c0e081a947fcbbb8e98407cd85534c488be237ef28ad76efad6a03b5"), looks := false }, kinds := [], alts := [], laidByText := true, laidKinds := [.data, .pinned], laidTests := true, laidLooks := .later }
def AgeTouchedUptoCardSaid : Prop := Claim7.holds Tryd.pinned (.plain (OpenSpec.upto ageTouchedSpec)) ageTouchedUptoCard

/-- THE SECOND FORM's CARD OF 'quartermasterlaw23.AgePhony'. -/
def agePhonyUptoCard : Claim7 := { stood := { row := agePhonyUptoRow, standIns := [], harness := (true, "0ea22137c0e081a947fcbbb8e98407cd85534c488be237ef28ad76efad6a03b5"), looks := false }, kinds := [], alts := [], laidByText := true, laidKinds := [.data, .pinned], laidTests := true, laidLooks := .later }
def AgePhonyUptoCardSaid : Prop := Claim7.holds Tryd.pinned (.plain (OpenSpec.upto agePhonySpec)) agePhonyUptoCard
end Rows
end Go.Proofs.YtjagnihkpgbjeaaDoor
