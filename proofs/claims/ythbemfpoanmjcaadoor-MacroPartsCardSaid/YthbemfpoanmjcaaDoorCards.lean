/-
  DERIVED. GIVEN WITH THE SEED: THE CARDS: each row of YthbemfpoanmjcaaDoorRows.lean that lists a variable, with what it lists TIED to the program's text (the seventh form; the later family's looks); each row that meets fmt, with fmt's text TOLD by the authors' own Lean function (tested against real Go, not proved from fmt's source: count such statements apart). THE CARD IS WHAT COUNTS. Prove the row's statement (the work); the ties are given (YthbemfpoanmjcaaDoorTie.lean); close each card by the builder's one call (the guide's Derived/Test/ToyasCard.lean, 'card_holds'). Laid BY PROGRAM, IN A SANDBOX (cutbox-door.mjs). By AI agents, Wed Nov 11 2026. No macro, syntax, notation, axiom, sorry.
-/
import Derived.Test.YthbemfpoanmjcaaDoorRows
import GoSem.ClaimSeven
namespace Go.Proofs.YthbemfpoanmjcaaDoor
namespace Rows

/-- THE TIED CARD OF 'quartermasterlaw19.MacroNames'. -/
def macroNamesCard : Claim7 := { stood := { row := macroNamesRow, standIns := [], harness := (true, "1cc35fa7cf62e26d9b90819a6cfa7ce50d5d4be0ef29bca4d3bd8ede5a281041"), looks := false }, kinds := [], alts := [], laidByText := true, laidKinds := [.data, .pinned], laidTests := true, laidLooks := .later }
def MacroNamesCardSaid : Prop := Claim7.holds Tryd.pinned (.plain (OpenSpec.ofChange macroNamesSpec)) macroNamesCard

/-- THE TIED CARD OF 'quartermasterlaw19.MacroPlain'. -/
def macroPlainCard : Claim7 := { stood := { row := macroPlainRow, standIns := [], harness := (true, "1cc35fa7cf62e26d9b90819a6cfa7ce50d5d4be0ef29bca4d3bd8ede5a281041"), looks := false }, kinds := [], alts := [], laidByText := true, laidKinds := [.data, .pinned], laidTests := true, laidLooks := .later }
def MacroPlainCardSaid : Prop := Claim7.holds Tryd.pinned (.plain (OpenSpec.ofChange macroPlainSpec)) macroPlainCard

/-- THE TIED CARD OF 'quartermasterlaw19.MacroParts'. -/
def macroPartsCard : Claim7 := { stood := { row := macroPartsRow, standIns := [], harness := (true, "1cc35fa7cf62e26d9b90819a6cfa7ce50d5d4be0ef29bca4d3bd8ede5a281041"), looks := false }, kinds := [], alts := [], laidByText := true, laidKinds := [.data, .pinned], laidTests := true, laidLooks := .later }
def MacroPartsCardSaid : Prop := Claim7.holds Tryd.pinned (.plain (OpenSpec.ofChange macroPartsSpec)) macroPartsCard

/-- THE TIED CARD OF 'quartermasterlaw19.MacroCycles'. -/
def macroCyclesCard : Claim7 := { stood := { row := macroCyclesRow, standIns := [], harness := (true, "1cc35fa7cf62e26d9b90819a6cfa7ce50d5d4be0ef29bca4d3bd8ede5a281041"), looks := false }, kinds := [], alts := [], laidByText := true, laidKinds := [.data, .pinned], laidTests := true, laidLooks := .later }
def MacroCyclesCardSaid : Prop := Claim7.holds Tryd.pinned (.plain (OpenSpec.ofChange macroCyclesSpec)) macroCyclesCard

/-- THE TIED CARD OF 'quartermasterlaw19.MacroSwaps'. -/
def macroSwapsCard : Claim7 := { stood := { row := macroSwapsRow, standIns := [], harness := (true, "1cc35fa7cf62e26d9b90819a6cfa7ce50d5d4be0ef29bca4d3bd8ede5a281041"), looks := false }, kinds := [], alts := [], laidByText := true, laidKinds := [.data, .pinned], laidTests := true, laidLooks := .later }
def MacroSwapsCardSaid : Prop := Claim7.holds Tryd.pinned (.plain (OpenSpec.ofChange macroSwapsSpec)) macroSwapsCard

/-- THE TIED CARD OF 'quartermasterlaw19.MacroAutos'. -/
def macroAutosCard : Claim7 := { stood := { row := macroAutosRow, standIns := [], harness := (true, "1cc35fa7cf62e26d9b90819a6cfa7ce50d5d4be0ef29bca4d3bd8ede5a281041"), looks := false }, kinds := [], alts := [], laidByText := true, laidKinds := [.data, .pinned], laidTests := true, laidLooks := .later }
def MacroAutosCardSaid : Prop := Claim7.holds Tryd.pinned (.plain (OpenSpec.ofChange macroAutosSpec)) macroAutosCard

/-- THE TIED CARD OF 'quartermasterlaw19.MacroNested'. -/
def macroNestedCard : Claim7 := { stood := { row := macroNestedRow, standIns := [], harness := (true, "1cc35fa7cf62e26d9b90819a6cfa7ce50d5d4be0ef29bca4d3bd8ede5a281041"), looks := false }, kinds := [], alts := [], laidByText := true, laidKinds := [.data, .pinned], laidTests := true, laidLooks := .later }
def MacroNestedCardSaid : Prop := Claim7.holds Tryd.pinned (.plain (OpenSpec.ofChange macroNestedSpec)) macroNestedCard

/-- THE TIED CARD OF 'quartermasterlaw19.MacroMany'. -/
def macroManyCard : Claim7 := { stood := { row := macroManyRow, standIns := [], harness := (true, "1cc35fa7cf62e26d9b90819a6cfa7ce50d5d4be0ef29bca4d3bd8ede5a281041"), looks := false }, kinds := [], alts := [], laidByText := true, laidKinds := [.data, .pinned], laidTests := true, laidLooks := .later }
def MacroManyCardSaid : Prop := Claim7.holds Tryd.pinned (.plain (OpenSpec.ofChange macroManySpec)) macroManyCard

/-- THE SECOND FORM's CARD OF 'quartermasterlaw19.MacroNames'. -/
def macroNamesUptoCard : Claim7 := { stood := { row := macroNamesUptoRow, standIns := [], harness := (true, "1cc35fa7cf62e26d9b90819a6cfa7ce50d5d4be0ef29bca4d3bd8ede5a281041"), looks := false }, kinds := [], alts := [], laidByText := true, laidKinds := [.data, .pinned], laidTests := true, laidLooks := .later }
def MacroNamesUptoCardSaid : Prop := Claim7.holds Tryd.pinned (.plain (OpenSpec.upto macroNamesSpec)) macroNamesUptoCard

/-- THE SECOND FORM's CARD OF 'quartermasterlaw19.MacroPlain'. -/
def macroPlainUptoCard : Claim7 := { stood := { row := macroPlainUptoRow, standIns := [], harness := (true, "1cc35fa7cf62e26d9b90819a6cfa7ce50d5d4be0ef29bca4d3bd8ede5a281041"), looks := false }, kinds := [], alts := [], laidByText := true, laidKinds := [.data, .pinned], laidTests := true, laidLooks := .later }
def MacroPlainUptoCardSaid : Prop := Claim7.holds Tryd.pinned (.plain (OpenSpec.upto macroPlainSpec)) macroPlainUptoCard

/-- THE SECOND FORM's CARD OF 'quartermasterlaw19.MacroParts'. -/
def macroPartsUptoCard : Claim7 := { stood := { row := macroPartsUptoRow, standIns := [], harness := (true, "1cc35fa7cf62e26d9b90819a6cfa7ce50d5d4be0ef29bca4d3bd8ede5a281041"), looks := false }, kinds := [], alts := [], laidByText := true, laidKinds := [.data, .pinned], laidTests := true, laidLooks := .later }
def MacroPartsUptoCardSaid : Prop := Claim7.holds Tryd.pinned (.plain (OpenSpec.upto macroPartsSpec)) macroPartsUptoCard

/-- THE SECOND FORM's CARD OF 'quartermasterlaw19.MacroCycles'. -/
def macroCyclesUptoCard : Claim7 := { stood := { row := macroCyclesUptoRow, standIns := [], harness := (true, "1cc35fa7cf62e26d9b90819a6cfa7ce50d5d4be0ef29bca4d3bd8ede5a281041"), looks := false }, kinds := [], alts := [], laidByText := true, laidKinds := [.data, .pinned], laidTests := true, laidLooks := .later }
def MacroCyclesUptoCardSaid : Prop := Claim7.holds Tryd.pinned (.plain (OpenSpec.upto macroCyclesSpec)) macroCyclesUptoCard

/-- THE SECOND FORM's CARD OF 'quartermasterlaw19.MacroSwaps'. -/
def macroSwapsUptoCard : Claim7 := { stood := { row := macroSwapsUptoRow, standIns := [], harness := (true, "1cc35fa7cf62e26d9b90819a6cfa7ce50d5d4be0ef29bca4d3bd8ede5a281041"), looks := false }, kinds := [], alts := [], laidByText := true, laidKinds := [.data, .pinned], laidTests := true, laidLooks := .later }
def MacroSwapsUptoCardSaid : Prop := Claim7.holds Tryd.pinned (.plain (OpenSpec.upto macroSwapsSpec)) macroSwapsUptoCard

/-- THE SECOND FORM's CARD OF 'quartermasterlaw19.MacroAutos'. -/
def macroAutosUptoCard : Claim7 := { stood := { row := macroAutosUptoRow, standIns := [], harness := (true, "1cc35fa7cf62e26d9b90819a6cfa7ce50d5d4be0ef29bca4d3bd8ede5a281041"), looks := false }, kinds := [], alts := [], laidByText := true, laidKinds := [.data, .pinned], laidTests := true, laidLooks := .later }
def MacroAutosUptoCardSaid : Prop := Claim7.holds Tryd.pinned (.plain (OpenSpec.upto macroAutosSpec)) macroAutosUptoCard

/-- THE SECOND FORM's CARD OF 'quartermasterlaw19.MacroNested'. -/
def macroNestedUptoCard : Claim7 := { stood := { row := macroNestedUptoRow, standIns := [], harness := (true, "1cc35fa7cf62e26d9b90819a6cfa7ce50d5d4be0ef29bca4d3bd8ede5a281041"), looks := false }, kinds := [], alts := [], laidByText := true, laidKinds := [.data, .pinned], laidTests := true, laidLooks := .later }
def MacroNestedUptoCardSaid : Prop := Claim7.holds Tryd.pinned (.plain (OpenSpec.upto macroNestedSpec)) macroNestedUptoCard

/-- THE SECOND FORM's CARD OF 'quartermasterlaw19.MacroMany'. -/
def macroManyUptoCard : Claim7 := { stood := { row := macroManyUptoRow, standIns := [], harness := (true, "1cc35fa7cf62e26d9b90819a6cfa7ce50d5d4be0ef29bca4d3bd8ede5a281041"), looks := false }, kinds := [], alts := [], laidByText := true, laidKinds := [.data, .pinned], laidTests := true, laidLooks := .later }
def MacroManyUptoCardSaid : Prop := Claim7.holds Tryd.pinned (.plain (OpenSpec.upto macroManySpec)) macroManyUptoCard
end Rows
end Go.Proofs.YthbemfpoanmjcaaDoor
