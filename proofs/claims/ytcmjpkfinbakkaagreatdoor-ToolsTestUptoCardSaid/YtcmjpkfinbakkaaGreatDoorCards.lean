/-
  DERIVED. GIVEN WITH THE SEED: THE CARDS: each row of YtcmjpkfinbakkaaGreatDoorRows.lean that lists a variable, with what it lists TIED to the program's text (the seventh form; the later family's looks); each row that meets fmt, with fmt's text TOLD by the authors' own Lean function (tested against real Go, not proved from fmt's source: count such statements apart). THE CARD IS WHAT COUNTS. Prove the row's statement (the work); the ties are given (YtcmjpkfinbakkaaGreatDoorTie.lean); close each card by the builder's one call (the guide's Derived/Test/ToyasCard.lean, 'card_holds'). Laid BY PROGRAM, IN A SANDBOX (cutbox-door.mjs). By AI agents, Wed Nov 11 2026. No macro, syntax, notation, axiom, sorry.
-/
import Derived.Test.YtcmjpkfinbakkaaGreatDoorRows
import GoSem.ClaimSeven
namespace Go.Proofs.YtcmjpkfinbakkaaGreatDoor
namespace Rows

/-- THE TIED CARD OF 'quartermasterlaw12.FieldStars'. -/
def fieldStarsCard : Claim7 := { stood := { row := fieldStarsRow, standIns := [], harness := (true, "c2235d1ba2237626f7f0664c6ed92ab528fb3b2583ac79dbbbf4aa073010077a"), looks := true }, kinds := [], alts := [], laidByText := true, laidKinds := [.data, .pinned], laidTests := true, laidLooks := .later }
def FieldStarsCardSaid : Prop := Claim7.holds Tryz.pinned (.plain (OpenSpec.ofChange fieldStarsSpec)) fieldStarsCard

/-- THE TIED CARD OF 'quartermasterlaw12.FieldDeep'. -/
def fieldDeepCard : Claim7 := { stood := { row := fieldDeepRow, standIns := [], harness := (true, "c2235d1ba2237626f7f0664c6ed92ab528fb3b2583ac79dbbbf4aa073010077a"), looks := true }, kinds := [], alts := [], laidByText := true, laidKinds := [.data, .pinned], laidTests := true, laidLooks := .later }
def FieldDeepCardSaid : Prop := Claim7.holds Tryz.pinned (.plain (OpenSpec.ofChange fieldDeepSpec)) fieldDeepCard

/-- THE TIED CARD OF 'quartermasterlaw12.FieldPlain'. -/
def fieldPlainCard : Claim7 := { stood := { row := fieldPlainRow, standIns := [], harness := (true, "c2235d1ba2237626f7f0664c6ed92ab528fb3b2583ac79dbbbf4aa073010077a"), looks := true }, kinds := [], alts := [], laidByText := true, laidKinds := [.data, .pinned], laidTests := true, laidLooks := .later }
def FieldPlainCardSaid : Prop := Claim7.holds Tryz.pinned (.plain (OpenSpec.ofChange fieldPlainSpec)) fieldPlainCard

/-- THE TIED CARD OF 'quartermasterlaw15.ToolsEcho'. -/
def toolsEchoCard : Claim7 := { stood := { row := toolsEchoRow, standIns := [], harness := (true, "c2235d1ba2237626f7f0664c6ed92ab528fb3b2583ac79dbbbf4aa073010077a"), looks := true }, kinds := [], alts := [], laidByText := true, laidKinds := [.data, .data, .data, .data, .sentinel, .sentinel, .pinned], laidTests := true, laidLooks := .later }
def ToolsEchoCardSaid : Prop := Claim7.holds Tryz.pinned (.plain (OpenSpec.ofChange toolsEchoSpec)) toolsEchoCard

/-- THE TIED CARD OF 'quartermasterlaw15.ToolsCopy'. -/
def toolsCopyCard : Claim7 := { stood := { row := toolsCopyRow, standIns := [], harness := (true, "c2235d1ba2237626f7f0664c6ed92ab528fb3b2583ac79dbbbf4aa073010077a"), looks := true }, kinds := [], alts := [], laidByText := true, laidKinds := [.data, .data, .data, .data, .sentinel, .sentinel, .pinned], laidTests := true, laidLooks := .later }
def ToolsCopyCardSaid : Prop := Claim7.holds Tryz.pinned (.plain (OpenSpec.ofChange toolsCopySpec)) toolsCopyCard

/-- THE TIED CARD OF 'quartermasterlaw15.ToolsDeep'. -/
def toolsDeepCard : Claim7 := { stood := { row := toolsDeepRow, standIns := [], harness := (true, "c2235d1ba2237626f7f0664c6ed92ab528fb3b2583ac79dbbbf4aa073010077a"), looks := true }, kinds := [], alts := [], laidByText := true, laidKinds := [.data, .data, .data, .data, .sentinel, .sentinel, .pinned], laidTests := true, laidLooks := .later }
def ToolsDeepCardSaid : Prop := Claim7.holds Tryz.pinned (.plain (OpenSpec.ofChange toolsDeepSpec)) toolsDeepCard

/-- THE TIED CARD OF 'quartermasterlaw15.ToolsCalc'. -/
def toolsCalcCard : Claim7 := { stood := { row := toolsCalcRow, standIns := [], harness := (true, "c2235d1ba2237626f7f0664c6ed92ab528fb3b2583ac79dbbbf4aa073010077a"), looks := true }, kinds := [], alts := [], laidByText := true, laidKinds := [.data, .data, .data, .data, .sentinel, .sentinel, .pinned], laidTests := true, laidLooks := .later }
def ToolsCalcCardSaid : Prop := Claim7.holds Tryz.pinned (.plain (OpenSpec.ofChange toolsCalcSpec)) toolsCalcCard

/-- THE TIED CARD OF 'quartermasterlaw15.ToolsPrint'. -/
def toolsPrintCard : Claim7 := { stood := { row := toolsPrintRow, standIns := [], harness := (true, "c2235d1ba2237626f7f0664c6ed92ab528fb3b2583ac79dbbbf4aa073010077a"), looks := true }, kinds := [], alts := [], laidByText := true, laidKinds := [.data, .data, .data, .data, .sentinel, .sentinel, .pinned], laidTests := true, laidLooks := .later }
def ToolsPrintCardSaid : Prop := Claim7.holds Tryz.pinned (.plain (OpenSpec.ofChange toolsPrintSpec)) toolsPrintCard

/-- THE TIED CARD OF 'quartermasterlaw15.ToolsCat'. -/
def toolsCatCard : Claim7 := { stood := { row := toolsCatRow, standIns := [], harness := (true, "c2235d1ba2237626f7f0664c6ed92ab528fb3b2583ac79dbbbf4aa073010077a"), looks := true }, kinds := [], alts := [], laidByText := true, laidKinds := [.data, .data, .data, .data, .sentinel, .sentinel, .pinned], laidTests := true, laidLooks := .later }
def ToolsCatCardSaid : Prop := Claim7.holds Tryz.pinned (.plain (OpenSpec.ofChange toolsCatSpec)) toolsCatCard

/-- THE TIED CARD OF 'quartermasterlaw15.ToolsTest'. -/
def toolsTestCard : Claim7 := { stood := { row := toolsTestRow, standIns := [], harness := (true, "c2235d1ba2237626f7f0664c6ed92ab528fb3b2583ac79dbbbf4aa073010077a"), looks := true }, kinds := [], alts := [], laidByText := true, laidKinds := [.data, .data, .data, .data, .sentinel, .sentinel, .pinned], laidTests := true, laidLooks := .later }
def ToolsTestCardSaid : Prop := Claim7.holds Tryz.pinned (.plain (OpenSpec.ofChange toolsTestSpec)) toolsTestCard

/-- THE SECOND FORM's CARD OF 'quartermasterlaw12.FieldStars'. -/
def fieldStarsUptoCard : Claim7 := { stood := { row := fieldStarsUptoRow, standIns := [], harness := (true, "c2235d1ba2237626f7f0664c6ed92ab528fb3b2583ac79dbbbf4aa073010077a"), looks := true }, kinds := [], alts := [], laidByText := true, laidKinds := [.data, .pinned], laidTests := true, laidLooks := .later }
def FieldStarsUptoCardSaid : Prop := Claim7.holds Tryz.pinned (.plain (OpenSpec.upto fieldStarsSpec)) fieldStarsUptoCard

/-- THE SECOND FORM's CARD OF 'quartermasterlaw12.FieldDeep'. -/
def fieldDeepUptoCard : Claim7 := { stood := { row := fieldDeepUptoRow, standIns := [], harness := (true, "c2235d1ba2237626f7f0664c6ed92ab528fb3b2583ac79dbbbf4aa073010077a"), looks := true }, kinds := [], alts := [], laidByText := true, laidKinds := [.data, .pinned], laidTests := true, laidLooks := .later }
def FieldDeepUptoCardSaid : Prop := Claim7.holds Tryz.pinned (.plain (OpenSpec.upto fieldDeepSpec)) fieldDeepUptoCard

/-- THE SECOND FORM's CARD OF 'quartermasterlaw12.FieldPlain'. -/
def fieldPlainUptoCard : Claim7 := { stood := { row := fieldPlainUptoRow, standIns := [], harness := (true, "c2235d1ba2237626f7f0664c6ed92ab528fb3b2583ac79dbbbf4aa073010077a"), looks := true }, kinds := [], alts := [], laidByText := true, laidKinds := [.data, .pinned], laidTests := true, laidLooks := .later }
def FieldPlainUptoCardSaid : Prop := Claim7.holds Tryz.pinned (.plain (OpenSpec.upto fieldPlainSpec)) fieldPlainUptoCard

/-- THE SECOND FORM's CARD OF 'quartermasterlaw15.ToolsEcho'. -/
def toolsEchoUptoCard : Claim7 := { stood := { row := toolsEchoUptoRow, standIns := [], harness := (true, "c2235d1ba2237626f7f0664c6ed92ab528fb3b2583ac79dbbbf4aa073010077a"), looks := true }, kinds := [], alts := [], laidByText := true, laidKinds := [.data, .data, .data, .data, .sentinel, .sentinel, .pinned], laidTests := true, laidLooks := .later }
def ToolsEchoUptoCardSaid : Prop := Claim7.holds Tryz.pinned (.plain (OpenSpec.upto toolsEchoSpec)) toolsEchoUptoCard

/-- THE SECOND FORM's CARD OF 'quartermasterlaw15.ToolsCopy'. -/
def toolsCopyUptoCard : Claim7 := { stood := { row := toolsCopyUptoRow, standIns := [], harness := (true, "c2235d1ba2237626f7f0664c6ed92ab528fb3b2583ac79dbbbf4aa073010077a"), looks := true }, kinds := [], alts := [], laidByText := true, laidKinds := [.data, .data, .data, .data, .sentinel, .sentinel, .pinned], laidTests := true, laidLooks := .later }
def ToolsCopyUptoCardSaid : Prop := Claim7.holds Tryz.pinned (.plain (OpenSpec.upto toolsCopySpec)) toolsCopyUptoCard

/-- THE SECOND FORM's CARD OF 'quartermasterlaw15.ToolsDeep'. -/
def toolsDeepUptoCard : Claim7 := { stood := { row := toolsDeepUptoRow, standIns := [], harness := (true, "c2235d1ba2237626f7f0664c6ed92ab528fb3b2583ac79dbbbf4aa073010077a"), looks := true }, kinds := [], alts := [], laidByText := true, laidKinds := [.data, .data, .data, .data, .sentinel, .sentinel, .pinned], laidTests := true, laidLooks := .later }
def ToolsDeepUptoCardSaid : Prop := Claim7.holds Tryz.pinned (.plain (OpenSpec.upto toolsDeepSpec)) toolsDeepUptoCard

/-- THE SECOND FORM's CARD OF 'quartermasterlaw15.ToolsCalc'. -/
def toolsCalcUptoCard : Claim7 := { stood := { row := toolsCalcUptoRow, standIns := [], harness := (true, "c2235d1ba2237626f7f0664c6ed92ab528fb3b2583ac79dbbbf4aa073010077a"), looks := true }, kinds := [], alts := [], laidByText := true, laidKinds := [.data, .data, .data, .data, .sentinel, .sentinel, .pinned], laidTests := true, laidLooks := .later }
def ToolsCalcUptoCardSaid : Prop := Claim7.holds Tryz.pinned (.plain (OpenSpec.upto toolsCalcSpec)) toolsCalcUptoCard

/-- THE SECOND FORM's CARD OF 'quartermasterlaw15.ToolsPrint'. -/
def toolsPrintUptoCard : Claim7 := { stood := { row := toolsPrintUptoRow, standIns := [], harness := (true, "c2235d1ba2237626f7f0664c6ed92ab528fb3b2583ac79dbbbf4aa073010077a"), looks := true }, kinds := [], alts := [], laidByText := true, laidKinds := [.data, .data, .data, .data, .sentinel, .sentinel, .pinned], laidTests := true, laidLooks := .later }
def ToolsPrintUptoCardSaid : Prop := Claim7.holds Tryz.pinned (.plain (OpenSpec.upto toolsPrintSpec)) toolsPrintUptoCard

/-- THE SECOND FORM's CARD OF 'quartermasterlaw15.ToolsCat'. -/
def toolsCatUptoCard : Claim7 := { stood := { row := toolsCatUptoRow, standIns := [], harness := (true, "c2235d1ba2237626f7f0664c6ed92ab528fb3b2583ac79dbbbf4aa073010077a"), looks := true }, kinds := [], alts := [], laidByText := true, laidKinds := [.data, .data, .data, .data, .sentinel, .sentinel, .pinned], laidTests := true, laidLooks := .later }
def ToolsCatUptoCardSaid : Prop := Claim7.holds Tryz.pinned (.plain (OpenSpec.upto toolsCatSpec)) toolsCatUptoCard

/-- THE SECOND FORM's CARD OF 'quartermasterlaw15.ToolsTest'. -/
def toolsTestUptoCard : Claim7 := { stood := { row := toolsTestUptoRow, standIns := [], harness := (true, "c2235d1ba2237626f7f0664c6ed92ab528fb3b2583ac79dbbbf4aa073010077a"), looks := true }, kinds := [], alts := [], laidByText := true, laidKinds := [.data, .data, .data, .data, .sentinel, .sentinel, .pinned], laidTests := true, laidLooks := .later }
def ToolsTestUptoCardSaid : Prop := Claim7.holds Tryz.pinned (.plain (OpenSpec.upto toolsTestSpec)) toolsTestUptoCard
end Rows
end Go.Proofs.YtcmjpkfinbakkaaGreatDoor
