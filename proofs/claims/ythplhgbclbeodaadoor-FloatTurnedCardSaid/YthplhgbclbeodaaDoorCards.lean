/-
  DERIVED. GIVEN WITH THE SEED: THE CARDS: each row of YthplhgbclbeodaaDoorRows.lean that lists a variable, with what it lists TIED to the program's text (the seventh form; the later family's looks); each row that meets fmt, with fmt's text TOLD by the authors' own Lean function (tested against real Go, not proved from fmt's source: count such statements apart). THE CARD IS WHAT COUNTS. Prove the row's statement (the work); the ties are given (YthplhgbclbeodaaDoorTie.lean); close each card by the builder's one call (the guide's Derived/Test/ToyasCard.lean, 'card_holds'). Laid BY PROGRAM, IN A SANDBOX (cutbox-door.mjs). By AI agents, Wed Nov 11 2026. No macro, syntax, notation, axiom, sorry.
-/
import Derived.Test.YthplhgbclbeodaaDoorRows
import GoSem.ClaimSeven
namespace Go.Proofs.YthplhgbclbeodaaDoor
namespace Rows

/-- THE TIED CARD OF 'basculelaw03.FloatOrder'. -/
def floatOrderCard : Claim7 := { stood := { row := floatOrderRow, standIns := [], harness := (true, "1442d56c9863a55ab90957bf369d3ff3558bfda6f5c7d5e057752a3dfde75035"), looks := false }, kinds := [], alts := [], laidByText := true, laidKinds := [.data, .data, .data], laidTests := true, laidLooks := .later }
def FloatOrderCardSaid : Prop := Claim7.holds Tryd.pinned (.plain (OpenSpec.ofChange floatOrderSpec)) floatOrderCard

/-- THE TIED CARD OF 'basculelaw03.FloatTexts'. -/
def floatTextsCard : Claim7 := { stood := { row := floatTextsRow, standIns := [], harness := (true, "1442d56c9863a55ab90957bf369d3ff3558bfda6f5c7d5e057752a3dfde75035"), looks := false }, kinds := [], alts := [], laidByText := true, laidKinds := [.data, .data, .data], laidTests := true, laidLooks := .later }
def FloatTextsCardSaid : Prop := Claim7.holds Tryd.pinned (.plain (OpenSpec.ofChange floatTextsSpec)) floatTextsCard

/-- THE TIED CARD OF 'basculelaw03.FloatParses'. -/
def floatParsesCard : Claim7 := { stood := { row := floatParsesRow, standIns := [], harness := (true, "1442d56c9863a55ab90957bf369d3ff3558bfda6f5c7d5e057752a3dfde75035"), looks := false }, kinds := [], alts := [], laidByText := true, laidKinds := [.data, .data, .data], laidTests := true, laidLooks := .later }
def FloatParsesCardSaid : Prop := Claim7.holds Tryd.pinned (.plain (OpenSpec.ofChange floatParsesSpec)) floatParsesCard

/-- THE TIED CARD OF 'basculelaw03.FloatInts'. -/
def floatIntsCard : Claim7 := { stood := { row := floatIntsRow, standIns := [], harness := (true, "1442d56c9863a55ab90957bf369d3ff3558bfda6f5c7d5e057752a3dfde75035"), looks := false }, kinds := [], alts := [], laidByText := true, laidKinds := [.data, .data, .data], laidTests := true, laidLooks := .later }
def FloatIntsCardSaid : Prop := Claim7.holds Tryd.pinned (.plain (OpenSpec.ofChange floatIntsSpec)) floatIntsCard

/-- THE TIED CARD OF 'basculelaw03.FloatSums'. -/
def floatSumsCard : Claim7 := { stood := { row := floatSumsRow, standIns := [], harness := (true, "1442d56c9863a55ab90957bf369d3ff3558bfda6f5c7d5e057752a3dfde75035"), looks := false }, kinds := [], alts := [], laidByText := true, laidKinds := [.data, .data, .data], laidTests := true, laidLooks := .later }
def FloatSumsCardSaid : Prop := Claim7.holds Tryd.pinned (.plain (OpenSpec.ofChange floatSumsSpec)) floatSumsCard

/-- THE TIED CARD OF 'basculelaw03.FloatSmall'. -/
def floatSmallCard : Claim7 := { stood := { row := floatSmallRow, standIns := [], harness := (true, "1442d56c9863a55ab90957bf369d3ff3558bfda6f5c7d5e057752a3dfde75035"), looks := false }, kinds := [], alts := [], laidByText := true, laidKinds := [.data, .data, .data], laidTests := true, laidLooks := .later }
def FloatSmallCardSaid : Prop := Claim7.holds Tryd.pinned (.plain (OpenSpec.ofChange floatSmallSpec)) floatSmallCard

/-- THE TIED CARD OF 'basculelaw03.FloatRow'. -/
def floatRowCard : Claim7 := { stood := { row := floatRowRow, standIns := [], harness := (true, "1442d56c9863a55ab90957bf369d3ff3558bfda6f5c7d5e057752a3dfde75035"), looks := false }, kinds := [], alts := [], laidByText := true, laidKinds := [.data, .data, .data], laidTests := true, laidLooks := .later }
def FloatRowCardSaid : Prop := Claim7.holds Tryd.pinned (.plain (OpenSpec.ofChange floatRowSpec)) floatRowCard

/-- THE TIED CARD OF 'basculelaw03.FloatTurned'. -/
def floatTurnedCard : Claim7 := { stood := { row := floatTurnedRow, standIns := [], harness := (true, "1442d56c9863a55ab90957bf369d3ff3558bfda6f5c7d5e057752a3dfde75035"), looks := false }, kinds := [], alts := [], laidByText := true, laidKinds := [.data, .data, .data], laidTests := true, laidLooks := .later }
def FloatTurnedCardSaid : Prop := Claim7.holds Tryd.pinned (.plain (OpenSpec.ofChange floatTurnedSpec)) floatTurnedCard

/-- THE SECOND FORM's CARD OF 'basculelaw03.FloatOrder'. -/
def floatOrderUptoCard : Claim7 := { stood := { row := floatOrderUptoRow, standIns := [], harness := (true, "1442d56c9863a55ab90957bf369d3ff3558bfda6f5c7d5e057752a3dfde75035"), looks := false }, kinds := [], alts := [], laidByText := true, laidKinds := [.data, .data, .data], laidTests := true, laidLooks := .later }
def FloatOrderUptoCardSaid : Prop := Claim7.holds Tryd.pinned (.plain (OpenSpec.upto floatOrderSpec)) floatOrderUptoCard

/-- THE SECOND FORM's CARD OF 'basculelaw03.FloatTexts'. -/
def floatTextsUptoCard : Claim7 := { stood := { row := floatTextsUptoRow, standIns := [], harness := (true, "1442d56c9863a55ab90957bf369d3ff3558bfda6f5c7d5e057752a3dfde75035"), looks := false }, kinds := [], alts := [], laidByText := true, laidKinds := [.data, .data, .data], laidTests := true, laidLooks := .later }
def FloatTextsUptoCardSaid : Prop := Claim7.holds Tryd.pinned (.plain (OpenSpec.upto floatTextsSpec)) floatTextsUptoCard

/-- THE SECOND FORM's CARD OF 'basculelaw03.FloatParses'. -/
def floatParsesUptoCard : Claim7 := { stood := { row := floatParsesUptoRow, standIns := [], harness := (true, "1442d56c9863a55ab90957bf369d3ff3558bfda6f5c7d5e057752a3dfde75035"), looks := false }, kinds := [], alts := [], laidByText := true, laidKinds := [.data, .data, .data], laidTests := true, laidLooks := .later }
def FloatParsesUptoCardSaid : Prop := Claim7.holds Tryd.pinned (.plain (OpenSpec.upto floatParsesSpec)) floatParsesUptoCard

/-- THE SECOND FORM's CARD OF 'basculelaw03.FloatInts'. -/
def floatIntsUptoCard : Claim7 := { stood := { row := floatIntsUptoRow, standIns := [], harness := (true, "1442d56c9863a55ab90957bf369d3ff3558bfda6f5c7d5e057752a3dfde75035"), looks := false }, kinds := [], alts := [], laidByText := true, laidKinds := [.data, .data, .data], laidTests := true, laidLooks := .later }
def FloatIntsUptoCardSaid : Prop := Claim7.holds Tryd.pinned (.plain (OpenSpec.upto floatIntsSpec)) floatIntsUptoCard

/-- THE SECOND FORM's CARD OF 'basculelaw03.FloatSums'. -/
def floatSumsUptoCard : Claim7 := { stood := { row := floatSumsUptoRow, standIns := [], harness := (true, "1442d56c9863a55ab90957bf369d3ff3558bfda6f5c7d5e057752a3dfde75035"), looks := false }, kinds := [], alts := [], laidByText := true, laidKinds := [.data, .data, .data], laidTests := true, laidLooks := .later }
def FloatSumsUptoCardSaid : Prop := Claim7.holds Tryd.pinned (.plain (OpenSpec.upto floatSumsSpec)) floatSumsUptoCard

/-- THE SECOND FORM's CARD OF 'basculelaw03.FloatSmall'. -/
def floatSmallUptoCard : Claim7 := { stood := { row := floatSmallUptoRow, standIns := [], harness := (true, "1442d56c9863a55ab90957bf369d3ff3558bfda6f5c7d5e057752a3dfde75035"), looks := false }, kinds := [], alts := [], laidByText := true, laidKinds := [.data, .data, .data], laidTests := true, laidLooks := .later }
def FloatSmallUptoCardSaid : Prop := Claim7.holds Tryd.pinned (.plain (OpenSpec.upto floatSmallSpec)) floatSmallUptoCard

/-- THE SECOND FORM's CARD OF 'basculelaw03.FloatRow'. -/
def floatRowUptoCard : Claim7 := { stood := { row := floatRowUptoRow, standIns := [], harness := (true, "1442d56c9863a55ab90957bf369d3ff3558bfda6f5c7d5e057752a3dfde75035"), looks := false }, kinds := [], alts := [], laidByText := true, laidKinds := [.data, .data, .data], laidTests := true, laidLooks := .later }
def FloatRowUptoCardSaid : Prop := Claim7.holds Tryd.pinned (.plain (OpenSpec.upto floatRowSpec)) floatRowUptoCard

/-- THE SECOND FORM's CARD OF 'basculelaw03.FloatTurned'. -/
def floatTurnedUptoCard : Claim7 := { stood := { row := floatTurnedUptoRow, standIns := [], harness := (true, "1442d56c9863a55ab90957bf369d3ff3558bfda6f5c7d5e057752a3dfde75035"), looks := false }, kinds := [], alts := [], laidByText := true, laidKinds := [.data, .data, .data], laidTests := true, laidLooks := .later }
def FloatTurnedUptoCardSaid : Prop := Claim7.holds Tryd.pinned (.plain (OpenSpec.upto floatTurnedSpec)) floatTurnedUptoCard
end Rows
end Go.Proofs.YthplhgbclbeodaaDoor
