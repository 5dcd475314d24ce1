/-
  DERIVED. GIVEN WITH THE SEED: THE CARDS: each row of YtkaceghngjpemaaDoorRows.lean that lists a variable, with what it lists TIED to the program's text (the seventh form; the later family's looks); each row that meets fmt, with fmt's text TOLD by the authors' own Lean function (tested against real Go, not proved from fmt's source: count such statements apart). THE CARD IS WHAT COUNTS. Prove the row's statement (the work); the ties are given (YtkaceghngjpemaaDoorTie.lean); close each card by the builder's one call (the guide's Derived/Test/ToyasCard.lean, 'card_holds'). Laid BY PROGRAM, IN A SANDBOX (cutbox-door.mjs). By AI agents, Wed Nov 11 2026. No macro, syntax, notation, axiom, sorry.
-/
import Derived.Test.YtkaceghngjpemaaDoorRows
import GoSem.ClaimSeven
namespace Go.Proofs.YtkaceghngjpemaaDoor
namespace Rows

/-- THE TIED CARD OF 'marginalialaw03.TokenLexes'. -/
def tokenLexesCard : Claim7 := { stood := { row := tokenLexesRow, standIns := [], harness := (true, "0cc05ec18fc730709d73b500ed3abbd1cf1e88d7ae5640c24b3b0e0ab6e938ed"), looks := true }, kinds := [], alts := [], laidByText := true, laidKinds := [.data, .data, .data, .sentinel, .sentinel, .data, .data], laidTests := true, laidLooks := .later }
def TokenLexesCardSaid : Prop := Claim7.holds Tryd.pinned (.plain (OpenSpec.ofChange tokenLexesSpec)) tokenLexesCard

/-- THE TIED CARD OF 'marginalialaw03.TokenTexts'. -/
def tokenTextsCard : Claim7 := { stood := { row := tokenTextsRow, standIns := [], harness := (true, "0cc05ec18fc730709d73b500ed3abbd1cf1e88d7ae5640c24b3b0e0ab6e938ed"), looks := true }, kinds := [], alts := [], laidByText := true, laidKinds := [.data, .data, .data, .sentinel, .sentinel, .data, .data], laidTests := true, laidLooks := .later }
def TokenTextsCardSaid : Prop := Claim7.holds Tryd.pinned (.plain (OpenSpec.ofChange tokenTextsSpec)) tokenTextsCard

/-- THE TIED CARD OF 'marginalialaw03.TokenKinds'. -/
def tokenKindsCard : Claim7 := { stood := { row := tokenKindsRow, standIns := [], harness := (true, "0cc05ec18fc730709d73b500ed3abbd1cf1e88d7ae5640c24b3b0e0ab6e938ed"), looks := true }, kinds := [], alts := [], laidByText := true, laidKinds := [.data, .data, .data, .sentinel, .sentinel, .data, .data], laidTests := true, laidLooks := .later }
def TokenKindsCardSaid : Prop := Claim7.holds Tryd.pinned (.plain (OpenSpec.ofChange tokenKindsSpec)) tokenKindsCard

/-- THE TIED CARD OF 'marginalialaw03.TokenQuotes'. -/
def tokenQuotesCard : Claim7 := { stood := { row := tokenQuotesRow, standIns := [], harness := (true, "0cc05ec18fc730709d73b500ed3abbd1cf1e88d7ae5640c24b3b0e0ab6e938ed"), looks := true }, kinds := [], alts := [], laidByText := true, laidKinds := [.data, .data, .data, .sentinel, .sentinel, .data, .data], laidTests := true, laidLooks := .later }
def TokenQuotesCardSaid : Prop := Claim7.holds Tryd.pinned (.plain (OpenSpec.ofChange tokenQuotesSpec)) tokenQuotesCard

/-- THE TIED CARD OF 'marginalialaw03.TokenWhole'. -/
def tokenWholeCard : Claim7 := { stood := { row := tokenWholeRow, standIns := [], harness := (true, "0cc05ec18fc730709d73b500ed3abbd1cf1e88d7ae5640c24b3b0e0ab6e938ed"), looks := true }, kinds := [], alts := [], laidByText := true, laidKinds := [.data, .data, .data, .sentinel, .sentinel, .data, .data], laidTests := true, laidLooks := .later }
def TokenWholeCardSaid : Prop := Claim7.holds Tryd.pinned (.plain (OpenSpec.ofChange tokenWholeSpec)) tokenWholeCard

/-- THE TIED CARD OF 'marginalialaw03.TokenLines'. -/
def tokenLinesCard : Claim7 := { stood := { row := tokenLinesRow, standIns := [], harness := (true, "0cc05ec18fc730709d73b500ed3abbd1cf1e88d7ae5640c24b3b0e0ab6e938ed"), looks := true }, kinds := [], alts := [], laidByText := true, laidKinds := [.data, .data, .data, .sentinel, .sentinel, .data, .data], laidTests := true, laidLooks := .later }
def TokenLinesCardSaid : Prop := Claim7.holds Tryd.pinned (.plain (OpenSpec.ofChange tokenLinesSpec)) tokenLinesCard

/-- THE TIED CARD OF 'marginalialaw04.RelexTokens'. -/
def relexTokensCard : Claim7 := { stood := { row := relexTokensRow, standIns := [], harness := (true, "0cc05ec18fc730709d73b500ed3abbd1cf1e88d7ae5640c24b3b0e0ab6e938ed"), looks := true }, kinds := [], alts := [], laidByText := true, laidKinds := [.data, .data], laidTests := true, laidLooks := .later }
def RelexTokensCardSaid : Prop := Claim7.holds Tryd.pinned (.plain (OpenSpec.ofChange relexTokensSpec)) relexTokensCard

/-- THE TIED CARD OF 'marginalialaw04.RelexCommons'. -/
def relexCommonsCard : Claim7 := { stood := { row := relexCommonsRow, standIns := [], harness := (true, "0cc05ec18fc730709d73b500ed3abbd1cf1e88d7ae5640c24b3b0e0ab6e938ed"), looks := true }, kinds := [], alts := [], laidByText := true, laidKinds := [.data, .data], laidTests := true, laidLooks := .later }
def RelexCommonsCardSaid : Prop := Claim7.holds Tryd.pinned (.plain (OpenSpec.ofChange relexCommonsSpec)) relexCommonsCard

/-- THE TIED CARD OF 'marginalialaw04.RelexLines'. -/
def relexLinesCard : Claim7 := { stood := { row := relexLinesRow, standIns := [], harness := (true, "0cc05ec18fc730709d73b500ed3abbd1cf1e88d7ae5640c24b3b0e0ab6e938ed"), looks := true }, kinds := [], alts := [], laidByText := true, laidKinds := [.data, .data], laidTests := true, laidLooks := .later }
def RelexLinesCardSaid : Prop := Claim7.holds Tryd.pinned (.plain (OpenSpec.ofChange relexLinesSpec)) relexLinesCard

/-- THE TIED CARD OF 'marginalialaw04.RelexSame'. -/
def relexSameCard : Claim7 := { stood := { row := relexSameRow, standIns := [], harness := (true, "0cc05ec18fc730709d73b500ed3abbd1cf1e88d7ae5640c24b3b0e0ab6e938ed"), looks := true }, kinds := [], alts := [], laidByText := true, laidKinds := [.data, .data], laidTests := true, laidLooks := .later }
def RelexSameCardSaid : Prop := Claim7.holds Tryd.pinned (.plain (OpenSpec.ofChange relexSameSpec)) relexSameCard

/-- THE TIED CARD OF 'marginalialaw04.RelexThen'. -/
def relexThenCard : Claim7 := { stood := { row := relexThenRow, standIns := [], harness := (true, "0cc05ec18fc730709d73b500ed3abbd1cf1e88d7ae5640c24b3b0e0ab6e938ed"), looks := true }, kinds := [], alts := [], laidByText := true, laidKinds := [.data, .data], laidTests := true, laidLooks := .later }
def RelexThenCardSaid : Prop := Claim7.holds Tryd.pinned (.plain (OpenSpec.ofChange relexThenSpec)) relexThenCard

/-- THE TIED CARD OF 'marginalialaw04.RelexBack'. -/
def relexBackCard : Claim7 := { stood := { row := relexBackRow, standIns := [], harness := (true, "0cc05ec18fc730709d73b500ed3abbd1cf1e88d7ae5640c24b3b0e0ab6e938ed"), looks := true }, kinds := [], alts := [], laidByText := true, laidKinds := [.data, .data], laidTests := true, laidLooks := .later }
def RelexBackCardSaid : Prop := Claim7.holds Tryd.pinned (.plain (OpenSpec.ofChange relexBackSpec)) relexBackCard

/-- THE TIED CARD OF 'marginalialaw04.RelexLess'. -/
def relexLessCard : Claim7 := { stood := { row := relexLessRow, standIns := [], harness := (true, "0cc05ec18fc730709d73b500ed3abbd1cf1e88d7ae5640c24b3b0e0ab6e938ed"), looks := true }, kinds := [], alts := [], laidByText := true, laidKinds := [.data, .data], laidTests := true, laidLooks := .later }
def RelexLessCardSaid : Prop := Claim7.holds Tryd.pinned (.plain (OpenSpec.ofChange relexLessSpec)) relexLessCard

/-- THE SECOND FORM's CARD OF 'marginalialaw03.TokenLexes'. -/
def tokenLexesUptoCard : Claim7 := { stood := { row := tokenLexesUptoRow, standIns := [], harness := (true, "0cc05ec18fc730709d73b500ed3abbd1cf1e88d7ae5640c24b3b0e0ab6e938ed"), looks := true }, kinds := [], alts := [], laidByText := true, laidKinds := [.data, .data, .data, .sentinel, .sentinel, .data, .data], laidTests := true, laidLooks := .later }
def TokenLexesUptoCardSaid : Prop := Claim7.holds Tryd.pinned (.plain (OpenSpec.upto tokenLexesSpec)) tokenLexesUptoCard

/-- THE SECOND FORM's CARD OF 'marginalialaw03.TokenTexts'. -/
def tokenTextsUptoCard : Claim7 := { stood := { row := tokenTextsUptoRow, standIns := [], harness := (true, "0cc05ec18fc730709d73b500ed3abbd1cf1e88d7ae5640c24b3b0e0ab6e938ed"), looks := true }, kinds := [], alts := [], laidByText := true, laidKinds := [.data, .data, .data, .sentinel, .sentinel, .data, .data], laidTests := true, laidLooks := .later }
def TokenTextsUptoCardSaid : Prop := Claim7.holds Tryd.pinned (.plain (OpenSpec.upto tokenTextsSpec)) tokenTextsUptoCard

/-- THE SECOND FORM's CARD OF 'marginalialaw03.TokenKinds'. -/
def tokenKindsUptoCard : Claim7 := { stood := { row := tokenKindsUptoRow, standIns := [], harness := (true, "0cc05ec18fc730709d73b500ed3abbd1cf1e88d7ae5640c24b3b0e0ab6e938ed"), looks := true }, kinds := [], alts := [], laidByText := true, laidKinds := [.data, .data, .data, .sentinel, .sentinel, .data, .data], laidTests := true, laidLooks := .later }
def TokenKindsUptoCardSaid : Prop := Claim7.holds Tryd.pinned (.plain (OpenSpec.upto tokenKindsSpec)) tokenKindsUptoCard

/-- THE SECOND FORM's CARD OF 'marginalialaw03.TokenQuotes'. -/
def tokenQuotesUptoCard : Claim7 := { stood := { row := tokenQuotesUptoRow, standIns := [], harness := (true, "0cc05ec18fc730709d73b500ed3abbd1cf1e88d7ae5640c24b3b0e0ab6e938ed"), looks := true }, kinds := [], alts := [], laidByText := true, laidKinds := [.data, .data, .data, .sentinel, .sentinel, .data, .data], laidTests := true, laidLooks := .later }
def TokenQuotesUptoCardSaid : Prop := Claim7.holds Tryd.pinned (.plain (OpenSpec.upto tokenQuotesSpec)) tokenQuotesUptoCard

/-- THE SECOND FORM's CARD OF 'marginalialaw03.TokenWhole'. -/
def tokenWholeUptoCard : Claim7 := { stood := { row := tokenWholeUptoRow, standIns := [], harness := (true, "0cc05ec18fc730709d73b500ed3abbd1cf1e88d7ae5640c24b3b0e0ab6e938ed"), looks := true }, kinds := [], alts := [], laidByText := true, laidKinds := [.data, .data, .data, .sentinel, .sentinel, .data, .data], laidTests := true, laidLooks := .later }
def TokenWholeUptoCardSaid : Prop := Claim7.holds Tryd.pinned (.plain (OpenSpec.upto tokenWholeSpec)) tokenWholeUptoCard

/-- THE SECOND FORM's CARD OF 'marginalialaw03.TokenLines'. -/
def tokenLinesUptoCard : Claim7 := { stood := { row := tokenLinesUptoRow, standIns := [], harness := (true, "0cc05ec18fc730709d73b500ed3abbd1cf1e88d7ae5640c24b3b0e0ab6e938ed"), looks := true }, kinds := [], alts := [], laidByText := true, laidKinds := [.data, .data, .data, .sentinel, .sentinel, .data, .data], laidTests := true, laidLooks := .later }
def TokenLinesUptoCardSaid : Prop := Claim7.holds Tryd.pinned (.plain (OpenSpec.upto tokenLinesSpec)) tokenLinesUptoCard

/-- THE SECOND FORM's CARD OF 'marginalialaw04.RelexTokens'. -/
def relexTokensUptoCard : Claim7 := { stood := { row := relexTokensUptoRow, standIns := [], harness := (true, "0cc05ec18fc730709d73b500ed3abbd1cf1e88d7ae5640c24b3b0e0ab6e938ed"), looks := true }, kinds := [], alts := [], laidByText := true, laidKinds := [.data, .data], laidTests := true, laidLooks := .later }
def RelexTokensUptoCardSaid : Prop := Claim7.holds Tryd.pinned (.plain (OpenSpec.upto relexTokensSpec)) relexTokensUptoCard

/-- THE SECOND FORM's CARD OF 'marginalialaw04.RelexCommons'. -/
def relexCommonsUptoCard : Claim7 := { stood := { row := relexCommonsUptoRow, standIns := [], harness := (true, "0cc05ec18fc730709d73b500ed3abbd1cf1e88d7ae5640c24b3b0e0ab6e938ed"), looks := true }, kinds := [], alts := [], laidByText := true, laidKinds := [.data, .data], laidTests := true, laidLooks := .later }
def RelexCommonsUptoCardSaid : Prop := Claim7.holds Tryd.pinned (.plain (OpenSpec.upto relexCommonsSpec)) relexCommonsUptoCard

/-- THE SECOND FORM's CARD OF 'marginalialaw04.RelexLines'. -/
def relexLinesUptoCard : Claim7 := { stood := { row := relexLinesUptoRow, standIns := [], harness := (true, "0cc05ec18fc730709d73b500ed3abbd1cf1e88d7ae5640c24b3b0e0ab6e938ed"), looks := true }, kinds := [], alts := [], laidByText := true, laidKinds := [.data, .data], laidTests := true, laidLooks := .later }
def RelexLinesUptoCardSaid : Prop := Claim7.holds Tryd.pinned (.plain (OpenSpec.upto relexLinesSpec)) relexLinesUptoCard

/-- THE SECOND FORM's CARD OF 'marginalialaw04.RelexSame'. -/
def relexSameUptoCard : Claim7 := { stood := { row := relexSameUptoRow, standIns := [], harness := (true, "0cc05ec18fc730709d73b500ed3abbd1cf1e88d7ae5640c24b3b0e0ab6e938ed"), looks := true }, kinds := [], alts := [], laidByText := true, laidKinds := [.data, .data], laidTests := true, laidLooks := .later }
def RelexSameUptoCardSaid : Prop := Claim7.holds Tryd.pinned (.plain (OpenSpec.upto relexSameSpec)) relexSameUptoCard

/-- THE SECOND FORM's CARD OF 'marginalialaw04.RelexThen'. -/
def relexThenUptoCard : Claim7 := { stood := { row := relexThenUptoRow, standIns := [], harness := (true, "0cc05ec18fc730709d73b500ed3abbd1cf1e88d7ae5640c24b3b0e0ab6e938ed"), looks := true }, kinds := [], alts := [], laidByText := true, laidKinds := [.data, .data], laidTests := true, laidLooks := .later }
def RelexThenUptoCardSaid : Prop := Claim7.holds Tryd.pinned (.plain (OpenSpec.upto relexThenSpec)) relexThenUptoCard

/-- THE SECOND FORM's CARD OF 'marginalialaw04.RelexBack'. -/
def relexBackUptoCard : Claim7 := { stood := { row := relexBackUptoRow, standIns := [], harness := (true, "0cc05ec18fc730709d73b500ed3abbd1cf1e88d7ae5640c24b3b0e0ab6e938ed"), looks := true }, kinds := [], alts := [], laidByText := true, laidKinds := [.data, .data], laidTests := true, laidLooks := .later }
def RelexBackUptoCardSaid : Prop := Claim7.holds Tryd.pinned (.plain (OpenSpec.upto relexBackSpec)) relexBackUptoCard

/-- THE SECOND FORM's CARD OF 'marginalialaw04.RelexLess'. -/
def relexLessUptoCard : Claim7 := { stood := { row := relexLessUptoRow, standIns := [], harness := (true, "0cc05ec18fc730709d73b500ed3abbd1cf1e88d7ae5640c24b3b0e0ab6e938ed"), looks := true }, kinds := [], alts := [], laidByText := true, laidKinds := [.data, .data], laidTests := true, laidLooks := .later }
def RelexLessUptoCardSaid : Prop := Claim7.holds Tryd.pinned (.plain (OpenSpec.upto relexLessSpec)) relexLessUptoCard
end Rows
end Go.Proofs.YtkaceghngjpemaaDoor
