/-
  DERIVED. GIVEN WITH THE SEED: THE CARDS: each row of YtkdnacniligjjaaDoorRows.lean that lists a variable, with what it lists TIED to the program's text (the seventh form; the later family's looks); each row that meets fmt, with fmt's text TOLD by the authors' own Lean function (tested against real Go, not proved from fmt's source: count such statements apart). THE CARD IS WHAT COUNTS. Prove the row's statement (the work); the ties are given (YtkdnacniligjjaaDoorTie.lean); close each card by the builder's one call (the guide's Derived/Test/ToyasCard.lean, 'card_holds'). Laid BY PROGRAM, IN A SANDBOX (cutbox-door.mjs). By AI agents, Wed Nov 11 2026. No macro, syntax, notation, axiom, sorry.
-/
import Derived.Test.YtkdnacniligjjaaDoorRows
import GoSem.ClaimSeven
namespace Go.Proofs.YtkdnacniligjjaaDoor
namespace Rows

/-- THE TIED CARD OF 'marginalialaw03.TokenKinds'. -/
def tokenKindsCard : Claim7 := { stood := { row := tokenKindsRow, standIns := [], harness := (true, "35663887ac1ae2d97e577d84839c0124ba209eea2e8759822e79d9510115cbeb"), looks := true }, kinds := [], alts := [], laidByText := true, laidKinds := [.data, .data, .data, .sentinel, .sentinel, .data, .data], laidTests := true, laidLooks := .later }
def TokenKindsCardSaid : Prop := Claim7.holds Tryd.pinned (.plain (OpenSpec.ofChange tokenKindsSpec)) tokenKindsCard

/-- THE TIED CARD OF 'marginalialaw04.RelexTokens'. -/
def relexTokensCard : Claim7 := { stood := { row := relexTokensRow, standIns := [], harness := (true, "35663887ac1ae2d97e577d84839c0124ba209eea2e8759822e79d9510115cbeb"), looks := true }, kinds := [], alts := [], laidByText := true, laidKinds := [.data, .data], laidTests := true, laidLooks := .later }
def RelexTokensCardSaid : Prop := Claim7.holds Tryd.pinned (.plain (OpenSpec.ofChange relexTokensSpec)) relexTokensCard

/-- THE TIED CARD OF 'marginalialaw04.RelexCommons'. -/
def relexCommonsCard : Claim7 := { stood := { row := relexCommonsRow, standIns := [], harness := (true, "35663887ac1ae2d97e577d84839c0124ba209eea2e8759822e79d9510115cbeb"), looks := true }, kinds := [], alts := [], laidByText := true, laidKinds := [.data, .data], laidTests := true, laidLooks := .later }
def RelexCommonsCardSaid : Prop := Claim7.holds Tryd.pinned (.plain (OpenSpec.ofChange relexCommonsSpec)) relexCommonsCard

/-- THE TIED CARD OF 'marginalialaw04.RelexLines'. -/
def relexLinesCard : Claim7 := { stood := { row := relexLinesRow, standIns := [], harness := (true, "35663887ac1ae2d97e577d84839c0124ba209eea2e8759822e79d9510115cbeb"), looks := true }, kinds := [], alts := [], laidByText := true, laidKinds := [.data, .data], laidTests := true, laidLooks := .later }
def RelexLinesCardSaid : Prop := Claim7.holds Tryd.pinned (.plain (OpenSpec.ofChange relexLinesSpec)) relexLinesCard

/-- THE TIED CARD OF 'marginalialaw04.RelexSame'. -/
def relexSameCard : Claim7 := { stood := { row := relexSameRow, standIns := [], harness := (true, "35663887ac1ae2d97e577d84839c0124ba209eea2e8759822e79d9510115cbeb"), looks := true }, kinds := [], alts := [], laidByText := true, laidKinds := [.data, .data], laidTests := true, laidLooks := .later }
def RelexSameCardSaid : Prop := Claim7.holds Tryd.pinned (.plain (OpenSpec.ofChange relexSameSpec)) relexSameCard

/-- THE TIED CARD OF 'marginalialaw04.RelexThen'. -/
def relexThenCard : Claim7 := { stood := { row := relexThenRow, standIns := [], harness := (true, "35663887ac1ae2d97e577d84839c0124ba209eea2e8759822e79d9510115cbeb"), looks := true }, kinds := [], alts := [], laidByText := true, laidKinds := [.data, .data], laidTests := true, laidLooks := .later }
def RelexThenCardSaid : Prop := Claim7.holds Tryd.pinned (.plain (OpenSpec.ofChange relexThenSpec)) relexThenCard

/-- THE TIED CARD OF 'marginalialaw04.RelexBack'. -/
def relexBackCard : Claim7 := { stood := { row := relexBackRow, standIns := [], harness := (true, "35663887ac1ae2d97e577d84839c0124ba209eea2e8759822e79d9510115cbeb"), looks := true }, kinds := [], alts := [], laidByText := true, laidKinds := [.data, .data], laidTests := true, laidLooks := .later }
def RelexBackCardSaid : Prop := Claim7.holds Tryd.pinned (.plain (OpenSpec.ofChange relexBackSpec)) relexBackCard

/-- THE TIED CARD OF 'marginalialaw04.RelexLess'. -/
def relexLessCard : Claim7 := { stood := { row := relexLessRow, standIns := [], harness := (true, "35663887ac1ae2d97e577d84839c0124ba209eea2e8759822e79d9510115cbeb"), looks := true }, kinds := [], alts := [], laidByText := true, laidKinds := [.data, .data], laidTests := true, laidLooks := .later }
def RelexLessCardSaid : Prop := Claim7.holds Tryd.pinned (.plain (OpenSpec.ofChange relexLessSpec)) relexLessCard

/-- THE SECOND FORM's CARD OF 'marginalialaw03.TokenKinds'. -/
def tokenKindsUptoCard : Claim7 := { stood := { row := tokenKindsUptoRow, standIns := [], harness := (true, "35663887ac1ae2d97e577d84839c0124ba209eea2e8759822e79d9510115cbeb"), looks := true }, kinds := [], alts := [], laidByText := true, laidKinds := [.data, .data, .data, .sentinel, .sentinel, .data, .data], laidTests := true, laidLooks := .later }
def TokenKindsUptoCardSaid : Prop := Claim7.holds Tryd.pinned (.plain (OpenSpec.upto tokenKindsSpec)) tokenKindsUptoCard

/-- THE SECOND FORM's CARD OF 'marginalialaw04.RelexTokens'. -/
def relexTokensUptoCard : Claim7 := { stood := { row := relexTokensUptoRow, standIns := [], harness := (true, "35663887ac1ae2d97e577d84839c0124ba209eea2e8759822e79d9510115cbeb"), looks := true }, kinds := [], alts := [], laidByText := true, laidKinds := [.data, .data], laidTests := true, laidLooks := .later }
def RelexTokensUptoCardSaid : Prop := Claim7.holds Tryd.pinned (.plain (OpenSpec.upto relexTokensSpec)) relexTokensUptoCard

/-- THE SECOND FORM's CARD OF 'marginalialaw04.RelexCommons'. -/
def relexCommonsUptoCard : Claim7 := { stood := { row := relexCommonsUptoRow, standIns := [], harness := (true, "35663887ac1ae2d97e577d84839c0124ba209eea2e8759822e79d9510115cbeb"), looks := true }, kinds := [], alts := [], laidByText := true, laidKinds := [.data, .data], laidTests := true, laidLooks := .later }
def RelexCommonsUptoCardSaid : Prop := Claim7.holds Tryd.pinned (.plain (OpenSpec.upto relexCommonsSpec)) relexCommonsUptoCard

/-- THE SECOND FORM's CARD OF 'marginalialaw04.RelexLines'. -/
def relexLinesUptoCard : Claim7 := { stood := { row := relexLinesUptoRow, standIns := [], harness := (true, "35663887ac1ae2d97e577d84839c0124ba209eea2e8759822e79d9510115cbeb"), looks := true }, kinds := [], alts := [], laidByText := true, laidKinds := [.data, .data], laidTests := true, laidLooks := .later }
def RelexLinesUptoCardSaid : Prop := Claim7.holds Tryd.pinned (.plain (OpenSpec.upto relexLinesSpec)) relexLinesUptoCard

/-- THE SECOND FORM's CARD OF 'marginalialaw04.RelexSame'. -/
def relexSameUptoCard : Claim7 := { stood := { row := relexSameUptoRow, standIns := [], harness := (true, "35663887ac1ae2d97e577d84839c0124ba209eea2e8759822e79d9510115cbeb"), looks := true }, kinds := [], alts := [], laidByText := true, laidKinds := [.data, .data], laidTests := true, laidLooks := .later }
def RelexSameUptoCardSaid : Prop := Claim7.holds Tryd.pinned (.plain (OpenSpec.upto relexSameSpec)) relexSameUptoCard

/-- THE SECOND FORM's CARD OF 'marginalialaw04.RelexThen'. -/
def relexThenUptoCard : Claim7 := { stood := { row := relexThenUptoRow, standIns := [], harness := (true, "35663887ac1ae2d97e577d84839c0124ba209eea2e8759822e79d9510115cbeb"), looks := true }, kinds := [], alts := [], laidByText := true, laidKinds := [.data, .data], laidTests := true, laidLooks := .later }
def RelexThenUptoCardSaid : Prop := Claim7.holds Tryd.pinned (.plain (OpenSpec.upto relexThenSpec)) relexThenUptoCard

/-- THE SECOND FORM's CARD OF 'marginalialaw04.RelexBack'. -/
def relexBackUptoCard : Claim7 := { stood := { row := relexBackUptoRow, standIns := [], harness := (true, "35663887ac1ae2d97e577d84839c0124ba209eea2e8759822e79d9510115cbeb"), looks := true }, kinds := [], alts := [], laidByText := true, laidKinds := [.data, .data], laidTests := true, laidLooks := .later }
def RelexBackUptoCardSaid : Prop := Claim7.holds Tryd.pinned (.plain (OpenSpec.upto relexBackSpec)) relexBackUptoCard

/-- THE SECOND FORM's CARD OF 'marginalialaw04.RelexLess'. -/
def relexLessUptoCard : Claim7 := { stood := { row := relexLessUptoRow, standIns := [], harness := (true, "35663887ac1ae2d97e577d84839c0124ba209eea2e8759822e79d9510115cbeb"), looks := true }, kinds := [], alts := [], laidByText := true, laidKinds := [.data, .data], laidTests := true, laidLooks := .later }
def RelexLessUptoCardSaid : Prop := Claim7.holds Tryd.pinned (.plain (OpenSpec.upto relexLessSpec)) relexLessUptoCard
end Rows
end Go.Proofs.YtkdnacniligjjaaDoor
