/-
  NARROWER THAN 'FOR EVERY INPUT', by the rows' own cells (each row's printed sentence says how): TokenKinds: laid · RelexTokens: laid · RelexCommons: laid · RelexLines: laid · RelexSame: laid · RelexThen: laid · RelexBack: laid · RelexLess: laid.
  DERIVED. THE GIVEN ROWS OF THIS SEAT. 8 by the template 'for every input the law returns true; each argument reads behind the call as it read before'; 0 by the template 'total and deterministic' (their statements: YtkdnacniligjjaaDoorTotals.lean).
  GIVEN WITH THE SEED: the statements are not yours to turn. If you find one false, say at which input.
  Laid BY PROGRAM, IN A SANDBOX (cutbox-rows.mjs): the forced cells as the released guide's own fill.sh prints them over the translation 8ccc9ddfdbd7b9ea… (all of the seat's roots in one cut). By AI agents, Wed Nov 11 2026. No macro, syntax, notation, axiom, sorry.
-/
import Derived.Test.YtkdnacniligjjaaDoorChecked
import GoSem.Claim
import GoSem.ClaimJoined
import GoSem.ClaimMapViews
import Derived.JoinedTies
import Derived.KernelRfl
namespace Go.Proofs.YtkdnacniligjjaaDoor
/- THE CELL 'sum', in the pinned program and in every row, IS THE sha256 OF THE DUMP (.gsa) THAT YtkdnacniligjjaaDoorProg.lean LOADS. Nothing in Lean hashes anything: it is a label: what it is worth is what the hold of that sum in a sandbox is worth. -/
noncomputable def Tryd.pinned : Pinned := { name := "ytkdnacniligjjaadoor", sum := "8ccc9ddfdbd7b9eafaccdc14e2ae8088e517c3cc9114874224ffe58276deacd4", checked := Tryd.checked }
namespace Rows
def none {H : Type} : Left H := { results := [], args := [] }

/- WHAT THE LISTED PACKAGE-LEVEL VARIABLES READ AS WHEN THE CALL BEGINS. Each datum BY PROGRAM (the guide's laid-datum.mjs) off the statement by which the dump's own 'gosem.cut.vars' lays the variable. In a bare row this is a premise. The card (YtkdnacniligjjaaDoorCards.lean) ties it to the program's text. -/
def laid_math_bits_deBruijn32tab {H : Type} : DataW H := .agg [.lit (.int .u8 0), .lit (.int .u8 1), .lit (.int .u8 28), .lit (.int .u8 2), .lit (.int .u8 29), .lit (.int .u8 14), .lit (.int .u8 24), .lit (.int .u8 3), .lit (.int .u8 30), .lit (.int .u8 22), .lit (.int .u8 20), .lit (.int .u8 15), .lit (.int .u8 25), .lit (.int .u8 17), .lit (.int .u8 4), .lit (.int .u8 8), .lit (.int .u8 31), .lit (.int .u8 27), .lit (.int .u8 13), .lit (.int .u8 23), .lit (.int .u8 21), .lit (.int .u8 19), .lit (.int .u8 16), .lit (.int .u8 7), .lit (.int .u8 26), .lit (.int .u8 12), .lit (.int .u8 18), .lit (.int .u8 6), .lit (.int .u8 11), .lit (.int .u8 5), .lit (.int .u8 10), .lit (.int .u8 9)]
def laid_math_bits_deBruijn64tab {H : Type} : DataW H := .agg [.lit (.int .u8 0), .lit (.int .u8 1), .lit (.int .u8 56), .lit (.int .u8 2), .lit (.int .u8 57), .lit (.int .u8 49), .lit (.int .u8 28), .lit (.int .u8 3), .lit (.int .u8 61), .lit (.int .u8 58), .lit (.int .u8 42), .lit (.int .u8 50), .lit (.int .u8 38), .lit (.int .u8 29), .lit (.int .u8 17), .lit (.int .u8 4), .lit (.int .u8 62), .lit (.int .u8 47), .lit (.int .u8 59), .lit (.int .u8 36), .lit (.int .u8 45), .lit (.int .u8 43), .lit (.int .u8 51), .lit (.int .u8 22), .lit (.int .u8 53), .lit (.int .u8 39), .lit (.int .u8 33), .lit (.int .u8 30), .lit (.int .u8 24), .lit (.int .u8 18), .lit (.int .u8 12), .lit (.int .u8 5), .lit (.int .u8 63), .lit (.int .u8 55), .lit (.int .u8 48), .lit (.int .u8 27), .lit (.int .u8 60), .lit (.int .u8 41), .lit (.int .u8 37), .lit (.int .u8 16), .lit (.int .u8 46), .lit (.int .u8 35), .lit (.int .u8 44), .lit (.int .u8 21), .lit (.int .u8 52), .lit (.int .u8 32), .lit (.int .u8 23), .lit (.int .u8 11), .lit (.int .u8 54), .lit (.int .u8 26), .lit (.int .u8 40), .lit (.int .u8 15), .lit (.int .u8 34), .lit (.int .u8 20), .lit (.int .u8 31), .lit (.int .u8 10), .lit (.int .u8 25), .lit (.int .u8 14), .lit (.int .u8 19), .lit (.int .u8 9), .lit (.int .u8 13), .lit (.int .u8 8), .lit (.int .u8 7), .lit (.int .u8 6)]
def laid_internal_strconv_uint64pow10 {H : Type} : DataW H := .agg [.lit (.int .u64 1), .lit (.int .u64 10), .lit (.int .u64 100), .lit (.int .u64 1000), .lit (.int .u64 10000), .lit (.int .u64 100000), .lit (.int .u64 1000000), .lit (.int .u64 10000000), .lit (.int .u64 100000000), .lit (.int .u64 1000000000), .lit (.int .u64 10000000000), .lit (.int .u64 100000000000), .lit (.int .u64 1000000000000), .lit (.int .u64 10000000000000), .lit (.int .u64 100000000000000), .lit (.int .u64 1000000000000000), .lit (.int .u64 10000000000000000), .lit (.int .u64 100000000000000000), .lit (.int .u64 1000000000000000000), .lit (.int .u64 10000000000000000000)]
def laid_strconv_ErrRange {H : Type} : DataW H := .iface "*errors.errorString" (.ptr (.agg [.lit (.string [118, 97, 108, 117, 101, 32, 111, 117, 116, 32, 111, 102, 32, 114, 97, 110, 103, 101])]))
def laid_strconv_ErrSyntax {H : Type} : DataW H := .iface "*errors.errorString" (.ptr (.agg [.lit (.string [105, 110, 118, 97, 108, 105, 100, 32, 115, 121, 110, 116, 97, 120])]))
def laid_marginalia_token_words {H : Type} : DataW H := .agg [.lit (.string [100, 101, 102]), .lit (.string [101, 108, 115, 101]), .lit (.string [102, 97, 108, 115, 101]), .lit (.string [102, 110]), .lit (.string [105, 102]), .lit (.string [105, 109, 112, 111, 114, 116]), .lit (.string [105, 110]), .lit (.string [108, 101, 116]), .lit (.string [109, 97, 116, 99, 104]), .lit (.string [116, 104, 101, 110]), .lit (.string [116, 114, 117, 101]), .lit (.string [116, 121, 112, 101])]
def laid_marginalia_token_signs {H : Type} : DataW H := .agg [.lit (.string [33]), .lit (.string [38, 38]), .lit (.string [40]), .lit (.string [41]), .lit (.string [42]), .lit (.string [43]), .lit (.string [44]), .lit (.string [45]), .lit (.string [45, 62]), .lit (.string [46]), .lit (.string [58]), .lit (.string [59]), .lit (.string [60]), .lit (.string [61]), .lit (.string [61, 61]), .lit (.string [61, 62]), .lit (.string [91]), .lit (.string [93]), .lit (.string [123]), .lit (.string [124]), .lit (.string [124, 124]), .lit (.string [125])]

/-- 'marginalialaw03.TokenKinds': WHATEVER THE INPUT: true; the input reads as it did. -/
def tokenKindsSpec : ChangeSpec := { name := "tokenKinds", fn := fun _ => fun
  | [d1, d2, d3] => { results := [.lit (.bool true)], args := [d1, d2, d3] }
  | _ => none }
def tokenKindsRow : OpenClaim := { program := "ytkdnacniligjjaadoor", sum := "8ccc9ddfdbd7b9eafaccdc14e2ae8088e517c3cc9114874224ffe58276deacd4", func := "marginalia/marginalialaw03.TokenKinds", spec := "tokenKinds", inPlace := ["internal/abi.NoEscape"], unfollowed := true, recurses := true, named := ["marginalia/token.signs", "marginalia/token.words", "strconv.ErrSyntax", "strconv.ErrRange", "internal/strconv.uint64pow10", "math/bits.deBruijn32tab", "math/bits.deBruijn64tab"], apart := false, laid := [("math/bits.deBruijn32tab", laid_math_bits_deBruijn32tab), ("math/bits.deBruijn64tab", laid_math_bits_deBruijn64tab), ("internal/strconv.uint64pow10", laid_internal_strconv_uint64pow10), ("strconv.ErrRange", laid_strconv_ErrRange), ("strconv.ErrSyntax", laid_strconv_ErrSyntax), ("marginalia/token.words", laid_marginalia_token_words), ("marginalia/token.signs", laid_marginalia_token_signs)] }
def TokenKindsSaid : Prop := tokenKindsRow.holds Tryd.pinned (OpenSpec.ofChange tokenKindsSpec)

/-- ITS FALSE NEIGHBOUR: 'it returns false'. Refute it at one input. -/
def tokenKindsWrong : ChangeSpec := { name := "tokenKinds", fn := fun _ => fun
  | [d1, d2, d3] => { results := [.lit (.bool false)], args := [d1, d2, d3] }
  | _ => none }
def TokenKindsWrongFalsely : Prop := tokenKindsRow.holds Tryd.pinned (OpenSpec.ofChange tokenKindsWrong)

/-- 'marginalialaw04.RelexTokens': WHATEVER THE INPUT: true; the input reads as it did. -/
def relexTokensSpec : ChangeSpec := { name := "relexTokens", fn := fun _ => fun
  | [d1, d2] => { results := [.lit (.bool true)], args := [d1, d2] }
  | _ => none }
def relexTokensRow : OpenClaim := { program := "ytkdnacniligjjaadoor", sum := "8ccc9ddfdbd7b9eafaccdc14e2ae8088e517c3cc9114874224ffe58276deacd4", func := "marginalia/marginalialaw04.RelexTokens", spec := "relexTokens", inPlace := ["internal/abi.NoEscape", "internal/bytealg.IndexByteString"], unfollowed := true, recurses := true, named := ["marginalia/token.signs", "marginalia/token.words"], apart := false, laid := [("marginalia/token.words", laid_marginalia_token_words), ("marginalia/token.signs", laid_marginalia_token_signs)] }
def RelexTokensSaid : Prop := relexTokensRow.holds Tryd.pinned (OpenSpec.ofChange relexTokensSpec)

/-- ITS FALSE NEIGHBOUR: 'it returns false'. Refute it at one input. -/
def relexTokensWrong : ChangeSpec := { name := "relexTokens", fn := fun _ => fun
  | [d1, d2] => { results := [.lit (.bool false)], args := [d1, d2] }
  | _ => none }
def RelexTokensWrongFalsely : Prop := relexTokensRow.holds Tryd.pinned (OpenSpec.ofChange relexTokensWrong)

/-- 'marginalialaw04.RelexCommons': WHATEVER THE INPUT: true; the input reads as it did. -/
def relexCommonsSpec : ChangeSpec := { name := "relexCommons", fn := fun _ => fun
  | [d1, d2] => { results := [.lit (.bool true)], args := [d1, d2] }
  | _ => none }
def relexCommonsRow : OpenClaim := { program := "ytkdnacniligjjaadoor", sum := "8ccc9ddfdbd7b9eafaccdc14e2ae8088e517c3cc9114874224ffe58276deacd4", func := "marginalia/marginalialaw04.RelexCommons", spec := "relexCommons", inPlace := ["internal/abi.NoEscape", "internal/bytealg.IndexByteString"], unfollowed := true, recurses := true, named := ["marginalia/token.signs", "marginalia/token.words"], apart := false, laid := [("marginalia/token.words", laid_marginalia_token_words), ("marginalia/token.signs", laid_marginalia_token_signs)] }
def RelexCommonsSaid : Prop := relexCommonsRow.holds Tryd.pinned (OpenSpec.ofChange relexCommonsSpec)

/-- ITS FALSE NEIGHBOUR: 'it returns false'. Refute it at one input. -/
def relexCommonsWrong : ChangeSpec := { name := "relexCommons", fn := fun _ => fun
  | [d1, d2] => { results := [.lit (.bool false)], args := [d1, d2] }
  | _ => none }
def RelexCommonsWrongFalsely : Prop := relexCommonsRow.holds Tryd.pinned (OpenSpec.ofChange relexCommonsWrong)

/-- 'marginalialaw04.RelexLines': WHATEVER THE INPUT: true; the input reads as it did. -/
def relexLinesSpec : ChangeSpec := { name := "relexLines", fn := fun _ => fun
  | [d1, d2] => { results := [.lit (.bool true)], args := [d1, d2] }
  | _ => none }
def relexLinesRow : OpenClaim := { program := "ytkdnacniligjjaadoor", sum := "8ccc9ddfdbd7b9eafaccdc14e2ae8088e517c3cc9114874224ffe58276deacd4", func := "marginalia/marginalialaw04.RelexLines", spec := "relexLines", inPlace := ["internal/abi.NoEscape", "internal/bytealg.IndexByteString"], unfollowed := true, recurses := true, named := ["marginalia/token.signs", "marginalia/token.words"], apart := false, laid := [("marginalia/token.words", laid_marginalia_token_words), ("marginalia/token.signs", laid_marginalia_token_signs)] }
def RelexLinesSaid : Prop := relexLinesRow.holds Tryd.pinned (OpenSpec.ofChange relexLinesSpec)

/-- ITS FALSE NEIGHBOUR: 'it returns false'. Refute it at one input. -/
def relexLinesWrong : ChangeSpec := { name := "relexLines", fn := fun _ => fun
  | [d1, d2] => { results := [.lit (.bool false)], args := [d1, d2] }
  | _ => none }
def RelexLinesWrongFalsely : Prop := relexLinesRow.holds Tryd.pinned (OpenSpec.ofChange relexLinesWrong)

/-- 'marginalialaw04.RelexSame': WHATEVER THE INPUT: true; the input reads as it did. -/
def relexSameSpec : ChangeSpec := { name := "relexSame", fn := fun _ => fun
  | [d1, d2] => { results := [.lit (.bool true)], args := [d1, d2] }
  | _ => none }
def relexSameRow : OpenClaim := { program := "ytkdnacniligjjaadoor", sum := "8ccc9ddfdbd7b9eafaccdc14e2ae8088e517c3cc9114874224ffe58276deacd4", func := "marginalia/marginalialaw04.RelexSame", spec := "relexSame", inPlace := ["internal/abi.NoEscape", "internal/bytealg.IndexByteString"], unfollowed := true, recurses := true, named := ["marginalia/token.signs", "marginalia/token.words"], apart := false, laid := [("marginalia/token.words", laid_marginalia_token_words), ("marginalia/token.signs", laid_marginalia_token_signs)] }
def RelexSameSaid : Prop := relexSameRow.holds Tryd.pinned (OpenSpec.ofChange relexSameSpec)

/-- ITS FALSE NEIGHBOUR: 'it returns false'. Refute it at one input. -/
def relexSameWrong : ChangeSpec := { name := "relexSame", fn := fun _ => fun
  | [d1, d2] => { results := [.lit (.bool false)], args := [d1, d2] }
  | _ => none }
def RelexSameWrongFalsely : Prop := relexSameRow.holds Tryd.pinned (OpenSpec.ofChange relexSameWrong)

/-- 'marginalialaw04.RelexThen': WHATEVER THE INPUT: true; the input reads as it did. -/
def relexThenSpec : ChangeSpec := { name := "relexThen", fn := fun _ => fun
  | [d1, d2, d3] => { results := [.lit (.bool true)], args := [d1, d2, d3] }
  | _ => none }
def relexThenRow : OpenClaim := { program := "ytkdnacniligjjaadoor", sum := "8ccc9ddfdbd7b9eafaccdc14e2ae8088e517c3cc9114874224ffe58276deacd4", func := "marginalia/marginalialaw04.RelexThen", spec := "relexThen", inPlace := ["internal/abi.NoEscape", "internal/bytealg.IndexByteString"], unfollowed := true, recurses := true, named := ["marginalia/token.signs", "marginalia/token.words"], apart := false, laid := [("marginalia/token.words", laid_marginalia_token_words), ("marginalia/token.signs", laid_marginalia_token_signs)] }
def RelexThenSaid : Prop := relexThenRow.holds Tryd.pinned (OpenSpec.ofChange relexThenSpec)

/-- ITS FALSE NEIGHBOUR: 'it returns false'. Refute it at one input. -/
def relexThenWrong : ChangeSpec := { name := "relexThen", fn := fun _ => fun
  | [d1, d2, d3] => { results := [.lit (.bool false)], args := [d1, d2, d3] }
  | _ => none }
def RelexThenWrongFalsely : Prop := relexThenRow.holds Tryd.pinned (OpenSpec.ofChange relexThenWrong)

/-- 'marginalialaw04.RelexBack': WHATEVER THE INPUT: true; the input reads as it did. -/
def relexBackSpec : ChangeSpec := { name := "relexBack", fn := fun _ => fun
  | [d1, d2] => { results := [.lit (.bool true)], args := [d1, d2] }
  | _ => none }
def relexBackRow : OpenClaim := { program := "ytkdnacniligjjaadoor", sum := "8ccc9ddfdbd7b9eafaccdc14e2ae8088e517c3cc9114874224ffe58276deacd4", func := "marginalia/marginalialaw04.RelexBack", spec := "relexBack", inPlace := ["internal/abi.NoEscape", "internal/bytealg.IndexByteString"], unfollowed := true, recurses := true, named := ["marginalia/token.signs", "marginalia/token.words"], apart := false, laid := [("marginalia/token.words", laid_marginalia_token_words), ("marginalia/token.signs", laid_marginalia_token_signs)] }
def RelexBackSaid : Prop := relexBackRow.holds Tryd.pinned (OpenSpec.ofChange relexBackSpec)

/-- ITS FALSE NEIGHBOUR: 'it returns false'. Refute it at one input. -/
def relexBackWrong : ChangeSpec := { name := "relexBack", fn := fun _ => fun
  | [d1, d2] => { results := [.lit (.bool false)], args := [d1, d2] }
  | _ => none }
def RelexBackWrongFalsely : Prop := relexBackRow.holds Tryd.pinned (OpenSpec.ofChange relexBackWrong)

/-- 'marginalialaw04.RelexLess': WHATEVER THE INPUT: true; the input reads as it did. -/
def relexLessSpec : ChangeSpec := { name := "relexLess", fn := fun _ => fun
  | [d1, d2, d3, d4] => { results := [.lit (.bool true)], args := [d1, d2, d3, d4] }
  | _ => none }
def relexLessRow : OpenClaim := { program := "ytkdnacniligjjaadoor", sum := "8ccc9ddfdbd7b9eafaccdc14e2ae8088e517c3cc9114874224ffe58276deacd4", func := "marginalia/marginalialaw04.RelexLess", spec := "relexLess", inPlace := ["internal/abi.NoEscape", "internal/bytealg.IndexByteString"], unfollowed := true, recurses := true, named := ["marginalia/token.signs", "marginalia/token.words"], apart := false, laid := [("marginalia/token.words", laid_marginalia_token_words), ("marginalia/token.signs", laid_marginalia_token_signs)] }
def RelexLessSaid : Prop := relexLessRow.holds Tryd.pinned (OpenSpec.ofChange relexLessSpec)

/-- ITS FALSE NEIGHBOUR: 'it returns false'. Refute it at one input. -/
def relexLessWrong : ChangeSpec := { name := "relexLess", fn := fun _ => fun
  | [d1, d2, d3, d4] => { results := [.lit (.bool false)], args := [d1, d2, d3, d4] }
  | _ => none }
def RelexLessWrongFalsely : Prop := relexLessRow.holds Tryd.pinned (OpenSpec.ofChange relexLessWrong)

/- THE SECOND FORM. 'bulk': how many values and letters a reading holds, each counted each time it is reached (what is shared counts as often as it is met; a slice's spare places count too). A statement '..UptoSaid' is the law's where the arguments, and the package variables that the reading takes, are together of bulk at most 1048576: NARROWER than '..Said'. Prove '..Said' where nothing that the law and all that it calls make is longer than what came in: it says more and counts as full. Else prove '..UptoSaid'. A law counts once. -/
mutual
def uptoBulk {H : Type} : DataW H → Nat
  | .lit (.string bytes) => bytes.length + 1
  | .lit _ => 1
  | .nil => 1
  | .ptr d => uptoBulk d + 1
  | .slice elems spare => uptoBulkAll elems + uptoBulkAll spare + 1
  | .agg parts => uptoBulkAll parts + 1
  | .iface _ d => uptoBulk d + 1
  | .map entries => uptoBulkEntries entries + 1
  | .held _ => 1
def uptoBulkAll {H : Type} : List (DataW H) → Nat
  | [] => 0
  | d :: r => uptoBulk d + uptoBulkAll r
def uptoBulkEntries {H : Type} : List (Lit × DataW H) → Nat
  | [] => 0
  | x :: r => uptoBulkEntry x + uptoBulkEntries r
def uptoBulkEntry {H : Type} : Lit × DataW H → Nat
  | (.string bytes, d) => bytes.length + uptoBulk d + 1
  | (_, d) => uptoBulk d + 1
 end
def uptoSmall : (H : Type) → List (DataW H) → Bool := fun _ ds => decide (uptoBulkAll ds ≤ 1048576)
def OpenSpec.upto (s : _root_.Go.ChangeSpec) : _root_.Go.OpenSpec := { _root_.Go.OpenSpec.ofChange s with cond := some uptoSmall }

/-- 'marginalialaw03.TokenKinds', WHERE WHAT IT READS IS OF BULK AT MOST 1048576: true; the input reads as it did. -/
def tokenKindsUptoRow : OpenClaim := { program := "ytkdnacniligjjaadoor", sum := "8ccc9ddfdbd7b9eafaccdc14e2ae8088e517c3cc9114874224ffe58276deacd4", func := "marginalia/marginalialaw03.TokenKinds", spec := "tokenKinds", inPlace := ["internal/abi.NoEscape"], unfollowed := true, recurses := true, named := ["marginalia/token.signs", "marginalia/token.words", "strconv.ErrSyntax", "strconv.ErrRange", "internal/strconv.uint64pow10", "math/bits.deBruijn32tab", "math/bits.deBruijn64tab"], apart := false, laid := [("math/bits.deBruijn32tab", laid_math_bits_deBruijn32tab), ("math/bits.deBruijn64tab", laid_math_bits_deBruijn64tab), ("internal/strconv.uint64pow10", laid_internal_strconv_uint64pow10), ("strconv.ErrRange", laid_strconv_ErrRange), ("strconv.ErrSyntax", laid_strconv_ErrSyntax), ("marginalia/token.words", laid_marginalia_token_words), ("marginalia/token.signs", laid_marginalia_token_signs)], narrowed := true }
def TokenKindsUptoSaid : Prop := tokenKindsUptoRow.holds Tryd.pinned (OpenSpec.upto tokenKindsSpec)

/-- 'marginalialaw04.RelexTokens', WHERE WHAT IT READS IS OF BULK AT MOST 1048576: true; the input reads as it did. -/
def relexTokensUptoRow : OpenClaim := { program := "ytkdnacniligjjaadoor", sum := "8ccc9ddfdbd7b9eafaccdc14e2ae8088e517c3cc9114874224ffe58276deacd4", func := "marginalia/marginalialaw04.RelexTokens", spec := "relexTokens", inPlace := ["internal/abi.NoEscape", "internal/bytealg.IndexByteString"], unfollowed := true, recurses := true, named := ["marginalia/token.signs", "marginalia/token.words"], apart := false, laid := [("marginalia/token.words", laid_marginalia_token_words), ("marginalia/token.signs", laid_marginalia_token_signs)], narrowed := true }
def RelexTokensUptoSaid : Prop := relexTokensUptoRow.holds Tryd.pinned (OpenSpec.upto relexTokensSpec)

/-- 'marginalialaw04.RelexCommons', WHERE WHAT IT READS IS OF BULK AT MOST 1048576: true; the input reads as it did. -/
def relexCommonsUptoRow : OpenClaim := { program := "ytkdnacniligjjaadoor", sum := "8ccc9ddfdbd7b9eafaccdc14e2ae8088e517c3cc9114874224ffe58276deacd4", func := "marginalia/marginalialaw04.RelexCommons", spec := "relexCommons", inPlace := ["internal/abi.NoEscape", "internal/bytealg.IndexByteString"], unfollowed := true, recurses := true, named := ["marginalia/token.signs", "marginalia/token.words"], apart := false, laid := [("marginalia/token.words", laid_marginalia_token_words), ("marginalia/token.signs", laid_marginalia_token_signs)], narrowed := true }
def RelexCommonsUptoSaid : Prop := relexCommonsUptoRow.holds Tryd.pinned (OpenSpec.upto relexCommonsSpec)

/-- 'marginalialaw04.RelexLines', WHERE WHAT IT READS IS OF BULK AT MOST 1048576: true; the input reads as it did. -/
def relexLinesUptoRow : OpenClaim := { program := "ytkdnacniligjjaadoor", sum := "8ccc9ddfdbd7b9eafaccdc14e2ae8088e517c3cc9114874224ffe58276deacd4", func := "marginalia/marginalialaw04.RelexLines", spec := "relexLines", inPlace := ["internal/abi.NoEscape", "internal/bytealg.IndexByteString"], unfollowed := true, recurses := true, named := ["marginalia/token.signs", "marginalia/token.words"], apart := false, laid := [("marginalia/token.words", laid_marginalia_token_words), ("marginalia/token.signs", laid_marginalia_token_signs)], narrowed := true }
def RelexLinesUptoSaid : Prop := relexLinesUptoRow.holds Tryd.pinned (OpenSpec.upto relexLinesSpec)

/-- 'marginalialaw04.RelexSame', WHERE WHAT IT READS IS OF BULK AT MOST 1048576: true; the input reads as it did. -/
def relexSameUptoRow : OpenClaim := { program := "ytkdnacniligjjaadoor", sum := "8ccc9ddfdbd7b9eafaccdc14e2ae8088e517c3cc9114874224ffe58276deacd4", func := "marginalia/marginalialaw04.RelexSame", spec := "relexSame", inPlace := ["internal/abi.NoEscape", "internal/bytealg.IndexByteString"], unfollowed := true, recurses := true, named := ["marginalia/token.signs", "marginalia/token.words"], apart := false, laid := [("marginalia/token.words", laid_marginalia_token_words), ("marginalia/token.signs", laid_marginalia_token_signs)], narrowed := true }
def RelexSameUptoSaid : Prop := relexSameUptoRow.holds Tryd.pinned (OpenSpec.upto relexSameSpec)

/-- 'marginalialaw04.RelexThen', WHERE WHAT IT READS IS OF BULK AT MOST 1048576: true; the input reads as it did. -/
def relexThenUptoRow : OpenClaim := { program := "ytkdnacniligjjaadoor", sum := "8ccc9ddfdbd7b9eafaccdc14e2ae8088e517c3cc9114874224ffe58276deacd4", func := "marginalia/marginalialaw04.RelexThen", spec := "relexThen", inPlace := ["internal/abi.NoEscape", "internal/bytealg.IndexByteString"], unfollowed := true, recurses := true, named := ["marginalia/token.signs", "marginalia/token.words"], apart := false, laid := [("marginalia/token.words", laid_marginalia_token_words), ("marginalia/token.signs", laid_marginalia_token_signs)], narrowed := true }
def RelexThenUptoSaid : Prop := relexThenUptoRow.holds Tryd.pinned (OpenSpec.upto relexThenSpec)

/-- 'marginalialaw04.RelexBack', WHERE WHAT IT READS IS OF BULK AT MOST 1048576: true; the input reads as it did. -/
def relexBackUptoRow : OpenClaim := { program := "ytkdnacniligjjaadoor", sum := "8ccc9ddfdbd7b9eafaccdc14e2ae8088e517c3cc9114874224ffe58276deacd4", func := "marginalia/marginalialaw04.RelexBack", spec := "relexBack", inPlace := ["internal/abi.NoEscape", "internal/bytealg.IndexByteString"], unfollowed := true, recurses := true, named := ["marginalia/token.signs", "marginalia/token.words"], apart := false, laid := [("marginalia/token.words", laid_marginalia_token_words), ("marginalia/token.signs", laid_marginalia_token_signs)], narrowed := true }
def RelexBackUptoSaid : Prop := relexBackUptoRow.holds Tryd.pinned (OpenSpec.upto relexBackSpec)

/-- 'marginalialaw04.RelexLess', WHERE WHAT IT READS IS OF BULK AT MOST 1048576: true; the input reads as it did. -/
def relexLessUptoRow : OpenClaim := { program := "ytkdnacniligjjaadoor", sum := "8ccc9ddfdbd7b9eafaccdc14e2ae8088e517c3cc9114874224ffe58276deacd4", func := "marginalia/marginalialaw04.RelexLess", spec := "relexLess", inPlace := ["internal/abi.NoEscape", "internal/bytealg.IndexByteString"], unfollowed := true, recurses := true, named := ["marginalia/token.signs", "marginalia/token.words"], apart := false, laid := [("marginalia/token.words", laid_marginalia_token_words), ("marginalia/token.signs", laid_marginalia_token_signs)], narrowed := true }
def RelexLessUptoSaid : Prop := relexLessUptoRow.holds Tryd.pinned (OpenSpec.upto relexLessSpec)

end Rows
end Go.Proofs.YtkdnacniligjjaaDoor
