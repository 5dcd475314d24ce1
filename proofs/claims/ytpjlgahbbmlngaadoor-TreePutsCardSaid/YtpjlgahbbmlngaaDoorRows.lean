/-
  NARROWER THAN 'FOR EVERY INPUT', by the rows' own cells (each row's printed sentence says how): TreeForms: loops, laid · TreeDeep: laid · TreeSame: loops, laid · TreeAts: loops, laid · TreeFinds: loops, laid · TreePuts: loops, laid · TreeShares: loops, laid · TreeLeaves: loops, laid · TreeFound: loops, laid · TreePut: loops, laid · TreeSharing: loops, laid · TreeOwn: loops, laid.
  DERIVED. THE GIVEN ROWS OF THIS SEAT. 12 by the template 'for every input the law returns true; each argument reads behind the call as it read before'; 0 by the template 'total and deterministic' (their statements: YtpjlgahbbmlngaaDoorTotals.lean).
  GIVEN WITH THE SEED: the statements are not yours to turn. If you find one false, say at which input.
  Laid BY PROGRAM, IN A SANDBOX (cutbox-rows.mjs): the forced cells as the released guide's own fill.sh prints them over the translation b85e5f540c6c39df… (all of the seat's roots in one cut). By AI agents, Wed Nov 11 2026. No macro, syntax, notation, axiom, sorry.
-/
import Derived.Test.YtpjlgahbbmlngaaDoorChecked
import GoSem.Claim
import GoSem.ClaimJoined
import GoSem.ClaimMapViews
import Derived.JoinedTies
import Derived.KernelRfl
namespace Go.Proofs.YtpjlgahbbmlngaaDoor
/- THE CELL 'sum', in the pinned program and in every row, IS THE sha256 OF THE DUMP (.gsa) THAT YtpjlgahbbmlngaaDoorProg.lean LOADS. Nothing in Lean hashes anything: it is a label: what it is worth is what the hold of that sum in a sandbox is worth. -/
noncomputable def Tryd.pinned : Pinned := { name := "ytpjlgahbbmlngaadoor", sum := "b85e5f540c6c39df07d6ac4b3392a6480173a18f616ccc15f72b3d21a4c57e79", checked := Tryd.checked }
namespace Rows
def none {H : Type} : Left H := { results := [], args := [] }

/- WHAT THE LISTED PACKAGE-LEVEL VARIABLES READ AS WHEN THE CALL BEGINS. Each datum BY PROGRAM (the guide's laid-datum.mjs) off the statement by which the dump's own 'gosem.cut.vars' lays the variable. In a bare row this is a premise. The card (YtpjlgahbbmlngaaDoorCards.lean) ties it to the program's text. -/
def laid_marginalia_token_words {H : Type} : DataW H := .agg [.lit (.string [100, 101, 102]), .lit (.string [101, 108, 115, 101]), .lit (.string [102, 97, 108, 115, 101]), .lit (.string [102, 110]), .lit (.string [105, 102]), .lit (.string [105, 109, 112, 111, 114, 116]), .lit (.string [105, 110]), .lit (.string [108, 101, 116]), .lit (.string [109, 97, 116, 99, 104]), .lit (.string [116, 104, 101, 110]), .lit (.string [116, 114, 117, 101]), .lit (.string [116, 121, 112, 101])]
def laid_marginalia_token_signs {H : Type} : DataW H := .agg [.lit (.string [33]), .lit (.string [38, 38]), .lit (.string [40]), .lit (.string [41]), .lit (.string [42]), .lit (.string [43]), .lit (.string [44]), .lit (.string [45]), .lit (.string [45, 62]), .lit (.string [46]), .lit (.string [58]), .lit (.string [59]), .lit (.string [60]), .lit (.string [61]), .lit (.string [61, 61]), .lit (.string [61, 62]), .lit (.string [91]), .lit (.string [93]), .lit (.string [123]), .lit (.string [124]), .lit (.string [124, 124]), .lit (.string [125])]
def laid_math_bits_deBruijn32tab {H : Type} : DataW H := .agg [.lit (.int .u8 0), .lit (.int .u8 1), .lit (.int .u8 28), .lit (.int .u8 2), .lit (.int .u8 29), .lit (.int .u8 14), .lit (.int .u8 24), .lit (.int .u8 3), .lit (.int .u8 30), .lit (.int .u8 22), .lit (.int .u8 20), .lit (.int .u8 15), .lit (.int .u8 25), .lit (.int .u8 17), .lit (.int .u8 4), .lit (.int .u8 8), .lit (.int .u8 31), .lit (.int .u8 27), .lit (.int .u8 13), .lit (.int .u8 23), .lit (.int .u8 21), .lit (.int .u8 19), .lit (.int .u8 16), .lit (.int .u8 7), .lit (.int .u8 26), .lit (.int .u8 12), .lit (.int .u8 18), .lit (.int .u8 6), .lit (.int .u8 11), .lit (.int .u8 5), .lit (.int .u8 10), .lit (.int .u8 9)]
def laid_math_bits_deBruijn64tab {H : Type} : DataW H := .agg [.lit (.int .u8 0), .lit (.int .u8 1), .lit (.int .u8 56), .lit (.int .u8 2), .lit (.int .u8 57), .lit (.int .u8 49), .lit (.int .u8 28), .lit (.int .u8 3), .lit (.int .u8 61), .lit (.int .u8 58), .lit (.int .u8 42), .lit (.int .u8 50), .lit (.int .u8 38), .lit (.int .u8 29), .lit (.int .u8 17), .lit (.int .u8 4), .lit (.int .u8 62), .lit (.int .u8 47), .lit (.int .u8 59), .lit (.int .u8 36), .lit (.int .u8 45), .lit (.int .u8 43), .lit (.int .u8 51), .lit (.int .u8 22), .lit (.int .u8 53), .lit (.int .u8 39), .lit (.int .u8 33), .lit (.int .u8 30), .lit (.int .u8 24), .lit (.int .u8 18), .lit (.int .u8 12), .lit (.int .u8 5), .lit (.int .u8 63), .lit (.int .u8 55), .lit (.int .u8 48), .lit (.int .u8 27), .lit (.int .u8 60), .lit (.int .u8 41), .lit (.int .u8 37), .lit (.int .u8 16), .lit (.int .u8 46), .lit (.int .u8 35), .lit (.int .u8 44), .lit (.int .u8 21), .lit (.int .u8 52), .lit (.int .u8 32), .lit (.int .u8 23), .lit (.int .u8 11), .lit (.int .u8 54), .lit (.int .u8 26), .lit (.int .u8 40), .lit (.int .u8 15), .lit (.int .u8 34), .lit (.int .u8 20), .lit (.int .u8 31), .lit (.int .u8 10), .lit (.int .u8 25), .lit (.int .u8 14), .lit (.int .u8 19), .lit (.int .u8 9), .lit (.int .u8 13), .lit (.int .u8 8), .lit (.int .u8 7), .lit (.int .u8 6)]
def laid_internal_strconv_uint64pow10 {H : Type} : DataW H := .agg [.lit (.int .u64 1), .lit (.int .u64 10), .lit (.int .u64 100), .lit (.int .u64 1000), .lit (.int .u64 10000), .lit (.int .u64 100000), .lit (.int .u64 1000000), .lit (.int .u64 10000000), .lit (.int .u64 100000000), .lit (.int .u64 1000000000), .lit (.int .u64 10000000000), .lit (.int .u64 100000000000), .lit (.int .u64 1000000000000), .lit (.int .u64 10000000000000), .lit (.int .u64 100000000000000), .lit (.int .u64 1000000000000000), .lit (.int .u64 10000000000000000), .lit (.int .u64 100000000000000000), .lit (.int .u64 1000000000000000000), .lit (.int .u64 10000000000000000000)]

/-- 'marginalialaw05.TreeForms': WHATEVER THE INPUT: true; the input reads as it did. -/
def treeFormsSpec : ChangeSpec := { name := "treeForms", fn := fun _ => fun
  | [d] => { results := [.lit (.bool true)], args := [d] }
  | _ => none }
def treeFormsRow : OpenClaim := { program := "ytpjlgahbbmlngaadoor", sum := "b85e5f540c6c39df07d6ac4b3392a6480173a18f616ccc15f72b3d21a4c57e79", func := "marginalia/marginalialaw05.TreeForms", spec := "treeForms", inPlace := ["internal/abi.NoEscape"], unfollowed := true, recurses := true, named := ["marginalia/token.signs", "marginalia/token.words"], loops := true, apart := false, laid := [("marginalia/token.words", laid_marginalia_token_words), ("marginalia/token.signs", laid_marginalia_token_signs)] }
def TreeFormsSaid : Prop := treeFormsRow.holds Tryd.pinned (OpenSpec.ofChange treeFormsSpec)

/-- ITS FALSE NEIGHBOUR: 'it returns false'. Refute it at one input. -/
def treeFormsWrong : ChangeSpec := { name := "treeForms", fn := fun _ => fun
  | [d] => { results := [.lit (.bool false)], args := [d] }
  | _ => none }
def TreeFormsWrongFalsely : Prop := treeFormsRow.holds Tryd.pinned (OpenSpec.ofChange treeFormsWrong)

/-- 'marginalialaw05.TreeDeep': WHATEVER THE INPUT: true; the input reads as it did. -/
def treeDeepSpec : ChangeSpec := { name := "treeDeep", fn := fun _ => fun
  | [d] => { results := [.lit (.bool true)], args := [d] }
  | _ => none }
def treeDeepRow : OpenClaim := { program := "ytpjlgahbbmlngaadoor", sum := "b85e5f540c6c39df07d6ac4b3392a6480173a18f616ccc15f72b3d21a4c57e79", func := "marginalia/marginalialaw05.TreeDeep", spec := "treeDeep", inPlace := ["internal/abi.NoEscape"], unfollowed := true, recurses := true, named := ["marginalia/token.signs", "marginalia/token.words"], apart := false, laid := [("marginalia/token.words", laid_marginalia_token_words), ("marginalia/token.signs", laid_marginalia_token_signs)] }
def TreeDeepSaid : Prop := treeDeepRow.holds Tryd.pinned (OpenSpec.ofChange treeDeepSpec)

/-- ITS FALSE NEIGHBOUR: 'it returns false'. Refute it at one input. -/
def treeDeepWrong : ChangeSpec := { name := "treeDeep", fn := fun _ => fun
  | [d] => { results := [.lit (.bool false)], args := [d] }
  | _ => none }
def TreeDeepWrongFalsely : Prop := treeDeepRow.holds Tryd.pinned (OpenSpec.ofChange treeDeepWrong)

/-- 'marginalialaw05.TreeSame': WHATEVER THE INPUT: true; the input reads as it did. -/
def treeSameSpec : ChangeSpec := { name := "treeSame", fn := fun _ => fun
  | [d1, d2] => { results := [.lit (.bool true)], args := [d1, d2] }
  | _ => none }
def treeSameRow : OpenClaim := { program := "ytpjlgahbbmlngaadoor", sum := "b85e5f540c6c39df07d6ac4b3392a6480173a18f616ccc15f72b3d21a4c57e79", func := "marginalia/marginalialaw05.TreeSame", spec := "treeSame", inPlace := ["internal/abi.NoEscape"], unfollowed := true, recurses := true, named := ["marginalia/token.signs", "marginalia/token.words"], loops := true, apart := false, laid := [("marginalia/token.words", laid_marginalia_token_words), ("marginalia/token.signs", laid_marginalia_token_signs)] }
def TreeSameSaid : Prop := treeSameRow.holds Tryd.pinned (OpenSpec.ofChange treeSameSpec)

/-- ITS FALSE NEIGHBOUR: 'it returns false'. Refute it at one input. -/
def treeSameWrong : ChangeSpec := { name := "treeSame", fn := fun _ => fun
  | [d1, d2] => { results := [.lit (.bool false)], args := [d1, d2] }
  | _ => none }
def TreeSameWrongFalsely : Prop := treeSameRow.holds Tryd.pinned (OpenSpec.ofChange treeSameWrong)

/-- 'marginalialaw05.TreeAts': WHATEVER THE INPUT: true; the input reads as it did. -/
def treeAtsSpec : ChangeSpec := { name := "treeAts", fn := fun _ => fun
  | [d1, d2] => { results := [.lit (.bool true)], args := [d1, d2] }
  | _ => none }
def treeAtsRow : OpenClaim := { program := "ytpjlgahbbmlngaadoor", sum := "b85e5f540c6c39df07d6ac4b3392a6480173a18f616ccc15f72b3d21a4c57e79", func := "marginalia/marginalialaw05.TreeAts", spec := "treeAts", inPlace := ["internal/abi.NoEscape"], unfollowed := true, recurses := true, named := ["marginalia/token.signs", "marginalia/token.words"], loops := true, apart := false, laid := [("marginalia/token.words", laid_marginalia_token_words), ("marginalia/token.signs", laid_marginalia_token_signs)] }
def TreeAtsSaid : Prop := treeAtsRow.holds Tryd.pinned (OpenSpec.ofChange treeAtsSpec)

/-- ITS FALSE NEIGHBOUR: 'it returns false'. Refute it at one input. -/
def treeAtsWrong : ChangeSpec := { name := "treeAts", fn := fun _ => fun
  | [d1, d2] => { results := [.lit (.bool false)], args := [d1, d2] }
  | _ => none }
def TreeAtsWrongFalsely : Prop := treeAtsRow.holds Tryd.pinned (OpenSpec.ofChange treeAtsWrong)

/-- 'marginalialaw05.TreeFinds': WHATEVER THE INPUT: true; the input reads as it did. -/
def treeFindsSpec : ChangeSpec := { name := "treeFinds", fn := fun _ => fun
  | [d1, d2, d3, d4] => { results := [.lit (.bool true)], args := [d1, d2, d3, d4] }
  | _ => none }
def treeFindsRow : OpenClaim := { program := "ytpjlgahbbmlngaadoor", sum := "b85e5f540c6c39df07d6ac4b3392a6480173a18f616ccc15f72b3d21a4c57e79", func := "marginalia/marginalialaw05.TreeFinds", spec := "treeFinds", inPlace := ["internal/abi.NoEscape"], unfollowed := true, recurses := true, named := ["marginalia/token.signs", "marginalia/token.words"], loops := true, apart := false, laid := [("marginalia/token.words", laid_marginalia_token_words), ("marginalia/token.signs", laid_marginalia_token_signs)] }
def TreeFindsSaid : Prop := treeFindsRow.holds Tryd.pinned (OpenSpec.ofChange treeFindsSpec)

/-- ITS FALSE NEIGHBOUR: 'it returns false'. Refute it at one input. -/
def treeFindsWrong : ChangeSpec := { name := "treeFinds", fn := fun _ => fun
  | [d1, d2, d3, d4] => { results := [.lit (.bool false)], args := [d1, d2, d3, d4] }
  | _ => none }
def TreeFindsWrongFalsely : Prop := treeFindsRow.holds Tryd.pinned (OpenSpec.ofChange treeFindsWrong)

/-- 'marginalialaw05.TreePuts': WHATEVER THE INPUT: true; the input reads as it did. -/
def treePutsSpec : ChangeSpec := { name := "treePuts", fn := fun _ => fun
  | [d1, d2, d3] => { results := [.lit (.bool true)], args := [d1, d2, d3] }
  | _ => none }
def treePutsRow : OpenClaim := { program := "ytpjlgahbbmlngaadoor", sum := "b85e5f540c6c39df07d6ac4b3392a6480173a18f616ccc15f72b3d21a4c57e79", func := "marginalia/marginalialaw05.TreePuts", spec := "treePuts", inPlace := ["internal/abi.NoEscape"], unfollowed := true, recurses := true, named := ["marginalia/token.signs", "marginalia/token.words"], loops := true, apart := false, laid := [("marginalia/token.words", laid_marginalia_token_words), ("marginalia/token.signs", laid_marginalia_token_signs)] }
def TreePutsSaid : Prop := treePutsRow.holds Tryd.pinned (OpenSpec.ofChange treePutsSpec)

/-- ITS FALSE NEIGHBOUR: 'it returns false'. Refute it at one input. -/
def treePutsWrong : ChangeSpec := { name := "treePuts", fn := fun _ => fun
  | [d1, d2, d3] => { results := [.lit (.bool false)], args := [d1, d2, d3] }
  | _ => none }
def TreePutsWrongFalsely : Prop := treePutsRow.holds Tryd.pinned (OpenSpec.ofChange treePutsWrong)

/-- 'marginalialaw05.TreeShares': WHATEVER THE INPUT: true; the input reads as it did. -/
def treeSharesSpec : ChangeSpec := { name := "treeShares", fn := fun _ => fun
  | [d] => { results := [.lit (.bool true)], args := [d] }
  | _ => none }
def treeSharesRow : OpenClaim := { program := "ytpjlgahbbmlngaadoor", sum := "b85e5f540c6c39df07d6ac4b3392a6480173a18f616ccc15f72b3d21a4c57e79", func := "marginalia/marginalialaw05.TreeShares", spec := "treeShares", inPlace := ["internal/abi.NoEscape"], unfollowed := true, recurses := true, named := ["marginalia/token.signs", "marginalia/token.words", "internal/strconv.uint64pow10", "math/bits.deBruijn32tab", "math/bits.deBruijn64tab"], loops := true, apart := false, laid := [("math/bits.deBruijn32tab", laid_math_bits_deBruijn32tab), ("math/bits.deBruijn64tab", laid_math_bits_deBruijn64tab), ("internal/strconv.uint64pow10", laid_internal_strconv_uint64pow10), ("marginalia/token.words", laid_marginalia_token_words), ("marginalia/token.signs", laid_marginalia_token_signs)] }
def TreeSharesSaid : Prop := treeSharesRow.holds Tryd.pinned (OpenSpec.ofChange treeSharesSpec)

/-- ITS FALSE NEIGHBOUR: 'it returns false'. Refute it at one input. -/
def treeSharesWrong : ChangeSpec := { name := "treeShares", fn := fun _ => fun
  | [d] => { results := [.lit (.bool false)], args := [d] }
  | _ => none }
def TreeSharesWrongFalsely : Prop := treeSharesRow.holds Tryd.pinned (OpenSpec.ofChange treeSharesWrong)

/-- 'marginalialaw05.TreeLeaves': WHATEVER THE INPUT: true; the input reads as it did. -/
def treeLeavesSpec : ChangeSpec := { name := "treeLeaves", fn := fun _ => fun
  | [d1, d2] => { results := [.lit (.bool true)], args := [d1, d2] }
  | _ => none }
def treeLeavesRow : OpenClaim := { program := "ytpjlgahbbmlngaadoor", sum := "b85e5f540c6c39df07d6ac4b3392a6480173a18f616ccc15f72b3d21a4c57e79", func := "marginalia/marginalialaw05.TreeLeaves", spec := "treeLeaves", inPlace := ["internal/abi.NoEscape"], unfollowed := true, recurses := true, named := ["marginalia/token.signs", "marginalia/token.words"], loops := true, apart := false, laid := [("marginalia/token.words", laid_marginalia_token_words), ("marginalia/token.signs", laid_marginalia_token_signs)] }
def TreeLeavesSaid : Prop := treeLeavesRow.holds Tryd.pinned (OpenSpec.ofChange treeLeavesSpec)

/-- ITS FALSE NEIGHBOUR: 'it returns false'. Refute it at one input. -/
def treeLeavesWrong : ChangeSpec := { name := "treeLeaves", fn := fun _ => fun
  | [d1, d2] => { results := [.lit (.bool false)], args := [d1, d2] }
  | _ => none }
def TreeLeavesWrongFalsely : Prop := treeLeavesRow.holds Tryd.pinned (OpenSpec.ofChange treeLeavesWrong)

/-- 'marginalialaw05.TreeFound': WHATEVER THE INPUT: true; the input reads as it did. -/
def treeFoundSpec : ChangeSpec := { name := "treeFound", fn := fun _ => fun
  | [d1, d2, d3] => { results := [.lit (.bool true)], args := [d1, d2, d3] }
  | _ => none }
def treeFoundRow : OpenClaim := { program := "ytpjlgahbbmlngaadoor", sum := "b85e5f540c6c39df07d6ac4b3392a6480173a18f616ccc15f72b3d21a4c57e79", func := "marginalia/marginalialaw05.TreeFound", spec := "treeFound", inPlace := ["internal/abi.NoEscape"], unfollowed := true, recurses := true, named := ["marginalia/token.signs", "marginalia/token.words"], loops := true, apart := false, laid := [("marginalia/token.words", laid_marginalia_token_words), ("marginalia/token.signs", laid_marginalia_token_signs)] }
def TreeFoundSaid : Prop := treeFoundRow.holds Tryd.pinned (OpenSpec.ofChange treeFoundSpec)

/-- ITS FALSE NEIGHBOUR: 'it returns false'. Refute it at one input. -/
def treeFoundWrong : ChangeSpec := { name := "treeFound", fn := fun _ => fun
  | [d1, d2, d3] => { results := [.lit (.bool false)], args := [d1, d2, d3] }
  | _ => none }
def TreeFoundWrongFalsely : Prop := treeFoundRow.holds Tryd.pinned (OpenSpec.ofChange treeFoundWrong)

/-- 'marginalialaw05.TreePut': WHATEVER THE INPUT: true; the input reads as it did. -/
def treePutSpec : ChangeSpec := { name := "treePut", fn := fun _ => fun
  | [d1, d2, d3] => { results := [.lit (.bool true)], args := [d1, d2, d3] }
  | _ => none }
def treePutRow : OpenClaim := { program := "ytpjlgahbbmlngaadoor", sum := "b85e5f540c6c39df07d6ac4b3392a6480173a18f616ccc15f72b3d21a4c57e79", func := "marginalia/marginalialaw05.TreePut", spec := "treePut", inPlace := ["internal/abi.NoEscape"], unfollowed := true, recurses := true, named := ["marginalia/token.signs", "marginalia/token.words"], loops := true, apart := false, laid := [("marginalia/token.words", laid_marginalia_token_words), ("marginalia/token.signs", laid_marginalia_token_signs)] }
def TreePutSaid : Prop := treePutRow.holds Tryd.pinned (OpenSpec.ofChange treePutSpec)

/-- ITS FALSE NEIGHBOUR: 'it returns false'. Refute it at one input. -/
def treePutWrong : ChangeSpec := { name := "treePut", fn := fun _ => fun
  | [d1, d2, d3] => { results := [.lit (.bool false)], args := [d1, d2, d3] }
  | _ => none }
def TreePutWrongFalsely : Prop := treePutRow.holds Tryd.pinned (OpenSpec.ofChange treePutWrong)

/-- 'marginalialaw05.TreeSharing': WHATEVER THE INPUT: true; the input reads as it did. -/
def treeSharingSpec : ChangeSpec := { name := "treeSharing", fn := fun _ => fun
  | [d] => { results := [.lit (.bool true)], args := [d] }
  | _ => none }
def treeSharingRow : OpenClaim := { program := "ytpjlgahbbmlngaadoor", sum := "b85e5f540c6c39df07d6ac4b3392a6480173a18f616ccc15f72b3d21a4c57e79", func := "marginalia/marginalialaw05.TreeSharing", spec := "treeSharing", inPlace := ["internal/abi.NoEscape"], unfollowed := true, recurses := true, named := ["marginalia/token.signs", "marginalia/token.words", "internal/strconv.uint64pow10", "math/bits.deBruijn32tab", "math/bits.deBruijn64tab"], loops := true, apart := false, laid := [("math/bits.deBruijn32tab", laid_math_bits_deBruijn32tab), ("math/bits.deBruijn64tab", laid_math_bits_deBruijn64tab), ("internal/strconv.uint64pow10", laid_internal_strconv_uint64pow10), ("marginalia/token.words", laid_marginalia_token_words), ("marginalia/token.signs", laid_marginalia_token_signs)] }
def TreeSharingSaid : Prop := treeSharingRow.holds Tryd.pinned (OpenSpec.ofChange treeSharingSpec)

/-- ITS FALSE NEIGHBOUR: 'it returns false'. Refute it at one input. -/
def treeSharingWrong : ChangeSpec := { name := "treeSharing", fn := fun _ => fun
  | [d] => { results := [.lit (.bool false)], args := [d] }
  | _ => none }
def TreeSharingWrongFalsely : Prop := treeSharingRow.holds Tryd.pinned (OpenSpec.ofChange treeSharingWrong)

/-- 'marginalialaw05.TreeOwn': WHATEVER THE INPUT: true; the input reads as it did. -/
def treeOwnSpec : ChangeSpec := { name := "treeOwn", fn := fun _ => fun
  | [d1, d2] => { results := [.lit (.bool true)], args := [d1, d2] }
  | _ => none }
def treeOwnRow : OpenClaim := { program := "ytpjlgahbbmlngaadoor", sum := "b85e5f540c6c39df07d6ac4b3392a6480173a18f616ccc15f72b3d21a4c57e79", func := "marginalia/marginalialaw05.TreeOwn", spec := "treeOwn", inPlace := ["internal/abi.NoEscape"], unfollowed := true, recurses := true, named := ["marginalia/token.signs", "marginalia/token.words"], loops := true, apart := false, laid := [("marginalia/token.words", laid_marginalia_token_words), ("marginalia/token.signs", laid_marginalia_token_signs)] }
def TreeOwnSaid : Prop := treeOwnRow.holds Tryd.pinned (OpenSpec.ofChange treeOwnSpec)

/-- ITS FALSE NEIGHBOUR: 'it returns false'. Refute it at one input. -/
def treeOwnWrong : ChangeSpec := { name := "treeOwn", fn := fun _ => fun
  | [d1, d2] => { results := [.lit (.bool false)], args := [d1, d2] }
  | _ => none }
def TreeOwnWrongFalsely : Prop := treeOwnRow.holds Tryd.pinned (OpenSpec.ofChange treeOwnWrong)

/- THE SECOND FORM. 'bulk': how many values and letters a reading holds, each counted each time it is reached (what is shared counts as often as it is met; a slice's spare places count too). A statement '..UptoSaid' is the law's where the arguments, and the package variables that the reading takes, are together of bulk at most 1048576: NARROWER than '..Said'. Prove '..Said' where nothing that the law and all that it calls make is longer than what came in: it says more and counts as full. Else prove '..UptoSaid'. A law counts once. -/
mutual
def uptoBulk {H : Type} : DataW H → Nat
  | .lit (.string bytes) => bytes.length + 1
  | .lit _ => 1
  | .nil => 1
  | .ptr d => uptoBulk d + 1
  | .slice elems spare => uptoBulkAll elems + uptoBulkAll spare + 1
  | .agg parts => uptoBulkAll parts + 1
  | .iface _ d => uptoBulk d + 1
  | .map entries => uptoBulkEntries entries + 1
  | .held _ => 1
def uptoBulkAll {H : Type} : List (DataW H) → Nat
  | [] => 0
  | d :: r => uptoBulk d + uptoBulkAll r
def uptoBulkEntries {H : Type} : List (Lit × DataW H) → Nat
  | [] => 0
  | x :: r => uptoBulkEntry x + uptoBulkEntries r
def uptoBulkEntry {H : Type} : Lit × DataW H → Nat
  | (.string bytes, d) => bytes.length + uptoBulk d + 1
  | (_, d) => uptoBulk d + 1
 end
def uptoSmall : (H : Type) → List (DataW H) → Bool := fun _ ds => decide (uptoBulkAll ds ≤ 1048576)
def OpenSpec.upto (s : _root_.Go.ChangeSpec) : _root_.Go.OpenSpec := { _root_.Go.OpenSpec.ofChange s with cond := some uptoSmall }

/-- 'marginalialaw05.TreeForms', WHERE WHAT IT READS IS OF BULK AT MOST 1048576: true; the input reads as it did. -/
def treeFormsUptoRow : OpenClaim := { program := "ytpjlgahbbmlngaadoor", sum := "b85e5f540c6c39df07d6ac4b3392a6480173a18f616ccc15f72b3d21a4c57e79", func := "marginalia/marginalialaw05.TreeForms", spec := "treeForms", inPlace := ["internal/abi.NoEscape"], unfollowed := true, recurses := true, named := ["marginalia/token.signs", "marginalia/token.words"], loops := true, apart := false, laid := [("marginalia/token.words", laid_marginalia_token_words), ("marginalia/token.signs", laid_marginalia_token_signs)], narrowed := true }
def TreeFormsUptoSaid : Prop := treeFormsUptoRow.holds Tryd.pinned (OpenSpec.upto treeFormsSpec)

/-- 'marginalialaw05.TreeDeep', WHERE WHAT IT READS IS OF BULK AT MOST 1048576: true; the input reads as it did. -/
def treeDeepUptoRow : OpenClaim := { program := "ytpjlgahbbmlngaadoor", sum := "b85e5f540c6c39df07d6ac4b3392a6480173a18f616ccc15f72b3d21a4c57e79", func := "marginalia/marginalialaw05.TreeDeep", spec := "treeDeep", inPlace := ["internal/abi.NoEscape"], unfollowed := true, recurses := true, named := ["marginalia/token.signs", "marginalia/token.words"], apart := false, laid := [("marginalia/token.words", laid_marginalia_token_words), ("marginalia/token.signs", laid_marginalia_token_signs)], narrowed := true }
def TreeDeepUptoSaid : Prop := treeDeepUptoRow.holds Tryd.pinned (OpenSpec.upto treeDeepSpec)

/-- 'marginalialaw05.TreeSame', WHERE WHAT IT READS IS OF BULK AT MOST 1048576: true; the input reads as it did. -/
def treeSameUptoRow : OpenClaim := { program := "ytpjlgahbbmlngaadoor", sum := "b85e5f540c6c39df07d6ac4b3392a6480173a18f616ccc15f72b3d21a4c57e79", func := "marginalia/marginalialaw05.TreeSame", spec := "treeSame", inPlace := ["internal/abi.NoEscape"], unfollowed := true, recurses := true, named := ["marginalia/token.signs", "marginalia/token.words"], loops := true, apart := false, laid := [("marginalia/token.words", laid_marginalia_token_words), ("marginalia/token.signs", laid_marginalia_token_signs)], narrowed := true }
def TreeSameUptoSaid : Prop := treeSameUptoRow.holds Tryd.pinned (OpenSpec.upto treeSameSpec)

/-- 'marginalialaw05.TreeAts', WHERE WHAT IT READS IS OF BULK AT MOST 1048576: true; the input reads as it did. -/
def treeAtsUptoRow : OpenClaim := { program := "ytpjlgahbbmlngaadoor", sum := "b85e5f540c6c39df07d6ac4b3392a6480173a18f616ccc15f72b3d21a4c57e79", func := "marginalia/marginalialaw05.TreeAts", spec := "treeAts", inPlace := ["internal/abi.NoEscape"], unfollowed := true, recurses := true, named := ["marginalia/token.signs", "marginalia/token.words"], loops := true, apart := false, laid := [("marginalia/token.words", laid_marginalia_token_words), ("marginalia/token.signs", laid_marginalia_token_signs)], narrowed := true }
def TreeAtsUptoSaid : Prop := treeAtsUptoRow.holds Tryd.pinned (OpenSpec.upto treeAtsSpec)

/-- 'marginalialaw05.TreeFinds', WHERE WHAT IT READS IS OF BULK AT MOST 1048576: true; the input reads as it did. -/
def treeFindsUptoRow : OpenClaim := { program := "ytpjlgahbbmlngaadoor", sum := "b85e5f540c6c39df07d6ac4b3392a6480173a18f616ccc15f72b3d21a4c57e79", func := "marginalia/marginalialaw05.TreeFinds", spec := "treeFinds", inPlace := ["internal/abi.NoEscape"], unfollowed := true, recurses := true, named := ["marginalia/token.signs", "marginalia/token.words"], loops := true, apart := false, laid := [("marginalia/token.words", laid_marginalia_token_words), ("marginalia/token.signs", laid_marginalia_token_signs)], narrowed := true }
def TreeFindsUptoSaid : Prop := treeFindsUptoRow.holds Tryd.pinned (OpenSpec.upto treeFindsSpec)

/-- 'marginalialaw05.TreePuts', WHERE WHAT IT READS IS OF BULK AT MOST 1048576: true; the input reads as it did. -/
def treePutsUptoRow : OpenClaim := { program := "ytpjlgahbbmlngaadoor", sum := "b85e5f540c6c39df07d6ac4b3392a6480173a18f616ccc15f72b3d21a4c57e79", func := "marginalia/marginalialaw05.TreePuts", spec := "treePuts", inPlace := ["internal/abi.NoEscape"], unfollowed := true, recurses := true, named := ["marginalia/token.signs", "marginalia/token.words"], loops := true, apart := false, laid := [("marginalia/token.words", laid_marginalia_token_words), ("marginalia/token.signs", laid_marginalia_token_signs)], narrowed := true }
def TreePutsUptoSaid : Prop := treePutsUptoRow.holds Tryd.pinned (OpenSpec.upto treePutsSpec)

/-- 'marginalialaw05.TreeShares', WHERE WHAT IT READS IS OF BULK AT MOST 1048576: true; the input reads as it did. -/
def treeSharesUptoRow : OpenClaim := { program := "ytpjlgahbbmlngaadoor", sum := "b85e5f540c6c39df07d6ac4b3392a6480173a18f616ccc15f72b3d21a4c57e79", func := "marginalia/marginalialaw05.TreeShares", spec := "treeShares", inPlace := ["internal/abi.NoEscape"], unfollowed := true, recurses := true, named := ["marginalia/token.signs", "marginalia/token.words", "internal/strconv.uint64pow10", "math/bits.deBruijn32tab", "math/bits.deBruijn64tab"], loops := true, apart := false, laid := [("math/bits.deBruijn32tab", laid_math_bits_deBruijn32tab), ("math/bits.deBruijn64tab", laid_math_bits_deBruijn64tab), ("internal/strconv.uint64pow10", laid_internal_strconv_uint64pow10), ("marginalia/token.words", laid_marginalia_token_words), ("marginalia/token.signs", laid_marginalia_token_signs)], narrowed := true }
def TreeSharesUptoSaid : Prop := treeSharesUptoRow.holds Tryd.pinned (OpenSpec.upto treeSharesSpec)

/-- 'marginalialaw05.TreeLeaves', WHERE WHAT IT READS IS OF BULK AT MOST 1048576: true; the input reads as it did. -/
def treeLeavesUptoRow : OpenClaim := { program := "ytpjlgahbbmlngaadoor", sum := "b85e5f540c6c39df07d6ac4b3392a6480173a18f616ccc15f72b3d21a4c57e79", func := "marginalia/marginalialaw05.TreeLeaves", spec := "treeLeaves", inPlace := ["internal/abi.NoEscape"], unfollowed := true, recurses := true, named := ["marginalia/token.signs", "marginalia/token.words"], loops := true, apart := false, laid := [("marginalia/token.words", laid_marginalia_token_words), ("marginalia/token.signs", laid_marginalia_token_signs)], narrowed := true }
def TreeLeavesUptoSaid : Prop := treeLeavesUptoRow.holds Tryd.pinned (OpenSpec.upto treeLeavesSpec)

/-- 'marginalialaw05.TreeFound', WHERE WHAT IT READS IS OF BULK AT MOST 1048576: true; the input reads as it did. -/
def treeFoundUptoRow : OpenClaim := { program := "ytpjlgahbbmlngaadoor", sum := "b85e5f540c6c39df07d6ac4b3392a6480173a18f616ccc15f72b3d21a4c57e79", func := "marginalia/marginalialaw05.TreeFound", spec := "treeFound", inPlace := ["internal/abi.NoEscape"], unfollowed := true, recurses := true, named := ["marginalia/token.signs", "marginalia/token.words"], loops := true, apart := false, laid := [("marginalia/token.words", laid_marginalia_token_words), ("marginalia/token.signs", laid_marginalia_token_signs)], narrowed := true }
def TreeFoundUptoSaid : Prop := treeFoundUptoRow.holds Tryd.pinned (OpenSpec.upto treeFoundSpec)

/-- 'marginalialaw05.TreePut', WHERE WHAT IT READS IS OF BULK AT MOST 1048576: true; the input reads as it did. -/
def treePutUptoRow : OpenClaim := { program := "ytpjlgahbbmlngaadoor", sum := "b85e5f540c6c39df07d6ac4b3392a6480173a18f616ccc15f72b3d21a4c57e79", func := "marginalia/marginalialaw05.TreePut", spec := "treePut", inPlace := ["internal/abi.NoEscape"], unfollowed := true, recurses := true, named := ["marginalia/token.signs", "marginalia/token.words"], loops := true, apart := false, laid := [("marginalia/token.words", laid_marginalia_token_words), ("marginalia/token.signs", laid_marginalia_token_signs)], narrowed := true }
def TreePutUptoSaid : Prop := treePutUptoRow.holds Tryd.pinned (OpenSpec.upto treePutSpec)

/-- 'marginalialaw05.TreeSharing', WHERE WHAT IT READS IS OF BULK AT MOST 1048576: true; the input reads as it did. -/
def treeSharingUptoRow : OpenClaim := { program := "ytpjlgahbbmlngaadoor", sum := "b85e5f540c6c39df07d6ac4b3392a6480173a18f616ccc15f72b3d21a4c57e79", func := "marginalia/marginalialaw05.TreeSharing", spec := "treeSharing", inPlace := ["internal/abi.NoEscape"], unfollowed := true, recurses := true, named := ["marginalia/token.signs", "marginalia/token.words", "internal/strconv.uint64pow10", "math/bits.deBruijn32tab", "math/bits.deBruijn64tab"], loops := true, apart := false, laid := [("math/bits.deBruijn32tab", laid_math_bits_deBruijn32tab), ("math/bits.deBruijn64tab", laid_math_bits_deBruijn64tab), ("internal/strconv.uint64pow10", laid_internal_strconv_uint64pow10), ("marginalia/token.words", laid_marginalia_token_words), ("marginalia/token.signs", laid_marginalia_token_signs)], narrowed := true }
def TreeSharingUptoSaid : Prop := treeSharingUptoRow.holds Tryd.pinned (OpenSpec.upto treeSharingSpec)

/-- 'marginalialaw05.TreeOwn', WHERE WHAT IT READS IS OF BULK AT MOST 1048576: true; the input reads as it did. -/
def treeOwnUptoRow : OpenClaim := { program := "ytpjlgahbbmlngaadoor", sum := "b85e5f540c6c39df07d6ac4b3392a6480173a18f616ccc15f72b3d21a4c57e79", func := "marginalia/marginalialaw05.TreeOwn", spec := "treeOwn", inPlace := ["internal/abi.NoEscape"], unfollowed := true, recurses := true, named := ["marginalia/token.signs", "marginalia/token.words"], loops := true, apart := false, laid := [("marginalia/token.words", laid_marginalia_token_words), ("marginalia/token.signs", laid_marginalia_token_signs)], narrowed := true }
def TreeOwnUptoSaid : Prop := treeOwnUptoRow.holds Tryd.pinned (OpenSpec.upto treeOwnSpec)

end Rows
end Go.Proofs.YtpjlgahbbmlngaaDoor
