/-
  No cell of these rows narrows 'for every input' (looked for: loops, veiled, ifaces, maps, wideKeys, modest, calm, conditions, laid).
  DERIVED. THE GIVEN ROWS OF THIS SEAT. 5 by the template 'for every input the law returns true; each argument reads behind the call as it read before'; 0 by the template 'total and deterministic' (their statements: YtmbpjjehnfjdiaaTotals.lean).
  GIVEN WITH THE SEED: the statements are not yours to turn. If you find one false, say at which input.
  Laid BY PROGRAM, IN A SANDBOX (cutbox-rows.mjs): the forced cells as the released guide's own fill.sh prints them over the translation 72cc2524116fcb25… (all of the seat's roots in one cut). By AI agents, Wed Nov 11 2026. No macro, syntax, notation, axiom, sorry.
-/
import Derived.Test.YtmbpjjehnfjdiaaChecked
import GoSem.Claim
import GoSem.ClaimJoined
import GoSem.ClaimMapViews
import Derived.JoinedTies
import Derived.KernelRfl
namespace Go.Proofs.Ytmbpjjehnfjdiaa
/- THE CELL 'sum', in the pinned program and in every row, IS THE sha256 OF THE DUMP (.gsa) THAT YtmbpjjehnfjdiaaProg.lean LOADS. Nothing in Lean hashes anything: it is a label: what it is worth is what the hold of that sum in a sandbox is worth. -/
noncomputable def Try.pinned : Pinned := { name := "ytmbpjjehnfjdiaa", sum := "72cc2524116fcb25981a30f610f13232b90be81134d7ed436f3bae4dc09407ff", checked := Try.checked }
namespace Rows
def none {H : Type} : Left H := { results := [], args := [] }

/-- 'marginalialaw01.RopeMerges': WHATEVER THE INPUT: true; the input reads as it did. -/
def ropeMergesSpec : ChangeSpec := { name := "ropeMerges", fn := fun _ => fun
  | [d1, d2, d3] => { results := [.lit (.bool true)], args := [d1, d2, d3] }
  | _ => none }
def ropeMergesRow : OpenClaim := { program := "ytmbpjjehnfjdiaa", sum := "72cc2524116fcb25981a30f610f13232b90be81134d7ed436f3bae4dc09407ff", func := "marginalia/marginalialaw01.RopeMerges", spec := "ropeMerges", inPlace := ["internal/abi.NoEscape"], recurses := true, apart := false }
def RopeMergesSaid : Prop := ropeMergesRow.holds Try.pinned (OpenSpec.ofChange ropeMergesSpec)

/-- ITS FALSE NEIGHBOUR: 'it returns false'. Refute it at one input. -/
def ropeMergesWrong : ChangeSpec := { name := "ropeMerges", fn := fun _ => fun
  | [d1, d2, d3] => { results := [.lit (.bool false)], args := [d1, d2, d3] }
  | _ => none }
def RopeMergesWrongFalsely : Prop := ropeMergesRow.holds Try.pinned (OpenSpec.ofChange ropeMergesWrong)

/-- 'marginalialaw01.RopeEdits': WHATEVER THE INPUT: true; the input reads as it did. -/
def ropeEditsSpec : ChangeSpec := { name := "ropeEdits", fn := fun _ => fun
  | [d1, d2, d3, d4] => { results := [.lit (.bool true)], args := [d1, d2, d3, d4] }
  | _ => none }
def ropeEditsRow : OpenClaim := { program := "ytmbpjjehnfjdiaa", sum := "72cc2524116fcb25981a30f610f13232b90be81134d7ed436f3bae4dc09407ff", func := "marginalia/marginalialaw01.RopeEdits", spec := "ropeEdits", inPlace := ["internal/abi.NoEscape"], recurses := true, apart := false }
def RopeEditsSaid : Prop := ropeEditsRow.holds Try.pinned (OpenSpec.ofChange ropeEditsSpec)

/-- ITS FALSE NEIGHBOUR: 'it returns false'. Refute it at one input. -/
def ropeEditsWrong : ChangeSpec := { name := "ropeEdits", fn := fun _ => fun
  | [d1, d2, d3, d4] => { results := [.lit (.bool false)], args := [d1, d2, d3, d4] }
  | _ => none }
def RopeEditsWrongFalsely : Prop := ropeEditsRow.holds Try.pinned (OpenSpec.ofChange ropeEditsWrong)

/-- 'marginalialaw01.RopePieces': WHATEVER THE INPUT: true; the input reads as it did. -/
def ropePiecesSpec : ChangeSpec := { name := "ropePieces", fn := fun _ => fun
  | [d1, d2] => { results := [.lit (.bool true)], args := [d1, d2] }
  | _ => none }
def ropePiecesRow : OpenClaim := { program := "ytmbpjjehnfjdiaa", sum := "72cc2524116fcb25981a30f610f13232b90be81134d7ed436f3bae4dc09407ff", func := "marginalia/marginalialaw01.RopePieces", spec := "ropePieces", inPlace := ["internal/abi.NoEscape"], recurses := true, apart := false }
def RopePiecesSaid : Prop := ropePiecesRow.holds Try.pinned (OpenSpec.ofChange ropePiecesSpec)

/-- ITS FALSE NEIGHBOUR: 'it returns false'. Refute it at one input. -/
def ropePiecesWrong : ChangeSpec := { name := "ropePieces", fn := fun _ => fun
  | [d1, d2] => { results := [.lit (.bool false)], args := [d1, d2] }
  | _ => none }
def RopePiecesWrongFalsely : Prop := ropePiecesRow.holds Try.pinned (OpenSpec.ofChange ropePiecesWrong)

/-- 'marginalialaw01.RopeThen': WHATEVER THE INPUT: true; the input reads as it did. -/
def ropeThenSpec : ChangeSpec := { name := "ropeThen", fn := fun _ => fun
  | [d1, d2, d3] => { results := [.lit (.bool true)], args := [d1, d2, d3] }
  | _ => none }
def ropeThenRow : OpenClaim := { program := "ytmbpjjehnfjdiaa", sum := "72cc2524116fcb25981a30f610f13232b90be81134d7ed436f3bae4dc09407ff", func := "marginalia/marginalialaw01.RopeThen", spec := "ropeThen", inPlace := ["internal/abi.NoEscape"], recurses := true, apart := false }
def RopeThenSaid : Prop := ropeThenRow.holds Try.pinned (OpenSpec.ofChange ropeThenSpec)

/-- ITS FALSE NEIGHBOUR: 'it returns false'. Refute it at one input. -/
def ropeThenWrong : ChangeSpec := { name := "ropeThen", fn := fun _ => fun
  | [d1, d2, d3] => { results := [.lit (.bool false)], args := [d1, d2, d3] }
  | _ => none }
def RopeThenWrongFalsely : Prop := ropeThenRow.holds Try.pinned (OpenSpec.ofChange ropeThenWrong)

/-- 'marginalialaw01.RopeOwn': WHATEVER THE INPUT: true; the input reads as it did. -/
def ropeOwnSpec : ChangeSpec := { name := "ropeOwn", fn := fun _ => fun
  | [d1, d2, d3] => { results := [.lit (.bool true)], args := [d1, d2, d3] }
  | _ => none }
def ropeOwnRow : OpenClaim := { program := "ytmbpjjehnfjdiaa", sum := "72cc2524116fcb25981a30f610f13232b90be81134d7ed436f3bae4dc09407ff", func := "marginalia/marginalialaw01.RopeOwn", spec := "ropeOwn", inPlace := ["internal/abi.NoEscape"], recurses := true, apart := false }
def RopeOwnSaid : Prop := ropeOwnRow.holds Try.pinned (OpenSpec.ofChange ropeOwnSpec)

/-- ITS FALSE NEIGHBOUR: 'it returns false'. Refute it at one input. -/
def ropeOwnWrong : ChangeSpec := { name := "ropeOwn", fn := fun _ => fun
  | [d1, d2, d3] => { results := [.lit (.bool false)], args := [d1, d2, d3] }
  | _ => none }
def RopeOwnWrongFalsely : Prop := ropeOwnRow.holds Try.pinned (OpenSpec.ofChange ropeOwnWrong)

/- THE SECOND FORM. 'bulk': how many values and letters a reading holds, each counted each time it is reached (what is shared counts as often as it is met; a slice's spare places count too). A statement '..UptoSaid' is the law's where the arguments, and the package variables that the reading takes, are together of bulk at most 1048576: NARROWER than '..Said'. Prove '..Said' where nothing that the law and all that it calls make is longer than what came in: it says more and counts as full. Else prove '..UptoSaid'. A law counts once. -/
mutual
def uptoBulk {H : Type} : DataW H → Nat
  | .lit (.string bytes) => bytes.length + 1
  | .lit _ => 1
  | .nil => 1
  | .ptr d => uptoBulk d + 1
  | .slice elems spare => uptoBulkAll elems + uptoBulkAll spare + 1
  | .agg parts => uptoBulkAll parts + 1
  | .iface _ d => uptoBulk d + 1
  | .map entries => uptoBulkEntries entries + 1
  | .held _ => 1
def uptoBulkAll {H : Type} : List (DataW H) → Nat
  | [] => 0
  | d :: r => uptoBulk d + uptoBulkAll r
def uptoBulkEntries {H : Type} : List (Lit × DataW H) → Nat
  | [] => 0
  | x :: r => uptoBulkEntry x + uptoBulkEntries r
def uptoBulkEntry {H : Type} : Lit × DataW H → Nat
  | (.string bytes, d) => bytes.length + uptoBulk d + 1
  | (_, d) => uptoBulk d + 1
 end
def uptoSmall : (H : Type) → List (DataW H) → Bool := fun _ ds => decide (uptoBulkAll ds ≤ 1048576)
def OpenSpec.upto (s : _root_.Go.ChangeSpec) : _root_.Go.OpenSpec := { _root_.Go.OpenSpec.ofChange s with cond := some uptoSmall }

/-- 'marginalialaw01.RopeMerges', WHERE WHAT IT READS IS OF BULK AT MOST 1048576: true; the input reads as it did. -/
def ropeMergesUptoRow : OpenClaim := { program := "ytmbpjjehnfjdiaa", sum := "72cc2524116fcb25981a30f610f13232b90be81134d7ed436f3bae4dc09407ff", func := "marginalia/marginalialaw01.RopeMerges", spec := "ropeMerges", inPlace := ["internal/abi.NoEscape"], recurses := true, apart := false, narrowed := true }
def RopeMergesUptoSaid : Prop := ropeMergesUptoRow.holds Try.pinned (OpenSpec.upto ropeMergesSpec)

/-- 'marginalialaw01.RopeEdits', WHERE WHAT IT READS IS OF BULK AT MOST 1048576: true; the input reads as it did. -/
def ropeEditsUptoRow : OpenClaim := { program := "ytmbpjjehnfjdiaa", sum := "72cc2524116fcb25981a30f610f13232b90be81134d7ed436f3bae4dc09407ff", func := "marginalia/marginalialaw01.RopeEdits", spec := "ropeEdits", inPlace := ["internal/abi.NoEscape"], recurses := true, apart := false, narrowed := true }
def RopeEditsUptoSaid : Prop := ropeEditsUptoRow.holds Try.pinned (OpenSpec.upto ropeEditsSpec)

/-- 'marginalialaw01.RopePieces', WHERE WHAT IT READS IS OF BULK AT MOST 1048576: true; the input reads as it did. -/
def ropePiecesUptoRow : OpenClaim := { program := "ytmbpjjehnfjdiaa", sum := "72cc2524116fcb25981a30f610f13232b90be81134d7ed436f3bae4dc09407ff", func := "marginalia/marginalialaw01.RopePieces", spec := "ropePieces", inPlace := ["internal/abi.NoEscape"], recurses := true, apart := false, narrowed := true }
def RopePiecesUptoSaid : Prop := ropePiecesUptoRow.holds Try.pinned (OpenSpec.upto ropePiecesSpec)

/-- 'marginalialaw01.RopeThen', WHERE WHAT IT READS IS OF BULK AT MOST 1048576: true; the input reads as it did. -/
def ropeThenUptoRow : OpenClaim := { program := "ytmbpjjehnfjdiaa", sum := "72cc2524116fcb25981a30f610f13232b90be81134d7ed436f3bae4dc09407ff", func := "marginalia/marginalialaw01.RopeThen", spec := "ropeThen", inPlace := ["internal/abi.NoEscape"], recurses := true, apart := false, narrowed := true }
def RopeThenUptoSaid : Prop := ropeThenUptoRow.holds Try.pinned (OpenSpec.upto ropeThenSpec)

/-- 'marginalialaw01.RopeOwn', WHERE WHAT IT READS IS OF BULK AT MOST 1048576: true; the input reads as it did. -/
def ropeOwnUptoRow : OpenClaim := { program := "ytmbpjjehnfjdiaa", sum := "72cc2524116fcb25981a30f610f13232b90be81134d7ed436f3bae4dc09407ff", func := "marginalia/marginalialaw01.RopeOwn", spec := "ropeOwn", inPlace := ["internal/abi.NoEscape"], recurses := true, apart := false, narrowed := true }
def RopeOwnUptoSaid : Prop := ropeOwnUptoRow.holds Try.pinned (OpenSpec.upto ropeOwnSpec)

end Rows
end Go.Proofs.Ytmbpjjehnfjdiaa
