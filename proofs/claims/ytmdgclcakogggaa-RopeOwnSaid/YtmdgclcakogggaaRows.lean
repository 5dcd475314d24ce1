/-
  No cell of these rows narrows 'for every input' (looked for: loops, veiled, ifaces, maps, wideKeys, modest, calm, conditions, laid).
  DERIVED. THE GIVEN ROWS OF THIS SEAT. 3 by the template 'for every input the law returns true; each argument reads behind the call as it read before'; 0 by the template 'total and deterministic' (their statements: YtmdgclcakogggaaTotals.lean).
  GIVEN WITH THE SEED: the statements are not yours to turn. If you find one false, say at which input.
  Laid BY PROGRAM, IN A SANDBOX (cutbox-rows.mjs): the forced cells as the released guide's own fill.sh prints them over the translation 32f792daef25fbbe… (all of the seat's roots in one cut). By AI agents, Wed Nov 11 2026. No macro, syntax, notation, axiom, sorry.
-/
import Derived.Test.YtmdgclcakogggaaChecked
import GoSem.Claim
import GoSem.ClaimJoined
import GoSem.ClaimMapViews
import Derived.JoinedTies
import Derived.KernelRfl
namespace Go.Proofs.Ytmdgclcakogggaa
/- THE CELL 'sum', in the pinned program and in every row, IS THE sha256 OF THE DUMP (.gsa) THAT YtmdgclcakogggaaProg.lean LOADS. Nothing in Lean hashes anything: it is a label: what it is worth is what the hold of that sum in a sandbox is worth. -/
noncomputable def Try.pinned : Pinned := { name := "ytmdgclcakogggaa", sum := "32f792daef25fbbef54b8d9e3999e53a345180c002854e1358aad9c9c9f8c96e", checked := Try.checked }
namespace Rows
def none {H : Type} : Left H := { results := [], args := [] }

/-- 'marginalialaw01.RopeOwn': WHATEVER THE INPUT: true; the input reads as it did. -/
def ropeOwnSpec : ChangeSpec := { name := "ropeOwn", fn := fun _ => fun
  | [d1, d2, d3] => { results := [.lit (.bool true)], args := [d1, d2, d3] }
  | _ => none }
def ropeOwnRow : OpenClaim := { program := "ytmdgclcakogggaa", sum := "32f792daef25fbbef54b8d9e3999e53a345180c002854e1358aad9c9c9f8c96e", func := "marginalia/marginalialaw01.RopeOwn", spec := "ropeOwn", inPlace := ["internal/abi.NoEscape"], recurses := true, apart := false }
def RopeOwnSaid : Prop := ropeOwnRow.holds Try.pinned (OpenSpec.ofChange ropeOwnSpec)

/-- ITS FALSE NEIGHBOUR: 'it returns false'. Refute it at one input. -/
def ropeOwnWrong : ChangeSpec := { name := "ropeOwn", fn := fun _ => fun
  | [d1, d2, d3] => { results := [.lit (.bool false)], args := [d1, d2, d3] }
  | _ => none }
def RopeOwnWrongFalsely : Prop := ropeOwnRow.holds Try.pinned (OpenSpec.ofChange ropeOwnWrong)

/-- 'marginalialaw01.RopeThen': WHATEVER THE INPUT: true; the input reads as it did. -/
def ropeThenSpec : ChangeSpec := { name := "ropeThen", fn := fun _ => fun
  | [d1, d2, d3] => { results := [.lit (.bool true)], args := [d1, d2, d3] }
  | _ => none }
def ropeThenRow : OpenClaim := { program := "ytmdgclcakogggaa", sum := "32f792daef25fbbef54b8d9e3999e53a345180c002854e1358aad9c9c9f8c96e", func := "marginalia/marginalialaw01.RopeThen", spec := "ropeThen", inPlace := ["internal/abi.NoEscape"], recurses := true, apart := false }
def RopeThenSaid : Prop := ropeThenRow.holds Try.pinned (OpenSpec.ofChange ropeThenSpec)

/-- ITS FALSE NEIGHBOUR: 'it returns false'. Refute it at one input. -/
def ropeThenWrong : ChangeSpec := { name := "ropeThen", fn := fun _ => fun
  | [d1, d2, d3] => { results := [.lit (.bool false)], args := [d1, d2, d3] }
  | _ => none }
def RopeThenWrongFalsely : Prop := ropeThenRow.holds Try.pinned (OpenSpec.ofChange ropeThenWrong)

/-- 'marginalialaw01.RopeMerges': WHATEVER THE INPUT: true; the input reads as it did. -/
def ropeMergesSpec : ChangeSpec := { name := "ropeMerges", fn := fun _ => fun
  | [d1, d2, d3] => { results := [.lit (.bool true)], args := [d1, d2, d3] }
  | _ => none }
def ropeMergesRow : OpenClaim := { program := "ytmdgclcakogggaa", sum := "32f792daef25fbbef54b8d9e3999e53a345180c002854e1358aad9c9c9f8c96e", func := "marginalia/marginalialaw01.RopeMerges", spec := "ropeMerges", inPlace := ["internal/abi.NoEscape"], recurses := true, apart := false }
def RopeMergesSaid : Prop := ropeMergesRow.holds Try.pinned (OpenSpec.ofChange ropeMergesSpec)

/-- ITS FALSE NEIGHBOUR: 'it returns false'. Refute it at one input. -/
def ropeMergesWrong : ChangeSpec := { name := "ropeMerges", fn := fun _ => fun
  | [d1, d2, d3] => { results := [.lit (.bool false)], args := [d1, d2, d3] }
  | _ => none }
def RopeMergesWrongFalsely : Prop := ropeMergesRow.holds Try.pinned (OpenSpec.ofChange ropeMergesWrong)

/- THE SECOND FORM. 'bulk': how many values and letters a reading holds, each counted each time it is reached (what is shared counts as often as it is met; a slice's spare places count too). A statement '..UptoSaid' is the law's where the arguments, and the package variables that the reading takes, are together of bulk at most 1048576: NARROWER than '..Said'. Prove '..Said' where nothing that the law and all that it calls make is longer than what came in: it says more and counts as full. Else prove '..UptoSaid'. A law counts once. -/
mutual
def uptoBulk {H : Type} : DataW H → Nat
  | .lit (.string bytes) => bytes.length + 1
  | .lit _ => 1
  | .nil => 1
  | .ptr d => uptoBulk d + 1
  | .slice elems spare => uptoBulkAll elems + uptoBulkAll spare + 1
  | .agg parts => uptoBulkAll parts + 1
  | .iface _ d => uptoBulk d + 1
  | .map entries => uptoBulkEntries entries + 1
  | .held _ => 1
def uptoBulkAll {H : Type} : List (DataW H) → Nat
  | [] => 0
  | d :: r => uptoBulk d + uptoBulkAll r
def uptoBulkEntries {H : Type} : List (Lit × DataW H) → Nat
  | [] => 0
  | x :: r => uptoBulkEntry x + uptoBulkEntries r
def uptoBulkEntry {H : Type} : Lit × DataW H → Nat
  | (.string bytes, d) => bytes.length + uptoBulk d + 1
  | (_, d) => uptoBulk d + 1
 end
def uptoSmall : (H : Type) → List (DataW H) → Bool := fun _ ds => decide (uptoBulkAll ds ≤ 1048576)
def OpenSpec.upto (s : _root_.Go.ChangeSpec) : _root_.Go.OpenSpec := { _root_.Go.OpenSpec.ofChange s with cond := some uptoSmall }

/-- 'marginalialaw01.RopeOwn', WHERE WHAT IT READS IS OF BULK AT MOST 1048576: true; the input reads as it did. -/
def ropeOwnUptoRow : OpenClaim := { program := "ytmdgclcakogggaa", sum := "32f792daef25fbbef54b8d9e3999e53a345180c002854e1358aad9c9c9f8c96e", func := "marginalia/marginalialaw01.RopeOwn", spec := "ropeOwn", inPlace := ["internal/abi.NoEscape"], recurses := true, apart := false, narrowed := true }
def RopeOwnUptoSaid : Prop := ropeOwnUptoRow.holds Try.pinned (OpenSpec.upto ropeOwnSpec)

/-- 'marginalialaw01.RopeThen', WHERE WHAT IT READS IS OF BULK AT MOST 1048576: true; the input reads as it did. -/
def ropeThenUptoRow : OpenClaim := { program := "ytmdgclcakogggaa", sum := "32f792daef25fbbef54b8d9e3999e53a345180c002854e1358aad9c9c9f8c96e", func := "marginalia/marginalialaw01.RopeThen", spec := "ropeThen", inPlace := ["internal/abi.NoEscape"], recurses := true, apart := false, narrowed := true }
def RopeThenUptoSaid : Prop := ropeThenUptoRow.holds Try.pinned (OpenSpec.upto ropeThenSpec)

/-- 'marginalialaw01.RopeMerges', WHERE WHAT IT READS IS OF BULK AT MOST 1048576: true; the input reads as it did. -/
def ropeMergesUptoRow : OpenClaim := { program := "ytmdgclcakogggaa", sum := "32f792daef25fbbef54b8d9e3999e53a345180c002854e1358aad9c9c9f8c96e", func := "marginalia/marginalialaw01.RopeMerges", spec := "ropeMerges", inPlace := ["internal/abi.NoEscape"], recurses := true, apart := false, narrowed := true }
def RopeMergesUptoSaid : Prop := ropeMergesUptoRow.holds Try.pinned (OpenSpec.upto ropeMergesSpec)

end Rows
end Go.Proofs.Ytmdgclcakogggaa
