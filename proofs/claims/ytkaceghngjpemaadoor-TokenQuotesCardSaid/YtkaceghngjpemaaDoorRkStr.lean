/-
  A slice of strings in memory; the specification's lists of words and signs, and its has.
-/
import Derived.Test.YtkaceghngjpemaaDoorRkMath
import Derived.Test.YtkaceghngjpemaaDoorTkIs
namespace Go.Proofs.YtkaceghngjpemaaDoor
set_option linter.unusedVariables false
set_option linter.unusedSimpArgs false
open Go.RowKit

def StrsV (w : World) (b : Nat) (l : List ByteArray) : Prop := b < w.heap.size ∧ ∀ i s, l[i]? = some s → w.cell? ⟨b, i, none⟩ = some (.string s)
theorem StrsV.below {w w' : World} {b : Nat} {l : List ByteArray} (h : StrsV w b l) (hb : Below w.heap.size w w') : StrsV w' b l :=
  ⟨Nat.lt_of_lt_of_le h.1 hb.size, fun i s hi => (hb.cell h.1).trans (h.2 i s hi)⟩
theorem StrsV.drewN {w : World} {b : Nat} {l : List ByteArray} (h : StrsV w b l) (n : Nat) : StrsV (w.drewN n) b l := ⟨h.1, h.2⟩
theorem StrsV.drew {w : World} {b : Nat} {l : List ByteArray} (h : StrsV w b l) : StrsV w.drew b l := ⟨h.1, h.2⟩
theorem StrsV.block {w : World} {b : Nat} {cs : Array Value} {l : List ByteArray} {t : TypeId} {fr : Nat × Nat} (h : w.heap[b]? = some (.cells cs t fr)) (hcs : cs.toList = l.map .string) : StrsV w b l := by
  refine ⟨?_, fun i s hi => ?_⟩
  · rcases Nat.lt_or_ge b w.heap.size with hlt | hge
    · exact hlt
    · rw [Array.getElem?_eq_none hge] at h; cases h
  · have : w.cell? ⟨b, i, none⟩ = cs.toList[i]? := by rw [Array.getElem?_toList]; simp [World.cell?, h]
    rw [this, hcs, List.getElem?_map, hi]; rfl
end Go.Proofs.YtkaceghngjpemaaDoor
