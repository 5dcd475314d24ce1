/-
  A slice of edits that comes back; bytes from the end.
-/
import Derived.Test.YtmdgclcakogggaaDiff
namespace Go.Proofs.Ytmdgclcakogggaa
set_option linter.unusedVariables false
set_option linter.unusedSimpArgs false
open Go.RowKit

/-- a slice comes back -/
def GivesSl (w : World) (l : List Ed) (e : Ending) (w' : World) : Prop :=
  ∃ A c, e = .returned (.slice A l.length c) ∧ EdsV w' A l ∧ (∀ ad, A = some ad → w.heap.size ≤ ad.block) ∧ Below w.heap.size w w'
theorem GivesSl.empty {w w' : World} (h : Below w.heap.size w w') : GivesSl w [] (.returned (.slice none 0 0)) w' :=
  ⟨none, 0, rfl, EdsV.nil _ _, (fun _ hx => by cases hx), h⟩
theorem GivesSl.of_own {w w' : World} {l : List Ed} {v : Value} (h : w'.ownsRow w.heap.size 35 3 v l.length (edsCells l)) (hb : Below w.heap.size w w') : GivesSl w l (.returned v) w' := by
  obtain ⟨A, c, rfl, h1, h2⟩ := EdsV.of_own h
  exact ⟨A, c, rfl, h1, h2, hb⟩

theorem dropRev_length (s : ByteArray) (p : Nat) : ((byt s).drop p).reverse.length = s.size - p := by rw [List.length_reverse, List.length_drop, byt_length]
theorem dropRev_get (s : ByteArray) (p k : Nat) (h : k < s.size - p) (h2 : k < ((byt s).drop p).reverse.length) : ((byt s).drop p).reverse[k] = s[s.size - 1 - k]'(by omega) := by
  rw [List.getElem_reverse, List.getElem_drop]
  have e : p + (((byt s).drop p).length - 1 - k) = s.size - 1 - k := by rw [List.length_drop, byt_length]; omega
  have : (byt s)[p + (((byt s).drop p).length - 1 - k)]'(by rw [byt_length]; omega) = (byt s)[s.size - 1 - k]'(by rw [byt_length]; omega) := getElem_congr_idx e
  exact this

end Go.Proofs.Ytmdgclcakogggaa
