/-
  Plain mathematics of Diff: common beginnings and ends.
-/
import Derived.Test.YtkaceghngjpemaaDoorMathB
namespace Go.Proofs.YtkaceghngjpemaaDoor
set_option linter.unusedVariables false
set_option linter.unusedSimpArgs false

/-- how many equal bytes two lists begin with -/
def cpre : List UInt8 → List UInt8 → Nat
  | a :: x, b :: y => if a = b then cpre x y + 1 else 0
  | _, _ => 0
theorem cpre_le : ∀ (x y : List UInt8), cpre x y ≤ x.length ∧ cpre x y ≤ y.length
  | [], y => by simp [cpre]
  | a :: x, [] => by simp [cpre]
  | a :: x, b :: y => by
    have := cpre_le x y
    simp only [cpre, List.length_cons]
    split <;> omega
theorem cpre_step {x y : List UInt8} {k : Nat} (hx : k < x.length) (hy : k < y.length) (h : x[k] = y[k]) : cpre (x.drop k) (y.drop k) = cpre (x.drop (k + 1)) (y.drop (k + 1)) + 1 := by
  rw [List.drop_eq_getElem_cons hx, List.drop_eq_getElem_cons hy]
  simp [cpre, h]
theorem cpre_stop {x y : List UInt8} {k : Nat} (hx : k < x.length) (hy : k < y.length) (h : x[k] ≠ y[k]) : cpre (x.drop k) (y.drop k) = 0 := by
  rw [List.drop_eq_getElem_cons hx, List.drop_eq_getElem_cons hy]
  simp [cpre, h]
theorem cpre_end {x y : List UInt8} {k : Nat} (h : x.length ≤ k ∨ y.length ≤ k) : cpre (x.drop k) (y.drop k) = 0 := by
  rcases h with h | h
  · rw [List.drop_of_length_le h]; simp [cpre]
  · rw [List.drop_of_length_le h]; cases x.drop k <;> simp [cpre]
def byt (s : ByteArray) : List UInt8 := s.data.toList
theorem byt_length (s : ByteArray) : (byt s).length = s.size := size_toList s
theorem byt_get (s : ByteArray) (k : Nat) (h : k < s.size) (h2 : k < (byt s).length) : (byt s)[k] = s[k] := rfl
/-- the byte that many from the end -/
theorem rev_get (s : ByteArray) (k : Nat) (h : k < s.size) (h2 : k < (byt s).reverse.length) : (byt s).reverse[k] = s[s.size - 1 - k]'(by omega) := by
  rw [List.getElem_reverse]
  have e : (byt s).length - 1 - k = s.size - 1 - k := by rw [byt_length]
  have : (byt s)[(byt s).length - 1 - k]'(by rw [byt_length]; omega) = (byt s)[s.size - 1 - k]'(by rw [byt_length]; omega) := getElem_congr_idx e
  exact this
theorem rev_length (s : ByteArray) : (byt s).reverse.length = s.size := by rw [List.length_reverse, byt_length]
theorem byt_drop (s : ByteArray) (p : Nat) : byt (s.extract p s.size) = (byt s).drop p := by
  show sub s p s.size = _
  rw [sub_eq]
  apply List.take_of_length_le
  simp
def diffL (a b : ByteArray) : List Ed :=
  if a = b then []
  else [⟨cpre (byt a) (byt b), (a.size : Int) - cpre ((byt a).drop (cpre (byt a) (byt b))).reverse ((byt b).drop (cpre (byt a) (byt b))).reverse,
    b.extract (cpre (byt a) (byt b)) (b.size - cpre ((byt a).drop (cpre (byt a) (byt b))).reverse ((byt b).drop (cpre (byt a) (byt b))).reverse)⟩]
end Go.Proofs.YtkaceghngjpemaaDoor
