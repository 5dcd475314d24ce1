/-
  Plain mathematics of placed and Invert.
-/
import Derived.Test.YtmdgclcakogggaaMathC
namespace Go.Proofs.Ytmdgclcakogggaa
set_option linter.unusedVariables false
set_option linter.unusedSimpArgs false

/-- where the New of each edit stands -/
def placedL : Int → List Ed → List (Int × Int)
  | _, [] => []
  | sh, e :: l => (e.f + sh, e.f + sh + e.s.size) :: placedL (sh + growE e) l
theorem placedL_length : ∀ (sh : Int) (l : List Ed), (placedL sh l).length = l.length
  | _, [] => rfl
  | sh, e :: l => by simp [placedL, placedL_length]
theorem placedL_get : ∀ (sh : Int) (l : List Ed) (k : Nat) (h : k < l.length) (h2 : k < (placedL sh l).length),
    (placedL sh l)[k] = (l[k].f + (sh + sumG (l.take k)), l[k].f + (sh + sumG (l.take k)) + l[k].s.size)
  | _, [], k, h, _ => by simp at h
  | sh, e :: l, 0, h, _ => by simp [placedL, sumG]
  | sh, e :: l, k + 1, h, h2 => by
    have := placedL_get (sh + growE e) l k (by simpa using h) (by rw [placedL_length]; simpa using h)
    simp only [placedL, List.getElem_cons_succ, List.take_succ_cons, sumG]
    rw [this]
    simp only [Prod.mk.injEq]
    omega
/-- the edits that make the old string of the new one -/
def invertL (t : ByteArray) : Int → List Ed → List Ed
  | _, [] => []
  | sh, e :: l => ⟨e.f + sh, e.f + sh + e.s.size, t.extract e.f.toNat e.t.toNat⟩ :: invertL t (sh + growE e) l
theorem invertL_length (t : ByteArray) : ∀ (sh : Int) (l : List Ed), (invertL t sh l).length = l.length
  | _, [] => rfl
  | sh, e :: l => by simp [invertL, invertL_length]
theorem invertL_get (t : ByteArray) : ∀ (sh : Int) (l : List Ed) (k : Nat) (h : k < l.length) (h2 : k < (invertL t sh l).length),
    (invertL t sh l)[k] = ⟨l[k].f + (sh + sumG (l.take k)), l[k].f + (sh + sumG (l.take k)) + l[k].s.size, t.extract l[k].f.toNat l[k].t.toNat⟩
  | _, [], k, h, _ => by simp at h
  | sh, e :: l, 0, h, _ => by simp [invertL, sumG]
  | sh, e :: l, k + 1, h, h2 => by
    have := invertL_get t (sh + growE e) l k (by simpa using h) (by rw [invertL_length]; simpa using h)
    simp only [invertL, List.getElem_cons_succ, List.take_succ_cons, sumG]
    rw [this]
    simp only [Ed.mk.injEq, and_true]
    omega
theorem take_set2 {α : Type} (xs : List α) (j : Nat) (u v : α) (h : j + 2 ≤ xs.length) : ((xs.set j u).set (j + 1) v).take (j + 2) = xs.take j ++ [u, v] := by
  apply List.ext_getElem?
  intro i
  by_cases hi : i < j
  · simp [List.getElem?_take, List.getElem?_append, List.getElem?_set, hi, show i < j + 2 by omega, show ¬ j + 1 = i by omega, show ¬ j = i by omega, show i < xs.length by omega, show min j xs.length = j by omega]
  · by_cases h1 : i = j
    · subst h1
      simp [List.getElem?_take, List.getElem?_append, List.getElem?_set, show min i xs.length = i by omega, show i < xs.length by omega]
    · by_cases h2 : i = j + 1
      · subst h2
        simp [List.getElem?_take, List.getElem?_append, List.getElem?_set, show min j xs.length = j by omega, show j + 1 < xs.length by omega]
      · have e1 : i - j = (i - j - 2) + 2 := by omega
        simp only [List.getElem?_take, List.getElem?_append, List.length_take, show min j xs.length = j by omega, show ¬ i < j + 2 by omega, hi, if_false]
        rw [e1]; simp
theorem take_set3 {α : Type} (xs : List α) (j : Nat) (u v x : α) (h : j + 3 ≤ xs.length) : (((xs.set j u).set (j + 1) v).set (j + 2) x).take (j + 3) = xs.take j ++ [u, v, x] := by
  have h1 := take_set2 xs j u v (by omega)
  have h2 : (((xs.set j u).set (j + 1) v).set (j + 2) x).take (j + 3) = ((xs.set j u).set (j + 1) v).take (j + 2) ++ [x] := by
    rw [List.take_add_one, List.take_set_of_le (by omega)]
    simp [List.getElem?_set, show j + 2 < xs.length by omega]
  rw [h2, h1]; simp
end Go.Proofs.Ytmdgclcakogggaa
