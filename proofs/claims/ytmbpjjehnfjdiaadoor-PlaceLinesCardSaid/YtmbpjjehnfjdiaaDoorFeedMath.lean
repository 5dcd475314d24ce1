/-
  Plain mathematics of line feeds and lines.
-/
import Derived.Test.YtmbpjjehnfjdiaaDoorPcMath
namespace Go.Proofs.YtmbpjjehnfjdiaaDoor
set_option linter.unusedVariables false
set_option linter.unusedSimpArgs false

theorem feedsL_cons (x : UInt8) (l : List UInt8) : feedsL (x :: l) = (if x = 10 then 1 else 0) + feedsL l := by
  by_cases h : x = 10
  · simp [feedsL, h]; omega
  · simp [feedsL, h]
/-- where the n-th line feed is, or the length -/
def feedAt : List UInt8 → Nat → Nat
  | [], _ => 0
  | x :: l, n => if x = 10 then (if n = 0 then 0 else feedAt l (n - 1) + 1) else feedAt l n + 1
theorem feedAt_feed (l : List UInt8) : feedAt (10 :: l) 0 = 0 := by simp [feedAt]
theorem feedAt_feed_succ (l : List UInt8) (n : Nat) : feedAt (10 :: l) (n + 1) = feedAt l n + 1 := by simp [feedAt]
theorem feedAt_other {x : UInt8} (l : List UInt8) (n : Nat) (h : x ≠ 10) : feedAt (x :: l) n = feedAt l n + 1 := by simp [feedAt, h]
theorem feedAt_left : ∀ (a b : List UInt8) (n : Nat), n < feedsL a → feedAt (a ++ b) n = feedAt a n
  | [], b, n, h => by simp [feedsL] at h
  | x :: a, b, n, h => by
    rw [feedsL_cons] at h
    by_cases hx : x = 10
    · subst hx
      cases n with
      | zero => simp [feedAt]
      | succ n =>
        rw [List.cons_append, feedAt_feed_succ, feedAt_feed_succ, feedAt_left a b n (by simp at h; omega)]
    · rw [if_neg hx] at h
      rw [List.cons_append, feedAt_other _ _ hx, feedAt_other _ _ hx, feedAt_left a b n (by omega)]
theorem feedAt_right : ∀ (a b : List UInt8) (n : Nat), feedsL a ≤ n → feedAt (a ++ b) n = a.length + feedAt b (n - feedsL a)
  | [], b, n, h => by simp [feedsL]
  | x :: a, b, n, h => by
    rw [feedsL_cons] at h
    rw [feedsL_cons]
    by_cases hx : x = 10
    · subst hx
      cases n with
      | zero => simp at h
      | succ n =>
        rw [List.cons_append, feedAt_feed_succ, feedAt_right a b n (by simp at h; omega)]
        simp only [if_true, List.length_cons]
        rw [show n + 1 - (1 + feedsL a) = n - feedsL a by omega]; omega
    · rw [if_neg hx] at h
      rw [List.cons_append, feedAt_other _ _ hx, feedAt_right a b n (by omega), if_neg hx]
      simp only [List.length_cons, Nat.zero_add]; omega
theorem feedAt_lt : ∀ (l : List UInt8) (n : Nat), n < feedsL l → feedAt l n < l.length
  | [], n, h => by simp [feedsL] at h
  | x :: l, n, h => by
    rw [feedsL_cons] at h
    by_cases hx : x = 10
    · subst hx
      cases n with
      | zero => simp [feedAt]
      | succ n => rw [feedAt_feed_succ]; have := feedAt_lt l n (by simp at h; omega); simp; omega
    · rw [if_neg hx] at h
      rw [feedAt_other _ _ hx]; have := feedAt_lt l n (by omega); simp; omega
theorem feedAt_none : ∀ (l : List UInt8) (n : Nat), feedsL l ≤ n → feedAt l n = l.length
  | [], n, h => rfl
  | x :: l, n, h => by
    rw [feedsL_cons] at h
    by_cases hx : x = 10
    · subst hx
      cases n with
      | zero => simp at h
      | succ n => rw [feedAt_feed_succ, feedAt_none l n (by simp at h; omega)]; simp
    · rw [if_neg hx] at h
      rw [feedAt_other _ _ hx, feedAt_none l n (by omega)]; simp
theorem feedAt_le (l : List UInt8) (n : Nat) : feedAt l n ≤ l.length := by
  by_cases h : n < feedsL l
  · exact Nat.le_of_lt (feedAt_lt l n h)
  · rw [feedAt_none l n (by omega)]; exact Nat.le_refl _
theorem feedAt_drop_other {l : List UInt8} {k n : Nat} (hk : k < l.length) (h : l[k] ≠ 10) : feedAt (l.drop k) n = feedAt (l.drop (k + 1)) n + 1 := by
  rw [List.drop_eq_getElem_cons hk, feedAt_other _ _ h]
theorem feedAt_drop_feed {l : List UInt8} {k n : Nat} (hk : k < l.length) (h : l[k] = 10) : feedAt (l.drop k) (n + 1) = feedAt (l.drop (k + 1)) n + 1 := by
  rw [List.drop_eq_getElem_cons hk, h, feedAt_feed_succ]
theorem feedAt_drop_zero {l : List UInt8} {k : Nat} (hk : k < l.length) (h : l[k] = 10) : feedAt (l.drop k) 0 = 0 := by
  rw [List.drop_eq_getElem_cons hk, h, feedAt_feed]

/-- the spans of the lines of what is left from i on, of which the first one began at fr -/
def linesL : Nat → Nat → List UInt8 → List (Int × Int)
  | fr, i, [] => [((fr : Int), (i : Int))]
  | fr, i, x :: l => if x = 10 then ((fr : Int), (i : Int)) :: linesL (i + 1) (i + 1) l else linesL fr (i + 1) l
theorem linesL_length : ∀ (fr i : Nat) (l : List UInt8), (linesL fr i l).length = feedsL l + 1
  | fr, i, [] => rfl
  | fr, i, x :: l => by
    rw [feedsL_cons]
    by_cases hx : x = 10
    · simp only [linesL, hx, if_true, List.length_cons]; rw [linesL_length]; omega
    · simp only [linesL, hx, if_false]; rw [linesL_length]; omega
theorem linesL_get : ∀ (fr i : Nat) (l : List UInt8) (n : Nat), n ≤ feedsL l →
    (linesL fr i l)[n]? = some ((if n = 0 then (fr : Int) else (i : Int) + feedAt l (n - 1) + 1), (i : Int) + feedAt l n)
  | fr, i, [], n, h => by
    have : n = 0 := by simp [feedsL] at h; exact h
    subst this
    simp [linesL, feedAt]
  | fr, i, x :: l, n, h => by
    rw [feedsL_cons] at h
    by_cases hx : x = 10
    · subst hx
      simp only [linesL, if_true]
      cases n with
      | zero => simp [feedAt]
      | succ n =>
        rw [List.getElem?_cons_succ, linesL_get (i + 1) (i + 1) l n (by simp at h; omega)]
        cases n with
        | zero => simp [feedAt]; omega
        | succ n => simp [feedAt_feed_succ]; omega
    · rw [if_neg hx] at h
      simp only [linesL, hx, if_false]
      rw [linesL_get fr (i + 1) l n (by omega), feedAt_other _ _ hx, feedAt_other _ _ hx]
      by_cases h0 : n = 0
      · simp [h0]; omega
      · simp [h0]; omega
/-- the span of line n -/
def lineAt (x : List UInt8) (n : Nat) : Int × Int := (if n = 0 then 0 else (feedAt x (n - 1) : Int) + 1, (feedAt x n : Int))
def linesOf (x : List UInt8) : List (Int × Int) := linesL 0 0 x
theorem linesOf_length (x : List UInt8) : (linesOf x).length = feedsL x + 1 := linesL_length 0 0 x
theorem linesOf_get (x : List UInt8) (n : Nat) (h : n ≤ feedsL x) : (linesOf x)[n]? = some (lineAt x n) := by
  unfold linesOf lineAt
  rw [linesL_get 0 0 x n h]
  simp
end Go.Proofs.YtmbpjjehnfjdiaaDoor
