/-
  Plain mathematics of Quote and Unquote.
-/
import Derived.Test.YtkdnacniligjjaaDoorRelexCommonsp2
namespace Go.Proofs.YtkdnacniligjjaaDoor
set_option linter.unusedVariables false
set_option linter.unusedSimpArgs false

/-- how a byte is written -/
def qByte (b : UInt8) : List UInt8 := if ((b.toNat : Int) == 10) then [92, 110] else if ((b.toNat : Int) == 34) then [92, b] else if ((b.toNat : Int) == 92) then [92, b] else [b]
def qList : List UInt8 → List UInt8
  | [] => []
  | b :: l => qByte b ++ qList l
theorem qByte_le (b : UInt8) : 1 ≤ (qByte b).length ∧ (qByte b).length ≤ 2 := by
  unfold qByte; repeat' split
  all_goals simp
theorem qList_le : ∀ l, l.length ≤ (qList l).length ∧ (qList l).length ≤ 2 * l.length
  | [] => ⟨Nat.le_refl _, Nat.le_refl _⟩
  | b :: l => by
    have := qList_le l
    have := qByte_le b
    simp only [qList, List.length_append, List.length_cons]
    omega
theorem qList_step {l : List UInt8} {k : Nat} (h : k < l.length) : qList (l.drop k) = qByte l[k] ++ qList (l.drop (k + 1)) := by rw [List.drop_eq_getElem_cons h]; rfl
theorem qList_end {l : List UInt8} {k : Nat} (h : l.length ≤ k) : qList (l.drop k) = [] := by rw [List.drop_eq_nil_of_le h]; rfl
/-- the text of a string -/
def quoteL (l : List UInt8) : List UInt8 := 34 :: qList l ++ [34]
def quoteB (s : ByteArray) : ByteArray := ⟨(quoteL (byt s)).toArray⟩
theorem quoteL_length (l : List UInt8) : (quoteL l).length = (qList l).length + 2 := by simp [quoteL]

/-- the byte for which the beginning of a TkText's inside stands -/
def plainC (s : ByteArray) : UInt8 := if ((b0 s).toNat : Int) == 92 then (if ((b1 s).toNat : Int) == 110 then 10 else b1 s) else b0 s
theorem plainP_C {s : ByteArray} (h : 0 < (plainP s).2) : (plainP s).1 = ((plainC s).toNat : Int) := by
  unfold plainP at h ⊢
  unfold plainC
  split at h
  · simp at h
  · split at h
    · simp at h
    · rename_i h1 h2
      rw [if_neg h1, if_neg h2]
      split at h
      · rename_i h3
        rw [if_pos h3, if_pos h3]
        unfold pairP at h ⊢
        split at h
        · simp at h
        · rename_i h4
          rw [if_neg h4]
          split at h
          · rename_i h5
            rw [if_pos h5, if_pos h5]; rfl
          · rename_i h5
            rw [if_neg h5, if_neg h5]
            split at h
            · rename_i h6
              rw [if_pos h6]
            · rename_i h6
              rw [if_neg h6]
              split at h
              · rename_i h7
                rw [if_pos h7]
              · simp at h
      · rename_i h3
        rw [if_neg h3, if_neg h3]
/-- the string of a TkText's inside: up to the last byte -/
def unqF : Nat → ByteArray → List UInt8
  | 0, _ => []
  | f + 1, s => if s.size ≤ 1 then [] else plainC s :: unqF f (s.extract (plainP s).2 s.size)
end Go.Proofs.YtkdnacniligjjaaDoor
