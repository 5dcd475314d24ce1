/-
  Plain mathematics of layer 3: bytes, runs, words, signs.
-/
import Derived.Test.YtkaceghngjpemaaDoorMathC
namespace Go.Proofs.YtkaceghngjpemaaDoor
set_option linter.unusedVariables false
set_option linter.unusedSimpArgs false

def blankB (b : UInt8) : Bool := (b.toNat : Int) == 32 || (b.toNat : Int) == 9 || (b.toNat : Int) == 10 || (b.toNat : Int) == 13
def digitB (b : UInt8) : Bool := decide (48 ≤ (b.toNat : Int)) && decide ((b.toNat : Int) ≤ 57)
def greatB (b : UInt8) : Bool := decide (65 ≤ (b.toNat : Int)) && decide ((b.toNat : Int) ≤ 90)
def partB (b : UInt8) : Bool := decide (97 ≤ (b.toNat : Int)) && decide ((b.toNat : Int) ≤ 122) || greatB b || digitB b || (b.toNat : Int) == 95
def lineB (b : UInt8) : Bool := (b.toNat : Int) != 10

/-- how many bytes of one sort are at the beginning -/
def runL (p : UInt8 → Bool) : List UInt8 → Nat
  | [] => 0
  | b :: l => if p b then runL p l + 1 else 0
theorem runL_le (p : UInt8 → Bool) : ∀ l, runL p l ≤ l.length
  | [] => Nat.le_refl _
  | b :: l => by simp only [runL]; split <;> simp <;> have := runL_le p l <;> omega
theorem runL_step {p : UInt8 → Bool} {l : List UInt8} {k : Nat} (h : k < l.length) (hp : p l[k] = true) : runL p (l.drop k) = runL p (l.drop (k + 1)) + 1 := by
  rw [List.drop_eq_getElem_cons h]; simp only [runL]; rw [if_pos hp]
theorem runL_stop {p : UInt8 → Bool} {l : List UInt8} {k : Nat} (h : k < l.length) (hp : p l[k] = false) : runL p (l.drop k) = 0 := by
  rw [List.drop_eq_getElem_cons h]; simp only [runL]; rw [if_neg (by simp [hp])]
theorem runL_end {p : UInt8 → Bool} {l : List UInt8} {k : Nat} (h : l.length ≤ k) : runL p (l.drop k) = 0 := by rw [List.drop_eq_nil_of_le h]; rfl

/-- the words and the signs of the chapter, in rising order -/
def wordsB : List ByteArray := [mkB [100, 101, 102], mkB [101, 108, 115, 101], mkB [102, 97, 108, 115, 101], mkB [102, 110], mkB [105, 102], mkB [105, 109, 112, 111, 114, 116], mkB [105, 110], mkB [108, 101, 116], mkB [109, 97, 116, 99, 104], mkB [116, 104, 101, 110], mkB [116, 114, 117, 101], mkB [116, 121, 112, 101]]
def signsB : List ByteArray := [mkB [33], mkB [38, 38], mkB [40], mkB [41], mkB [42], mkB [43], mkB [44], mkB [45], mkB [45, 62], mkB [46], mkB [58], mkB [59], mkB [60], mkB [61], mkB [61, 61], mkB [61, 62], mkB [91], mkB [93], mkB [123], mkB [124], mkB [124, 124], mkB [125]]
theorem wordsB_length : wordsB.length = 12 := rfl
theorem signsB_length : signsB.length = 22 := rfl
/-- does a text begin with another one? -/
def preB (s p : ByteArray) : Bool := decide (p.size ≤ s.size) && decide (s.extract 0 p.size = p)
/-- the size of the last of some first signs that a text begins with -/
def signTo (s : ByteArray) : Nat → Nat
  | 0 => 0
  | k + 1 => if preB s (signsB[k]?.getD ByteArray.empty) then (signsB[k]?.getD ByteArray.empty).size else signTo s k
def signN (s : ByteArray) : Nat := signTo s 22
/-- is a text one of the first words? -/
def wordTo (s : ByteArray) : Nat → Bool
  | 0 => false
  | k + 1 => wordTo s k || decide (s = wordsB[k]?.getD ByteArray.empty)
def wordB (s : ByteArray) : Bool := wordTo s 12
theorem wordTo_mono {s : ByteArray} {k : Nat} (h : wordTo s k = true) : ∀ {m : Nat}, k ≤ m → wordTo s m = true
  | 0, hm => by rw [show k = 0 by omega] at h; exact h
  | m + 1, hm => by
    by_cases hk : k = m + 1
    · rw [← hk]; exact h
    · simp only [wordTo]; rw [wordTo_mono h (show k ≤ m by omega)]; rfl

def b0 (s : ByteArray) : UInt8 := (byt s).getD 0 0
def b1 (s : ByteArray) : UInt8 := (byt s).getD 1 0
theorem b0_eq {s : ByteArray} (h : 0 < s.size) : b0 s = s[0]'h := by
  unfold b0
  rw [List.getD_eq_getElem?_getD, List.getElem?_eq_getElem (by rw [byt_length]; exact h)]; rfl
theorem b1_eq {s : ByteArray} (h : 1 < s.size) : b1 s = s[1]'h := by
  unfold b1
  rw [List.getD_eq_getElem?_getD, List.getElem?_eq_getElem (by rw [byt_length]; exact h)]; rfl
theorem bytj {a b : ByteArray} (h : byt a = byt b) : a = b := by
  apply ByteArray.ext; exact Array.toList_inj.1 h
theorem tail_size (s : ByteArray) (k : Nat) : (s.extract k s.size).size = s.size - k := by rw [ByteArray.size_extract]; omega
theorem tail_tail (s : ByteArray) (k m : Nat) : (s.extract k s.size).extract m (s.extract k s.size).size = s.extract (k + m) s.size := by
  apply bytj; rw [byt_drop, byt_drop, byt_drop, List.drop_drop]
theorem b0_tail {s : ByteArray} {k : Nat} (h : k < s.size) : b0 (s.extract k s.size) = s[k]'h := by
  unfold b0
  rw [byt_drop, List.getD_eq_getElem?_getD, List.getElem?_drop, Nat.add_zero, List.getElem?_eq_getElem (by rw [byt_length]; exact h)]; rfl

/-- a pair from a backslash on; a byte of a TkText: what it stands for, and how many bytes it has -/
def pairP (s : ByteArray) : Int × Nat :=
  if s.size < 2 then (0, 0) else if ((b1 s).toNat : Int) == 110 then (10, 2) else if ((b1 s).toNat : Int) == 34 then (((b1 s).toNat : Int), 2) else if ((b1 s).toNat : Int) == 92 then (((b1 s).toNat : Int), 2) else (0, 0)
def plainP (s : ByteArray) : Int × Nat :=
  if ((b0 s).toNat : Int) == 34 then (0, 0) else if ((b0 s).toNat : Int) == 10 then (0, 0) else if ((b0 s).toNat : Int) == 92 then pairP s else (((b0 s).toNat : Int), 1)
theorem pairP_le (s : ByteArray) : (pairP s).2 ≤ s.size ∧ (pairP s).2 ≤ 2 := by
  unfold pairP; repeat' split
  all_goals first | (simp; done) | (simp; omega)
theorem plainP_le {s : ByteArray} (h : 0 < s.size) : (plainP s).2 ≤ s.size ∧ (plainP s).2 ≤ 2 := by
  have := pairP_le s
  unfold plainP; repeat' split
  all_goals first | exact this | (simp; done) | (simp; omega)

def slashes : ByteArray := { data := #[47, 47] }
/-- the kind of token that the first bytes let expect -/
def beginK (s : ByteArray) : Int :=
  if blankB (b0 s) then 1 else if preB s slashes then 2 else if digitB (b0 s) then 5 else if partB (b0 s) then 3 else if ((b0 s).toNat : Int) == 34 then 6 else if 0 < signN s then 7 else 8
theorem beginK_is (s : ByteArray) : beginK s = 1 ∨ beginK s = 2 ∨ beginK s = 3 ∨ beginK s = 5 ∨ beginK s = 6 ∨ beginK s = 7 ∨ beginK s = 8 := by
  obtain ⟨x, hx⟩ : ∃ x, x = beginK s := ⟨_, rfl⟩
  rw [← hx]
  unfold beginK at hx
  repeat' split at hx
  all_goals omega

/-- the end of a text that begins at a quotation mark, if there is one -/
def textF : Nat → ByteArray → Nat → Option Nat
  | 0, _, _ => none
  | f + 1, s, k => if s.size = 0 then none else if 0 < (plainP s).2 then textF f (s.extract (plainP s).2 s.size) (k + (plainP s).2) else if ((b0 s).toNat : Int) == 34 then some (k + 1) else none
def textE (s : ByteArray) : Option Nat := textF s.size (s.extract 1 s.size) 1
def badF : Nat → ByteArray → Nat → Nat
  | 0, _, k => k
  | f + 1, s, k => if beginK (s.extract k s.size) = 8 then badF f s (k + 1) else k
def badN (s : ByteArray) : Nat := badF (s.size - 1) s 1
def nameP (s : ByteArray) : Int × Nat := (if wordB (s.extract 0 (runL partB (byt s))) then 4 else 3, runL partB (byt s))
def textP (s : ByteArray) : Int × Nat := match textE s with
  | some n => (6, n)
  | none => (8, runL lineB (byt s))
/-- the kind and the size of the first token -/
def firstP (s : ByteArray) : Int × Nat :=
  if beginK s = 1 then (1, runL blankB (byt s)) else if beginK s = 2 then (2, runL lineB (byt s)) else if beginK s = 3 then nameP s else if beginK s = 5 then (5, runL digitB (byt s)) else if beginK s = 6 then textP s else if beginK s = 7 then (7, signN s) else (8, badN s)
abbrev Tok := Int × ByteArray
/-- the tokens of a string -/
def lexF : Nat → ByteArray → List Tok
  | 0, _ => []
  | f + 1, s => if s.size = 0 then [] else ((firstP s).1, s.extract 0 (firstP s).2) :: lexF f (s.extract (firstP s).2 s.size)
def lexL (s : ByteArray) : List Tok := lexF s.size s
end Go.Proofs.YtkaceghngjpemaaDoor
