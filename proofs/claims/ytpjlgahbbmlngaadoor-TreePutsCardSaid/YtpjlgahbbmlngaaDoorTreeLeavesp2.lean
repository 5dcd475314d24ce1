/-
  Plain mathematics of layer 3: bytes, runs, words, signs.; Contracts of token's tests of bytes, and of runs of them.; Contracts of token's run.
-/
import Derived.Test.YtpjlgahbbmlngaaDoorTreeLeavesp1
import Derived.Test.YtpjlgahbbmlngaaDoorRows
import Derived.WalkKit
import Derived.LoopTactic
import Derived.Lib.Hide
namespace Go.Proofs.YtpjlgahbbmlngaaDoor
set_option linter.unusedVariables false
set_option linter.unusedSimpArgs false

def blankB (b : UInt8) : Bool := (b.toNat : Int) == 32 || (b.toNat : Int) == 9 || (b.toNat : Int) == 10 || (b.toNat : Int) == 13
def digitB (b : UInt8) : Bool := decide (48 ≤ (b.toNat : Int)) && decide ((b.toNat : Int) ≤ 57)
def greatB (b : UInt8) : Bool := decide (65 ≤ (b.toNat : Int)) && decide ((b.toNat : Int) ≤ 90)
def partB (b : UInt8) : Bool := decide (97 ≤ (b.toNat : Int)) && decide ((b.toNat : Int) ≤ 122) || greatB b || digitB b || (b.toNat : Int) == 95
def lineB (b : UInt8) : Bool := (b.toNat : Int) != 10

/-- how many bytes of one sort are at the beginning -/
def runL (p : UInt8 → Bool) : List UInt8 → Nat
  | [] => 0
  | b :: l => if p b then runL p l + 1 else 0
theorem runL_le (p : UInt8 → Bool) : ∀ l, runL p l ≤ l.length
  | [] => Nat.le_refl _
  | b :: l => by simp only [runL]; split <;> simp <;> have := runL_le p l <;> omega
theorem runL_step {p : UInt8 → Bool} {l : List UInt8} {k : Nat} (h : k < l.length) (hp : p l[k] = true) : runL p (l.drop k) = runL p (l.drop (k + 1)) + 1 := by
  rw [List.drop_eq_getElem_cons h]; simp only [runL]; rw [if_pos hp]
theorem runL_stop {p : UInt8 → Bool} {l : List UInt8} {k : Nat} (h : k < l.length) (hp : p l[k] = false) : runL p (l.drop k) = 0 := by
  rw [List.drop_eq_getElem_cons h]; simp only [runL]; rw [if_neg (by simp [hp])]
theorem runL_end {p : UInt8 → Bool} {l : List UInt8} {k : Nat} (h : l.length ≤ k) : runL p (l.drop k) = 0 := by rw [List.drop_eq_nil_of_le h]; rfl

/-- the words and the signs of the chapter, in rising order -/
def wordsB : List ByteArray := [mkB [100, 101, 102], mkB [101, 108, 115, 101], mkB [102, 97, 108, 115, 101], mkB [102, 110], mkB [105, 102], mkB [105, 109, 112, 111, 114, 116], mkB [105, 110], mkB [108, 101, 116], mkB [109, 97, 116, 99, 104], mkB [116, 104, 101, 110], mkB [116, 114, 117, 101], mkB [116, 121, 112, 101]]
def signsB : List ByteArray := [mkB [33], mkB [38, 38], mkB [40], mkB [41], mkB [42], mkB [43], mkB [44], mkB [45], mkB [45, 62], mkB [46], mkB [58], mkB [59], mkB [60], mkB [61], mkB [61, 61], mkB [61, 62], mkB [91], mkB [93], mkB [123], mkB [124], mkB [124, 124], mkB [125]]
theorem wordsB_length : wordsB.length = 12 := rfl
theorem signsB_length : signsB.length = 22 := rfl
/-- does a text begin with another one? -/
def preB (s p : ByteArray) : Bool := decide (p.size ≤ s.size) && decide (s.extract 0 p.size = p)
/-- the size of the last of some first signs that a text begins with -/
def signTo (s : ByteArray) : Nat → Nat
  | 0 => 0
  | k + 1 => if preB s (signsB[k]?.getD ByteArray.empty) then (signsB[k]?.getD ByteArray.empty).size else signTo s k
def signN (s : ByteArray) : Nat := signTo s 22
/-- is a text one of the first words? -/
def wordTo (s : ByteArray) : Nat → Bool
  | 0 => false
  | k + 1 => wordTo s k || decide (s = wordsB[k]?.getD ByteArray.empty)
def wordB (s : ByteArray) : Bool := wordTo s 12
theorem wordTo_mono {s : ByteArray} {k : Nat} (h : wordTo s k = true) : ∀ {m : Nat}, k ≤ m → wordTo s m = true
  | 0, hm => by rw [show k = 0 by omega] at h; exact h
  | m + 1, hm => by
    by_cases hk : k = m + 1
    · rw [← hk]; exact h
    · simp only [wordTo]; rw [wordTo_mono h (show k ≤ m by omega)]; rfl

def b0 (s : ByteArray) : UInt8 := (byt s).getD 0 0
def b1 (s : ByteArray) : UInt8 := (byt s).getD 1 0
theorem b0_eq {s : ByteArray} (h : 0 < s.size) : b0 s = s[0]'h := by
  unfold b0
  rw [List.getD_eq_getElem?_getD, List.getElem?_eq_getElem (by rw [byt_length]; exact h)]; rfl
theorem b1_eq {s : ByteArray} (h : 1 < s.size) : b1 s = s[1]'h := by
  unfold b1
  rw [List.getD_eq_getElem?_getD, List.getElem?_eq_getElem (by rw [byt_length]; exact h)]; rfl
theorem bytj {a b : ByteArray} (h : byt a = byt b) : a = b := by
  apply ByteArray.ext; exact Array.toList_inj.1 h
theorem tail_size (s : ByteArray) (k : Nat) : (s.extract k s.size).size = s.size - k := by rw [ByteArray.size_extract]; omega
theorem tail_tail (s : ByteArray) (k m : Nat) : (s.extract k s.size).extract m (s.extract k s.size).size = s.extract (k + m) s.size := by
  apply bytj; rw [byt_drop, byt_drop, byt_drop, List.drop_drop]
theorem b0_tail {s : ByteArray} {k : Nat} (h : k < s.size) : b0 (s.extract k s.size) = s[k]'h := by
  unfold b0
  rw [byt_drop, List.getD_eq_getElem?_getD, List.getElem?_drop, Nat.add_zero, List.getElem?_eq_getElem (by rw [byt_length]; exact h)]; rfl

/-- a pair from a backslash on; a byte of a TkText: what it stands for, and how many bytes it has -/
def pairP (s : ByteArray) : Int × Nat :=
  if s.size < 2 then (0, 0) else if ((b1 s).toNat : Int) == 110 then (10, 2) else if ((b1 s).toNat : Int) == 34 then (((b1 s).toNat : Int), 2) else if ((b1 s).toNat : Int) == 92 then (((b1 s).toNat : Int), 2) else (0, 0)
def plainP (s : ByteArray) : Int × Nat :=
  if ((b0 s).toNat : Int) == 34 then (0, 0) else if ((b0 s).toNat : Int) == 10 then (0, 0) else if ((b0 s).toNat : Int) == 92 then pairP s else (((b0 s).toNat : Int), 1)
theorem pairP_le (s : ByteArray) : (pairP s).2 ≤ s.size ∧ (pairP s).2 ≤ 2 := by
  unfold pairP; repeat' split
  all_goals first | (simp; done) | (simp; omega)
theorem plainP_le {s : ByteArray} (h : 0 < s.size) : (plainP s).2 ≤ s.size ∧ (plainP s).2 ≤ 2 := by
  have := pairP_le s
  unfold plainP; repeat' split
  all_goals first | exact this | (simp; done) | (simp; omega)

def slashes : ByteArray := { data := #[47, 47] }
/-- the kind of token that the first bytes let expect -/
def beginK (s : ByteArray) : Int :=
  if blankB (b0 s) then 1 else if preB s slashes then 2 else if digitB (b0 s) then 5 else if partB (b0 s) then 3 else if ((b0 s).toNat : Int) == 34 then 6 else if 0 < signN s then 7 else 8
theorem beginK_is (s : ByteArray) : beginK s = 1 ∨ beginK s = 2 ∨ beginK s = 3 ∨ beginK s = 5 ∨ beginK s = 6 ∨ beginK s = 7 ∨ beginK s = 8 := by
  obtain ⟨x, hx⟩ : ∃ x, x = beginK s := ⟨_, rfl⟩
  rw [← hx]
  unfold beginK at hx
  repeat' split at hx
  all_goals omega

/-- the end of a text that begins at a quotation mark, if there is one -/
def textF : Nat → ByteArray → Nat → Option Nat
  | 0, _, _ => none
  | f + 1, s, k => if s.size = 0 then none else if 0 < (plainP s).2 then textF f (s.extract (plainP s).2 s.size) (k + (plainP s).2) else if ((b0 s).toNat : Int) == 34 then some (k + 1) else none
def textE (s : ByteArray) : Option Nat := textF s.size (s.extract 1 s.size) 1
def badF : Nat → ByteArray → Nat → Nat
  | 0, _, k => k
  | f + 1, s, k => if beginK (s.extract k s.size) = 8 then badF f s (k + 1) else k
def badN (s : ByteArray) : Nat := badF (s.size - 1) s 1
def nameP (s : ByteArray) : Int × Nat := (if wordB (s.extract 0 (runL partB (byt s))) then 4 else 3, runL partB (byt s))
def textP (s : ByteArray) : Int × Nat := match textE s with
  | some n => (6, n)
  | none => (8, runL lineB (byt s))
/-- the kind and the size of the first token -/
def firstP (s : ByteArray) : Int × Nat :=
  if beginK s = 1 then (1, runL blankB (byt s)) else if beginK s = 2 then (2, runL lineB (byt s)) else if beginK s = 3 then nameP s else if beginK s = 5 then (5, runL digitB (byt s)) else if beginK s = 6 then textP s else if beginK s = 7 then (7, signN s) else (8, badN s)
abbrev Tok := Int × ByteArray
/-- the tokens of a string -/
def lexF : Nat → ByteArray → List Tok
  | 0, _ => []
  | f + 1, s => if s.size = 0 then [] else ((firstP s).1, s.extract 0 (firstP s).2) :: lexF f (s.extract (firstP s).2 s.size)
def lexL (s : ByteArray) : List Tok := lexF s.size s
end Go.Proofs.YtpjlgahbbmlngaaDoor

namespace Go.Proofs.YtpjlgahbbmlngaaDoor
set_option linter.unusedVariables false
set_option linter.unusedSimpArgs false
open Go.RowKit

theorem u8_eq (b : UInt8) : ∃ n : Nat, n < 256 ∧ (b.toNat : Int) = n := ⟨b.toNat, b.toNat_lt, rfl⟩
theorem ret_i {a b : Nat} (h : a = b) : Ending.returned (.int .i64 (a : Int)) = .returned (.int .i64 (b : Int)) := by rw [h]

set_option maxRecDepth 100000 in
theorem isBlank_any (b : UInt8) (w : World) :
    Calls Tryd.prog 118 #[.int .u8 (b.toNat : Int)] w fun e w' => e = .returned (.bool (blankB b)) ∧ w' = w := by
  unfold blankB
  cases h1 : ((b.toNat : Int) == 32)
  · cases h2 : ((b.toNat : Int) == 9)
    · cases h3 : ((b.toNat : Int) == 10)
      · cases h4 : ((b.toNat : Int) == 13)
        all_goals
          go_enter Tryd.func118, Tryd.ntmps118
          go_wp2_with fail
          go_ret
          exact ⟨rfl, rfl⟩
      ·
        go_enter Tryd.func118, Tryd.ntmps118
        go_wp2_with fail
        go_ret
        exact ⟨rfl, rfl⟩
    ·
      go_enter Tryd.func118, Tryd.ntmps118
      go_wp2_with fail
      go_ret
      exact ⟨rfl, rfl⟩
  ·
    go_enter Tryd.func118, Tryd.ntmps118
    go_wp2_with fail
    go_ret
    exact ⟨rfl, rfl⟩
set_option maxRecDepth 100000 in
theorem isDigit_any (b : UInt8) (w : World) :
    Calls Tryd.prog 121 #[.int .u8 (b.toNat : Int)] w fun e w' => e = .returned (.bool (digitB b)) ∧ w' = w := by
  unfold digitB
  cases h1 : decide (48 ≤ (b.toNat : Int))
  · go_enter Tryd.func121, Tryd.ntmps121
    go_wp2_with fail
    go_ret
    exact ⟨rfl, rfl⟩
  · cases h2 : decide ((b.toNat : Int) ≤ 57)
    all_goals
      go_enter Tryd.func121, Tryd.ntmps121
      go_wp2_with fail
      go_ret
      exact ⟨rfl, rfl⟩
set_option maxRecDepth 100000 in
theorem isGreat_any (b : UInt8) (w : World) :
    Calls Tryd.prog 138 #[.int .u8 (b.toNat : Int)] w fun e w' => e = .returned (.bool (greatB b)) ∧ w' = w := by
  unfold greatB
  cases h1 : decide (65 ≤ (b.toNat : Int))
  · go_enter Tryd.func138, Tryd.ntmps138
    go_wp2_with fail
    go_ret
    exact ⟨rfl, rfl⟩
  · cases h2 : decide ((b.toNat : Int) ≤ 90)
    all_goals
      go_enter Tryd.func138, Tryd.ntmps138
      go_wp2_with fail
      go_ret
      exact ⟨rfl, rfl⟩
set_option maxRecDepth 100000 in
theorem isPartOfName_any (b : UInt8) (w : World) :
    Calls Tryd.prog 131 #[.int .u8 (b.toNat : Int)] w fun e w' => e = .returned (.bool (partB b)) ∧ w' = w := by
  unfold partB
  cases h1 : decide (97 ≤ (b.toNat : Int))
  ·
    cases h3 : greatB b
    · cases h4 : digitB b
      · cases h5 : ((b.toNat : Int) == 95)
        all_goals
          go_enter Tryd.func131, Tryd.ntmps131
          go_wp2_with fail
          refine (isGreat_any b w).mono ?_
          rw [h3]
          rintro e w1 ⟨rfl, rfl⟩
          go_wp2_with fail
          refine (isDigit_any b w1).mono ?_
          rw [h4]
          rintro e w2 ⟨rfl, rfl⟩
          go_wp2_with fail
          go_ret
          exact ⟨rfl, rfl⟩
      · go_enter Tryd.func131, Tryd.ntmps131
        go_wp2_with fail
        refine (isGreat_any b w).mono ?_
        rw [h3]
        rintro e w1 ⟨rfl, rfl⟩
        go_wp2_with fail
        refine (isDigit_any b w1).mono ?_
        rw [h4]
        rintro e w2 ⟨rfl, rfl⟩
        go_wp2_with fail
        go_ret
        exact ⟨rfl, rfl⟩
    · go_enter Tryd.func131, Tryd.ntmps131
      go_wp2_with fail
      refine (isGreat_any b w).mono ?_
      rw [h3]
      rintro e w1 ⟨rfl, rfl⟩
      go_wp2_with fail
      go_ret
      exact ⟨rfl, rfl⟩
  · cases h2 : decide ((b.toNat : Int) ≤ 122)
    ·
      cases h3 : greatB b
      · cases h4 : digitB b
        · cases h5 : ((b.toNat : Int) == 95)
          all_goals
            go_enter Tryd.func131, Tryd.ntmps131
            go_wp2_with fail
            refine (isGreat_any b w).mono ?_
            rw [h3]
            rintro e w1 ⟨rfl, rfl⟩
            go_wp2_with fail
            refine (isDigit_any b w1).mono ?_
            rw [h4]
            rintro e w2 ⟨rfl, rfl⟩
            go_wp2_with fail
            go_ret
            exact ⟨rfl, rfl⟩
        · go_enter Tryd.func131, Tryd.ntmps131
          go_wp2_with fail
          refine (isGreat_any b w).mono ?_
          rw [h3]
          rintro e w1 ⟨rfl, rfl⟩
          go_wp2_with fail
          refine (isDigit_any b w1).mono ?_
          rw [h4]
          rintro e w2 ⟨rfl, rfl⟩
          go_wp2_with fail
          go_ret
          exact ⟨rfl, rfl⟩
      · go_enter Tryd.func131, Tryd.ntmps131
        go_wp2_with fail
        refine (isGreat_any b w).mono ?_
        rw [h3]
        rintro e w1 ⟨rfl, rfl⟩
        go_wp2_with fail
        go_ret
        exact ⟨rfl, rfl⟩
    ·
      go_enter Tryd.func131, Tryd.ntmps131
      go_wp2_with fail
      go_ret
      exact ⟨rfl, rfl⟩
end Go.Proofs.YtpjlgahbbmlngaaDoor

namespace Go.Proofs.YtpjlgahbbmlngaaDoor
set_option linter.unusedVariables false
set_option linter.unusedSimpArgs false
open Go.RowKit

set_option maxRecDepth 100000 in
theorem run_blank (s : ByteArray) (w : World) (hs : s.size ≤ 60000) :
    Calls Tryd.prog 117 #[.string s, .func (.func 118) #[] #[]] w fun e w' => e = .returned (.int .i64 (runL blankB (byt s) : Nat)) ∧ w' = w := by
  go_enter Tryd.func117, Tryd.ntmps117
  go_wp2_with fail
  go_loopw [5] (fun i wr => ∃ k : Nat, k ≤ s.size ∧ i = .int .i64 k ∧ runL blankB (byt s) = k + runL blankB ((byt s).drop k) ∧ wr = w) (fun i _ => s.size - (intOf i).toNat)
  case atStart => exact ⟨0, Nat.zero_le _, rfl, by simp, rfl⟩
  case round =>
    obtain ⟨k, hk, rfl, he, rfl⟩ := hrel
    by_cases hlt : k < s.size
    · have g1 : k < (byt s).length := by rw [byt_length]; exact hlt
      cases hq : blankB (s[k]'hlt)
      · have He : Hid (runL blankB (byt s) = k) := Lib.hid (by rw [he, runL_stop g1 hq]; rfl)
        clear he
        go_wp2_with fail
        refine (isBlank_any _ _).mono ?_
        rw [hq]
        rintro e w1 ⟨rfl, rfl⟩
        go_wp2_with fail
        go_ret
        exact ⟨ret_i He.out.symm, rfl⟩
      · have He : Hid (runL blankB (byt s) = k + 1 + runL blankB ((byt s).drop (k + 1))) := Lib.hid (by rw [he, runL_step g1 hq]; omega)
        clear he
        go_wp2_with fail
        refine (isBlank_any _ _).mono ?_
        rw [hq]
        rintro e w1 ⟨rfl, rfl⟩
        go_wp2_with fail
        exact ⟨⟨k + 1, by omega, by go_num, He.out, by first | rfl | trivial⟩, by simp [intOf]; omega⟩
    · have He : Hid (runL blankB (byt s) = k) := Lib.hid (by rw [he, runL_end (by rw [byt_length]; omega)]; rfl)
      clear he
      go_wp2_with fail
      go_ret
      exact ⟨ret_i He.out.symm, rfl⟩

set_option maxRecDepth 100000 in
theorem run_digit (s : ByteArray) (w : World) (hs : s.size ≤ 60000) :
    Calls Tryd.prog 117 #[.string s, .func (.func 121) #[] #[]] w fun e w' => e = .returned (.int .i64 (runL digitB (byt s) : Nat)) ∧ w' = w := by
  go_enter Tryd.func117, Tryd.ntmps117
  go_wp2_with fail
  go_loopw [5] (fun i wr => ∃ k : Nat, k ≤ s.size ∧ i = .int .i64 k ∧ runL digitB (byt s) = k + runL digitB ((byt s).drop k) ∧ wr = w) (fun i _ => s.size - (intOf i).toNat)
  case atStart => exact ⟨0, Nat.zero_le _, rfl, by simp, rfl⟩
  case round =>
    obtain ⟨k, hk, rfl, he, rfl⟩ := hrel
    by_cases hlt : k < s.size
    · have g1 : k < (byt s).length := by rw [byt_length]; exact hlt
      cases hq : digitB (s[k]'hlt)
      · have He : Hid (runL digitB (byt s) = k) := Lib.hid (by rw [he, runL_stop g1 hq]; rfl)
        clear he
        go_wp2_with fail
        refine (isDigit_any _ _).mono ?_
        rw [hq]
        rintro e w1 ⟨rfl, rfl⟩
        go_wp2_with fail
        go_ret
        exact ⟨ret_i He.out.symm, rfl⟩
      · have He : Hid (runL digitB (byt s) = k + 1 + runL digitB ((byt s).drop (k + 1))) := Lib.hid (by rw [he, runL_step g1 hq]; omega)
        clear he
        go_wp2_with fail
        refine (isDigit_any _ _).mono ?_
        rw [hq]
        rintro e w1 ⟨rfl, rfl⟩
        go_wp2_with fail
        exact ⟨⟨k + 1, by omega, by go_num, He.out, by first | rfl | trivial⟩, by simp [intOf]; omega⟩
    · have He : Hid (runL digitB (byt s) = k) := Lib.hid (by rw [he, runL_end (by rw [byt_length]; omega)]; rfl)
      clear he
      go_wp2_with fail
      go_ret
      exact ⟨ret_i He.out.symm, rfl⟩

set_option maxRecDepth 100000 in
theorem run_part (s : ByteArray) (w : World) (hs : s.size ≤ 60000) :
    Calls Tryd.prog 117 #[.string s, .func (.func 131) #[] #[]] w fun e w' => e = .returned (.int .i64 (runL partB (byt s) : Nat)) ∧ w' = w := by
  go_enter Tryd.func117, Tryd.ntmps117
  go_wp2_with fail
  go_loopw [5] (fun i wr => ∃ k : Nat, k ≤ s.size ∧ i = .int .i64 k ∧ runL partB (byt s) = k + runL partB ((byt s).drop k) ∧ wr = w) (fun i _ => s.size - (intOf i).toNat)
  case atStart => exact ⟨0, Nat.zero_le _, rfl, by simp, rfl⟩
  case round =>
    obtain ⟨k, hk, rfl, he, rfl⟩ := hrel
    by_cases hlt : k < s.size
    · have g1 : k < (byt s).length := by rw [byt_length]; exact hlt
      cases hq : partB (s[k]'hlt)
      · have He : Hid (runL partB (byt s) = k) := Lib.hid (by rw [he, runL_stop g1 hq]; rfl)
        clear he
        go_wp2_with fail
        refine (isPartOfName_any _ _).mono ?_
        rw [hq]
        rintro e w1 ⟨rfl, rfl⟩
        go_wp2_with fail
        go_ret
        exact ⟨ret_i He.out.symm, rfl⟩
      · have He : Hid (runL partB (byt s) = k + 1 + runL partB ((byt s).drop (k + 1))) := Lib.hid (by rw [he, runL_step g1 hq]; omega)
        clear he
        go_wp2_with fail
        refine (isPartOfName_any _ _).mono ?_
        rw [hq]
        rintro e w1 ⟨rfl, rfl⟩
        go_wp2_with fail
        exact ⟨⟨k + 1, by omega, by go_num, He.out, by first | rfl | trivial⟩, by simp [intOf]; omega⟩
    · have He : Hid (runL partB (byt s) = k) := Lib.hid (by rw [he, runL_end (by rw [byt_length]; omega)]; rfl)
      clear he
      go_wp2_with fail
      go_ret
      exact ⟨ret_i He.out.symm, rfl⟩

theorem isNot_any (e : Int) (w : World) :
    Calls Tryd.prog 119 #[.int .u8 e] w fun en w' => en = .returned (.func (.func 132) #[] #[.pointer (some ⟨w.heap.size, 0, none⟩)]) ∧ w'.heap[w.heap.size]? = some (.cells #[.int .u8 e] 5 (0, 0)) ∧ Below w.heap.size w w' := by
  go_enter Tryd.func119, Tryd.ntmps119
  go_wp2_with fail
  go_ret
  exact ⟨rfl, heap_alloc_new w _, (Below.refl _ _).alloc (Nat.le_refl _) _⟩

theorem isNot1_any (b : UInt8) (g : Nat) (w : World) (hc : w.cell? ⟨g, 0, none⟩ = some (.int .u8 10)) :
    Calls Tryd.prog 132 #[.int .u8 (b.toNat : Int), .pointer (some ⟨g, 0, none⟩)] w fun e w' => e = .returned (.bool (lineB b)) ∧ w' = w := by
  unfold lineB
  cases h1 : ((b.toNat : Int) != 10)
  all_goals
    go_enter Tryd.func132, Tryd.ntmps132
    go_wp2_with fail
    go_ret
    exact ⟨rfl, rfl⟩

set_option maxRecDepth 100000 in
theorem run_line (s : ByteArray) (g : Nat) (w : World) (hs : s.size ≤ 60000)  (hc : w.cell? ⟨g, 0, none⟩ = some (.int .u8 10)) :
    Calls Tryd.prog 117 #[.string s, .func (.func 132) #[] #[.pointer (some ⟨g, 0, none⟩)]] w fun e w' => e = .returned (.int .i64 (runL lineB (byt s) : Nat)) ∧ w' = w := by
  go_enter Tryd.func117, Tryd.ntmps117
  go_wp2_with fail
  go_loopw [5] (fun i wr => ∃ k : Nat, k ≤ s.size ∧ i = .int .i64 k ∧ runL lineB (byt s) = k + runL lineB ((byt s).drop k) ∧ wr = w) (fun i _ => s.size - (intOf i).toNat)
  case atStart => exact ⟨0, Nat.zero_le _, rfl, by simp, rfl⟩
  case round =>
    obtain ⟨k, hk, rfl, he, rfl⟩ := hrel
    by_cases hlt : k < s.size
    · have g1 : k < (byt s).length := by rw [byt_length]; exact hlt
      cases hq : lineB (s[k]'hlt)
      · have He : Hid (runL lineB (byt s) = k) := Lib.hid (by rw [he, runL_stop g1 hq]; rfl)
        clear he
        go_wp2_with fail
        refine (isNot1_any _ g _ hc).mono ?_
        rw [hq]
        rintro e w1 ⟨rfl, rfl⟩
        go_wp2_with fail
        go_ret
        exact ⟨ret_i He.out.symm, rfl⟩
      · have He : Hid (runL lineB (byt s) = k + 1 + runL lineB ((byt s).drop (k + 1))) := Lib.hid (by rw [he, runL_step g1 hq]; omega)
        clear he
        go_wp2_with fail
        refine (isNot1_any _ g _ hc).mono ?_
        rw [hq]
        rintro e w1 ⟨rfl, rfl⟩
        go_wp2_with fail
        exact ⟨⟨k + 1, by omega, by go_num, He.out, by first | rfl | trivial⟩, by simp [intOf]; omega⟩
    · have He : Hid (runL lineB (byt s) = k) := Lib.hid (by rw [he, runL_end (by rw [byt_length]; omega)]; rfl)
      clear he
      go_wp2_with fail
      go_ret
      exact ⟨ret_i He.out.symm, rfl⟩
end Go.Proofs.YtpjlgahbbmlngaaDoor
