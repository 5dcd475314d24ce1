/-
  Contracts of token's Words, and of the laws' comparison of lists of strings.
-/
import Derived.Test.YtkaceghngjpemaaDoorRk5
namespace Go.Proofs.YtkaceghngjpemaaDoor
set_option linter.unusedVariables false
set_option linter.unusedSimpArgs false
open Go.RowKit

set_option maxRecDepth 100000 in
set_option maxHeartbeats 2000000 in
theorem Words_any (w : World) (hT : Tabs w) :
    Calls Tryd.prog 19 #[] w fun e w' => e = .returned (.slice (some ⟨w.heap.size, 0, none⟩) 12 12) ∧ StrsV w' w.heap.size wordsB ∧ Below w.heap.size w w' := by
  have c0 := hT.1 0 (by omega)
  obtain ⟨x0, e0⟩ : ∃ x, x = wordsB[0]?.getD ByteArray.empty := ⟨_, rfl⟩
  rw [← e0] at c0
  have E0 := Lib.hid e0
  clear e0
  have c1 := hT.1 1 (by omega)
  obtain ⟨x1, e1⟩ : ∃ x, x = wordsB[1]?.getD ByteArray.empty := ⟨_, rfl⟩
  rw [← e1] at c1
  have E1 := Lib.hid e1
  clear e1
  have c2 := hT.1 2 (by omega)
  obtain ⟨x2, e2⟩ : ∃ x, x = wordsB[2]?.getD ByteArray.empty := ⟨_, rfl⟩
  rw [← e2] at c2
  have E2 := Lib.hid e2
  clear e2
  have c3 := hT.1 3 (by omega)
  obtain ⟨x3, e3⟩ : ∃ x, x = wordsB[3]?.getD ByteArray.empty := ⟨_, rfl⟩
  rw [← e3] at c3
  have E3 := Lib.hid e3
  clear e3
  have c4 := hT.1 4 (by omega)
  obtain ⟨x4, e4⟩ : ∃ x, x = wordsB[4]?.getD ByteArray.empty := ⟨_, rfl⟩
  rw [← e4] at c4
  have E4 := Lib.hid e4
  clear e4
  have c5 := hT.1 5 (by omega)
  obtain ⟨x5, e5⟩ : ∃ x, x = wordsB[5]?.getD ByteArray.empty := ⟨_, rfl⟩
  rw [← e5] at c5
  have E5 := Lib.hid e5
  clear e5
  have c6 := hT.1 6 (by omega)
  obtain ⟨x6, e6⟩ : ∃ x, x = wordsB[6]?.getD ByteArray.empty := ⟨_, rfl⟩
  rw [← e6] at c6
  have E6 := Lib.hid e6
  clear e6
  have c7 := hT.1 7 (by omega)
  obtain ⟨x7, e7⟩ : ∃ x, x = wordsB[7]?.getD ByteArray.empty := ⟨_, rfl⟩
  rw [← e7] at c7
  have E7 := Lib.hid e7
  clear e7
  have c8 := hT.1 8 (by omega)
  obtain ⟨x8, e8⟩ : ∃ x, x = wordsB[8]?.getD ByteArray.empty := ⟨_, rfl⟩
  rw [← e8] at c8
  have E8 := Lib.hid e8
  clear e8
  have c9 := hT.1 9 (by omega)
  obtain ⟨x9, e9⟩ : ∃ x, x = wordsB[9]?.getD ByteArray.empty := ⟨_, rfl⟩
  rw [← e9] at c9
  have E9 := Lib.hid e9
  clear e9
  have c10 := hT.1 10 (by omega)
  obtain ⟨x10, e10⟩ : ∃ x, x = wordsB[10]?.getD ByteArray.empty := ⟨_, rfl⟩
  rw [← e10] at c10
  have E10 := Lib.hid e10
  clear e10
  have c11 := hT.1 11 (by omega)
  obtain ⟨x11, e11⟩ : ∃ x, x = wordsB[11]?.getD ByteArray.empty := ⟨_, rfl⟩
  rw [← e11] at c11
  have E11 := Lib.hid e11
  clear e11
  clear hT
  have hl : Hid (#[.string x0, .string x1, .string x2, .string x3, .string x4, .string x5, .string x6, .string x7, .string x8, .string x9, .string x10, .string x11].toList = wordsB.map Value.string) := Lib.hid (by
    rw [E0.out, E1.out, E2.out, E3.out, E4.out, E5.out, E6.out, E7.out, E8.out, E9.out, E10.out, E11.out]; rfl)
  go_enter Tryd.func19, Tryd.ntmps19
  go_wp2_with fail
  go_ret
  exact ⟨rfl, StrsV.block (heap_alloc_new w _) hl.out, (Below.refl _ _).alloc (Nat.le_refl _) _⟩

set_option maxRecDepth 100000 in
set_option maxHeartbeats 1000000 in
theorem texts_same (b1 b2 : Nat) (n c1 c2 : Nat) (l : List ByteArray) (w : World) (hn : n = l.length) (hl : l.length ≤ 1000) (h1 : StrsV w b1 l) (h2 : StrsV w b2 l) :
    Calls Tryd.prog 18 #[.slice (some ⟨b1, 0, none⟩) n c1, .slice (some ⟨b2, 0, none⟩) n c2] w fun e w' => e = .returned (.bool true) ∧ Below w.heap.size w w' := by
  subst hn
  have q : ((l.length : Int) != (l.length : Int)) = false := by simp
  have H1 := Lib.hid h1
  have H2 := Lib.hid h2
  clear h1 h2
  go_enter Tryd.func18, Tryd.ntmps18
  go_wp2_with fail
  go_loopw [5] (fun i wr => ∃ k : Nat, k ≤ l.length ∧ i = .int .i64 k ∧ Below w.heap.size w wr) (fun i _ => l.length - (intOf i).toNat)
  case atStart => exact ⟨0, Nat.zero_le _, rfl, Below.refl _ _⟩
  case round =>
    obtain ⟨k, hk, rfl, hB⟩ := hrel
    by_cases hlt : k < l.length
    · have m1 := (H1.out.below hB).2 k l[k] (List.getElem?_eq_getElem hlt)
      have m2 := (H2.out.below hB).2 k l[k] (List.getElem?_eq_getElem hlt)
      obtain ⟨x, hx⟩ : ∃ x, x = l[k] := ⟨_, rfl⟩
      rw [← hx] at m1 m2
      have hk1 : (0 : Int) ≤ (k : Int) := by omega
      have hk2 : (k : Int) < (l.length : Int) := by omega
      have h3 : (x.toList != x.toList) = false := by simp
      clear hx
      go_wp2_with fail
      go_quiet (fail)
      go_wp2_with fail
      exact ⟨⟨k + 1, by omega, by go_num, below_drewT hB _⟩, by simp [intOf]; omega⟩
    · have hk2 : decide ((k : Int) < (l.length : Int)) = false := by simp; omega
      go_wp2_with fail
      go_ret
      exact ⟨rfl, hB⟩
end Go.Proofs.YtkaceghngjpemaaDoor
