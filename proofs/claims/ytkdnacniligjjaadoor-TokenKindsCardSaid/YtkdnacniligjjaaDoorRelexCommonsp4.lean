/-
  Contracts of token's tests of bytes, and of runs of them.; Contracts of token's run.
-/
import Derived.Test.YtkdnacniligjjaaDoorRelexCommonsp1
import Derived.Test.YtkdnacniligjjaaDoorRows
import Derived.WalkKit
import Derived.LoopTactic
import Derived.Lib.Hide
namespace Go.Proofs.YtkdnacniligjjaaDoor
set_option linter.unusedVariables false
set_option linter.unusedSimpArgs false
open Go.RowKit

theorem u8_eq (b : UInt8) : ∃ n : Nat, n < 256 ∧ (b.toNat : Int) = n := ⟨b.toNat, b.toNat_lt, rfl⟩
theorem ret_i {a b : Nat} (h : a = b) : Ending.returned (.int .i64 (a : Int)) = .returned (.int .i64 (b : Int)) := by rw [h]

set_option maxRecDepth 100000 in
theorem isBlank_any (b : UInt8) (w : World) :
    Calls Tryd.prog 90 #[.int .u8 (b.toNat : Int)] w fun e w' => e = .returned (.bool (blankB b)) ∧ w' = w := by
  unfold blankB
  cases h1 : ((b.toNat : Int) == 32)
  · cases h2 : ((b.toNat : Int) == 9)
    · cases h3 : ((b.toNat : Int) == 10)
      · cases h4 : ((b.toNat : Int) == 13)
        all_goals
          go_enter Tryd.func90, Tryd.ntmps90
          go_wp2_with fail
          go_ret
          exact ⟨rfl, rfl⟩
      ·
        go_enter Tryd.func90, Tryd.ntmps90
        go_wp2_with fail
        go_ret
        exact ⟨rfl, rfl⟩
    ·
      go_enter Tryd.func90, Tryd.ntmps90
      go_wp2_with fail
      go_ret
      exact ⟨rfl, rfl⟩
  ·
    go_enter Tryd.func90, Tryd.ntmps90
    go_wp2_with fail
    go_ret
    exact ⟨rfl, rfl⟩
set_option maxRecDepth 100000 in
theorem isDigit_any (b : UInt8) (w : World) :
    Calls Tryd.prog 93 #[.int .u8 (b.toNat : Int)] w fun e w' => e = .returned (.bool (digitB b)) ∧ w' = w := by
  unfold digitB
  cases h1 : decide (48 ≤ (b.toNat : Int))
  · go_enter Tryd.func93, Tryd.ntmps93
    go_wp2_with fail
    go_ret
    exact ⟨rfl, rfl⟩
  · cases h2 : decide ((b.toNat : Int) ≤ 57)
    all_goals
      go_enter Tryd.func93, Tryd.ntmps93
      go_wp2_with fail
      go_ret
      exact ⟨rfl, rfl⟩
set_option maxRecDepth 100000 in
theorem isGreat_any (b : UInt8) (w : World) :
    Calls Tryd.prog 45 #[.int .u8 (b.toNat : Int)] w fun e w' => e = .returned (.bool (greatB b)) ∧ w' = w := by
  unfold greatB
  cases h1 : decide (65 ≤ (b.toNat : Int))
  · go_enter Tryd.func45, Tryd.ntmps45
    go_wp2_with fail
    go_ret
    exact ⟨rfl, rfl⟩
  · cases h2 : decide ((b.toNat : Int) ≤ 90)
    all_goals
      go_enter Tryd.func45, Tryd.ntmps45
      go_wp2_with fail
      go_ret
      exact ⟨rfl, rfl⟩
set_option maxRecDepth 100000 in
theorem isPartOfName_any (b : UInt8) (w : World) :
    Calls Tryd.prog 114 #[.int .u8 (b.toNat : Int)] w fun e w' => e = .returned (.bool (partB b)) ∧ w' = w := by
  unfold partB
  cases h1 : decide (97 ≤ (b.toNat : Int))
  ·
    cases h3 : greatB b
    · cases h4 : digitB b
      · cases h5 : ((b.toNat : Int) == 95)
        all_goals
          go_enter Tryd.func114, Tryd.ntmps114
          go_wp2_with fail
          refine (isGreat_any b w).mono ?_
          rw [h3]
          rintro e w1 ⟨rfl, rfl⟩
          go_wp2_with fail
          refine (isDigit_any b w1).mono ?_
          rw [h4]
          rintro e w2 ⟨rfl, rfl⟩
          go_wp2_with fail
          go_ret
          exact ⟨rfl, rfl⟩
      · go_enter Tryd.func114, Tryd.ntmps114
        go_wp2_with fail
        refine (isGreat_any b w).mono ?_
        rw [h3]
        rintro e w1 ⟨rfl, rfl⟩
        go_wp2_with fail
        refine (isDigit_any b w1).mono ?_
        rw [h4]
        rintro e w2 ⟨rfl, rfl⟩
        go_wp2_with fail
        go_ret
        exact ⟨rfl, rfl⟩
    · go_enter Tryd.func114, Tryd.ntmps114
      go_wp2_with fail
      refine (isGreat_any b w).mono ?_
      rw [h3]
      rintro e w1 ⟨rfl, rfl⟩
      go_wp2_with fail
      go_ret
      exact ⟨rfl, rfl⟩
  · cases h2 : decide ((b.toNat : Int) ≤ 122)
    ·
      cases h3 : greatB b
      · cases h4 : digitB b
        · cases h5 : ((b.toNat : Int) == 95)
          all_goals
            go_enter Tryd.func114, Tryd.ntmps114
            go_wp2_with fail
            refine (isGreat_any b w).mono ?_
            rw [h3]
            rintro e w1 ⟨rfl, rfl⟩
            go_wp2_with fail
            refine (isDigit_any b w1).mono ?_
            rw [h4]
            rintro e w2 ⟨rfl, rfl⟩
            go_wp2_with fail
            go_ret
            exact ⟨rfl, rfl⟩
        · go_enter Tryd.func114, Tryd.ntmps114
          go_wp2_with fail
          refine (isGreat_any b w).mono ?_
          rw [h3]
          rintro e w1 ⟨rfl, rfl⟩
          go_wp2_with fail
          refine (isDigit_any b w1).mono ?_
          rw [h4]
          rintro e w2 ⟨rfl, rfl⟩
          go_wp2_with fail
          go_ret
          exact ⟨rfl, rfl⟩
      · go_enter Tryd.func114, Tryd.ntmps114
        go_wp2_with fail
        refine (isGreat_any b w).mono ?_
        rw [h3]
        rintro e w1 ⟨rfl, rfl⟩
        go_wp2_with fail
        go_ret
        exact ⟨rfl, rfl⟩
    ·
      go_enter Tryd.func114, Tryd.ntmps114
      go_wp2_with fail
      go_ret
      exact ⟨rfl, rfl⟩
end Go.Proofs.YtkdnacniligjjaaDoor

namespace Go.Proofs.YtkdnacniligjjaaDoor
set_option linter.unusedVariables false
set_option linter.unusedSimpArgs false
open Go.RowKit

set_option maxRecDepth 100000 in
theorem run_blank (s : ByteArray) (w : World) (hs : s.size ≤ 60000) :
    Calls Tryd.prog 89 #[.string s, .func (.func 90) #[] #[]] w fun e w' => e = .returned (.int .i64 (runL blankB (byt s) : Nat)) ∧ w' = w := by
  go_enter Tryd.func89, Tryd.ntmps89
  go_wp2_with fail
  go_loopw [5] (fun i wr => ∃ k : Nat, k ≤ s.size ∧ i = .int .i64 k ∧ runL blankB (byt s) = k + runL blankB ((byt s).drop k) ∧ wr = w) (fun i _ => s.size - (intOf i).toNat)
  case atStart => exact ⟨0, Nat.zero_le _, rfl, by simp, rfl⟩
  case round =>
    obtain ⟨k, hk, rfl, he, rfl⟩ := hrel
    by_cases hlt : k < s.size
    · have g1 : k < (byt s).length := by rw [byt_length]; exact hlt
      cases hq : blankB (s[k]'hlt)
      · have He : Hid (runL blankB (byt s) = k) := Lib.hid (by rw [he, runL_stop g1 hq]; rfl)
        clear he
        go_wp2_with fail
        refine (isBlank_any _ _).mono ?_
        rw [hq]
        rintro e w1 ⟨rfl, rfl⟩
        go_wp2_with fail
        go_ret
        exact ⟨ret_i He.out.symm, rfl⟩
      · have He : Hid (runL blankB (byt s) = k + 1 + runL blankB ((byt s).drop (k + 1))) := Lib.hid (by rw [he, runL_step g1 hq]; omega)
        clear he
        go_wp2_with fail
        refine (isBlank_any _ _).mono ?_
        rw [hq]
        rintro e w1 ⟨rfl, rfl⟩
        go_wp2_with fail
        exact ⟨⟨k + 1, by omega, by go_num, He.out, by first | rfl | trivial⟩, by simp [intOf]; omega⟩
    · have He : Hid (runL blankB (byt s) = k) := Lib.hid (by rw [he, runL_end (by rw [byt_length]; omega)]; rfl)
      clear he
      go_wp2_with fail
      go_ret
      exact ⟨ret_i He.out.symm, rfl⟩

set_option maxRecDepth 100000 in
theorem run_digit (s : ByteArray) (w : World) (hs : s.size ≤ 60000) :
    Calls Tryd.prog 89 #[.string s, .func (.func 93) #[] #[]] w fun e w' => e = .returned (.int .i64 (runL digitB (byt s) : Nat)) ∧ w' = w := by
  go_enter Tryd.func89, Tryd.ntmps89
  go_wp2_with fail
  go_loopw [5] (fun i wr => ∃ k : Nat, k ≤ s.size ∧ i = .int .i64 k ∧ runL digitB (byt s) = k + runL digitB ((byt s).drop k) ∧ wr = w) (fun i _ => s.size - (intOf i).toNat)
  case atStart => exact ⟨0, Nat.zero_le _, rfl, by simp, rfl⟩
  case round =>
    obtain ⟨k, hk, rfl, he, rfl⟩ := hrel
    by_cases hlt : k < s.size
    · have g1 : k < (byt s).length := by rw [byt_length]; exact hlt
      cases hq : digitB (s[k]'hlt)
      · have He : Hid (runL digitB (byt s) = k) := Lib.hid (by rw [he, runL_stop g1 hq]; rfl)
        clear he
        go_wp2_with fail
        refine (isDigit_any _ _).mono ?_
        rw [hq]
        rintro e w1 ⟨rfl, rfl⟩
        go_wp2_with fail
        go_ret
        exact ⟨ret_i He.out.symm, rfl⟩
      · have He : Hid (runL digitB (byt s) = k + 1 + runL digitB ((byt s).drop (k + 1))) := Lib.hid (by rw [he, runL_step g1 hq]; omega)
        clear he
        go_wp2_with fail
        refine (isDigit_any _ _).mono ?_
        rw [hq]
        rintro e w1 ⟨rfl, rfl⟩
        go_wp2_with fail
        exact ⟨⟨k + 1, by omega, by go_num, He.out, by first | rfl | trivial⟩, by simp [intOf]; omega⟩
    · have He : Hid (runL digitB (byt s) = k) := Lib.hid (by rw [he, runL_end (by rw [byt_length]; omega)]; rfl)
      clear he
      go_wp2_with fail
      go_ret
      exact ⟨ret_i He.out.symm, rfl⟩

set_option maxRecDepth 100000 in
theorem run_part (s : ByteArray) (w : World) (hs : s.size ≤ 60000) :
    Calls Tryd.prog 89 #[.string s, .func (.func 114) #[] #[]] w fun e w' => e = .returned (.int .i64 (runL partB (byt s) : Nat)) ∧ w' = w := by
  go_enter Tryd.func89, Tryd.ntmps89
  go_wp2_with fail
  go_loopw [5] (fun i wr => ∃ k : Nat, k ≤ s.size ∧ i = .int .i64 k ∧ runL partB (byt s) = k + runL partB ((byt s).drop k) ∧ wr = w) (fun i _ => s.size - (intOf i).toNat)
  case atStart => exact ⟨0, Nat.zero_le _, rfl, by simp, rfl⟩
  case round =>
    obtain ⟨k, hk, rfl, he, rfl⟩ := hrel
    by_cases hlt : k < s.size
    · have g1 : k < (byt s).length := by rw [byt_length]; exact hlt
      cases hq : partB (s[k]'hlt)
      · have He : Hid (runL partB (byt s) = k) := Lib.hid (by rw [he, runL_stop g1 hq]; rfl)
        clear he
        go_wp2_with fail
        refine (isPartOfName_any _ _).mono ?_
        rw [hq]
        rintro e w1 ⟨rfl, rfl⟩
        go_wp2_with fail
        go_ret
        exact ⟨ret_i He.out.symm, rfl⟩
      · have He : Hid (runL partB (byt s) = k + 1 + runL partB ((byt s).drop (k + 1))) := Lib.hid (by rw [he, runL_step g1 hq]; omega)
        clear he
        go_wp2_with fail
        refine (isPartOfName_any _ _).mono ?_
        rw [hq]
        rintro e w1 ⟨rfl, rfl⟩
        go_wp2_with fail
        exact ⟨⟨k + 1, by omega, by go_num, He.out, by first | rfl | trivial⟩, by simp [intOf]; omega⟩
    · have He : Hid (runL partB (byt s) = k) := Lib.hid (by rw [he, runL_end (by rw [byt_length]; omega)]; rfl)
      clear he
      go_wp2_with fail
      go_ret
      exact ⟨ret_i He.out.symm, rfl⟩

theorem isNot_any (e : Int) (w : World) :
    Calls Tryd.prog 91 #[.int .u8 e] w fun en w' => en = .returned (.func (.func 115) #[] #[.pointer (some ⟨w.heap.size, 0, none⟩)]) ∧ w'.heap[w.heap.size]? = some (.cells #[.int .u8 e] 5 (0, 0)) ∧ Below w.heap.size w w' := by
  go_enter Tryd.func91, Tryd.ntmps91
  go_wp2_with fail
  go_ret
  exact ⟨rfl, heap_alloc_new w _, (Below.refl _ _).alloc (Nat.le_refl _) _⟩

theorem isNot1_any (b : UInt8) (g : Nat) (w : World) (hc : w.cell? ⟨g, 0, none⟩ = some (.int .u8 10)) :
    Calls Tryd.prog 115 #[.int .u8 (b.toNat : Int), .pointer (some ⟨g, 0, none⟩)] w fun e w' => e = .returned (.bool (lineB b)) ∧ w' = w := by
  unfold lineB
  cases h1 : ((b.toNat : Int) != 10)
  all_goals
    go_enter Tryd.func115, Tryd.ntmps115
    go_wp2_with fail
    go_ret
    exact ⟨rfl, rfl⟩

set_option maxRecDepth 100000 in
theorem run_line (s : ByteArray) (g : Nat) (w : World) (hs : s.size ≤ 60000)  (hc : w.cell? ⟨g, 0, none⟩ = some (.int .u8 10)) :
    Calls Tryd.prog 89 #[.string s, .func (.func 115) #[] #[.pointer (some ⟨g, 0, none⟩)]] w fun e w' => e = .returned (.int .i64 (runL lineB (byt s) : Nat)) ∧ w' = w := by
  go_enter Tryd.func89, Tryd.ntmps89
  go_wp2_with fail
  go_loopw [5] (fun i wr => ∃ k : Nat, k ≤ s.size ∧ i = .int .i64 k ∧ runL lineB (byt s) = k + runL lineB ((byt s).drop k) ∧ wr = w) (fun i _ => s.size - (intOf i).toNat)
  case atStart => exact ⟨0, Nat.zero_le _, rfl, by simp, rfl⟩
  case round =>
    obtain ⟨k, hk, rfl, he, rfl⟩ := hrel
    by_cases hlt : k < s.size
    · have g1 : k < (byt s).length := by rw [byt_length]; exact hlt
      cases hq : lineB (s[k]'hlt)
      · have He : Hid (runL lineB (byt s) = k) := Lib.hid (by rw [he, runL_stop g1 hq]; rfl)
        clear he
        go_wp2_with fail
        refine (isNot1_any _ g _ hc).mono ?_
        rw [hq]
        rintro e w1 ⟨rfl, rfl⟩
        go_wp2_with fail
        go_ret
        exact ⟨ret_i He.out.symm, rfl⟩
      · have He : Hid (runL lineB (byt s) = k + 1 + runL lineB ((byt s).drop (k + 1))) := Lib.hid (by rw [he, runL_step g1 hq]; omega)
        clear he
        go_wp2_with fail
        refine (isNot1_any _ g _ hc).mono ?_
        rw [hq]
        rintro e w1 ⟨rfl, rfl⟩
        go_wp2_with fail
        exact ⟨⟨k + 1, by omega, by go_num, He.out, by first | rfl | trivial⟩, by simp [intOf]; omega⟩
    · have He : Hid (runL lineB (byt s) = k) := Lib.hid (by rw [he, runL_end (by rw [byt_length]; omega)]; rfl)
      clear he
      go_wp2_with fail
      go_ret
      exact ⟨ret_i He.out.symm, rfl⟩
end Go.Proofs.YtkdnacniligjjaaDoor
