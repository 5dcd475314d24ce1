/-
  Contracts of token's tests of bytes, and of runs of them.
-/
import Derived.Test.YtkaceghngjpemaaDoorTkMath
import Derived.Test.YtkaceghngjpemaaDoorRows
import Derived.WalkKit
import Derived.LoopTactic
import Derived.Lib.Hide
namespace Go.Proofs.YtkaceghngjpemaaDoor
set_option linter.unusedVariables false
set_option linter.unusedSimpArgs false
open Go.RowKit

theorem u8_eq (b : UInt8) : ∃ n : Nat, n < 256 ∧ (b.toNat : Int) = n := ⟨b.toNat, b.toNat_lt, rfl⟩
theorem ret_i {a b : Nat} (h : a = b) : Ending.returned (.int .i64 (a : Int)) = .returned (.int .i64 (b : Int)) := by rw [h]

set_option maxRecDepth 100000 in
theorem isBlank_any (b : UInt8) (w : World) :
    Calls Tryd.prog 90 #[.int .u8 (b.toNat : Int)] w fun e w' => e = .returned (.bool (blankB b)) ∧ w' = w := by
  unfold blankB
  cases h1 : ((b.toNat : Int) == 32)
  · cases h2 : ((b.toNat : Int) == 9)
    · cases h3 : ((b.toNat : Int) == 10)
      · cases h4 : ((b.toNat : Int) == 13)
        all_goals
          go_enter Tryd.func90, Tryd.ntmps90
          go_wp2_with fail
          go_ret
          exact ⟨rfl, rfl⟩
      ·
        go_enter Tryd.func90, Tryd.ntmps90
        go_wp2_with fail
        go_ret
        exact ⟨rfl, rfl⟩
    ·
      go_enter Tryd.func90, Tryd.ntmps90
      go_wp2_with fail
      go_ret
      exact ⟨rfl, rfl⟩
  ·
    go_enter Tryd.func90, Tryd.ntmps90
    go_wp2_with fail
    go_ret
    exact ⟨rfl, rfl⟩
set_option maxRecDepth 100000 in
theorem isDigit_any (b : UInt8) (w : World) :
    Calls Tryd.prog 93 #[.int .u8 (b.toNat : Int)] w fun e w' => e = .returned (.bool (digitB b)) ∧ w' = w := by
  unfold digitB
  cases h1 : decide (48 ≤ (b.toNat : Int))
  · go_enter Tryd.func93, Tryd.ntmps93
    go_wp2_with fail
    go_ret
    exact ⟨rfl, rfl⟩
  · cases h2 : decide ((b.toNat : Int) ≤ 57)
    all_goals
      go_enter Tryd.func93, Tryd.ntmps93
      go_wp2_with fail
      go_ret
      exact ⟨rfl, rfl⟩
set_option maxRecDepth 100000 in
theorem isGreat_any (b : UInt8) (w : World) :
    Calls Tryd.prog 69 #[.int .u8 (b.toNat : Int)] w fun e w' => e = .returned (.bool (greatB b)) ∧ w' = w := by
  unfold greatB
  cases h1 : decide (65 ≤ (b.toNat : Int))
  · go_enter Tryd.func69, Tryd.ntmps69
    go_wp2_with fail
    go_ret
    exact ⟨rfl, rfl⟩
  · cases h2 : decide ((b.toNat : Int) ≤ 90)
    all_goals
      go_enter Tryd.func69, Tryd.ntmps69
      go_wp2_with fail
      go_ret
      exact ⟨rfl, rfl⟩
set_option maxRecDepth 100000 in
theorem isPartOfName_any (b : UInt8) (w : World) :
    Calls Tryd.prog 121 #[.int .u8 (b.toNat : Int)] w fun e w' => e = .returned (.bool (partB b)) ∧ w' = w := by
  unfold partB
  cases h1 : decide (97 ≤ (b.toNat : Int))
  ·
    cases h3 : greatB b
    · cases h4 : digitB b
      · cases h5 : ((b.toNat : Int) == 95)
        all_goals
          go_enter Tryd.func121, Tryd.ntmps121
          go_wp2_with fail
          refine (isGreat_any b w).mono ?_
          rw [h3]
          rintro e w1 ⟨rfl, rfl⟩
          go_wp2_with fail
          refine (isDigit_any b w1).mono ?_
          rw [h4]
          rintro e w2 ⟨rfl, rfl⟩
          go_wp2_with fail
          go_ret
          exact ⟨rfl, rfl⟩
      · go_enter Tryd.func121, Tryd.ntmps121
        go_wp2_with fail
        refine (isGreat_any b w).mono ?_
        rw [h3]
        rintro e w1 ⟨rfl, rfl⟩
        go_wp2_with fail
        refine (isDigit_any b w1).mono ?_
        rw [h4]
        rintro e w2 ⟨rfl, rfl⟩
        go_wp2_with fail
        go_ret
        exact ⟨rfl, rfl⟩
    · go_enter Tryd.func121, Tryd.ntmps121
      go_wp2_with fail
      refine (isGreat_any b w).mono ?_
      rw [h3]
      rintro e w1 ⟨rfl, rfl⟩
      go_wp2_with fail
      go_ret
      exact ⟨rfl, rfl⟩
  · cases h2 : decide ((b.toNat : Int) ≤ 122)
    ·
      cases h3 : greatB b
      · cases h4 : digitB b
        · cases h5 : ((b.toNat : Int) == 95)
          all_goals
            go_enter Tryd.func121, Tryd.ntmps121
            go_wp2_with fail
            refine (isGreat_any b w).mono ?_
            rw [h3]
            rintro e w1 ⟨rfl, rfl⟩
            go_wp2_with fail
            refine (isDigit_any b w1).mono ?_
            rw [h4]
            rintro e w2 ⟨rfl, rfl⟩
            go_wp2_with fail
            go_ret
            exact ⟨rfl, rfl⟩
        · go_enter Tryd.func121, Tryd.ntmps121
          go_wp2_with fail
          refine (isGreat_any b w).mono ?_
          rw [h3]
          rintro e w1 ⟨rfl, rfl⟩
          go_wp2_with fail
          refine (isDigit_any b w1).mono ?_
          rw [h4]
          rintro e w2 ⟨rfl, rfl⟩
          go_wp2_with fail
          go_ret
          exact ⟨rfl, rfl⟩
      · go_enter Tryd.func121, Tryd.ntmps121
        go_wp2_with fail
        refine (isGreat_any b w).mono ?_
        rw [h3]
        rintro e w1 ⟨rfl, rfl⟩
        go_wp2_with fail
        go_ret
        exact ⟨rfl, rfl⟩
    ·
      go_enter Tryd.func121, Tryd.ntmps121
      go_wp2_with fail
      go_ret
      exact ⟨rfl, rfl⟩
end Go.Proofs.YtkaceghngjpemaaDoor
