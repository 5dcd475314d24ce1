/-
  Contracts of token's pair, plain, begins, nameOrWord, badSize.
-/
import Derived.Test.YtkaceghngjpemaaDoorTk2
import Derived.Test.YtkaceghngjpemaaDoorTk3
namespace Go.Proofs.YtkaceghngjpemaaDoor
set_option linter.unusedVariables false
set_option linter.unusedSimpArgs false
open Go.RowKit

theorem ret_bn {a : Int} {b : Nat} {p : Int × Nat} (h : p = (a, b)) : Ending.returned (.tuple #[.int .u8 a, .int .i64 (b : Int)]) = .returned (.tuple #[.int .u8 p.1, .int .i64 (p.2 : Int)]) := by rw [h]
theorem ret_in {a : Int} {b : Nat} {p : Int × Nat} (h : p = (a, b)) : Ending.returned (.tuple #[.int .i64 a, .int .i64 (b : Int)]) = .returned (.tuple #[.int .i64 p.1, .int .i64 (p.2 : Int)]) := by rw [h]

set_option maxRecDepth 100000 in
theorem pair_any (s : ByteArray) (w : World) :
    Calls Tryd.prog 108 #[.string s] w fun e w' => e = .returned (.tuple #[.int .u8 (pairP s).1, .int .i64 ((pairP s).2 : Int)]) ∧ w' = w := by
  by_cases h : s.size < 2
  · have hr : Hid (pairP s = (0, 0)) := Lib.hid (by unfold pairP; rw [if_pos h])
    have q : decide ((s.size : Int) < 2) = true := by simp; omega
    go_enter Tryd.func108, Tryd.ntmps108
    go_wp2_with fail
    go_ret2
    exact ⟨ret_bn hr.out, rfl⟩
  · have hz : 1 < s.size := by omega
    have e1 := b1_eq hz
    have q : decide ((s.size : Int) < 2) = false := by simp; omega
    have hz' : (1 : Int) < (s.size : Int) := by omega
    cases h1 : (((s[1]'hz).toNat : Int) == 110)
    · cases h2 : (((s[1]'hz).toNat : Int) == 34)
      · cases h3 : (((s[1]'hz).toNat : Int) == 92)
        · have hr : Hid (pairP s = (0, 0)) := Lib.hid (by unfold pairP; rw [if_neg h, e1, h1, h2, h3]; rfl)
          clear e1
          go_enter Tryd.func108, Tryd.ntmps108
          go_wp2_with fail
          go_ret2
          exact ⟨ret_bn hr.out, rfl⟩
        · have hr : Hid (pairP s = (((s[1]'hz).toNat : Int), 2)) := Lib.hid (by unfold pairP; rw [if_neg h, e1, h1, h2, h3]; rfl)
          clear e1
          go_enter Tryd.func108, Tryd.ntmps108
          go_wp2_with fail
          go_ret2
          exact ⟨ret_bn hr.out, rfl⟩
      · have hr : Hid (pairP s = (((s[1]'hz).toNat : Int), 2)) := Lib.hid (by unfold pairP; rw [if_neg h, e1, h1, h2]; rfl)
        clear e1
        go_enter Tryd.func108, Tryd.ntmps108
        go_wp2_with fail
        go_ret2
        exact ⟨ret_bn hr.out, rfl⟩
    · have hr : Hid (pairP s = (10, 2)) := Lib.hid (by unfold pairP; rw [if_neg h, e1, h1]; rfl)
      clear e1
      go_enter Tryd.func108, Tryd.ntmps108
      go_wp2_with fail
      go_ret2
      exact ⟨ret_bn hr.out, rfl⟩

set_option maxRecDepth 100000 in
theorem plain_any (s : ByteArray) (w : World) (hz : 0 < s.size) :
    Calls Tryd.prog 71 #[.string s] w fun e w' => e = .returned (.tuple #[.int .u8 (plainP s).1, .int .i64 ((plainP s).2 : Int)]) ∧ w' = w := by
  have e1 := b0_eq hz
  have hz' : (0 : Int) < (s.size : Int) := by omega
  cases h1 : (((s[0]'hz).toNat : Int) == 34)
  · cases h2 : (((s[0]'hz).toNat : Int) == 10)
    · cases h3 : (((s[0]'hz).toNat : Int) == 92)
      · have hr : Hid (plainP s = (((s[0]'hz).toNat : Int), 1)) := Lib.hid (by unfold plainP; rw [e1, h1, h2, h3]; rfl)
        clear e1
        go_enter Tryd.func71, Tryd.ntmps71
        go_wp2_with fail
        go_ret2
        exact ⟨ret_bn hr.out, rfl⟩
      · have hr : Hid (plainP s = pairP s) := Lib.hid (by unfold plainP; rw [e1, h1, h2, h3]; rfl)
        clear e1
        go_enter Tryd.func71, Tryd.ntmps71
        go_wp2_with fail
        refine (pair_any s w).mono ?_
        rintro e w1 ⟨rfl, rfl⟩
        go_wp2_with fail
        go_ret2
        exact ⟨ret_bn hr.out, rfl⟩
    · have hr : Hid (plainP s = (0, 0)) := Lib.hid (by unfold plainP; rw [e1, h1, h2]; rfl)
      clear e1
      go_enter Tryd.func71, Tryd.ntmps71
      go_wp2_with fail
      go_ret2
      exact ⟨ret_bn hr.out, rfl⟩
  · have hr : Hid (plainP s = (0, 0)) := Lib.hid (by unfold plainP; rw [e1, h1]; rfl)
    clear e1
    go_enter Tryd.func71, Tryd.ntmps71
    go_wp2_with fail
    go_ret2
    exact ⟨ret_bn hr.out, rfl⟩

theorem ret_k {a b : Int} (h : a = b) : Ending.returned (.int .i64 a) = .returned (.int .i64 b) := by rw [h]
set_option maxRecDepth 100000 in
theorem begins_any (s : ByteArray) (w : World) (hz : 0 < s.size) (hT : Tabs w) :
    Calls Tryd.prog 88 #[.string s] w fun e w' => e = .returned (.int .i64 (beginK s)) ∧ w' = w := by
  have e1 := b0_eq hz
  have hz' : (0 : Int) < (s.size : Int) := by omega
  have HT := Lib.hid hT
  clear hT
  cases h0 : blankB (s[0]'hz)
  case true =>
    have hr : Hid (beginK s = 1) := Lib.hid (by unfold beginK; rw [e1, h0]; rfl)
    clear e1
    go_enter Tryd.func88, Tryd.ntmps88
    go_wp2_with fail
    refine (isBlank_any _ _).mono ?_
    rw [h0]
    rintro e w1 ⟨rfl, rfl⟩
    go_wp2_with fail
    go_ret
    exact ⟨ret_k hr.out.symm, rfl⟩
  case false =>
    cases h1 : preB s slashes
    case true =>
      have hr : Hid (beginK s = 2) := Lib.hid (by unfold beginK; rw [e1, h0, h1]; rfl)
      clear e1
      go_enter Tryd.func88, Tryd.ntmps88
      go_wp2_with fail
      refine (isBlank_any _ _).mono ?_
      rw [h0]
      rintro e w1 ⟨rfl, rfl⟩
      go_wp2_with fail
      refine (pre_any s slashes _).mono ?_
      rw [h1]
      rintro e w1 ⟨rfl, rfl⟩
      go_wp2_with fail
      go_ret
      exact ⟨ret_k hr.out.symm, rfl⟩
    case false =>
      cases h2 : digitB (s[0]'hz)
      case true =>
        have hr : Hid (beginK s = 5) := Lib.hid (by unfold beginK; rw [e1, h0, h1, h2]; rfl)
        clear e1
        go_enter Tryd.func88, Tryd.ntmps88
        go_wp2_with fail
        refine (isBlank_any _ _).mono ?_
        rw [h0]
        rintro e w1 ⟨rfl, rfl⟩
        go_wp2_with fail
        refine (pre_any s slashes _).mono ?_
        rw [h1]
        rintro e w1 ⟨rfl, rfl⟩
        go_wp2_with fail
        refine (isDigit_any _ _).mono ?_
        rw [h2]
        rintro e w1 ⟨rfl, rfl⟩
        go_wp2_with fail
        go_ret
        exact ⟨ret_k hr.out.symm, rfl⟩
      case false =>
        cases h3 : partB (s[0]'hz)
        case true =>
          have hr : Hid (beginK s = 3) := Lib.hid (by unfold beginK; rw [e1, h0, h1, h2, h3]; rfl)
          clear e1
          go_enter Tryd.func88, Tryd.ntmps88
          go_wp2_with fail
          refine (isBlank_any _ _).mono ?_
          rw [h0]
          rintro e w1 ⟨rfl, rfl⟩
          go_wp2_with fail
          refine (pre_any s slashes _).mono ?_
          rw [h1]
          rintro e w1 ⟨rfl, rfl⟩
          go_wp2_with fail
          refine (isDigit_any _ _).mono ?_
          rw [h2]
          rintro e w1 ⟨rfl, rfl⟩
          go_wp2_with fail
          refine (isPartOfName_any _ _).mono ?_
          rw [h3]
          rintro e w1 ⟨rfl, rfl⟩
          go_wp2_with fail
          go_ret
          exact ⟨ret_k hr.out.symm, rfl⟩
        case false =>
          cases h4 : (((s[0]'hz).toNat : Int) == 34)
          case true =>
            have hr : Hid (beginK s = 6) := Lib.hid (by unfold beginK; rw [e1, h0, h1, h2, h3, h4]; rfl)
            clear e1
            go_enter Tryd.func88, Tryd.ntmps88
            go_wp2_with fail
            refine (isBlank_any _ _).mono ?_
            rw [h0]
            rintro e w1 ⟨rfl, rfl⟩
            go_wp2_with fail
            refine (pre_any s slashes _).mono ?_
            rw [h1]
            rintro e w1 ⟨rfl, rfl⟩
            go_wp2_with fail
            refine (isDigit_any _ _).mono ?_
            rw [h2]
            rintro e w1 ⟨rfl, rfl⟩
            go_wp2_with fail
            refine (isPartOfName_any _ _).mono ?_
            rw [h3]
            rintro e w1 ⟨rfl, rfl⟩
            go_wp2_with fail
            go_ret
            exact ⟨ret_k hr.out.symm, rfl⟩
          case false =>
            by_cases h5 : 0 < signN s
            · have hr : Hid (beginK s = 7) := Lib.hid (by unfold beginK; rw [e1, h0, h1, h2, h3, h4]; simp [h5])
              have q5 : decide ((0 : Int) < (signN s : Int)) = true := by simp; omega
              clear e1
              go_enter Tryd.func88, Tryd.ntmps88
              go_wp2_with fail
              refine (isBlank_any _ _).mono ?_
              rw [h0]
              rintro e w1 ⟨rfl, rfl⟩
              go_wp2_with fail
              refine (pre_any s slashes _).mono ?_
              rw [h1]
              rintro e w1 ⟨rfl, rfl⟩
              go_wp2_with fail
              refine (isDigit_any _ _).mono ?_
              rw [h2]
              rintro e w1 ⟨rfl, rfl⟩
              go_wp2_with fail
              refine (isPartOfName_any _ _).mono ?_
              rw [h3]
              rintro e w1 ⟨rfl, rfl⟩
              go_wp2_with fail
              refine (signSize_any s _ HT.out).mono ?_
              rintro e w1 ⟨rfl, rfl⟩
              go_wp2_with fail
              go_ret
              exact ⟨ret_k hr.out.symm, rfl⟩
            · have hr : Hid (beginK s = 8) := Lib.hid (by unfold beginK; rw [e1, h0, h1, h2, h3, h4]; simp [h5])
              have q5 : decide ((0 : Int) < (signN s : Int)) = false := by simp; omega
              clear e1
              go_enter Tryd.func88, Tryd.ntmps88
              go_wp2_with fail
              refine (isBlank_any _ _).mono ?_
              rw [h0]
              rintro e w1 ⟨rfl, rfl⟩
              go_wp2_with fail
              refine (pre_any s slashes _).mono ?_
              rw [h1]
              rintro e w1 ⟨rfl, rfl⟩
              go_wp2_with fail
              refine (isDigit_any _ _).mono ?_
              rw [h2]
              rintro e w1 ⟨rfl, rfl⟩
              go_wp2_with fail
              refine (isPartOfName_any _ _).mono ?_
              rw [h3]
              rintro e w1 ⟨rfl, rfl⟩
              go_wp2_with fail
              refine (signSize_any s _ HT.out).mono ?_
              rintro e w1 ⟨rfl, rfl⟩
              go_wp2_with fail
              go_ret
              exact ⟨ret_k hr.out.symm, rfl⟩

set_option maxRecDepth 100000 in
theorem nameOrWord_any (s : ByteArray) (w : World) (hs : s.size ≤ 60000) (hT : Tabs w) :
    Calls Tryd.prog 92 #[.string s] w fun e w' => e = .returned (.tuple #[.int .i64 (nameP s).1, .int .i64 ((nameP s).2 : Int)]) ∧ w' = w := by
  have hle := runL_le partB (byt s)
  rw [byt_length] at hle
  have HT := Lib.hid hT
  have hrn := run_part s w hs
  have hp : nameP s = (if wordB (s.extract 0 (runL partB (byt s))) then 4 else 3, runL partB (byt s)) := rfl
  generalize runL partB (byt s) = n at hle hrn hp
  have Hrn := Lib.hid hrn
  have hn1 : (0 : Int) ≤ (n : Int) := by omega
  have hn2 : (n : Int) ≤ (s.size : Int) := by omega
  clear hT hrn
  cases hq : wordB (s.extract 0 n)
  · have hr : Hid (nameP s = (3, n)) := Lib.hid (by rw [hp, hq]; rfl)
    clear hp
    go_enter Tryd.func92, Tryd.ntmps92
    go_wp2_with fail
    refine Hrn.out.mono ?_
    rintro e w1 ⟨rfl, rfl⟩
    go_wp2_with fail
    refine (isWord_any _ _ HT.out).mono ?_
    rw [hq]
    rintro e w1 ⟨rfl, rfl⟩
    go_wp2_with fail
    go_ret2
    exact ⟨ret_in hr.out, rfl⟩
  · have hr : Hid (nameP s = (4, n)) := Lib.hid (by rw [hp, hq]; rfl)
    clear hp
    go_enter Tryd.func92, Tryd.ntmps92
    go_wp2_with fail
    refine Hrn.out.mono ?_
    rintro e w1 ⟨rfl, rfl⟩
    go_wp2_with fail
    refine (isWord_any _ _ HT.out).mono ?_
    rw [hq]
    rintro e w1 ⟨rfl, rfl⟩
    go_wp2_with fail
    go_ret2
    exact ⟨ret_in hr.out, rfl⟩

set_option maxRecDepth 100000 in
theorem badSize_any (s : ByteArray) (w : World) (hs : s.size ≤ 60000) (hz : 0 < s.size) (hT : Tabs w) :
    Calls Tryd.prog 96 #[.string s] w fun e w' => e = .returned (.int .i64 (badN s : Nat)) ∧ w' = w := by
  have HT := Lib.hid hT
  clear hT
  go_enter Tryd.func96, Tryd.ntmps96
  go_wp2_with fail
  go_loopw [3] (fun i wr => ∃ k : Nat, 1 ≤ k ∧ k ≤ s.size ∧ i = .int .i64 k ∧ badN s = badF (s.size - k) s k ∧ wr = w) (fun i _ => s.size - (intOf i).toNat)
  case atStart => exact ⟨1, by omega, by omega, rfl, rfl, rfl⟩
  case round =>
    obtain ⟨k, hk1, hk, rfl, he, rfl⟩ := hrel
    by_cases hlt : k < s.size
    · have hsz := tail_size s k
      have hb := begins_any (s.extract k s.size) wr (by omega) HT.out
      have hk2 : (k : Int) ≤ (s.size : Int) := by omega
      rw [show s.size - k = (s.size - (k + 1)) + 1 by omega] at he
      simp only [badF] at he
      by_cases hq : beginK (s.extract k s.size) = 8
      · rw [if_pos hq] at he
        rw [hq] at hb
        have He := Lib.hid he
        have Hb := Lib.hid hb
        clear he hb hq
        go_wp2_with fail
        refine Hb.out.mono ?_
        rintro e w1 ⟨rfl, rfl⟩
        go_wp2_with fail
        exact ⟨⟨k + 1, by omega, by omega, by go_num, He.out, by first | rfl | trivial⟩, by simp [intOf]; omega⟩
      · rw [if_neg hq] at he
        have q : (beginK (s.extract k s.size) == 8) = false := by simpa using hq
        generalize beginK (s.extract k s.size) = B at q hb
        have He := Lib.hid he
        have Hb := Lib.hid hb
        clear he hb hq
        go_wp2_with fail
        refine Hb.out.mono ?_
        rintro e w1 ⟨rfl, rfl⟩
        go_wp2_with fail
        go_ret
        exact ⟨ret_i He.out.symm, rfl⟩
    · rw [show s.size - k = 0 by omega] at he
      have He : Hid (badN s = k) := Lib.hid he
      clear he
      go_wp2_with fail
      go_ret
      exact ⟨ret_i He.out.symm, rfl⟩
end Go.Proofs.YtkaceghngjpemaaDoor
