/-
  Contracts of token's pair, plain, begins, nameOrWord, badSize.; Contracts of token's textOrBad and first.; The contract of token's first.; Plain mathematics of layer 3: the first token is not empty, and no longer than the string.
-/
import Derived.Test.YtpjlgahbbmlngaaDoorTreeLeavesp2
import Derived.Test.YtpjlgahbbmlngaaDoorTreeLeavesp3
import Derived.Lib.Builder
namespace Go.Proofs.YtpjlgahbbmlngaaDoor
set_option linter.unusedVariables false
set_option linter.unusedSimpArgs false
open Go.RowKit

theorem ret_bn {a : Int} {b : Nat} {p : Int × Nat} (h : p = (a, b)) : Ending.returned (.tuple #[.int .u8 a, .int .i64 (b : Int)]) = .returned (.tuple #[.int .u8 p.1, .int .i64 (p.2 : Int)]) := by rw [h]
theorem ret_in {a : Int} {b : Nat} {p : Int × Nat} (h : p = (a, b)) : Ending.returned (.tuple #[.int .i64 a, .int .i64 (b : Int)]) = .returned (.tuple #[.int .i64 p.1, .int .i64 (p.2 : Int)]) := by rw [h]

set_option maxRecDepth 100000 in
theorem pair_any (s : ByteArray) (w : World) :
    Calls Tryd.prog 139 #[.string s] w fun e w' => e = .returned (.tuple #[.int .u8 (pairP s).1, .int .i64 ((pairP s).2 : Int)]) ∧ w' = w := by
  by_cases h : s.size < 2
  · have hr : Hid (pairP s = (0, 0)) := Lib.hid (by unfold pairP; rw [if_pos h])
    have q : decide ((s.size : Int) < 2) = true := by simp; omega
    go_enter Tryd.func139, Tryd.ntmps139
    go_wp2_with fail
    go_ret2
    exact ⟨ret_bn hr.out, rfl⟩
  · have hz : 1 < s.size := by omega
    have e1 := b1_eq hz
    have q : decide ((s.size : Int) < 2) = false := by simp; omega
    have hz' : (1 : Int) < (s.size : Int) := by omega
    cases h1 : (((s[1]'hz).toNat : Int) == 110)
    · cases h2 : (((s[1]'hz).toNat : Int) == 34)
      · cases h3 : (((s[1]'hz).toNat : Int) == 92)
        · have hr : Hid (pairP s = (0, 0)) := Lib.hid (by unfold pairP; rw [if_neg h, e1, h1, h2, h3]; rfl)
          clear e1
          go_enter Tryd.func139, Tryd.ntmps139
          go_wp2_with fail
          go_ret2
          exact ⟨ret_bn hr.out, rfl⟩
        · have hr : Hid (pairP s = (((s[1]'hz).toNat : Int), 2)) := Lib.hid (by unfold pairP; rw [if_neg h, e1, h1, h2, h3]; rfl)
          clear e1
          go_enter Tryd.func139, Tryd.ntmps139
          go_wp2_with fail
          go_ret2
          exact ⟨ret_bn hr.out, rfl⟩
      · have hr : Hid (pairP s = (((s[1]'hz).toNat : Int), 2)) := Lib.hid (by unfold pairP; rw [if_neg h, e1, h1, h2]; rfl)
        clear e1
        go_enter Tryd.func139, Tryd.ntmps139
        go_wp2_with fail
        go_ret2
        exact ⟨ret_bn hr.out, rfl⟩
    · have hr : Hid (pairP s = (10, 2)) := Lib.hid (by unfold pairP; rw [if_neg h, e1, h1]; rfl)
      clear e1
      go_enter Tryd.func139, Tryd.ntmps139
      go_wp2_with fail
      go_ret2
      exact ⟨ret_bn hr.out, rfl⟩

set_option maxRecDepth 100000 in
theorem plain_any (s : ByteArray) (w : World) (hz : 0 < s.size) :
    Calls Tryd.prog 134 #[.string s] w fun e w' => e = .returned (.tuple #[.int .u8 (plainP s).1, .int .i64 ((plainP s).2 : Int)]) ∧ w' = w := by
  have e1 := b0_eq hz
  have hz' : (0 : Int) < (s.size : Int) := by omega
  cases h1 : (((s[0]'hz).toNat : Int) == 34)
  · cases h2 : (((s[0]'hz).toNat : Int) == 10)
    · cases h3 : (((s[0]'hz).toNat : Int) == 92)
      · have hr : Hid (plainP s = (((s[0]'hz).toNat : Int), 1)) := Lib.hid (by unfold plainP; rw [e1, h1, h2, h3]; rfl)
        clear e1
        go_enter Tryd.func134, Tryd.ntmps134
        go_wp2_with fail
        go_ret2
        exact ⟨ret_bn hr.out, rfl⟩
      · have hr : Hid (plainP s = pairP s) := Lib.hid (by unfold plainP; rw [e1, h1, h2, h3]; rfl)
        clear e1
        go_enter Tryd.func134, Tryd.ntmps134
        go_wp2_with fail
        refine (pair_any s w).mono ?_
        rintro e w1 ⟨rfl, rfl⟩
        go_wp2_with fail
        go_ret2
        exact ⟨ret_bn hr.out, rfl⟩
    · have hr : Hid (plainP s = (0, 0)) := Lib.hid (by unfold plainP; rw [e1, h1, h2]; rfl)
      clear e1
      go_enter Tryd.func134, Tryd.ntmps134
      go_wp2_with fail
      go_ret2
      exact ⟨ret_bn hr.out, rfl⟩
  · have hr : Hid (plainP s = (0, 0)) := Lib.hid (by unfold plainP; rw [e1, h1]; rfl)
    clear e1
    go_enter Tryd.func134, Tryd.ntmps134
    go_wp2_with fail
    go_ret2
    exact ⟨ret_bn hr.out, rfl⟩

theorem ret_k {a b : Int} (h : a = b) : Ending.returned (.int .i64 a) = .returned (.int .i64 b) := by rw [h]
set_option maxRecDepth 100000 in
theorem begins_any (s : ByteArray) (w : World) (hz : 0 < s.size) (hT : Tabs w) :
    Calls Tryd.prog 116 #[.string s] w fun e w' => e = .returned (.int .i64 (beginK s)) ∧ w' = w := by
  have e1 := b0_eq hz
  have hz' : (0 : Int) < (s.size : Int) := by omega
  have HT := Lib.hid hT
  clear hT
  cases h0 : blankB (s[0]'hz)
  case true =>
    have hr : Hid (beginK s = 1) := Lib.hid (by unfold beginK; rw [e1, h0]; rfl)
    clear e1
    go_enter Tryd.func116, Tryd.ntmps116
    go_wp2_with fail
    refine (isBlank_any _ _).mono ?_
    rw [h0]
    rintro e w1 ⟨rfl, rfl⟩
    go_wp2_with fail
    go_ret
    exact ⟨ret_k hr.out.symm, rfl⟩
  case false =>
    cases h1 : preB s slashes
    case true =>
      have hr : Hid (beginK s = 2) := Lib.hid (by unfold beginK; rw [e1, h0, h1]; rfl)
      clear e1
      go_enter Tryd.func116, Tryd.ntmps116
      go_wp2_with fail
      refine (isBlank_any _ _).mono ?_
      rw [h0]
      rintro e w1 ⟨rfl, rfl⟩
      go_wp2_with fail
      refine (pre_any s slashes _).mono ?_
      rw [h1]
      rintro e w1 ⟨rfl, rfl⟩
      go_wp2_with fail
      go_ret
      exact ⟨ret_k hr.out.symm, rfl⟩
    case false =>
      cases h2 : digitB (s[0]'hz)
      case true =>
        have hr : Hid (beginK s = 5) := Lib.hid (by unfold beginK; rw [e1, h0, h1, h2]; rfl)
        clear e1
        go_enter Tryd.func116, Tryd.ntmps116
        go_wp2_with fail
        refine (isBlank_any _ _).mono ?_
        rw [h0]
        rintro e w1 ⟨rfl, rfl⟩
        go_wp2_with fail
        refine (pre_any s slashes _).mono ?_
        rw [h1]
        rintro e w1 ⟨rfl, rfl⟩
        go_wp2_with fail
        refine (isDigit_any _ _).mono ?_
        rw [h2]
        rintro e w1 ⟨rfl, rfl⟩
        go_wp2_with fail
        go_ret
        exact ⟨ret_k hr.out.symm, rfl⟩
      case false =>
        cases h3 : partB (s[0]'hz)
        case true =>
          have hr : Hid (beginK s = 3) := Lib.hid (by unfold beginK; rw [e1, h0, h1, h2, h3]; rfl)
          clear e1
          go_enter Tryd.func116, Tryd.ntmps116
          go_wp2_with fail
          refine (isBlank_any _ _).mono ?_
          rw [h0]
          rintro e w1 ⟨rfl, rfl⟩
          go_wp2_with fail
          refine (pre_any s slashes _).mono ?_
          rw [h1]
          rintro e w1 ⟨rfl, rfl⟩
          go_wp2_with fail
          refine (isDigit_any _ _).mono ?_
          rw [h2]
          rintro e w1 ⟨rfl, rfl⟩
          go_wp2_with fail
          refine (isPartOfName_any _ _).mono ?_
          rw [h3]
          rintro e w1 ⟨rfl, rfl⟩
          go_wp2_with fail
          go_ret
          exact ⟨ret_k hr.out.symm, rfl⟩
        case false =>
          cases h4 : (((s[0]'hz).toNat : Int) == 34)
          case true =>
            have hr : Hid (beginK s = 6) := Lib.hid (by unfold beginK; rw [e1, h0, h1, h2, h3, h4]; rfl)
            clear e1
            go_enter Tryd.func116, Tryd.ntmps116
            go_wp2_with fail
            refine (isBlank_any _ _).mono ?_
            rw [h0]
            rintro e w1 ⟨rfl, rfl⟩
            go_wp2_with fail
            refine (pre_any s slashes _).mono ?_
            rw [h1]
            rintro e w1 ⟨rfl, rfl⟩
            go_wp2_with fail
            refine (isDigit_any _ _).mono ?_
            rw [h2]
            rintro e w1 ⟨rfl, rfl⟩
            go_wp2_with fail
            refine (isPartOfName_any _ _).mono ?_
            rw [h3]
            rintro e w1 ⟨rfl, rfl⟩
            go_wp2_with fail
            go_ret
            exact ⟨ret_k hr.out.symm, rfl⟩
          case false =>
            by_cases h5 : 0 < signN s
            · have hr : Hid (beginK s = 7) := Lib.hid (by unfold beginK; rw [e1, h0, h1, h2, h3, h4]; simp [h5])
              have q5 : decide ((0 : Int) < (signN s : Int)) = true := by simp; omega
              clear e1
              go_enter Tryd.func116, Tryd.ntmps116
              go_wp2_with fail
              refine (isBlank_any _ _).mono ?_
              rw [h0]
              rintro e w1 ⟨rfl, rfl⟩
              go_wp2_with fail
              refine (pre_any s slashes _).mono ?_
              rw [h1]
              rintro e w1 ⟨rfl, rfl⟩
              go_wp2_with fail
              refine (isDigit_any _ _).mono ?_
              rw [h2]
              rintro e w1 ⟨rfl, rfl⟩
              go_wp2_with fail
              refine (isPartOfName_any _ _).mono ?_
              rw [h3]
              rintro e w1 ⟨rfl, rfl⟩
              go_wp2_with fail
              refine (signSize_any s _ HT.out).mono ?_
              rintro e w1 ⟨rfl, rfl⟩
              go_wp2_with fail
              go_ret
              exact ⟨ret_k hr.out.symm, rfl⟩
            · have hr : Hid (beginK s = 8) := Lib.hid (by unfold beginK; rw [e1, h0, h1, h2, h3, h4]; simp [h5])
              have q5 : decide ((0 : Int) < (signN s : Int)) = false := by simp; omega
              clear e1
              go_enter Tryd.func116, Tryd.ntmps116
              go_wp2_with fail
              refine (isBlank_any _ _).mono ?_
              rw [h0]
              rintro e w1 ⟨rfl, rfl⟩
              go_wp2_with fail
              refine (pre_any s slashes _).mono ?_
              rw [h1]
              rintro e w1 ⟨rfl, rfl⟩
              go_wp2_with fail
              refine (isDigit_any _ _).mono ?_
              rw [h2]
              rintro e w1 ⟨rfl, rfl⟩
              go_wp2_with fail
              refine (isPartOfName_any _ _).mono ?_
              rw [h3]
              rintro e w1 ⟨rfl, rfl⟩
              go_wp2_with fail
              refine (signSize_any s _ HT.out).mono ?_
              rintro e w1 ⟨rfl, rfl⟩
              go_wp2_with fail
              go_ret
              exact ⟨ret_k hr.out.symm, rfl⟩

set_option maxRecDepth 100000 in
theorem nameOrWord_any (s : ByteArray) (w : World) (hs : s.size ≤ 60000) (hT : Tabs w) :
    Calls Tryd.prog 120 #[.string s] w fun e w' => e = .returned (.tuple #[.int .i64 (nameP s).1, .int .i64 ((nameP s).2 : Int)]) ∧ w' = w := by
  have hle := runL_le partB (byt s)
  rw [byt_length] at hle
  have HT := Lib.hid hT
  have hrn := run_part s w hs
  have hp : nameP s = (if wordB (s.extract 0 (runL partB (byt s))) then 4 else 3, runL partB (byt s)) := rfl
  generalize runL partB (byt s) = n at hle hrn hp
  have Hrn := Lib.hid hrn
  have hn1 : (0 : Int) ≤ (n : Int) := by omega
  have hn2 : (n : Int) ≤ (s.size : Int) := by omega
  clear hT hrn
  cases hq : wordB (s.extract 0 n)
  · have hr : Hid (nameP s = (3, n)) := Lib.hid (by rw [hp, hq]; rfl)
    clear hp
    go_enter Tryd.func120, Tryd.ntmps120
    go_wp2_with fail
    refine Hrn.out.mono ?_
    rintro e w1 ⟨rfl, rfl⟩
    go_wp2_with fail
    refine (isWord_any _ _ HT.out).mono ?_
    rw [hq]
    rintro e w1 ⟨rfl, rfl⟩
    go_wp2_with fail
    go_ret2
    exact ⟨ret_in hr.out, rfl⟩
  · have hr : Hid (nameP s = (4, n)) := Lib.hid (by rw [hp, hq]; rfl)
    clear hp
    go_enter Tryd.func120, Tryd.ntmps120
    go_wp2_with fail
    refine Hrn.out.mono ?_
    rintro e w1 ⟨rfl, rfl⟩
    go_wp2_with fail
    refine (isWord_any _ _ HT.out).mono ?_
    rw [hq]
    rintro e w1 ⟨rfl, rfl⟩
    go_wp2_with fail
    go_ret2
    exact ⟨ret_in hr.out, rfl⟩

set_option maxRecDepth 100000 in
theorem badSize_any (s : ByteArray) (w : World) (hs : s.size ≤ 60000) (hz : 0 < s.size) (hT : Tabs w) :
    Calls Tryd.prog 124 #[.string s] w fun e w' => e = .returned (.int .i64 (badN s : Nat)) ∧ w' = w := by
  have HT := Lib.hid hT
  clear hT
  go_enter Tryd.func124, Tryd.ntmps124
  go_wp2_with fail
  go_loopw [3] (fun i wr => ∃ k : Nat, 1 ≤ k ∧ k ≤ s.size ∧ i = .int .i64 k ∧ badN s = badF (s.size - k) s k ∧ wr = w) (fun i _ => s.size - (intOf i).toNat)
  case atStart => exact ⟨1, by omega, by omega, rfl, rfl, rfl⟩
  case round =>
    obtain ⟨k, hk1, hk, rfl, he, rfl⟩ := hrel
    by_cases hlt : k < s.size
    · have hsz := tail_size s k
      have hb := begins_any (s.extract k s.size) wr (by omega) HT.out
      have hk2 : (k : Int) ≤ (s.size : Int) := by omega
      rw [show s.size - k = (s.size - (k + 1)) + 1 by omega] at he
      simp only [badF] at he
      by_cases hq : beginK (s.extract k s.size) = 8
      · rw [if_pos hq] at he
        rw [hq] at hb
        have He := Lib.hid he
        have Hb := Lib.hid hb
        clear he hb hq
        go_wp2_with fail
        refine Hb.out.mono ?_
        rintro e w1 ⟨rfl, rfl⟩
        go_wp2_with fail
        exact ⟨⟨k + 1, by omega, by omega, by go_num, He.out, by first | rfl | trivial⟩, by simp [intOf]; omega⟩
      · rw [if_neg hq] at he
        have q : (beginK (s.extract k s.size) == 8) = false := by simpa using hq
        generalize beginK (s.extract k s.size) = B at q hb
        have He := Lib.hid he
        have Hb := Lib.hid hb
        clear he hb hq
        go_wp2_with fail
        refine Hb.out.mono ?_
        rintro e w1 ⟨rfl, rfl⟩
        go_wp2_with fail
        go_ret
        exact ⟨ret_i He.out.symm, rfl⟩
    · rw [show s.size - k = 0 by omega] at he
      have He : Hid (badN s = k) := Lib.hid he
      clear he
      go_wp2_with fail
      go_ret
      exact ⟨ret_i He.out.symm, rfl⟩
end Go.Proofs.YtpjlgahbbmlngaaDoor

namespace Go.Proofs.YtpjlgahbbmlngaaDoor
set_option linter.unusedVariables false
set_option linter.unusedSimpArgs false
open Go.RowKit

theorem textF_nil : ∀ (f : Nat) (s : ByteArray) (k : Nat), s.size = 0 → textF f s k = none
  | 0, _, _, _ => rfl
  | f + 1, s, k, h => by simp only [textF]; rw [if_pos h]

set_option maxRecDepth 100000 in
set_option maxHeartbeats 1000000 in
theorem textOrBad_any (s : ByteArray) (w : World) (hs : s.size ≤ 60000) (hz : 0 < s.size) :
    Calls Tryd.prog 122 #[.string s] w fun e w' => e = .returned (.tuple #[.int .i64 (textP s).1, .int .i64 ((textP s).2 : Int)]) ∧ Below w.heap.size w w' := by
  have hb10 : ∀ W, Calls Tryd.prog 119 #[.int .u8 10] W fun en w' => en = .returned (.func (.func 132) #[] #[.pointer (some ⟨W.heap.size, 0, none⟩)]) ∧ w'.heap[W.heap.size]? = some (.cells #[.int .u8 10] 5 (0, 0)) ∧ Below W.heap.size W w' := fun W => isNot_any 10 W
  have HB10 := Lib.hid hb10
  clear hb10
  go_enter Tryd.func122, Tryd.ntmps122
  go_wp2_with fail
  go_loopw [4, 5, 6] (fun i _ _ wr => ∃ k f : Nat, 1 ≤ k ∧ k ≤ s.size ∧ i = .int .i64 k ∧ textE s = textF f (s.extract k s.size) k ∧ s.size - k ≤ f ∧ wr = w) (fun i _ _ _ => s.size - (intOf i).toNat)
  case atStart => exact ⟨1, s.size, by omega, by omega, rfl, rfl, by omega, rfl⟩
  case round =>
    obtain ⟨k, f, hk1, hk, rfl, he, hf, rfl⟩ := hrel
    by_cases hlt : k < s.size
    · have hsz := tail_size s k
      have hpl := plain_any (s.extract k s.size) wr (by omega)
      have hple := plainP_le (s := s.extract k s.size) (by omega)
      have hb0 := b0_tail hlt
      have hk2 : (k : Int) ≤ (s.size : Int) := by omega
      obtain ⟨f, rfl⟩ : ∃ f', f = f' + 1 := ⟨f - 1, by omega⟩
      simp only [textF] at he
      rw [if_neg (by omega), hb0] at he
      rw [hsz] at hple
      obtain ⟨⟨pv, st⟩, hst⟩ : ∃ p, p = plainP (s.extract k s.size) := ⟨_, rfl⟩
      rw [← hst] at hpl hple he
      simp only at hpl hple he
      by_cases h0 : 0 < st
      · rw [if_pos h0, tail_tail] at he
        have q : decide ((0 : Int) < (st : Int)) = true := by simp; omega
        have sk : IntKind.i64.wrap ((k : Int) + (st : Int)) = ((k + st : Nat) : Int) := by rw [IntWalk.i64_in _ (by omega)]; omega
        have He := Lib.hid he
        have Hpl := Lib.hid hpl
        clear he hpl hst hb0
        go_wp2_with fail
        refine Hpl.out.mono ?_
        rintro e w1 ⟨rfl, rfl⟩
        go_wp2_with fail
        exact ⟨⟨k + st, f, by omega, by omega, by go_num, He.out, by omega, by first | rfl | trivial⟩, by simp [intOf]; omega⟩
      · rw [if_neg h0] at he
        have q : decide ((0 : Int) < (st : Int)) = false := by simp; omega
        cases hq : (((s[k]'hlt).toNat : Int) == 34)
        · rw [hq] at he
          have hr : Hid (textP s = (8, runL lineB (byt s))) := Lib.hid (by unfold textP; rw [he]; rfl)
          have Hpl := Lib.hid hpl
          clear he hpl hst hb0
          go_wp2_with fail
          refine Hpl.out.mono ?_
          rintro e w1 ⟨rfl, rfl⟩
          go_wp2_with fail
          refine (HB10.out _).mono ?_
          rintro e w2 ⟨rfl, hh, hb2⟩
          have hc : w2.cell? ⟨w1.heap.size, 0, none⟩ = some (.int .u8 10) := Lib.cell_of_heap hh 0
          go_wp2_with fail
          refine (run_line s w1.heap.size w2 hs hc).mono ?_
          rintro e w3 ⟨rfl, rfl⟩
          go_wp2_with fail
          go_ret2
          exact ⟨ret_in hr.out, hb2⟩
        · rw [hq] at he
          have hr : Hid (textP s = (6, k + 1)) := Lib.hid (by unfold textP; rw [he]; rfl)
          have Hpl := Lib.hid hpl
          have sk : IntKind.i64.wrap ((k : Int) + 1) = ((k + 1 : Nat) : Int) := by rw [IntWalk.i64_in _ (by omega)]; omega
          clear he hpl hst hb0
          go_wp2_with fail
          refine Hpl.out.mono ?_
          rintro e w1 ⟨rfl, rfl⟩
          go_wp2_with fail
          go_ret2
          exact ⟨ret_in hr.out, Below.refl _ _⟩
    · have hn : textE s = none := he.trans (textF_nil _ _ _ (by rw [tail_size]; omega))
      have hr : Hid (textP s = (8, runL lineB (byt s))) := Lib.hid (by unfold textP; rw [hn])
      clear he hn
      go_wp2_with fail
      refine (HB10.out _).mono ?_
      rintro e w2 ⟨rfl, hh, hb2⟩
      have hc : w2.cell? ⟨wr.heap.size, 0, none⟩ = some (.int .u8 10) := Lib.cell_of_heap hh 0
      go_wp2_with fail
      refine (run_line s wr.heap.size w2 hs hc).mono ?_
      rintro e w3 ⟨rfl, rfl⟩
      go_wp2_with fail
      go_ret2
      exact ⟨ret_in hr.out, hb2⟩
end Go.Proofs.YtpjlgahbbmlngaaDoor

namespace Go.Proofs.YtpjlgahbbmlngaaDoor
set_option linter.unusedVariables false
set_option linter.unusedSimpArgs false
open Go.RowKit

set_option maxRecDepth 100000 in
set_option maxHeartbeats 1000000 in
theorem first_any (s : ByteArray) (w : World) (hs : s.size ≤ 60000) (hz : 0 < s.size) (hT : Tabs w) :
    Calls Tryd.prog 111 #[.string s] w fun e w' => e = .returned (.tuple #[.int .i64 (firstP s).1, .int .i64 ((firstP s).2 : Int)]) ∧ Below w.heap.size w w' := by
  have hb10 : ∀ W, Calls Tryd.prog 119 #[.int .u8 10] W fun en w' => en = .returned (.func (.func 132) #[] #[.pointer (some ⟨W.heap.size, 0, none⟩)]) ∧ w'.heap[W.heap.size]? = some (.cells #[.int .u8 10] 5 (0, 0)) ∧ Below W.heap.size W w' := fun W => isNot_any 10 W
  have HB10 := Lib.hid hb10
  have hb := begins_any s w hz hT
  have HT := Lib.hid hT
  clear hb10 hT
  rcases beginK_is s with h | h | h | h | h | h | h
  · have hr : Hid (firstP s = (1, runL blankB (byt s))) := Lib.hid (by unfold firstP; rw [h]; rfl)
    rw [h] at hb
    have Hb := Lib.hid hb
    clear hb h
    go_enter Tryd.func111, Tryd.ntmps111
    go_wp2_with fail
    refine Hb.out.mono ?_
    rintro e w1 ⟨rfl, rfl⟩
    go_wp2_with fail
    refine (run_blank s _ hs).mono ?_
    rintro e w2 ⟨rfl, rfl⟩
    go_wp2_with fail
    go_ret2
    exact ⟨ret_in hr.out, Below.refl _ _⟩
  · have hr : Hid (firstP s = (2, runL lineB (byt s))) := Lib.hid (by unfold firstP; rw [h]; rfl)
    rw [h] at hb
    have Hb := Lib.hid hb
    clear hb h
    go_enter Tryd.func111, Tryd.ntmps111
    go_wp2_with fail
    refine Hb.out.mono ?_
    rintro e w1 ⟨rfl, rfl⟩
    go_wp2_with fail
    refine (HB10.out _).mono ?_
    rintro e w2 ⟨rfl, hh, hb2⟩
    have hc : w2.cell? ⟨w1.heap.size, 0, none⟩ = some (.int .u8 10) := Lib.cell_of_heap hh 0
    go_wp2_with fail
    refine (run_line s w1.heap.size w2 hs hc).mono ?_
    rintro e w3 ⟨rfl, rfl⟩
    go_wp2_with fail
    go_ret2
    exact ⟨ret_in hr.out, hb2⟩
  · have hr : Hid (firstP s = ((nameP s).1, (nameP s).2)) := Lib.hid (by unfold firstP; rw [h]; rfl)
    rw [h] at hb
    have Hb := Lib.hid hb
    clear hb h
    go_enter Tryd.func111, Tryd.ntmps111
    go_wp2_with fail
    refine Hb.out.mono ?_
    rintro e w1 ⟨rfl, rfl⟩
    go_wp2_with fail
    refine (nameOrWord_any s _ hs HT.out).mono ?_
    rintro e w2 ⟨rfl, rfl⟩
    go_wp2_with fail
    go_ret2
    exact ⟨ret_in hr.out, Below.refl _ _⟩
  · have hr : Hid (firstP s = (5, runL digitB (byt s))) := Lib.hid (by unfold firstP; rw [h]; rfl)
    rw [h] at hb
    have Hb := Lib.hid hb
    clear hb h
    go_enter Tryd.func111, Tryd.ntmps111
    go_wp2_with fail
    refine Hb.out.mono ?_
    rintro e w1 ⟨rfl, rfl⟩
    go_wp2_with fail
    refine (run_digit s _ hs).mono ?_
    rintro e w2 ⟨rfl, rfl⟩
    go_wp2_with fail
    go_ret2
    exact ⟨ret_in hr.out, Below.refl _ _⟩
  · have hr : Hid (firstP s = ((textP s).1, (textP s).2)) := Lib.hid (by unfold firstP; rw [h]; rfl)
    rw [h] at hb
    have Hb := Lib.hid hb
    clear hb h
    go_enter Tryd.func111, Tryd.ntmps111
    go_wp2_with fail
    refine Hb.out.mono ?_
    rintro e w1 ⟨rfl, rfl⟩
    go_wp2_with fail
    refine (textOrBad_any s _ hs hz).mono ?_
    rintro e w2 ⟨rfl, hb2⟩
    go_wp2_with fail
    go_ret2
    exact ⟨ret_in hr.out, hb2⟩
  · have hr : Hid (firstP s = (7, signN s)) := Lib.hid (by unfold firstP; rw [h]; rfl)
    rw [h] at hb
    have Hb := Lib.hid hb
    clear hb h
    go_enter Tryd.func111, Tryd.ntmps111
    go_wp2_with fail
    refine Hb.out.mono ?_
    rintro e w1 ⟨rfl, rfl⟩
    go_wp2_with fail
    refine (signSize_any s _ HT.out).mono ?_
    rintro e w2 ⟨rfl, rfl⟩
    go_wp2_with fail
    go_ret2
    exact ⟨ret_in hr.out, Below.refl _ _⟩
  · have hr : Hid (firstP s = (8, badN s)) := Lib.hid (by unfold firstP; rw [h]; rfl)
    rw [h] at hb
    have Hb := Lib.hid hb
    clear hb h
    go_enter Tryd.func111, Tryd.ntmps111
    go_wp2_with fail
    refine Hb.out.mono ?_
    rintro e w1 ⟨rfl, rfl⟩
    go_wp2_with fail
    refine (badSize_any s _ hs hz HT.out).mono ?_
    rintro e w2 ⟨rfl, rfl⟩
    go_wp2_with fail
    go_ret2
    exact ⟨ret_in hr.out, Below.refl _ _⟩
end Go.Proofs.YtpjlgahbbmlngaaDoor

namespace Go.Proofs.YtpjlgahbbmlngaaDoor
set_option linter.unusedVariables false
set_option linter.unusedSimpArgs false

theorem runL_pos {p : UInt8 → Bool} {s : ByteArray} (hz : 0 < s.size) (h : p (b0 s) = true) : 1 ≤ runL p (byt s) := by
  have hl : 0 < (byt s).length := by rw [byt_length]; exact hz
  have h1 := runL_step (p := p) (l := byt s) (k := 0) hl (by rw [← h, b0_eq hz]; rfl)
  rw [List.drop_zero] at h1
  omega
theorem preB_le {s p : ByteArray} (h : preB s p = true) : p.size ≤ s.size := by
  unfold preB at h
  rw [Bool.and_eq_true] at h
  exact of_decide_eq_true h.1
theorem preB_b0 {s : ByteArray} (h : preB s slashes = true) : b0 s = 47 := by
  have h0 := preB_le h
  unfold preB at h
  rw [Bool.and_eq_true] at h
  have h1 := of_decide_eq_true h.2
  have hz : 0 < s.size := Nat.lt_of_lt_of_le (by decide) h0
  rw [b0_eq hz]
  have h2 : (s.extract 0 slashes.size).data[0]? = slashes.data[0]? := by rw [h1]
  have h3 : (s.extract 0 slashes.size).data[0]? = s.data[0]? := by
    rw [ByteArray.data_extract, Array.getElem?_extract]
    rw [if_pos (by have h4 : s.data.size = s.size := rfl; have h5 : slashes.size = 2 := rfl; omega)]
  rw [h3] at h2
  have h4 : s.data[0]? = some (s[0]'hz) := Array.getElem?_eq_getElem hz
  rw [h4] at h2
  injection h2
theorem signTo_le (s : ByteArray) : ∀ k, signTo s k ≤ s.size
  | 0 => Nat.zero_le _
  | k + 1 => by
    simp only [signTo]
    split
    · rename_i h; exact preB_le h
    · exact signTo_le s k
theorem badF_le (s : ByteArray) : ∀ (f k : Nat), k ≤ badF f s k ∧ badF f s k ≤ k + f
  | 0, k => ⟨Nat.le_refl _, Nat.le_refl _⟩
  | f + 1, k => by
    simp only [badF]
    split
    · have := badF_le s f (k + 1); omega
    · omega
theorem textF_le : ∀ (f : Nat) (s : ByteArray) (k n : Nat), textF f s k = some n → k + 1 ≤ n ∧ n ≤ k + s.size
  | 0, _, _, _, h => by cases h
  | f + 1, s, k, n, h => by
    simp only [textF] at h
    by_cases h0 : s.size = 0
    · rw [if_pos h0] at h; cases h
    · rw [if_neg h0] at h
      have hle := (plainP_le (s := s) (by omega)).1
      split at h
      · have h2 := textF_le f _ _ n h
        rw [tail_size] at h2
        omega
      · split at h
        · injection h with h; omega
        · cases h
theorem lineB_34 {b : UInt8} (h : ((b.toNat : Int) == 34) = true) : lineB b = true := by
  have := eq_of_beq h
  unfold lineB
  rw [this]; rfl
theorem firstP_le (s : ByteArray) (hz : 0 < s.size) : 1 ≤ (firstP s).2 ∧ (firstP s).2 ≤ s.size := by
  have hle := fun p => runL_le p (byt s)
  simp only [byt_length] at hle
  obtain ⟨x, hx⟩ : ∃ x, x = beginK s := ⟨_, rfl⟩
  have hx2 := hx
  unfold beginK at hx
  unfold firstP
  rw [← hx2]
  split at hx
  · subst hx
    rename_i h
    exact ⟨runL_pos hz h, hle _⟩
  split at hx
  · subst hx
    rename_i h
    exact ⟨runL_pos hz (by rw [preB_b0 h]; rfl), hle _⟩
  split at hx
  · subst hx
    rename_i h
    exact ⟨runL_pos hz h, hle _⟩
  split at hx
  · subst hx
    rename_i h
    exact ⟨runL_pos hz h, hle _⟩
  split at hx
  · subst hx
    rename_i h
    show 1 ≤ (textP s).2 ∧ (textP s).2 ≤ s.size
    unfold textP
    cases he : textE s with
    | none => exact ⟨runL_pos hz (lineB_34 h), hle _⟩
    | some n =>
      have := textF_le _ _ _ _ he
      rw [tail_size] at this
      exact ⟨by simp only; omega, by simp only; omega⟩
  split at hx
  · subst hx
    rename_i h
    exact ⟨h, signTo_le s 22⟩
  · subst hx
    show 1 ≤ badN s ∧ badN s ≤ s.size
    have := badF_le s (s.size - 1) 1
    unfold badN
    omega
theorem lexF_more : ∀ (f g : Nat) (s : ByteArray), s.size ≤ f → s.size ≤ g → lexF f s = lexF g s
  | 0, 0, _, _, _ => rfl
  | 0, g + 1, s, h, _ => by simp only [lexF]; rw [if_pos (by omega)]
  | f + 1, 0, s, _, h => by simp only [lexF]; rw [if_pos (by omega)]
  | f + 1, g + 1, s, h1, h2 => by
    simp only [lexF]
    by_cases h0 : s.size = 0
    · rw [if_pos h0, if_pos h0]
    · have := firstP_le s (by omega)
      have hz := tail_size s (firstP s).2
      rw [if_neg h0, if_neg h0, lexF_more f g _ (by omega) (by omega)]
/-- the tokens, from the first one on -/
theorem lexL_step {s : ByteArray} (h : 0 < s.size) : lexL s = ((firstP s).1, s.extract 0 (firstP s).2) :: lexL (s.extract (firstP s).2 s.size) := by
  have := firstP_le s h
  have hz := tail_size s (firstP s).2
  unfold lexL
  obtain ⟨n, hn⟩ : ∃ n, s.size = n + 1 := ⟨s.size - 1, by omega⟩
  rw [show lexF s.size s = lexF (n + 1) s by rw [hn]]
  simp only [lexF]
  rw [if_neg (by omega), lexF_more n (s.extract (firstP s).2 s.size).size _ (by omega) (Nat.le_refl _)]
theorem lexL_nil {s : ByteArray} (h : s.size = 0) : lexL s = [] := by unfold lexL; rw [h]; rfl
end Go.Proofs.YtpjlgahbbmlngaaDoor
