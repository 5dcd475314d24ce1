/-
  Contracts of the specification's begins and quoted.
-/
import Derived.Test.YtkdnacniligjjaaDoorRelexCommonsp24
namespace Go.Proofs.YtkdnacniligjjaaDoor
set_option linter.unusedVariables false
set_option linter.unusedSimpArgs false
open Go.RowKit

set_option maxRecDepth 100000 in
set_option maxHeartbeats 1000000 in
theorem RBegins_any (t : ByteArray) (k : Nat) (w : World) (ht : t.size ≤ 60000) (hk : k < t.size) :
    Calls Tryd.prog 76 #[.string t, .int .i64 (k : Int)] w fun e w' => e = .returned (.bool (beginsB (t.extract k t.size))) ∧ Below w.heap.size w w' := by
  have hz := tail_size t k
  have hb0 := b0_tail hk
  have hk0 : (0 : Int) ≤ (k : Int) := by omega
  have hk9 : (k : Int) < (t.size : Int) := by omega
  have hrem := remark_any t k w ht hk
  have hsig := sign_any t k w ht hk
  cases h1 : blankB (t[k]'hk)
  case true =>
    have hr : Hid (beginsB (t.extract k t.size) = true) := Lib.hid (by unfold beginsB; rw [hb0, h1]; rfl)
    clear hb0 hrem hsig
    go_enter Tryd.func76, Tryd.ntmps76
    go_wp2_with fail
    refine (RBlank_any _ _).mono ?_
    rw [h1]
    rintro e w1 ⟨rfl, rfl⟩
    go_wp2_with fail
    go_ret
    exact ⟨ret_b hr.out.symm, Below.refl _ _⟩
  case false =>
  cases h2 : letterB (t[k]'hk)
  case true =>
    have hr : Hid (beginsB (t.extract k t.size) = true) := Lib.hid (by unfold beginsB; rw [hb0, h1, h2]; rfl)
    clear hb0 hrem hsig
    go_enter Tryd.func76, Tryd.ntmps76
    go_wp2_with fail
    refine (RBlank_any _ _).mono ?_
    rw [h1]
    rintro e w1 ⟨rfl, rfl⟩
    go_wp2_with fail
    refine (RLetter_any _ _).mono ?_
    rw [h2]
    rintro e w1 ⟨rfl, rfl⟩
    go_wp2_with fail
    go_ret
    exact ⟨ret_b hr.out.symm, Below.refl _ _⟩
  case false =>
  cases h3 : digitB (t[k]'hk)
  case true =>
    have hr : Hid (beginsB (t.extract k t.size) = true) := Lib.hid (by unfold beginsB; rw [hb0, h1, h2, h3]; rfl)
    clear hb0 hrem hsig
    go_enter Tryd.func76, Tryd.ntmps76
    go_wp2_with fail
    refine (RBlank_any _ _).mono ?_
    rw [h1]
    rintro e w1 ⟨rfl, rfl⟩
    go_wp2_with fail
    refine (RLetter_any _ _).mono ?_
    rw [h2]
    rintro e w1 ⟨rfl, rfl⟩
    go_wp2_with fail
    refine (RDigit_any _ _).mono ?_
    rw [h3]
    rintro e w1 ⟨rfl, rfl⟩
    go_wp2_with fail
    go_ret
    exact ⟨ret_b hr.out.symm, Below.refl _ _⟩
  case false =>
  cases h4 : (((t[k]'hk).toNat : Int) == 34)
  case true =>
    have hr : Hid (beginsB (t.extract k t.size) = true) := Lib.hid (by unfold beginsB; rw [hb0, h1, h2, h3, h4]; rfl)
    clear hb0 hrem hsig
    go_enter Tryd.func76, Tryd.ntmps76
    go_wp2_with fail
    refine (RBlank_any _ _).mono ?_
    rw [h1]
    rintro e w1 ⟨rfl, rfl⟩
    go_wp2_with fail
    refine (RLetter_any _ _).mono ?_
    rw [h2]
    rintro e w1 ⟨rfl, rfl⟩
    go_wp2_with fail
    refine (RDigit_any _ _).mono ?_
    rw [h3]
    rintro e w1 ⟨rfl, rfl⟩
    go_wp2_with fail
    go_ret
    exact ⟨ret_b hr.out.symm, Below.refl _ _⟩
  case false =>
  cases h5 : preB (t.extract k t.size) slashes
  case true =>
    have hr : Hid (beginsB (t.extract k t.size) = true) := Lib.hid (by unfold beginsB; rw [hb0, h1, h2, h3, h4, h5]; rfl)
    rw [h5] at hrem
    have Hrem := Lib.hid hrem
    clear hb0 hrem hsig
    go_enter Tryd.func76, Tryd.ntmps76
    go_wp2_with fail
    refine (RBlank_any _ _).mono ?_
    rw [h1]
    rintro e w1 ⟨rfl, rfl⟩
    go_wp2_with fail
    refine (RLetter_any _ _).mono ?_
    rw [h2]
    rintro e w1 ⟨rfl, rfl⟩
    go_wp2_with fail
    refine (RDigit_any _ _).mono ?_
    rw [h3]
    rintro e w1 ⟨rfl, rfl⟩
    go_wp2_with fail
    refine Hrem.out.mono ?_
    rintro e w1 ⟨rfl, rfl⟩
    go_wp2_with fail
    go_ret
    exact ⟨ret_b hr.out.symm, Below.refl _ _⟩
  case false =>
    rw [h5] at hrem
    by_cases h6 : 0 < signN (t.extract k t.size)
    all_goals
      have q6 : decide ((0 : Int) < (signN (t.extract k t.size) : Int)) = decide (0 < signN (t.extract k t.size)) := by
        rw [decide_eq_decide]; omega
      have hr : beginsB (t.extract k t.size) = decide (0 < signN (t.extract k t.size)) := by unfold beginsB; rw [hb0, h1, h2, h3, h4, h5]; rfl
      generalize signN (t.extract k t.size) = sn at *
      first
      | rw [decide_eq_true h6] at q6 hr
      | rw [decide_eq_false h6] at q6 hr
      have Hr := Lib.hid hr
      have Hrem := Lib.hid hrem
      have Hsig := Lib.hid hsig
      clear hb0 hrem hsig hr
      go_enter Tryd.func76, Tryd.ntmps76
      go_wp2_with fail
      refine (RBlank_any _ _).mono ?_
      rw [h1]
      rintro e w1 ⟨rfl, rfl⟩
      go_wp2_with fail
      refine (RLetter_any _ _).mono ?_
      rw [h2]
      rintro e w1 ⟨rfl, rfl⟩
      go_wp2_with fail
      refine (RDigit_any _ _).mono ?_
      rw [h3]
      rintro e w1 ⟨rfl, rfl⟩
      go_wp2_with fail
      refine Hrem.out.mono ?_
      rintro e w1 ⟨rfl, rfl⟩
      go_wp2_with fail
      refine Hsig.out.mono ?_
      rintro e w2 ⟨rfl, hb2⟩
      go_wp2_with fail
      go_ret
      exact ⟨ret_b Hr.out.symm, hb2⟩

/-- where the text that begins at a place ends, or 0 -/
def quotedN (s : ByteArray) (k : Nat) : Nat := match textE s with
  | some n => k + n
  | none => 0

set_option maxRecDepth 100000 in
set_option maxHeartbeats 1000000 in
theorem quoted_any (t : ByteArray) (k : Nat) (w : World) (ht : t.size ≤ 60000) (hk : k < t.size) :
    Calls Tryd.prog 74 #[.string t, .int .i64 (k : Int)] w fun e w' => e = .returned (.int .i64 ((quotedN (t.extract k t.size) k : Nat) : Int)) ∧ w' = w := by
  have hz := tail_size t k
  have hk0 : (0 : Int) ≤ (k : Int) := by omega
  have hk9 : (k : Int) < (t.size : Int) := by omega
  have h0 : textE (t.extract k t.size) = textF (t.extract k t.size).size (t.extract (k + 1) t.size) 1 := by
    unfold textE; rw [tail_tail]
  have H0 := Lib.hid h0
  clear h0
  go_enter Tryd.func74, Tryd.ntmps74
  go_wp2_with fail
  go_loopw [5, 17, 21, 23] (fun i _ _ _ wr => ∃ j f : Nat, k + 1 ≤ j ∧ j ≤ t.size ∧ i = .int .i64 j ∧ textE (t.extract k t.size) = textF f (t.extract j t.size) (j - k) ∧ t.size - j ≤ f ∧ wr = w) (fun i _ _ _ _ => t.size - (intOf i).toNat)
  case atStart => exact ⟨k + 1, (t.extract k t.size).size, by omega, by omega, rfl, by rw [H0.out, show k + 1 - k = 1 by omega], by omega, rfl⟩
  case round =>
    obtain ⟨j, f, hj1, hj, rfl, he, hf, rfl⟩ := hrel
    have hj0 : (0 : Int) ≤ (j : Int) := by omega
    by_cases hlt : j < t.size
    · have hjs : (j : Int) < (t.size : Int) := by omega
      have hsz := tail_size t j
      have hb0 := b0_tail hlt
      obtain ⟨f, rfl⟩ : ∃ f', f = f' + 1 := ⟨f - 1, by omega⟩
      simp only [textF] at he
      rw [if_neg (by omega), hb0] at he
      have sk1 : IntKind.i64.wrap ((j : Int) + 1) = (j : Int) + 1 := IntWalk.i64_in _ (by omega)
      cases h1 : (((t[j]'hlt).toNat : Int) == 34)
      · cases h2 : (((t[j]'hlt).toNat : Int) == 10)
        · cases h3 : (((t[j]'hlt).toNat : Int) == 92)
          · have hp : (plainP (t.extract j t.size)).2 = 1 := by unfold plainP; rw [hb0, h1, h2, h3]; rfl
            rw [hp, if_pos (by omega), tail_tail] at he
            have He := Lib.hid he
            clear he hb0 hp
            go_wp2_with fail
            exact ⟨⟨j + 1, f, by omega, by omega, by go_num, by rw [He.out, show j + 1 - k = j - k + 1 by omega], by omega, by first | rfl | trivial⟩, by simp [intOf]; omega⟩
          · have hp : plainP (t.extract j t.size) = pairP (t.extract j t.size) := by unfold plainP; rw [hb0, h1, h2, h3]; rfl
            rw [hp] at he
            by_cases hl1 : j + 1 < t.size
            · have hl2 : (j : Int) + 1 < (t.size : Int) := by omega
              have q1 : ((j : Int) + 1 == (t.size : Int)) = false := by simp; omega
              have hb1 : b1 (t.extract j t.size) = t[j + 1]'hl1 := by
                unfold b1
                rw [byt_drop, List.getD_eq_getElem?_getD, List.getElem?_drop, List.getElem?_eq_getElem (by rw [byt_length]; exact hl1)]; rfl
              unfold pairP at he
              rw [if_neg (show ¬ (t.extract j t.size).size < 2 by omega), hb1] at he
              by_cases h4 : ((t[j + 1]'hl1).toNat : Int) = 110 ∨ ((t[j + 1]'hl1).toNat : Int) = 34 ∨ ((t[j + 1]'hl1).toNat : Int) = 92
              · have hst : (if (((t[j + 1]'hl1).toNat : Int) == 110) = true then ((10, 2) : Int × Nat) else if (((t[j + 1]'hl1).toNat : Int) == 34) = true then (((t[j + 1]'hl1).toNat : Int), 2) else if (((t[j + 1]'hl1).toNat : Int) == 92) = true then (((t[j + 1]'hl1).toNat : Int), 2) else (0, 0)).2 = 2 := by
                  rcases h4 with h | h | h <;> rw [h] <;> rfl
                rw [hst, if_pos (by omega), tail_tail] at he
                have He := Lib.hid he
                clear he hb0 hb1 hp hst
                rcases h4 with h4 | h4 | h4
                · have p1 : (((t[j + 1]'hl1).toNat : Int) != 110) = false := by simp [h4]
                  clear h4
                  go_wp2_with fail
                  exact ⟨⟨j + 2, f, by omega, by omega, by go_num, by rw [He.out, show j + 2 - k = j - k + 2 by omega], by omega, by first | rfl | trivial⟩, by simp [intOf]; omega⟩
                · have p1 : (((t[j + 1]'hl1).toNat : Int) != 110) = true := by simp [h4]
                  have p2 : (((t[j + 1]'hl1).toNat : Int) != 34) = false := by simp [h4]
                  clear h4
                  go_wp2_with fail
                  exact ⟨⟨j + 2, f, by omega, by omega, by go_num, by rw [He.out, show j + 2 - k = j - k + 2 by omega], by omega, by first | rfl | trivial⟩, by simp [intOf]; omega⟩
                · have p1 : (((t[j + 1]'hl1).toNat : Int) != 110) = true := by simp [h4]
                  have p2 : (((t[j + 1]'hl1).toNat : Int) != 34) = true := by simp [h4]
                  have p3 : (((t[j + 1]'hl1).toNat : Int) != 92) = false := by simp [h4]
                  clear h4
                  go_wp2_with fail
                  exact ⟨⟨j + 2, f, by omega, by omega, by go_num, by rw [He.out, show j + 2 - k = j - k + 2 by omega], by omega, by first | rfl | trivial⟩, by simp [intOf]; omega⟩
              · have n1 : (((t[j + 1]'hl1).toNat : Int) == 110) = false := by simp; omega
                have n2 : (((t[j + 1]'hl1).toNat : Int) == 34) = false := by simp; omega
                have n3 : (((t[j + 1]'hl1).toNat : Int) == 92) = false := by simp; omega
                have p1 : (((t[j + 1]'hl1).toNat : Int) != 110) = true := by simp; omega
                have p2 : (((t[j + 1]'hl1).toNat : Int) != 34) = true := by simp; omega
                have p3 : (((t[j + 1]'hl1).toNat : Int) != 92) = true := by simp; omega
                rw [n1, n2, n3, h1] at he
                have hr : Hid (quotedN (t.extract k t.size) k = 0) := Lib.hid (by unfold quotedN; rw [he]; rfl)
                clear he hb0 hb1 hp h4 n1 n2 n3
                go_wp2_with fail
                go_ret
                exact ⟨ret_i hr.out.symm, rfl⟩
            · have q1 : ((j : Int) + 1 == (t.size : Int)) = true := by simp; omega
              unfold pairP at he
              rw [if_pos (show (t.extract j t.size).size < 2 by omega), h1] at he
              have hr : Hid (quotedN (t.extract k t.size) k = 0) := Lib.hid (by unfold quotedN; rw [he]; rfl)
              clear he hb0 hp
              go_wp2_with fail
              go_ret
              exact ⟨ret_i hr.out.symm, rfl⟩
        · have hp : (plainP (t.extract j t.size)).2 = 0 := by unfold plainP; rw [hb0, h1, h2]; rfl
          rw [hp, if_neg (by omega), h1] at he
          have hr : Hid (quotedN (t.extract k t.size) k = 0) := Lib.hid (by unfold quotedN; rw [he]; rfl)
          clear he hb0 hp
          go_wp2_with fail
          go_ret
          exact ⟨ret_i hr.out.symm, rfl⟩
      · have hp : (plainP (t.extract j t.size)).2 = 0 := by unfold plainP; rw [hb0, h1]; rfl
        rw [hp, if_neg (by omega), h1] at he
        have hr : Hid (quotedN (t.extract k t.size) k = j + 1) := Lib.hid (by
          unfold quotedN; rw [he]
          show k + (j - k + 1) = j + 1
          omega)
        clear he hb0 hp
        go_wp2_with fail
        go_ret
        exact ⟨ret_i hr.out.symm, rfl⟩
    · have hn : textE (t.extract k t.size) = none := he.trans (textF_nil _ _ _ (by rw [tail_size]; omega))
      have hr : Hid (quotedN (t.extract k t.size) k = 0) := Lib.hid (by unfold quotedN; rw [hn])
      clear he hn
      go_wp2_with fail
      go_ret
      exact ⟨ret_i hr.out.symm, rfl⟩
end Go.Proofs.YtkdnacniligjjaaDoor
