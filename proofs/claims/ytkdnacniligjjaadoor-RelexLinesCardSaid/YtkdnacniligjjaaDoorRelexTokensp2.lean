/-
  Contracts of the specification's Check and At of layer 3, and of token's At.
-/
import Derived.Test.YtkdnacniligjjaaDoorRelexTokensp1
import Derived.Test.YtkdnacniligjjaaDoorRelexCommonsp29
namespace Go.Proofs.YtkdnacniligjjaaDoor
set_option linter.unusedVariables false
set_option linter.unusedSimpArgs false
open Go.RowKit

/-- the error of tokens -/
def checkT (l : List Tok) : Int := if 20000 < (catL l).length ∨ 20000 < l.length then 3 else if lexL (mkB (catL l)) = l then 0 else 4
theorem textR_ok {l : List Tok} (h : checkT l = 0) : textR l = (mkB (catL l), 0) ∧ l.length ≤ 20000 ∧ (catL l).length ≤ 20000 ∧ lexL (mkB (catL l)) = l := by
  unfold checkT at h
  split at h
  · cases h
  · rename_i h1
    split at h
    · rename_i h2
      unfold textR
      rw [if_neg (by omega), if_neg (by omega), if_pos h2]
      exact ⟨rfl, by omega, by omega, h2⟩
    · cases h
theorem textR_no {l : List Tok} (h : checkT l ≠ 0) : textR l = (ByteArray.empty, checkT l) := by
  unfold checkT at h ⊢
  unfold textR
  split at h
  · rename_i h1
    rw [if_pos h1]
    by_cases h2 : 20000 < l.length
    · rw [if_pos h2]
    · rw [if_neg h2, if_pos (by omega)]
  · rename_i h1
    split at h
    · exact absurd rfl h
    · rename_i h2
      rw [if_neg (by omega), if_neg (by omega), if_neg h2, if_neg h1, if_neg h2]

set_option maxRecDepth 100000 in
set_option maxHeartbeats 1000000 in
theorem RCheck_any (c : Nat) (A : Option Addr) (l : List Tok) (w : World) (hl : l.length ≤ 60000) (hcl : (catL l).length ≤ 60000) (hE : TksV w A l) :
    Calls Tryd.prog 56 #[.slice A l.length c] w fun e w' => e = .returned (.int .i64 (checkT l)) ∧ Below w.heap.size w w' := by
  have HE := Lib.hid hE
  have htl := catL_take_le l
  have HTL := Lib.hid htl
  clear hE htl
  go_enter Tryd.func56, Tryd.ntmps56
  go_wp2_with fail
  go_loopw [3, 4] (fun n i wr => ∃ (k m : Nat), k ≤ l.length ∧ i = .int .i64 k ∧ n = .int .i64 m ∧ m = (catL (l.take k)).length ∧ wr = w) (fun _ i _ => l.length - (intOf i).toNat)
  case atStart => exact ⟨0, 0, Nat.zero_le _, rfl, rfl, rfl, rfl⟩
  case round =>
    obtain ⟨k, m, hk, rfl, rfl, hm, hw⟩ := hrel
    obtain rfl := hw.symm
    have hk1 : (0 : Int) ≤ (k : Int) := by omega
    have hml := HTL.out k
    rw [← hm] at hml
    by_cases hlt : k < l.length
    · obtain ⟨b, off, rfl, hbb, m0, m1⟩ := HE.out.get hlt
      have hct := catL_take hlt
      have hct2 := congrArg List.length hct
      have htl2 := HTL.out (k + 1)
      rw [List.length_append, byt_length, ← hm] at hct2
      rw [hct2] at htl2
      obtain ⟨⟨kd, x⟩, hx⟩ : ∃ p, p = l[k] := ⟨_, rfl⟩
      rw [← hx] at m0 m1 hct2 htl2
      simp only at m0 m1 hct2 htl2
      have hk2 : (k : Int) < (l.length : Int) := by omega
      have sm : IntKind.i64.wrap ((m : Int) + (x.size : Int)) = ((m + x.size : Nat) : Int) := by rw [IntWalk.i64_in _ (by omega)]; omega
      have Hct := Lib.hid hct2
      clear hct hct2 hx hm
      go_wp2_with fail
      exact ⟨⟨k + 1, m + x.size, by omega, by go_num, by go_num, Hct.out.symm, by first | rfl | trivial⟩, by simp only [intOf]; omega⟩
    · have hke : k = l.length := by omega
      subst hke
      rw [List.take_length] at hm
      have hk2 : decide ((l.length : Int) < (l.length : Int)) = false := by simp
      have hms := mkB_size (catL l)
      rw [← hm] at hms
      have HM := Lib.hid hm
      by_cases hb1 : 20000 < m
      · have q1 : decide ((20000 : Int) < (m : Int)) = true := by simp; omega
        have hr : Hid (checkT l = 3) := Lib.hid (by unfold checkT; rw [if_pos (.inl (by omega))])
        clear hm hms
        go_wp2_with fail
        go_ret
        exact ⟨ret_k hr.out.symm, Below.refl _ _⟩
      · have q1 : decide ((20000 : Int) < (m : Int)) = false := by simp; omega
        by_cases hb2 : 20000 < l.length
        · have q2 : decide ((20000 : Int) < (l.length : Int)) = true := by simp; omega
          have hr : Hid (checkT l = 3) := Lib.hid (by unfold checkT; rw [if_pos (.inr hb2)])
          clear hm hms
          go_wp2_with fail
          go_ret
          exact ⟨ret_k hr.out.symm, Below.refl _ _⟩
        · have q2 : decide ((20000 : Int) < (l.length : Int)) = false := by simp; omega
          have htx := RText_any c A l w hl hcl HE.out
          have Htx := Lib.hid htx
          have hor : ¬ (20000 < (catL l).length ∨ 20000 < l.length) := by omega
          clear hm htx
          go_wp2_with fail
          refine Htx.out.mono ?_
          rintro e w2 ⟨rfl, hb2⟩
          go_wp2_with fail
          refine (RLex_own (mkB (catL l)) w2 (by omega)).mono ?_
          rintro e w3 ⟨v, rfl, ho, hb3⟩
          obtain ⟨A3, c3, rfl, hE3, _⟩ := TksV.of_own ho
          have hln := lexL_length _ (mkB (catL l)) (Nat.le_refl _)
          have hB3 := hb2.trans (hb3.mono hb2.size)
          have hsm := RSame_any c3 c A3 A (lexL (mkB (catL l))) l w3 (by omega) hE3 (HE.out.below hB3)
          by_cases hq : lexL (mkB (catL l)) = l
          · have hr : Hid (checkT l = 0) := Lib.hid (by unfold checkT; rw [if_neg hor, if_pos hq])
            rw [decide_eq_true hq] at hsm
            have Hsm := Lib.hid hsm
            clear ho hE3 hsm hq hln
            go_wp2_with fail
            refine Hsm.out.mono ?_
            rintro e w4 ⟨rfl, hb4⟩
            go_wp2_with fail
            go_ret
            exact ⟨ret_k hr.out.symm, hB3.trans (hb4.mono hB3.size)⟩
          · have hr : Hid (checkT l = 4) := Lib.hid (by unfold checkT; rw [if_neg hor, if_neg hq])
            rw [decide_eq_false hq] at hsm
            have Hsm := Lib.hid hsm
            clear ho hE3 hsm hq hln
            go_wp2_with fail
            refine Hsm.out.mono ?_
            rintro e w4 ⟨rfl, hb4⟩
            go_wp2_with fail
            go_ret
            exact ⟨ret_k hr.out.symm, hB3.trans (hb4.mono hB3.size)⟩
end Go.Proofs.YtkdnacniligjjaaDoor
