/-
  Line of ropes: feedOf, feed, Line.
-/
import Derived.Test.YtmbpjjehnfjdiaaDoorFeedMath
import Derived.Test.YtmbpjjehnfjdiaaDoorRp
namespace Go.Proofs.YtmbpjjehnfjdiaaDoor
set_option linter.unusedVariables false
set_option linter.unusedSimpArgs false
open Go.RowKit

set_option maxHeartbeats 1000000 in
theorem feedOf_any (s : ByteArray) (n : Nat) (w : World) (hs : s.size ≤ 60000) (hn : n ≤ 60000) :
    Calls Tryd.prog 61 #[.string s, .int .i64 n] w fun e w' => e = .returned (.int .i64 (feedAt (byt s) n : Int)) ∧ w' = w := by
  go_enter Tryd.func61, Tryd.ntmps61
  go_wp2_with fail
  go_loopw [1, 8] (fun m i wr => ∃ (k j : Nat), k ≤ s.size ∧ i = .int .i64 k ∧ m = .int .i64 j ∧ j ≤ 60000 ∧ feedAt (byt s) n = k + feedAt ((byt s).drop k) j ∧ wr = w) (fun _ i _ => s.size - (intOf i).toNat)
  case atStart => exact ⟨0, n, by omega, rfl, rfl, hn, by simp, rfl⟩
  case round =>
    obtain ⟨k, j, hk, rfl, rfl, hj, hf, rfl⟩ := hrel
    by_cases hlt : k < s.size
    · have g1 : k < (byt s).length := by rw [byt_length]; exact hlt
      by_cases hq : s[k]'hlt = 10
      · have q2 : (((s[k]'hlt).toNat : Int) != 10) = false := by rw [hq]; rfl
        by_cases hj0 : j = 0
        · subst hj0
          rw [feedAt_drop_zero g1 hq] at hf
          have Hf := Lib.hid hf
          clear hf hq g1
          go_wp2_with fail
          go_ret
          exact ⟨ret_int (by rw [Hf.out]; simp), rfl⟩
        · obtain ⟨j', rfl⟩ : ∃ j', j = j' + 1 := ⟨j - 1, by omega⟩
          rw [feedAt_drop_feed g1 hq] at hf
          have Hf := Lib.hid hf
          have q3 : (((j' + 1 : Nat) : Int) == 0) = false := by rw [beq_eq_false_iff_ne]; omega
          clear hf hq g1
          go_wp2_with fail
          exact ⟨⟨k + 1, j', by omega, by go_num, by go_num, by omega, by rw [Hf.out]; omega, trivial⟩, by simp [intOf]; omega⟩
      · have q2 : (((s[k]'hlt).toNat : Int) != 10) = true := by
          rw [bne_iff_ne]
          intro h
          exact hq (UInt8.toNat_inj.1 (by change (s[k]'hlt).toNat = 10; omega))
        rw [feedAt_drop_other g1 hq] at hf
        have Hf := Lib.hid hf
        clear hf hq g1
        go_wp2_with fail
        exact ⟨⟨k + 1, j, by omega, by go_num, rfl, by omega, by rw [Hf.out]; omega, trivial⟩, by simp [intOf]; omega⟩
    · have hke : k = s.size := by omega
      subst hke
      rw [List.drop_of_length_le (by rw [byt_length]; exact Nat.le_refl _)] at hf
      have Hf := Lib.hid hf
      clear hf
      go_wp2_with fail
      go_ret
      exact ⟨ret_int (by rw [Hf.out]; simp [feedAt]), rfl⟩
end Go.Proofs.YtmbpjjehnfjdiaaDoor
