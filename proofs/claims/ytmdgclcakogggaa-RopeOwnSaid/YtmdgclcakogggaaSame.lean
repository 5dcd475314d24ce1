/-
  The contract of the specification's Same.
-/
import Derived.Test.YtmdgclcakogggaaCut
namespace Go.Proofs.Ytmdgclcakogggaa
open Go.RowKit

theorem toList_inj {a b : ByteArray} (h : a.toList = b.toList) : a = b := by
  rw [ByteArray.toList_eq, ByteArray.toList_eq] at h
  apply ByteArray.ext
  exact Array.toList_inj.1 h
theorem run_neq_edit (a b : Ed) (w : World) :
    (binOp .neq 35 (.agg #[.int .i64 a.f, .int .i64 a.t, .string a.s]) (.agg #[.int .i64 b.f, .int .i64 b.t, .string b.s])).run Try.prog w = .ok (.bool (!decide (a = b))) w := by
  simp [go_sem]
  by_cases h1 : a.f = b.f
  · by_cases h2 : a.t = b.t
    · by_cases h3 : a.s = b.s
      · have h4 : a.s.toList = b.s.toList := by rw [h3]
        have h5 : a = b := by cases a; cases b; simp_all
        rw [if_pos h1, if_pos h2, if_pos h4]; simp [h5]
      · have h4 : ¬ a.s.toList = b.s.toList := fun h => h3 (toList_inj h)
        have h5 : ¬ a = b := fun h => h3 (by rw [h])
        rw [if_pos h1, if_pos h2, if_neg h4]; simp [h5]
    · have h5 : ¬ a = b := fun h => h2 (by rw [h])
      rw [if_pos h1, if_neg h2]; simp [h5]
  · have h5 : ¬ a = b := fun h => h1 (by rw [h])
    rw [if_neg h1]; simp [h5]

set_option maxRecDepth 100000 in
set_option maxHeartbeats 1000000 in
theorem Same_any (c1 c2 : Nat) (A1 A2 : Option Addr) (l1 l2 : List Ed) (w : World) (hl : l1.length ≤ 1000) (hE1 : EdsV w A1 l1) (hE2 : EdsV w A2 l2) :
    Calls Try.prog 13 #[.slice A1 l1.length c1, .slice A2 l2.length c2] w fun e w' => e = .returned (.bool (decide (l1 = l2))) ∧ Below w.heap.size w w' := by
  by_cases hlen : l1.length = l2.length
  · have q : ((l1.length : Int) != (l2.length : Int)) = false := by simp; omega
    have Hlen := Lib.hid hlen
    clear hlen
    go_enter Try.func13, Try.ntmps13
    go_wp2_with fail
    go_loopw [5] (fun i wr => ∃ (k : Nat), k ≤ l1.length ∧ i = .int .i64 k ∧ l1.take k = l2.take k ∧ Below w.heap.size w wr) (fun i _ => l1.length - (intOf i).toNat)
    case atStart => exact ⟨0, by omega, rfl, rfl, Below.refl _ _⟩
    case round =>
      obtain ⟨k, hk, rfl, he, hB⟩ := hrel
      have He := Lib.hid he
      clear he
      by_cases hlt : k < l1.length
      · have hlt2 : k < l2.length := by have := Hlen.out; omega
        obtain ⟨b, off, rfl, hb, c11, c12, c13⟩ := (hE1.below hB).get hlt
        obtain ⟨b2, off2, rfl, hb2, c21, c22, c23⟩ := (hE2.below hB).get hlt2
        clear hE1 hE2
        by_cases heq : l1[k] = l2[k]
        · have Heq := Lib.hid heq
          have hrun : ∀ w', (binOp .neq 35 (.agg #[.int .i64 l1[k].f, .int .i64 l1[k].t, .string l1[k].s]) (.agg #[.int .i64 l2[k].f, .int .i64 l2[k].t, .string l2[k].s])).run Try.prog w' = .ok (.bool false) w' := fun w' => by
            rw [run_neq_edit]; simp [heq]
          clear heq
          go_wp2_with fail
          go_quiet (fail)
          go_wp2_with fail
          refine ⟨⟨k + 1, by omega, by go_num, ?_, below_drewN hB _⟩, by simp [intOf]; omega⟩
          rw [List.take_succ_eq_append_getElem hlt, List.take_succ_eq_append_getElem hlt2, He.out, Heq.out]
        · have Heq := Lib.hid heq
          have hrun : ∀ w', (binOp .neq 35 (.agg #[.int .i64 l1[k].f, .int .i64 l1[k].t, .string l1[k].s]) (.agg #[.int .i64 l2[k].f, .int .i64 l2[k].t, .string l2[k].s])).run Try.prog w' = .ok (.bool true) w' := fun w' => by
            rw [run_neq_edit]; simp [heq]
          clear heq
          go_wp2_with fail
          go_quiet (fail)
          go_wp2_with fail
          go_ret
          refine ⟨ret_bool ?_, below_drewN hB _⟩
          symm
          rw [decide_eq_false_iff_not]
          intro h
          exact Heq.out (by simp [h])
      · have hk3 : k = l1.length := by omega
        subst hk3
        go_wp2_with fail
        go_ret
        refine ⟨ret_bool ?_, hB⟩
        symm
        rw [decide_eq_true_iff]
        have h1 := He.out
        rw [List.take_length, Hlen.out, List.take_length] at h1
        exact h1
  · have q : ((l1.length : Int) != (l2.length : Int)) = true := by simp; omega
    have Hlen := Lib.hid hlen
    clear hlen
    go_enter Try.func13, Try.ntmps13
    go_wp2_with fail
    go_ret
    refine ⟨ret_bool ?_, Below.refl _ _⟩
    symm
    rw [decide_eq_false_iff_not]
    intro h
    exact Hlen.out (by rw [h])
end Go.Proofs.Ytmdgclcakogggaa
