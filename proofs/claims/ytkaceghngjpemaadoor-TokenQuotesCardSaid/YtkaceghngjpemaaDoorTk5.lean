/-
  Contracts of token's textOrBad and first.
-/
import Derived.Test.YtkaceghngjpemaaDoorTk4
import Derived.Lib.Builder
namespace Go.Proofs.YtkaceghngjpemaaDoor
set_option linter.unusedVariables false
set_option linter.unusedSimpArgs false
open Go.RowKit

theorem textF_nil : ∀ (f : Nat) (s : ByteArray) (k : Nat), s.size = 0 → textF f s k = none
  | 0, _, _, _ => rfl
  | f + 1, s, k, h => by simp only [textF]; rw [if_pos h]

set_option maxRecDepth 100000 in
set_option maxHeartbeats 1000000 in
theorem textOrBad_any (s : ByteArray) (w : World) (hs : s.size ≤ 60000) (hz : 0 < s.size) :
    Calls Tryd.prog 94 #[.string s] w fun e w' => e = .returned (.tuple #[.int .i64 (textP s).1, .int .i64 ((textP s).2 : Int)]) ∧ Below w.heap.size w w' := by
  have hb10 : ∀ W, Calls Tryd.prog 91 #[.int .u8 10] W fun en w' => en = .returned (.func (.func 122) #[] #[.pointer (some ⟨W.heap.size, 0, none⟩)]) ∧ w'.heap[W.heap.size]? = some (.cells #[.int .u8 10] 5 (0, 0)) ∧ Below W.heap.size W w' := fun W => isNot_any 10 W
  have HB10 := Lib.hid hb10
  clear hb10
  go_enter Tryd.func94, Tryd.ntmps94
  go_wp2_with fail
  go_loopw [4, 5, 6] (fun i _ _ wr => ∃ k f : Nat, 1 ≤ k ∧ k ≤ s.size ∧ i = .int .i64 k ∧ textE s = textF f (s.extract k s.size) k ∧ s.size - k ≤ f ∧ wr = w) (fun i _ _ _ => s.size - (intOf i).toNat)
  case atStart => exact ⟨1, s.size, by omega, by omega, rfl, rfl, by omega, rfl⟩
  case round =>
    obtain ⟨k, f, hk1, hk, rfl, he, hf, rfl⟩ := hrel
    by_cases hlt : k < s.size
    · have hsz := tail_size s k
      have hpl := plain_any (s.extract k s.size) wr (by omega)
      have hple := plainP_le (s := s.extract k s.size) (by omega)
      have hb0 := b0_tail hlt
      have hk2 : (k : Int) ≤ (s.size : Int) := by omega
      obtain ⟨f, rfl⟩ : ∃ f', f = f' + 1 := ⟨f - 1, by omega⟩
      simp only [textF] at he
      rw [if_neg (by omega), hb0] at he
      rw [hsz] at hple
      obtain ⟨⟨pv, st⟩, hst⟩ : ∃ p, p = plainP (s.extract k s.size) := ⟨_, rfl⟩
      rw [← hst] at hpl hple he
      simp only at hpl hple he
      by_cases h0 : 0 < st
      · rw [if_pos h0, tail_tail] at he
        have q : decide ((0 : Int) < (st : Int)) = true := by simp; omega
        have sk : IntKind.i64.wrap ((k : Int) + (st : Int)) = ((k + st : Nat) : Int) := by rw [IntWalk.i64_in _ (by omega)]; omega
        have He := Lib.hid he
        have Hpl := Lib.hid hpl
        clear he hpl hst hb0
        go_wp2_with fail
        refine Hpl.out.mono ?_
        rintro e w1 ⟨rfl, rfl⟩
        go_wp2_with fail
        exact ⟨⟨k + st, f, by omega, by omega, by go_num, He.out, by omega, by first | rfl | trivial⟩, by simp [intOf]; omega⟩
      · rw [if_neg h0] at he
        have q : decide ((0 : Int) < (st : Int)) = false := by simp; omega
        cases hq : (((s[k]'hlt).toNat : Int) == 34)
        · rw [hq] at he
          have hr : Hid (textP s = (8, runL lineB (byt s))) := Lib.hid (by unfold textP; rw [he]; rfl)
          have Hpl := Lib.hid hpl
          clear he hpl hst hb0
          go_wp2_with fail
          refine Hpl.out.mono ?_
          rintro e w1 ⟨rfl, rfl⟩
          go_wp2_with fail
          refine (HB10.out _).mono ?_
          rintro e w2 ⟨rfl, hh, hb2⟩
          have hc : w2.cell? ⟨w1.heap.size, 0, none⟩ = some (.int .u8 10) := Lib.cell_of_heap hh 0
          go_wp2_with fail
          refine (run_line s w1.heap.size w2 hs hc).mono ?_
          rintro e w3 ⟨rfl, rfl⟩
          go_wp2_with fail
          go_ret2
          exact ⟨ret_in hr.out, hb2⟩
        · rw [hq] at he
          have hr : Hid (textP s = (6, k + 1)) := Lib.hid (by unfold textP; rw [he]; rfl)
          have Hpl := Lib.hid hpl
          have sk : IntKind.i64.wrap ((k : Int) + 1) = ((k + 1 : Nat) : Int) := by rw [IntWalk.i64_in _ (by omega)]; omega
          clear he hpl hst hb0
          go_wp2_with fail
          refine Hpl.out.mono ?_
          rintro e w1 ⟨rfl, rfl⟩
          go_wp2_with fail
          go_ret2
          exact ⟨ret_in hr.out, Below.refl _ _⟩
    · have hn : textE s = none := he.trans (textF_nil _ _ _ (by rw [tail_size]; omega))
      have hr : Hid (textP s = (8, runL lineB (byt s))) := Lib.hid (by unfold textP; rw [hn])
      clear he hn
      go_wp2_with fail
      refine (HB10.out _).mono ?_
      rintro e w2 ⟨rfl, hh, hb2⟩
      have hc : w2.cell? ⟨wr.heap.size, 0, none⟩ = some (.int .u8 10) := Lib.cell_of_heap hh 0
      go_wp2_with fail
      refine (run_line s wr.heap.size w2 hs hc).mono ?_
      rintro e w3 ⟨rfl, rfl⟩
      go_wp2_with fail
      go_ret2
      exact ⟨ret_in hr.out, hb2⟩
end Go.Proofs.YtkaceghngjpemaaDoor
