/-
  Contracts of the specification's Spans and Touch, and of Move on both sides.
-/
import Derived.Test.YthcjffbdgdjfhaaChk
namespace Go.Proofs.Ythcjffbdgdjfhaa
open Go.RowKit

theorem rSpans_any (c : Nat) (A : Option Addr) (l : List Ed) (w : World) (hl : l.length ≤ 1000) (hE : EdsV w A l) :
    Calls Try.prog 28 #[.slice A l.length c] w fun e w' => e = .returned (.bool (rising 20000 0 l)) ∧ Below w.heap.size w w' := by
  go_enter Try.func28, Try.ntmps28
  go_wp2_with fail
  go_loopw [3, 4] (fun last i wr => ∃ (k : Nat) (y : Int), k ≤ l.length ∧ i = .int .i64 k ∧ last = .int .i64 y ∧ 0 ≤ y ∧ rising 20000 y (l.drop k) = rising 20000 0 l ∧ Below w.heap.size w wr) (fun _ i _ => l.length - (intOf i).toNat)
  case atStart => exact ⟨0, 0, by omega, rfl, rfl, by omega, rfl, Below.refl _ _⟩
  case round =>
    obtain ⟨k, y, hk, rfl, rfl, hy, hr, hB⟩ := hrel
    by_cases hlt : k < l.length
    · obtain ⟨b, off, rfl, hb, c1, c2, c3⟩ := (hE.below hB).get hlt
      have hd : rising 20000 y (l.drop k) = (decide (y ≤ l[k].f) && isSpanB l[k].f l[k].t 20000 && rising 20000 l[k].t (l.drop (k + 1))) := by
        rw [List.drop_eq_getElem_cons hlt]; rfl
      have Hr := Lib.hid (hr.symm.trans hd)
      clear hr hd hE
      by_cases hg : y ≤ l[k].f ∧ l[k].f ≤ l[k].t ∧ l[k].t ≤ 20000
      · obtain ⟨g1, g2, g3⟩ := hg
        have f1 : decide (l[k].f < y) = false := by simp; omega
        have f2 : decide (l[k].t < l[k].f) = false := by simp; omega
        have f3 : decide (20000 < l[k].t) = false := by simp; omega
        go_wp2_with fail
        go_quiet (fail)
        go_wp2_with fail
        refine ⟨⟨k + 1, l[k].t, by omega, by go_num, rfl, by omega, ?_, below_drewN hB _⟩, by simp [intOf]; omega⟩
        rw [Hr.out]
        have e1 : decide (y ≤ l[k].f) = true := by simpa using g1
        have e2 : isSpanB l[k].f l[k].t 20000 = true := by unfold isSpanB; simp; omega
        rw [e1, e2]; rfl
      · have hf : rising 20000 0 l = false := by
          rw [Hr.out]
          have : (decide (y ≤ l[k].f) && isSpanB l[k].f l[k].t 20000) = false := by
            rw [Bool.eq_false_iff]; unfold isSpanB; simp; omega
          rw [this]; rfl
        have Hf := Lib.hid hf
        clear hf
        by_cases g1 : y ≤ l[k].f
        · have f1 : decide (l[k].f < y) = false := by simp; omega
          by_cases g2 : l[k].f ≤ l[k].t
          · have f2 : decide (l[k].t < l[k].f) = false := by simp; omega
            have f3 : decide (20000 < l[k].t) = true := by simp; omega
            clear hg
            go_wp2_with fail
            go_quiet (fail)
            go_wp2_with fail
            go_ret
            exact ⟨ret_bool Hf.out.symm, below_drewN hB _⟩
          · have f2 : decide (l[k].t < l[k].f) = true := by simp; omega
            clear hg
            go_wp2_with fail
            go_quiet (fail)
            go_wp2_with fail
            go_ret
            exact ⟨ret_bool Hf.out.symm, below_drewN hB _⟩
        · have f1 : decide (l[k].f < y) = true := by simp; omega
          clear hg
          go_wp2_with fail
          go_quiet (fail)
          go_wp2_with fail
          go_ret
          exact ⟨ret_bool Hf.out.symm, below_drewN hB _⟩
    · have hf : rising 20000 0 l = true := by rw [← hr, List.drop_of_length_le (by omega)]; rfl
      have Hf := Lib.hid hf
      clear hf hr
      go_wp2_with fail
      go_ret
      exact ⟨ret_bool Hf.out.symm, hB⟩

def touchB (a b c d : Int) : Bool := decide (a ≤ d ∧ c ≤ b)
theorem rTouch_any (a b c d : Int) (w : World) :
    Calls Try.prog 42 #[.agg #[.int .i64 a, .int .i64 b], .agg #[.int .i64 c, .int .i64 d]] w fun e w' => e = .returned (.bool (touchB a b c d)) ∧ Below w.heap.size w w' := by
  go_enter Try.func42, Try.ntmps42
  go_wp2
  all_goals
    go_ret
    exact ⟨ret_bool (by unfold touchB; rw [Bool.eq_iff_iff]; simp; omega), ((Below.refl _ _).alloc (Nat.le_refl _) _).alloc (by simp) _⟩

theorem isBefore_any (e : Ed) (o : Int) (after : Bool) (w : World) :
    Calls Try.prog 55 #[.agg #[.int .i64 e.f, .int .i64 e.t, .string e.s], .int .i64 o, .bool after] w fun x w' => x = .returned (.bool (isBef e o after)) ∧ Below w.heap.size w w' := by
  by_cases h1 : e.f = o
  · have f1 : (e.f == o) = true := by simpa using h1
    have H1 := Lib.hid h1
    clear h1
    by_cases h2 : e.t = o
    · have f2 : (e.t == o) = true := by simpa using h2
      have H2 := Lib.hid h2
      clear h2
      go_enter Try.func55, Try.ntmps55
      go_wp2
      go_ret
      exact ⟨ret_bool (by unfold isBef; rw [if_pos ⟨H1.out, H2.out⟩]), (Below.refl _ _).alloc (Nat.le_refl _) _⟩
    · have f2 : (e.t == o) = false := by simpa using h2
      have H2 := Lib.hid h2
      clear h2
      go_enter Try.func55, Try.ntmps55
      go_wp2
      go_ret
      exact ⟨ret_bool (by unfold isBef; rw [if_neg (fun h => H2.out h.2)]), (Below.refl _ _).alloc (Nat.le_refl _) _⟩
  · have f1 : (e.f == o) = false := by simpa using h1
    have H1 := Lib.hid h1
    clear h1
    go_enter Try.func55, Try.ntmps55
    go_wp2
    go_ret
    exact ⟨ret_bool (by unfold isBef; rw [if_neg (fun h => H1.out h.1)]), (Below.refl _ _).alloc (Nat.le_refl _) _⟩
end Go.Proofs.Ythcjffbdgdjfhaa
