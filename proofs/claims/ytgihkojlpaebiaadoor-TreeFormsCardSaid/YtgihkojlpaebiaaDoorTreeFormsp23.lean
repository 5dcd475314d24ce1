/-
  Trees: the specification's Ints (two lists of ints are the same).
-/
import Derived.Test.YtgihkojlpaebiaaDoorTreeFormsp19
import Derived.BigQuiet
import Derived.OwnWalk
namespace Go.Proofs.YtgihkojlpaebiaaDoor
set_option linter.unusedVariables false
set_option linter.unusedSimpArgs false
open Go Go.RowKit

/-- a slice of ints that can be read -/
def IntsR (w : World) (A : Option Addr) (l : List Int) : Prop :=
  0 < l.length → ∃ b, A = some ⟨b, 0, none⟩ ∧ b < w.heap.size ∧ ∀ (i : Nat) (x : Int), l[i]? = some x → w.cell? ⟨b, i, none⟩ = some (Value.int .i64 x)
theorem IntsR.below {w w' : World} {A : Option Addr} {l : List Int} (h : IntsR w A l) (hb : Below w.heap.size w w') : IntsR w' A l := by
  intro hl
  obtain ⟨b, rfl, hlt, hg⟩ := h hl
  exact ⟨b, rfl, Nat.lt_of_lt_of_le hlt hb.size, fun i x hx => (hb.cell hlt).trans (hg i x hx)⟩
theorem IntsR.of_own {w : World} {base : Nat} {v : Value} {l : List Nat} (h : w.ownsRow base 3 1 v l.length (intCells l)) :
    ∃ A c, v = .slice A l.length c ∧ IntsR w A (l.map fun (i : Nat) => (i : Int)) := by
  rcases h.2 with ⟨rfl, h0⟩ | ⟨g, cap, cur, rfl, hb, hg, hn, hc, hs, ht⟩
  · have : l = [] := List.eq_nil_of_length_eq_zero h0
    subst this
    exact ⟨none, 0, rfl, fun h => absurd h (by simp)⟩
  · refine ⟨some ⟨g, 0, none⟩, cap, rfl, fun hl => ⟨g, rfl, ?_, fun i x hx => ?_⟩⟩
    · rcases Nat.lt_or_ge g w.heap.size with hlt | hge
      · exact hlt
      · rw [Array.getElem?_eq_none hge] at hg; cases hg
    · have hi : i < l.length := by
        rcases Nat.lt_or_ge i l.length with hlt | hge
        · exact hlt
        · rw [List.getElem?_eq_none (by simpa using hge)] at hx; cases hx
      have hcell : w.cell? ⟨g, i, none⟩ = (intCells l)[i]? := by
        rw [← ht, List.getElem?_take_of_lt (by omega)]
        simp [World.cell?, hg]
      rw [hcell]
      simp only [List.getElem?_map] at hx
      simp only [intCells, List.getElem?_map]
      cases hq : l[i]? with
      | none => rw [hq] at hx; cases hx
      | some y => rw [hq] at hx; simp at hx; simp [hx]

theorem take_step {l1 l2 : List Int} {k : Nat} (h1 : k < l1.length) (h2 : k < l2.length) (h : l1.take k = l2.take k) (he : l1[k] = l2[k]) : l1.take (k + 1) = l2.take (k + 1) := by
  rw [List.take_succ_eq_append_getElem h1, List.take_succ_eq_append_getElem h2, h, he]
theorem take_all {l1 l2 : List Int} (hl : l1.length = l2.length) (h : l1.take l1.length = l2.take l1.length) : l1 = l2 := by
  rw [List.take_length, hl, List.take_length] at h; exact h

set_option maxRecDepth 100000 in
set_option maxHeartbeats 1000000 in
theorem Ints_any (c1 c2 : Nat) (A1 A2 : Option Addr) (l1 l2 : List Int) (w : World) (hl : l1.length ≤ 1000000000) (hE1 : IntsR w A1 l1) (hE2 : IntsR w A2 l2) :
    Calls Tryd.prog 35 #[.slice A1 l1.length c1, .slice A2 l2.length c2] w fun e w' => e = .returned (.bool (decide (l1 = l2))) ∧ Below w.heap.size w w' := by
  by_cases hlen : l1.length = l2.length
  · have q : ((l1.length : Int) != (l2.length : Int)) = false := by simp; omega
    have Hlen := Lib.hid hlen
    clear hlen
    go_enter Tryd.func35, Tryd.ntmps35
    go_wp2_with fail
    go_loopw [5] (fun i wr => ∃ (k : Nat), k ≤ l1.length ∧ i = .int .i64 k ∧ l1.take k = l2.take k ∧ Below w.heap.size w wr) (fun i _ => l1.length - (intOf i).toNat)
    case atStart => exact ⟨0, Nat.zero_le _, rfl, rfl, Below.refl _ _⟩
    case round =>
      obtain ⟨k, hk, rfl, he, hB⟩ := hrel
      have He := Lib.hid he
      have HB := Lib.hid hB
      clear he
      by_cases hlt : k < l1.length
      · have hlt2 : k < l2.length := by have := Hlen.out; omega
        obtain ⟨b1, rfl, hb1, g1⟩ := hE1.below hB (by omega)
        obtain ⟨b2, rfl, hb2, g2⟩ := hE2.below hB (by omega)
        have e1 := g1 k _ (List.getElem?_eq_getElem hlt)
        have e2 := g2 k _ (List.getElem?_eq_getElem hlt2)
        obtain ⟨x, hx⟩ : ∃ x, x = l1[k] := ⟨_, rfl⟩
        obtain ⟨y, hy⟩ : ∃ y, y = l2[k] := ⟨_, rfl⟩
        rw [← hx] at e1
        rw [← hy] at e2
        have hk0 : (0 : Int) ≤ (k : Int) := by omega
        have hk1 : (k : Int) < (l1.length : Int) := by omega
        have hk2 : (k : Int) < (l2.length : Int) := by omega
        have HX := Lib.hid hx
        have HY := Lib.hid hy
        clear hE1 hE2 g1 g2 hx hy hB
        by_cases heq : x = y
        · have Heq := Lib.hid heq
          have q2 : (x != y) = false := by simp [heq]
          have sm : IntKind.i64.wrap ((k : Int) + 1) = ((k + 1 : Nat) : Int) := by rw [IntWalk.i64_in _ (by omega)]; omega
          clear heq
          go_wp2_with fail
          go_quiet (fail)
          go_wp2_with fail
          exact ⟨⟨k + 1, by omega, by go_num, take_step hlt hlt2 He.out (by rw [← HX.out, ← HY.out]; exact Heq.out), below_drewT HB.out _⟩, by simp [intOf]; omega⟩
        · have Heq := Lib.hid heq
          have q2 : (x != y) = true := by simp [heq]
          clear heq
          go_wp2_with fail
          go_quiet (fail)
          go_wp2_with fail
          go_ret
          refine ⟨ret_b ?_, below_drewT HB.out _⟩
          symm
          rw [decide_eq_false_iff_not]
          intro h
          exact Heq.out (by rw [HX.out, HY.out]; simp [h])
      · have hk3 : k = l1.length := by omega
        subst hk3
        clear hE1 hE2 hB
        go_wp2_with fail
        go_ret
        refine ⟨ret_b ?_, HB.out⟩
        symm
        rw [decide_eq_true_iff]
        exact take_all Hlen.out He.out
  · have q : ((l1.length : Int) != (l2.length : Int)) = true := by simp; omega
    have Hlen := Lib.hid hlen
    clear hlen hE1 hE2
    go_enter Tryd.func35, Tryd.ntmps35
    go_wp2_with fail
    go_ret
    refine ⟨ret_b ?_, Below.refl _ _⟩
    symm
    rw [decide_eq_false_iff_not]
    intro h
    exact Hlen.out (by rw [h])
end Go.Proofs.YtgihkojlpaebiaaDoor
