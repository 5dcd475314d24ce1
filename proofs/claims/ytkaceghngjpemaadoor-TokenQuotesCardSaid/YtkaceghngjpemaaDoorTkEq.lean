/-
  A slice of tokens in memory; contracts of the library's Equal and the specification's Same of such slices.
-/
import Derived.Test.YtkaceghngjpemaaDoorTkLex
import Derived.BigQuiet
import Derived.Deep.QuietTactic
namespace Go.Proofs.YtkaceghngjpemaaDoor
set_option linter.unusedVariables false
set_option linter.unusedSimpArgs false
open Go.RowKit

def TksV (w : World) (A : Option Addr) (l : List Tok) : Prop :=
  0 < l.length → ∃ b off, A = some ⟨b, off, none⟩ ∧ b < w.heap.size ∧ ∀ i p, l[i]? = some p → w.cell? ⟨b, off + i * 2, none⟩ = some (.int .i64 p.1) ∧ w.cell? ⟨b, off + i * 2 + 1, none⟩ = some (.string p.2)
theorem TksV.nil (w : World) (A : Option Addr) : TksV w A [] := fun h => absurd h (by simp)
theorem TksV.below {w w' : World} {A : Option Addr} {l : List Tok} (h : TksV w A l) (hb : Below w.heap.size w w') : TksV w' A l := by
  intro hl
  obtain ⟨b, off, rfl, hlt, hg⟩ := h hl
  exact ⟨b, off, rfl, Nat.lt_of_lt_of_le hlt hb.size, fun i p hp => ⟨(hb.cell hlt).trans (hg i p hp).1, (hb.cell hlt).trans (hg i p hp).2⟩⟩
theorem TksV.get {w : World} {A : Option Addr} {l : List Tok} (h : TksV w A l) {k : Nat} (hk : k < l.length) :
    ∃ b off, A = some ⟨b, off, none⟩ ∧ b < w.heap.size ∧ w.cell? ⟨b, off + k * 2, none⟩ = some (.int .i64 l[k].1) ∧ w.cell? ⟨b, off + k * 2 + 1, none⟩ = some (.string l[k].2) := by
  obtain ⟨b, off, rfl, hb, hg⟩ := h (by omega)
  exact ⟨b, off, rfl, hb, hg k _ (List.getElem?_eq_getElem hk)⟩
theorem tkCells_length : ∀ l : List Tok, (tkCells l).length = l.length * 2
  | [] => rfl
  | p :: l => by
    have := tkCells_length l
    simp only [tkCells, List.flatMap_cons, List.length_append, List.length_cons, List.length_nil] at this ⊢
    omega
theorem tkCells_get : ∀ (l : List Tok) (i : Nat) (p : Tok), l[i]? = some p → (tkCells l)[i * 2]? = some (.int .i64 p.1) ∧ (tkCells l)[i * 2 + 1]? = some (.string p.2)
  | [], i, p, h => by simp at h
  | e :: l, 0, p, h => by
    simp at h; subst h
    simp [tkCells]
  | e :: l, i + 1, p, h => by
    have := tkCells_get l i p (by simpa using h)
    rw [show (i + 1) * 2 = i * 2 + 2 by omega]
    simpa [tkCells] using this
theorem TksV.of_own {w : World} {base e : Nat} {v : Value} {l : List Tok} (h : w.ownsRow base e 2 v l.length (tkCells l)) :
    ∃ A c, v = .slice A l.length c ∧ TksV w A l ∧ l.length ≤ c ∧ (∀ a, A = some a → base ≤ a.block) := by
  rcases h.2 with ⟨rfl, h0⟩ | ⟨g, cap, cur, rfl, hb, hg, hn, hc, hs, ht⟩
  · have : l = [] := List.eq_nil_of_length_eq_zero h0
    subst this
    exact ⟨none, 0, rfl, TksV.nil _ _, Nat.le_refl _, fun a ha => by cases ha⟩
  · refine ⟨some ⟨g, 0, none⟩, cap, rfl, fun hl => ⟨g, 0, rfl, ?_, fun i p he => ?_⟩, hn, fun a ha => by cases ha; exact hb⟩
    · rcases Nat.lt_or_ge g w.heap.size with hlt | hge
      · exact hlt
      · rw [Array.getElem?_eq_none hge] at hg; cases hg
    · obtain ⟨h1, h2⟩ := tkCells_get l i p he
      have hi : i < l.length := by
        rcases Nat.lt_or_ge i l.length with hlt | hge
        · exact hlt
        · rw [List.getElem?_eq_none hge] at he; cases he
      have hcell : ∀ j, j < l.length * 2 → w.cell? ⟨g, j, none⟩ = (tkCells l)[j]? := by
        intro j hj
        rw [← ht, List.getElem?_take_of_lt hj]
        simp [World.cell?, hg]
      simp only [Nat.zero_add]
      exact ⟨by rw [hcell _ (by omega)]; exact h1, by rw [hcell _ (by omega)]; exact h2⟩
theorem TksV.one {w : World} {b : Nat} {p : Tok} {t : TypeId} {fr : Nat × Nat} (h : w.heap[b]? = some (.cells #[.int .i64 p.1, .string p.2] t fr)) : TksV w (some ⟨b, 0, none⟩) [p] := by
  intro _
  have hlt : b < w.heap.size := by
    rcases Nat.lt_or_ge b w.heap.size with hlt | hge
    · exact hlt
    · rw [Array.getElem?_eq_none hge] at h; cases h
  refine ⟨b, 0, rfl, hlt, fun i q hq => ?_⟩
  have hi : i = 0 := by
    rcases Nat.eq_zero_or_pos i with h | h
    · exact h
    · rw [List.getElem?_eq_none (by simp; omega)] at hq; cases hq
  subst hi
  simp at hq
  subst hq
  exact ⟨by simp [World.cell?, h], by simp [World.cell?, h]⟩
theorem TksV.two {w : World} {b : Nat} {p q : Tok} {t : TypeId} {fr : Nat × Nat} (h : w.heap[b]? = some (.cells #[.int .i64 p.1, .string p.2, .int .i64 q.1, .string q.2] t fr)) : TksV w (some ⟨b, 0, none⟩) [p, q] := by
  intro _
  have hlt : b < w.heap.size := by
    rcases Nat.lt_or_ge b w.heap.size with hlt | hge
    · exact hlt
    · rw [Array.getElem?_eq_none hge] at h; cases h
  refine ⟨b, 0, rfl, hlt, fun i x hx => ?_⟩
  have hi : i = 0 ∨ i = 1 := by
    rcases Nat.lt_or_ge i 2 with h | h
    · omega
    · rw [List.getElem?_eq_none (by simp; omega)] at hx; cases hx
  rcases hi with rfl | rfl
  · simp at hx; subst hx; exact ⟨by simp [World.cell?, h], by simp [World.cell?, h]⟩
  · simp at hx; subst hx; exact ⟨by simp [World.cell?, h], by simp [World.cell?, h]⟩
theorem below_drewT {B : Nat} {a w : World} (h : Below B a w) (n : Nat) : Below B a (w.drewN n) := ⟨h.os, h.tape, h.output, h.size, h.block⟩

theorem run_neq_tok (a b : Tok) (w : World) :
    (binOp .neq 44 (.agg #[.int .i64 a.1, .string a.2]) (.agg #[.int .i64 b.1, .string b.2])).run Tryd.prog w = .ok (.bool (!decide (a = b))) w := by
  simp [go_sem]
  by_cases h1 : a.1 = b.1
  · by_cases h3 : a.2 = b.2
    · have h4 : a.2.toList = b.2.toList := by rw [h3]
      have h5 : a = b := Prod.ext h1 h3
      rw [if_pos h1, if_pos h4]; simp [h5]
    · have h4 : ¬ a.2.toList = b.2.toList := fun h => h3 (strs_inj h)
      have h5 : ¬ a = b := fun h => h3 (by rw [h])
      rw [if_pos h1, if_neg h4]; simp [h5]
  · have h5 : ¬ a = b := fun h => h1 (by rw [h])
    rw [if_neg h1]; simp [h5]

set_option maxRecDepth 100000 in
set_option maxHeartbeats 1000000 in
theorem Equal_any (c1 c2 : Nat) (A1 A2 : Option Addr) (l1 l2 : List Tok) (w : World) (hl : l1.length ≤ 100000) (hE1 : TksV w A1 l1) (hE2 : TksV w A2 l2) :
    Calls Tryd.prog 107 #[.slice A1 l1.length c1, .slice A2 l2.length c2] w fun e w' => e = .returned (.bool (decide (l1 = l2))) ∧ Below w.heap.size w w' := by
  by_cases hlen : l1.length = l2.length
  · have q : ((l1.length : Int) != (l2.length : Int)) = false := by simp; omega
    have Hlen := Lib.hid hlen
    clear hlen
    go_enter Tryd.func107, Tryd.ntmps107
    go_wp2_with fail
    go_loopw [5, 13] (fun _ i wr => ∃ (k : Nat), k ≤ l1.length ∧ i = .int .i64 k ∧ l1.take k = l2.take k ∧ Below w.heap.size w wr) (fun _ i _ => l1.length - (intOf i).toNat)
    case atStart => exact ⟨0, by omega, rfl, rfl, Below.refl _ _⟩
    case round =>
      obtain ⟨k, hk, rfl, he, hB⟩ := hrel
      have He := Lib.hid he
      clear he
      by_cases hlt : k < l1.length
      · have hlt2 : k < l2.length := by have := Hlen.out; omega
        obtain ⟨b, off, rfl, hb, c11, c12⟩ := (hE1.below hB).get hlt
        obtain ⟨b2, off2, rfl, hb2, c21, c22⟩ := (hE2.below hB).get hlt2
        clear hE1 hE2
        by_cases heq : l1[k] = l2[k]
        · have Heq := Lib.hid heq
          have hrun : ∀ w', (binOp .neq 44 (.agg #[.int .i64 l1[k].1, .string l1[k].2]) (.agg #[.int .i64 l2[k].1, .string l2[k].2])).run Tryd.prog w' = .ok (.bool false) w' := fun w' => by
            rw [run_neq_tok]; simp [heq]
          clear heq
          go_wp2_with fail
          go_quiet (fail)
          go_wp2_with fail
          refine ⟨⟨k + 1, by omega, by go_num, ?_, below_drewT hB _⟩, by simp [intOf]; omega⟩
          rw [List.take_succ_eq_append_getElem hlt, List.take_succ_eq_append_getElem hlt2, He.out, Heq.out]
        · have Heq := Lib.hid heq
          have hrun : ∀ w', (binOp .neq 44 (.agg #[.int .i64 l1[k].1, .string l1[k].2]) (.agg #[.int .i64 l2[k].1, .string l2[k].2])).run Tryd.prog w' = .ok (.bool true) w' := fun w' => by
            rw [run_neq_tok]; simp [heq]
          clear heq
          go_wp2_with fail
          go_quiet (fail)
          go_wp2_with fail
          go_ret
          refine ⟨ret_b ?_, below_drewT hB _⟩
          symm
          rw [decide_eq_false_iff_not]
          intro h
          exact Heq.out (by simp [h])
      · have hk3 : k = l1.length := by omega
        subst hk3
        go_wp2_with fail
        go_ret
        refine ⟨ret_b ?_, hB⟩
        symm
        rw [decide_eq_true_iff]
        have h1 := He.out
        rw [List.take_length, Hlen.out, List.take_length] at h1
        exact h1
  · have q : ((l1.length : Int) != (l2.length : Int)) = true := by simp; omega
    have Hlen := Lib.hid hlen
    clear hlen
    go_enter Tryd.func107, Tryd.ntmps107
    go_wp2_with fail
    go_ret
    refine ⟨ret_b ?_, Below.refl _ _⟩
    symm
    rw [decide_eq_false_iff_not]
    intro h
    exact Hlen.out (by rw [h])

set_option maxRecDepth 100000 in
set_option maxHeartbeats 1000000 in
theorem RSame_any (c1 c2 : Nat) (A1 A2 : Option Addr) (l1 l2 : List Tok) (w : World) (hl : l1.length ≤ 100000) (hE1 : TksV w A1 l1) (hE2 : TksV w A2 l2) :
    Calls Tryd.prog 24 #[.slice A1 l1.length c1, .slice A2 l2.length c2] w fun e w' => e = .returned (.bool (decide (l1 = l2))) ∧ Below w.heap.size w w' := by
  by_cases hlen : l1.length = l2.length
  · have q : ((l1.length : Int) != (l2.length : Int)) = false := by simp; omega
    have Hlen := Lib.hid hlen
    clear hlen
    go_enter Tryd.func24, Tryd.ntmps24
    go_wp2_with fail
    go_loopw [5] (fun i wr => ∃ (k : Nat), k ≤ l1.length ∧ i = .int .i64 k ∧ l1.take k = l2.take k ∧ Below w.heap.size w wr) (fun i _ => l1.length - (intOf i).toNat)
    case atStart => exact ⟨0, by omega, rfl, rfl, Below.refl _ _⟩
    case round =>
      obtain ⟨k, hk, rfl, he, hB⟩ := hrel
      have He := Lib.hid he
      clear he
      by_cases hlt : k < l1.length
      · have hlt2 : k < l2.length := by have := Hlen.out; omega
        obtain ⟨b, off, rfl, hb, c11, c12⟩ := (hE1.below hB).get hlt
        obtain ⟨b2, off2, rfl, hb2, c21, c22⟩ := (hE2.below hB).get hlt2
        clear hE1 hE2
        by_cases heq : l1[k] = l2[k]
        · have Heq := Lib.hid heq
          have hrun : ∀ w', (binOp .neq 44 (.agg #[.int .i64 l1[k].1, .string l1[k].2]) (.agg #[.int .i64 l2[k].1, .string l2[k].2])).run Tryd.prog w' = .ok (.bool false) w' := fun w' => by
            rw [run_neq_tok]; simp [heq]
          clear heq
          go_wp2_with fail
          go_quiet (fail)
          go_wp2_with fail
          refine ⟨⟨k + 1, by omega, by go_num, ?_, below_drewT hB _⟩, by simp [intOf]; omega⟩
          rw [List.take_succ_eq_append_getElem hlt, List.take_succ_eq_append_getElem hlt2, He.out, Heq.out]
        · have Heq := Lib.hid heq
          have hrun : ∀ w', (binOp .neq 44 (.agg #[.int .i64 l1[k].1, .string l1[k].2]) (.agg #[.int .i64 l2[k].1, .string l2[k].2])).run Tryd.prog w' = .ok (.bool true) w' := fun w' => by
            rw [run_neq_tok]; simp [heq]
          clear heq
          go_wp2_with fail
          go_quiet (fail)
          go_wp2_with fail
          go_ret
          refine ⟨ret_b ?_, below_drewT hB _⟩
          symm
          rw [decide_eq_false_iff_not]
          intro h
          exact Heq.out (by simp [h])
      · have hk3 : k = l1.length := by omega
        subst hk3
        go_wp2_with fail
        go_ret
        refine ⟨ret_b ?_, hB⟩
        symm
        rw [decide_eq_true_iff]
        have h1 := He.out
        rw [List.take_length, Hlen.out, List.take_length] at h1
        exact h1
  · have q : ((l1.length : Int) != (l2.length : Int)) = true := by simp; omega
    have Hlen := Lib.hid hlen
    clear hlen
    go_enter Tryd.func24, Tryd.ntmps24
    go_wp2_with fail
    go_ret
    refine ⟨ret_b ?_, Below.refl _ _⟩
    symm
    rw [decide_eq_false_iff_not]
    intro h
    exact Hlen.out (by rw [h])
end Go.Proofs.YtkaceghngjpemaaDoor
