/-
  Trees: a copy's copy is the copy; a slice of nodes that can be written.
-/
import Derived.Test.YtpjlgahbbmlngaaDoorTreeOwnp1
import Derived.Test.YtpjlgahbbmlngaaDoorTreeLeavesp32
namespace Go.Proofs.YtpjlgahbbmlngaaDoor
set_option linter.unusedVariables false
set_option linter.unusedSimpArgs false
open Go Go.RowKit

theorem shortT_id {t : ByteArray} (h : t.size ≤ 20001) : shortT t = t := by
  unfold shortT
  rw [Nat.min_eq_left h]
  simp
mutual
theorem cutN_id : ∀ (n : Nd) (left d : Nat), shN n → d + deepN n ≤ 1003 → countN n ≤ left → cutN n left d = (n, left - countN n)
  | .mk k t l, left, d, hs, hd, hc => by
    have h1 := hs.1
    have e := shortT_id h1
    simp only [cutN, e]
    simp only [deepN] at hd
    simp only [countN] at hc ⊢
    by_cases hl : l = []
    · subst hl
      split
      · simp [cutL, countL]
      · simp [countL]
    · have hpos : 0 < deepL l := by
        cases l with
        | nil => exact absurd rfl hl
        | cons x l => simp only [deepL]; omega
      rw [if_pos (by omega), cutL_id l (left - 1) (d + 1) hs.2 (by omega) (by omega)]
      simp only [Prod.mk.injEq, true_and]
      omega
theorem cutL_id : ∀ (l : List Nd) (r d : Nat), shL l → d + deepL l ≤ 1004 → countL l ≤ r → cutL l r d = (l, r - countL l)
  | [], r, d, _, _, _ => by simp [cutL, countL]
  | n :: l, r, d, hs, hd, hc => by
    have hp := countN_pos n
    simp only [deepL] at hd
    simp only [countL] at hc
    have h1 := cutN_id n r d hs.1 (by omega) (by omega)
    simp only [cutL]
    rw [if_neg (by omega), h1]
    simp only
    rw [cutL_id l (r - countN n) d hs.2 (by omega) (by omega)]
    simp only [countL, Prod.mk.injEq, true_and]
    omega
end
theorem cutM_id {z : Nd} (h : SmZ z) (hd : deepN z ≤ 1000) : cutM 600 z = z := by
  unfold cutM
  rw [cutN_id z 600 0 h.sh (by omega) h.count]
theorem formed_deep {z : Nd} (h : formedB z = true) : deepN z ≤ 1000 := by
  unfold formedB at h
  simp only [Bool.and_eq_true, decide_eq_true_eq] at h
  exact h.1.2
/-- a slice of so many nodes that can be written -/
def OpenM (P : Nat → Prop) (w : World) (A : Option Addr) (k : Nat) : Prop := 0 < k → ∃ b o cs t, A = some ⟨b, o, none⟩ ∧ w.heap[b]? = some (.cells cs t (0, 0)) ∧ o + k * 4 ≤ cs.size ∧ P b
theorem OpenM.of {P : Nat → Prop} {w : World} {A : Option Addr} {l : List Nd} (h1 : KidsP P w A l) (h2 : OpenK P w A l.length) : OpenM P w A l.length := fun hl => by
  obtain ⟨b, o, rfl, hn⟩ := h1 hl
  obtain ⟨b2, o2, e, ⟨cs, t, hb⟩, hp⟩ := h2 hl
  simp only [Option.some.injEq, Addr.mk.injEq, and_true] at e
  obtain ⟨rfl, rfl⟩ := e
  have hlast : l[l.length - 1]? = some (l[l.length - 1]'(by omega)) := List.getElem?_eq_getElem (by omega)
  obtain ⟨A1, c1, _, _, _, _, _, g3, _⟩ := hn.get hlast
  rw [Lib.cell_of_heap hb] at g3
  have := (Array.getElem?_eq_some_iff.1 g3).1
  exact ⟨b, o, cs, t, rfl, hb, by omega, hp⟩
theorem OpenM.kept {P P' : Nat → Prop} {w w' : World} {A : Option Addr} {k : Nat} (h : OpenM P w A k) (hk : ∀ b, P b → b < w.heap.size → w'.heap[b]? = w.heap[b]?) (hp : ∀ b, P b → P' b) : OpenM P' w' A k := fun hl => by
  obtain ⟨b, o, cs, t, h1, h2, h3, h4⟩ := h hl
  exact ⟨b, o, cs, t, h1, (hk b h4 (Array.getElem?_eq_some_iff.1 h2).1).trans h2, h3, hp b h4⟩
theorem OpenM.lt {P : Nat → Prop} {w : World} {A : Option Addr} {k : Nat} (h : OpenM P w A k) : OpenM (fun b => P b ∧ b < w.heap.size) w A k := fun hl => by
  obtain ⟨b, o, cs, t, h1, h2, h3, h4⟩ := h hl
  exact ⟨b, o, cs, t, h1, h2, h3, h4, (Array.getElem?_eq_some_iff.1 h2).1⟩
mutual
theorem rawN_of_sh : ∀ {n : Nd}, shN n → countN n ≤ 600 → rawN n
  | .mk k t l, h, hc => by
    have h1 := h.1
    have hl := countL_len l
    simp only [countN] at hc
    exact ⟨by unfold maxLen; omega, by unfold maxLen; omega, rawL_of_sh h.2 (by omega)⟩
theorem rawL_of_sh : ∀ {l : List Nd}, shL l → countL l ≤ 600 → rawL l
  | [], _, _ => trivial
  | n :: l, h, hc => by
    simp only [countL] at hc
    exact ⟨rawN_of_sh h.1 (by omega), rawL_of_sh h.2 (by omega)⟩
end
/-- one of them is written -/
theorem open_set {w : World} {b o k i : Nat} {cs : Array Value} {t : Nat} (v0 v1 v2 v3 : Value) (h : w.heap[b]? = some (.cells cs t (0, 0))) (hi : i < k) (hk : o + k * 4 ≤ cs.size) :
    (∃ u0 u1 u2 u3, w.cell? ⟨b, o + i * 4, none⟩ = some u0 ∧ w.cell? ⟨b, o + i * 4 + 1, none⟩ = some u1 ∧ w.cell? ⟨b, o + i * 4 + 2, none⟩ = some u2 ∧ w.cell? ⟨b, o + i * 4 + 3, none⟩ = some u3) ∧
    ∃ cs', ((((w.setCell ⟨b, o + i * 4, none⟩ v0).setCell ⟨b, o + i * 4 + 1, none⟩ v1).setCell ⟨b, o + i * 4 + 2, none⟩ v2).setCell ⟨b, o + i * 4 + 3, none⟩ v3).heap[b]? = some (.cells cs' t (0, 0)) ∧ o + k * 4 ≤ cs'.size := by
  have a1 := heap_setCell_same w b (o + i * 4) _ _ v0 h
  have a2 := heap_setCell_same _ b (o + i * 4 + 1) _ _ v1 a1
  have a3 := heap_setCell_same _ b (o + i * 4 + 2) _ _ v2 a2
  have a4 := heap_setCell_same _ b (o + i * 4 + 3) _ _ v3 a3
  refine ⟨⟨_, _, _, _, (Lib.cell_of_heap h _).trans (Array.getElem?_eq_getElem (by omega)), (Lib.cell_of_heap h _).trans (Array.getElem?_eq_getElem (by omega)), (Lib.cell_of_heap h _).trans (Array.getElem?_eq_getElem (by omega)), (Lib.cell_of_heap h _).trans (Array.getElem?_eq_getElem (by omega))⟩, _, a4, by simpa using hk⟩
end Go.Proofs.YtpjlgahbbmlngaaDoor
