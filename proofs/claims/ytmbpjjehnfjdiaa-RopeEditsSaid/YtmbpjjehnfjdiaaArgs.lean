/-
  Arguments opened: a slice of slices of edits.
-/
import Derived.Test.YtmbpjjehnfjdiaaArg
namespace Go.Proofs.Ytmbpjjehnfjdiaa
set_option linter.unusedVariables false
set_option linter.unusedSimpArgs false
open Go.ChangeShapes Go.WideShapes Go.RowKit Go.Deep

theorem cellsEdits : Try.prog.cellsOf 22 = 1 := by kernel_rfl

/-- a slice's address, its capacity and what it reads as -/
abbrev Es := Option Addr × Nat × List Ed
def EdssV (w : World) (A : Option Addr) (L : List Es) : Prop :=
  0 < L.length → ∃ b off, A = some ⟨b, off, none⟩ ∧ b < w.heap.size ∧
    ∀ i x, L[i]? = some x → w.cell? ⟨b, off + i, none⟩ = some (.slice x.1 x.2.2.length x.2.1) ∧ EdsV w x.1 x.2.2 ∧ x.2.2.length ≤ maxLen ∧ ∀ e ∈ x.2.2, e.s.size ≤ maxLen
theorem EdssV.below {w w' : World} {A : Option Addr} {L : List Es} (h : EdssV w A L) (hb : Below w.heap.size w w') : EdssV w' A L := by
  intro hl
  obtain ⟨b, off, rfl, hlt, hg⟩ := h hl
  exact ⟨b, off, rfl, Nat.lt_of_lt_of_le hlt hb.size, fun i x hx => by
    obtain ⟨h1, h2, h3⟩ := hg i x hx
    exact ⟨by rw [hb.cell hlt]; exact h1, h2.below hb, h3⟩⟩
theorem EdssV.get {w : World} {A : Option Addr} {L : List Es} (h : EdssV w A L) {k : Nat} (hk : k < L.length) :
    ∃ (b off : Nat) (A' : Option Addr) (c : Nat) (l : List Ed), A = some ⟨b, off, none⟩ ∧ b < w.heap.size ∧ w.cell? ⟨b, off + k, none⟩ = some (.slice A' l.length c) ∧ EdsV w A' l ∧ l.length ≤ maxLen ∧ ∀ e ∈ l, e.s.size ≤ maxLen := by
  obtain ⟨b, off, rfl, hlt, hg⟩ := h (by omega)
  obtain ⟨h1, h2, h3, h4⟩ := hg k _ (List.getElem?_eq_getElem hk)
  exact ⟨b, off, _, _, _, rfl, hlt, h1, h2, h3, h4⟩

section
variable {H : Type} {enc : TypeId × Value → H} {w : World}

/-- where a run of cells that is there begins -/
theorem spot_none {a : Addr} {n : Nat} {cs : List Value} {v : Value} (hn : 0 < n) (h : w.cells? 0 (a.add 0) n = some (v :: cs)) : a.spot = none ∨ w.cell? a = some v := by
  obtain ⟨_, _, hc⟩ := World.cells?_some h
  have h0 := hc 0 hn
  have hz : (a.add 0).add 0 = a := by simp [Addr.add]
  rw [hz] at h0
  exact .inr (by simpa using h0)

set_option maxRecDepth 100000 in
theorem eds_of {fuel : Nat} {cs : List Value} {x : DataW H × List MemPlace} (h : DataW.trod enc Try.prog w 0 (fun _ => true) true fuel 22 cs = some x) :
    ∃ (A : Option Addr) (c : Nat) (l : List Ed), cs = [.slice A l.length c] ∧ EdsV w A l ∧ l.length ≤ maxLen ∧ ∀ e ∈ l, e.s.size ≤ maxLen := by
  rcases open_slice Try.underlying22 h with ⟨hcs, _⟩ | ⟨a', len', cap', m, n, D, Pl, hcs, hb, hl, hm, hmm, _, hi⟩
  · exact ⟨none, 0, [], hcs, EdsV.nil _ _, by simp, fun e he => by simp at he⟩
  · have hmc : m = cap' := by simpa using hmm
    subst hmc
    obtain ⟨l, hll, hq⟩ := build_list (Q := fun i e => w.cells? 0 (a'.add (i * 3)) 3 = some (edCells e) ∧ e.s.size ≤ maxLen) len' (fun i hi' => by
      obtain ⟨cs', hc, ht⟩ := hi i (by omega)
      rw [cellsEdit] at hc
      obtain ⟨e, rfl, hs, _⟩ := edit_of ht
      exact ⟨e, hc, hs⟩)
    subst hll
    refine ⟨some a', m, l, hcs, fun hpos => ?_, by omega, fun e he => ?_⟩
    · have h0 := (hq 0 _ (List.getElem?_eq_getElem hpos)).1
      obtain ⟨_, _, hc0⟩ := World.cells?_some h0
      have hc00 := hc0 0 (by omega)
      have hsp : a'.spot = none := by
        have hz : (a'.add (0 * 3)).add 0 = a' := by simp [Addr.add]
        rw [hz] at hc00
        simp only [World.cell?] at hc00
        split at hc00
        · split at hc00
          · simp [edCells] at hc00
          · rename_i hns; simpa using hns
        · simp [edCells] at hc00
      obtain ⟨b, off, sp⟩ := a'
      simp only at hsp
      subst hsp
      have hadd : ∀ i j : Nat, ((⟨b, off, none⟩ : Addr).add (i * 3)).add j = ⟨b, off + i * 3 + j, none⟩ := by
        intro i j
        unfold Addr.add
        by_cases h1 : i * 3 = 0 <;> by_cases h2 : j = 0 <;> simp [h1, h2]
      have hcell : ∀ i e, l[i]? = some e → ∀ j, j < 3 → w.cell? ⟨b, off + i * 3 + j, none⟩ = (edCells e)[j]? := by
        intro i e he j hj
        obtain ⟨_, _, hcc⟩ := World.cells?_some (hq i e he).1
        rw [← hadd]
        exact hcc j hj
      refine ⟨b, off, rfl, ?_, fun i e he => ⟨?_, ?_, ?_⟩⟩
      · have h1 := hcell 0 _ (List.getElem?_eq_getElem hpos) 0 (by omega)
        rcases Nat.lt_or_ge b w.heap.size with hlt | hge
        · exact hlt
        · simp [World.cell?, Array.getElem?_eq_none hge, edCells] at h1
      · have := hcell i e he 0 (by omega); simpa [edCells] using this
      · have := hcell i e he 1 (by omega); simpa [edCells] using this
      · have := hcell i e he 2 (by omega); simpa [edCells] using this
    · obtain ⟨i, hi', rfl⟩ := List.getElem_of_mem he
      exact (hq i _ (List.getElem?_eq_getElem hi')).2

set_option maxRecDepth 100000 in
theorem edss_of_arg {r : Reach} {b0 : Nat} {v : Value} {d : DataW H} {ps : List MemPlace} (hval : Value.okWide Try.prog w r b0 34 v) (h : DataW.Trod enc Try.prog w 0 (fun _ => true) true 34 v d ps) :
    ∃ (A : Option Addr) (c : Nat) (L : List Es), v = .slice A L.length c ∧ EdssV w A L ∧ L.length ≤ maxLen := by
  obtain ⟨a, len, cap, rfl⟩ := okWide_slice Try.underlying34 hval
  obtain ⟨fuel, hf⟩ := h
  rcases open_slice Try.underlying34 hf with ⟨hcs, _⟩ | ⟨a', len', cap', m, n, D, Pl, hcs, hb, hl, hm, hmm, _, hi⟩
  · simp [Value.cells] at hcs
    obtain ⟨rfl, rfl, rfl⟩ := hcs
    exact ⟨none, 0, [], rfl, fun h => absurd h (by simp), by simp⟩
  · simp [Value.cells] at hcs
    obtain ⟨rfl, rfl, rfl⟩ := hcs
    have hmc : m = cap := by simpa using hmm
    subst hmc
    obtain ⟨L, hll, hq⟩ := build_list (Q := fun i (x : Es) => w.cells? 0 (a'.add (i * 1)) 1 = some [.slice x.1 x.2.2.length x.2.1] ∧ EdsV w x.1 x.2.2 ∧ x.2.2.length ≤ maxLen ∧ ∀ e ∈ x.2.2, e.s.size ≤ maxLen) len (fun i hi' => by
      obtain ⟨cs', hc, ht⟩ := hi i (by omega)
      rw [cellsEdits] at hc
      obtain ⟨A', c', l, rfl, h1, h2, h3⟩ := eds_of ht
      exact ⟨(A', c', l), hc, h1, h2, h3⟩)
    subst hll
    refine ⟨some a', m, L, rfl, fun hpos => ?_, by omega⟩
    · have h0 := (hq 0 _ (List.getElem?_eq_getElem hpos)).1
      obtain ⟨_, _, hc0⟩ := World.cells?_some h0
      have hc00 := hc0 0 (by omega)
      have hsp : a'.spot = none := by
        have hz : (a'.add (0 * 1)).add 0 = a' := by simp [Addr.add]
        rw [hz] at hc00
        simp only [World.cell?] at hc00
        split at hc00
        · split at hc00
          · simp at hc00
          · rename_i hns; simpa using hns
        · simp at hc00
      obtain ⟨b, off, sp⟩ := a'
      simp only at hsp
      subst hsp
      have hadd : ∀ i : Nat, ((⟨b, off, none⟩ : Addr).add (i * 1)).add 0 = ⟨b, off + i, none⟩ := by
        intro i
        unfold Addr.add
        by_cases h1 : i = 0 <;> simp [h1]
      have hcell : ∀ i x, L[i]? = some x → w.cell? ⟨b, off + i, none⟩ = some (.slice x.1 x.2.2.length x.2.1) := by
        intro i x hx
        obtain ⟨_, _, hcc⟩ := World.cells?_some (hq i x hx).1
        rw [← hadd]
        simpa using hcc 0 (by omega)
      refine ⟨b, off, rfl, ?_, fun i x hx => ⟨hcell i x hx, (hq i x hx).2⟩⟩
      have h1 := hcell 0 _ (List.getElem?_eq_getElem hpos)
      rcases Nat.lt_or_ge b w.heap.size with hlt | hge
      · exact hlt
      · simp [World.cell?, Array.getElem?_eq_none hge] at h1
end
end Go.Proofs.Ytmbpjjehnfjdiaa
