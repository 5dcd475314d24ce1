/-
  Arguments opened: an edit, a slice of edits, a span.
-/
import Derived.Test.YtkdnacniligjjaaDoorRelexCommonsp9
namespace Go.Proofs.YtkdnacniligjjaaDoor
set_option linter.unusedVariables false
set_option linter.unusedSimpArgs false
open Go.ChangeShapes Go.WideShapes Go.RowKit Go.Deep

theorem cells3 : Tryd.prog.cellsOf 3 = 1 := by kernel_rfl
theorem cells9 : Tryd.prog.cellsOf 9 = 1 := by kernel_rfl
theorem cellsEdit : Tryd.prog.cellsOf 47 = 3 := by kernel_rfl
theorem cellsSpan : Tryd.prog.cellsOf 84 = 2 := by kernel_rfl

theorem build_list {α : Type} {Q : Nat → α → Prop} : ∀ n : Nat, (∀ i, i < n → ∃ e, Q i e) → ∃ l : List α, l.length = n ∧ ∀ i e, l[i]? = some e → Q i e
  | 0, _ => ⟨[], rfl, fun i e h => by simp at h⟩
  | n + 1, h => by
    obtain ⟨l, hl, hq⟩ := build_list n (fun i hi => h i (by omega))
    obtain ⟨e, he⟩ := h n (by omega)
    refine ⟨l ++ [e], by simp [hl], fun i x hx => ?_⟩
    rw [List.getElem?_append] at hx
    by_cases hi : i < l.length
    · rw [if_pos hi] at hx; exact hq i x hx
    · rw [if_neg hi] at hx
      have : i - l.length = 0 := by
        rcases Nat.eq_zero_or_pos (i - l.length) with h0 | h0
        · exact h0
        · rw [List.getElem?_eq_none (by simp; omega)] at hx; cases hx
      rw [this] at hx
      have hin : i = n := by omega
      simp at hx
      subst hx
      subst hin
      exact he

section
variable {H : Type} {enc : TypeId × Value → H} {w : World} {base : Nat} {spare : Nat → Bool} {held : Bool}

set_option maxRecDepth 100000 in
theorem edit_of {fuel : Nat} {cs : List Value} {x : DataW H × List MemPlace} (h : DataW.trod enc Tryd.prog w base spare held fuel 47 cs = some x) :
    ∃ e : Ed, cs = edCells e ∧ e.s.size ≤ maxLen ∧ (Lit.int .i64 e.f).wf = true ∧ (Lit.int .i64 e.t).wf = true := by
  obtain ⟨xs, n, _, _, hlen, hxs, hf⟩ := DataW.trod_struct Tryd.underlying47 h
  rw [cellsEdit] at hlen
  match cs, hlen with
  | [c0, c1, c2], _ =>
    have h0 := hf 0 { name := "From", type := 3, offset := 0, embedded := false, tag := "", pkgPath := "", byteOffset := 0 } rfl
    have h1 := hf 1 { name := "To", type := 3, offset := 1, embedded := false, tag := "", pkgPath := "", byteOffset := 8 } rfl
    have h2 := hf 2 { name := "New", type := 9, offset := 2, embedded := false, tag := "", pkgPath := "", byteOffset := 16 } rfl
    dsimp only at h0 h1 h2
    rw [cells3] at h0 h1
    rw [cells9] at h2
    have hx : ∀ i, i < xs.length → ∃ y, xs[i]? = some y := fun i hi => ⟨_, List.getElem?_eq_getElem hi⟩
    have h3 : xs.length = 3 := hxs
    obtain ⟨y0, e0⟩ := hx 0 (by omega)
    obtain ⟨y1, e1⟩ := hx 1 (by omega)
    obtain ⟨y2, e2⟩ := hx 2 (by omega)
    rw [e0] at h0
    rw [e1] at h1
    rw [e2] at h2
    obtain ⟨a, ha, _, wa⟩ := DataW.trod_int Tryd.underlying3 h0
    obtain ⟨b, hb, _, wb⟩ := DataW.trod_int Tryd.underlying3 h1
    obtain ⟨s, hs, _, ws⟩ := DataW.trod_string Tryd.underlying9 h2
    simp at ha hb hs
    subst ha hb hs
    exact ⟨⟨a, b, s⟩, rfl, ws, wa, wb⟩

set_option maxRecDepth 100000 in
theorem eds_of_arg {r : Reach} {b0 : Nat} {v : Value} {d : DataW H} {ps : List MemPlace} (hval : Value.okWide Tryd.prog w r b0 33 v) (h : DataW.Trod enc Tryd.prog w 0 (fun _ => true) true 33 v d ps) :
    ∃ (A : Option Addr) (c : Nat) (l : List Ed), v = .slice A l.length c ∧ EdsV w A l ∧ l.length ≤ maxLen ∧ ∀ e ∈ l, e.s.size ≤ maxLen := by
  obtain ⟨a, len, cap, rfl⟩ := okWide_slice Tryd.underlying33 hval
  obtain ⟨fuel, hf⟩ := h
  rcases open_slice Tryd.underlying33 hf with ⟨hcs, _⟩ | ⟨a', len', cap', m, n, D, Pl, hcs, hb, hl, hm, hmm, _, hi⟩
  · simp [Value.cells] at hcs
    obtain ⟨rfl, rfl, rfl⟩ := hcs
    exact ⟨none, 0, [], rfl, EdsV.nil _ _, by simp, fun e he => by simp at he⟩
  · simp [Value.cells] at hcs
    obtain ⟨rfl, rfl, rfl⟩ := hcs
    have hmc : m = cap := by simpa using hmm
    subst hmc
    obtain ⟨l, hll, hq⟩ := build_list (Q := fun i e => w.cells? 0 (a'.add (i * 3)) 3 = some (edCells e) ∧ e.s.size ≤ maxLen) len (fun i hi' => by
      obtain ⟨cs', hc, ht⟩ := hi i (by omega)
      rw [cellsEdit] at hc
      obtain ⟨e, rfl, hs, _⟩ := edit_of ht
      exact ⟨e, hc, hs⟩)
    subst hll
    refine ⟨some a', m, l, rfl, fun hpos => ?_, by omega, fun e he => ?_⟩
    · have h0 := (hq 0 _ (List.getElem?_eq_getElem hpos)).1
      obtain ⟨_, _, hc0⟩ := World.cells?_some h0
      have hc00 := hc0 0 (by omega)
      have hsp : a'.spot = none := by
        have hz : (a'.add (0 * 3)).add 0 = a' := by simp [Addr.add]
        rw [hz] at hc00
        simp only [World.cell?] at hc00
        split at hc00
        · split at hc00
          · simp [edCells] at hc00
          · rename_i hns; simpa using hns
        · simp [edCells] at hc00
      obtain ⟨b, off, sp⟩ := a'
      simp only at hsp
      subst hsp
      have hadd : ∀ i j : Nat, ((⟨b, off, none⟩ : Addr).add (i * 3)).add j = ⟨b, off + i * 3 + j, none⟩ := by
        intro i j
        unfold Addr.add
        by_cases h1 : i * 3 = 0 <;> by_cases h2 : j = 0 <;> simp [h1, h2]
      have hcell : ∀ i e, l[i]? = some e → ∀ j, j < 3 → w.cell? ⟨b, off + i * 3 + j, none⟩ = (edCells e)[j]? := by
        intro i e he j hj
        obtain ⟨_, _, hcc⟩ := World.cells?_some (hq i e he).1
        rw [← hadd]
        exact hcc j hj
      refine ⟨b, off, rfl, ?_, fun i e he => ⟨?_, ?_, ?_⟩⟩
      · have h1 := hcell 0 _ (List.getElem?_eq_getElem hpos) 0 (by omega)
        rcases Nat.lt_or_ge b w.heap.size with hlt | hge
        · exact hlt
        · simp [World.cell?, Array.getElem?_eq_none hge, edCells] at h1
      · have := hcell i e he 0 (by omega); simpa [edCells] using this
      · have := hcell i e he 1 (by omega); simpa [edCells] using this
      · have := hcell i e he 2 (by omega); simpa [edCells] using this
    · obtain ⟨i, hi', rfl⟩ := List.getElem_of_mem he
      exact (hq i _ (List.getElem?_eq_getElem hi')).2

set_option maxRecDepth 100000 in
theorem span_of_arg {r : Reach} {b0 : Nat} {v : Value} {d : DataW H} {ps : List MemPlace} (hval : Value.okWide Tryd.prog w r b0 84 v) (h : DataW.Trod enc Tryd.prog w 0 (fun _ => true) true 84 v d ps) :
    ∃ a b : Int, v = .agg #[.int .i64 a, .int .i64 b] ∧ (Lit.int .i64 a).wf = true ∧ (Lit.int .i64 b).wf = true := by
  obtain ⟨v0, v1, y0, y1, n, rfl, _, _, h0, h1⟩ := Go.Joins.open_agg2 Tryd.underlying84 (by kernel_rfl) cellsSpan hval h
  obtain ⟨a, ha, _, wa⟩ := DataW.trod_int Tryd.underlying3 h0
  obtain ⟨b, hb, _, wb⟩ := DataW.trod_int Tryd.underlying3 h1
  simp at ha hb
  subst ha hb
  exact ⟨a, b, rfl, wa, wb⟩
set_option maxRecDepth 100000 in
theorem edit_of_arg {r : Reach} {b0 : Nat} {v : Value} {d : DataW H} {ps : List MemPlace} (hval : Value.okWide Tryd.prog w r b0 47 v) (h : DataW.Trod enc Tryd.prog w 0 (fun _ => true) true 47 v d ps) :
    ∃ e : Ed, v = .agg #[.int .i64 e.f, .int .i64 e.t, .string e.s] ∧ e.s.size ≤ maxLen ∧ (Lit.int .i64 e.f).wf = true ∧ (Lit.int .i64 e.t).wf = true := by
  obtain ⟨cs, rfl, hsz⟩ := okWide_struct Tryd.underlying47 hval
  obtain ⟨fuel, hf⟩ := h
  obtain ⟨e, he, h2⟩ := edit_of hf
  obtain ⟨l⟩ := cs
  simp [Value.cells] at he
  subst he
  exact ⟨e, rfl, h2⟩
end
end Go.Proofs.YtkdnacniligjjaaDoor
