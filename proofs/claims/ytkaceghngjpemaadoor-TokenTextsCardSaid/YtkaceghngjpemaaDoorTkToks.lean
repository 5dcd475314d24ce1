/-
  Arguments opened: a slice of tokens.
-/
import Derived.Test.YtkaceghngjpemaaDoorTkArg
import Derived.Test.YtkaceghngjpemaaDoorTkOne
import Derived.Test.YtkaceghngjpemaaDoorTkEq
namespace Go.Proofs.YtkaceghngjpemaaDoor
set_option linter.unusedVariables false
set_option linter.unusedSimpArgs false
open Go.ChangeShapes Go.WideShapes Go.RowKit Go.Deep

theorem cells3T : Tryd.prog.cellsOf 3 = 1 := by kernel_rfl
theorem cells9T : Tryd.prog.cellsOf 9 = 1 := by kernel_rfl
theorem build_listT {α : Type} {Q : Nat → α → Prop} : ∀ n : Nat, (∀ i, i < n → ∃ e, Q i e) → ∃ l : List α, l.length = n ∧ ∀ i e, l[i]? = some e → Q i e
  | 0, _ => ⟨[], rfl, fun i e h => by simp at h⟩
  | n + 1, h => by
    obtain ⟨l, hl, hq⟩ := build_listT n (fun i hi => h i (by omega))
    obtain ⟨e, he⟩ := h n (by omega)
    refine ⟨l ++ [e], by simp [hl], fun i x hx => ?_⟩
    rw [List.getElem?_append] at hx
    by_cases hi : i < l.length
    · rw [if_pos hi] at hx; exact hq i x hx
    · rw [if_neg hi] at hx
      have : i - l.length = 0 := by
        rcases Nat.eq_zero_or_pos (i - l.length) with h0 | h0
        · exact h0
        · rw [List.getElem?_eq_none (by simp; omega)] at hx; cases hx
      rw [this] at hx
      have hin : i = n := by omega
      simp at hx
      subst hx
      subst hin
      exact he
def tkC (p : Tok) : List Value := [.int .i64 p.1, .string p.2]

section
variable {H : Type} {enc : TypeId × Value → H} {w : World} {base : Nat} {spare : Nat → Bool} {held : Bool}

set_option maxRecDepth 100000 in
theorem tok_of {fuel : Nat} {cs : List Value} {x : DataW H × List MemPlace} (h : DataW.trod enc Tryd.prog w base spare held fuel 44 cs = some x) :
    ∃ p : Tok, cs = tkC p ∧ p.2.size ≤ maxLen := by
  obtain ⟨xs, n, _, _, hlen, hxs, hf⟩ := DataW.trod_struct Tryd.underlying44 h
  rw [cellsTok] at hlen
  match cs, hlen with
  | [c0, c1], _ =>
    have h0 := hf 0 { name := "Kind", type := 3, offset := 0, embedded := false, tag := "", pkgPath := "", byteOffset := 0 } rfl
    have h1 := hf 1 { name := "Text", type := 9, offset := 1, embedded := false, tag := "", pkgPath := "", byteOffset := 8 } rfl
    dsimp only at h0 h1
    rw [cells3T] at h0
    rw [cells9T] at h1
    have hx : ∀ i, i < xs.length → ∃ y, xs[i]? = some y := fun i hi => ⟨_, List.getElem?_eq_getElem hi⟩
    have h3 : xs.length = 2 := hxs
    obtain ⟨y0, e0⟩ := hx 0 (by omega)
    obtain ⟨y1, e1⟩ := hx 1 (by omega)
    rw [e0] at h0
    rw [e1] at h1
    obtain ⟨a, ha, _, wa⟩ := DataW.trod_int Tryd.underlying3 h0
    obtain ⟨s, hs, _, ws⟩ := DataW.trod_string Tryd.underlying9 h1
    simp at ha hs
    subst ha hs
    exact ⟨(a, s), rfl, ws⟩

set_option maxRecDepth 100000 in
theorem toks_of_arg {r : Reach} {b0 : Nat} {v : Value} {d : DataW H} {ps : List MemPlace} (hval : Value.okWide Tryd.prog w r b0 23 v) (h : DataW.Trod enc Tryd.prog w 0 (fun _ => true) true 23 v d ps) :
    ∃ (A : Option Addr) (c : Nat) (l : List Tok), v = .slice A l.length c ∧ TksV w A l ∧ l.length ≤ maxLen ∧ ∀ p ∈ l, p.2.size ≤ maxLen := by
  obtain ⟨a, len, cap, rfl⟩ := okWide_slice Tryd.underlying23 hval
  obtain ⟨fuel, hf⟩ := h
  rcases open_slice Tryd.underlying23 hf with ⟨hcs, _⟩ | ⟨a', len', cap', m, n, D, Pl, hcs, hb, hl, hm, hmm, _, hi⟩
  · simp [Value.cells] at hcs
    obtain ⟨rfl, rfl, rfl⟩ := hcs
    exact ⟨none, 0, [], rfl, TksV.nil _ _, by simp, fun e he => by simp at he⟩
  · simp [Value.cells] at hcs
    obtain ⟨rfl, rfl, rfl⟩ := hcs
    have hmc : m = cap := by simpa using hmm
    subst hmc
    obtain ⟨l, hll, hq⟩ := build_listT (Q := fun i e => w.cells? 0 (a'.add (i * 2)) 2 = some (tkC e) ∧ e.2.size ≤ maxLen) len (fun i hi' => by
      obtain ⟨cs', hc, ht⟩ := hi i (by omega)
      rw [cellsTok] at hc
      obtain ⟨e, rfl, hs⟩ := tok_of ht
      exact ⟨e, hc, hs⟩)
    subst hll
    refine ⟨some a', m, l, rfl, fun hpos => ?_, by omega, fun e he => ?_⟩
    · have h0 := (hq 0 _ (List.getElem?_eq_getElem hpos)).1
      obtain ⟨_, _, hc0⟩ := World.cells?_some h0
      have hc00 := hc0 0 (by omega)
      have hsp : a'.spot = none := by
        have hz : (a'.add (0 * 2)).add 0 = a' := by simp [Addr.add]
        rw [hz] at hc00
        simp only [World.cell?] at hc00
        split at hc00
        · split at hc00
          · simp [tkC] at hc00
          · rename_i hns; simpa using hns
        · simp [tkC] at hc00
      obtain ⟨b, off, sp⟩ := a'
      simp only at hsp
      subst hsp
      have hadd : ∀ i j : Nat, ((⟨b, off, none⟩ : Addr).add (i * 2)).add j = ⟨b, off + i * 2 + j, none⟩ := by
        intro i j
        unfold Addr.add
        by_cases h1 : i * 2 = 0 <;> by_cases h2 : j = 0 <;> simp [h1, h2]
      have hcell : ∀ i e, l[i]? = some e → ∀ j, j < 2 → w.cell? ⟨b, off + i * 2 + j, none⟩ = (tkC e)[j]? := by
        intro i e he j hj
        obtain ⟨_, _, hcc⟩ := World.cells?_some (hq i e he).1
        rw [← hadd]
        exact hcc j hj
      refine ⟨b, off, rfl, ?_, fun i e he => ⟨?_, ?_⟩⟩
      · have h1 := hcell 0 _ (List.getElem?_eq_getElem hpos) 0 (by omega)
        rcases Nat.lt_or_ge b w.heap.size with hlt | hge
        · exact hlt
        · simp [World.cell?, Array.getElem?_eq_none hge, tkC] at h1
      · have := hcell i e he 0 (by omega); simpa [tkC] using this
      · have := hcell i e he 1 (by omega); simpa [tkC] using this
    · obtain ⟨i, hi', rfl⟩ := List.getElem_of_mem he
      exact (hq i _ (List.getElem?_eq_getElem hi')).2
end
end Go.Proofs.YtkaceghngjpemaaDoor
