/-
  The merger in memory: touch, takeFirst.
-/
import Derived.Test.YtkdnacniligjjaaDoorRelexCommonsp20
import Derived.Test.YtkdnacniligjjaaDoorRelexCommonsp12
import Derived.Deep.RegionHeld3
import Derived.Deep.QuietTactic
import Derived.BigQuiet
import Derived.Lib.Builder
import Derived.Deep.RegionLaw
namespace Go.Proofs.YtkdnacniligjjaaDoor
set_option linter.unusedVariables false
set_option linter.unusedSimpArgs false
open Go.RowKit

set_option maxRecDepth 100000 in
theorem touch_any (p1 p2 f t : Int) (s : ByteArray) (w : World) :
    Calls Tryd.prog 127 #[.agg #[.int .i64 p1, .int .i64 p2], .agg #[.int .i64 f, .int .i64 t, .string s]] w fun e w' => e = .returned (.bool (decide (f ≤ p2 ∧ p1 ≤ t))) ∧ Below w.heap.size w w' := by
  by_cases h1 : f ≤ p2
  · by_cases h2 : p1 ≤ t
    · go_enter Tryd.func127, Tryd.ntmps127
      go_wp2_with fail
      go_ret
      exact ⟨ret_bool (by simp; omega), ((Below.refl _ _).alloc (Nat.le_refl _) _).alloc (by simp) _⟩
    · go_enter Tryd.func127, Tryd.ntmps127
      go_wp2_with fail
      go_ret
      exact ⟨ret_bool (by simp; omega), ((Below.refl _ _).alloc (Nat.le_refl _) _).alloc (by simp) _⟩
  · go_enter Tryd.func127, Tryd.ntmps127
    go_wp2_with fail
    go_ret
    exact ⟨ret_bool (by simp; omega), ((Below.refl _ _).alloc (Nat.le_refl _) _).alloc (by simp) _⟩

/-- the cells of a merger -/
def mgCells (X : ByteArray) (vf vs vp : Value) (k j : Nat) (sh : Int) (vm : Value) : Array Value := #[.string X, vf, vs, vp, .int .i64 k, .int .i64 j, .int .i64 sh, vm]
/-- block b alone has turned (and blocks that are new) -/
def Only (b : Nat) (w w' : World) : Prop := Below b w w' ∧ w.heap.size ≤ w'.heap.size ∧ ∀ c, c < w.heap.size → c ≠ b → w'.heap[c]? = w.heap[c]?

theorem mg_set {wA : World} {b : Nat} {X : ByteArray} {vf vs vp vm : Value} {k j k' : Nat} {sh sh' : Int} (h : wA.heap[b]? = some (.cells (mgCells X vf vs vp k j sh vm) 98 (0, 0))) :
    ((wA.setCell ⟨b, 6, none⟩ (.int .i64 sh')).setCell ⟨b, 4, none⟩ (.int .i64 (k' : Int))).heap[b]? = some (.cells (mgCells X vf vs vp k' j sh' vm) 98 (0, 0)) := by
  unfold World.setCell
  simp only [Array.getElem?_modify, h]
  simp [mgCells]
theorem Only.set2 {b : Nat} {w wA : World} (hbl : b < w.heap.size) (hbA : Below w.heap.size w wA) (i i' : Nat) (u v : Value) : Only b w ((wA.setCell ⟨b, i, none⟩ u).setCell ⟨b, i', none⟩ v) := by
  refine ⟨((hbA.mono (Nat.le_of_lt hbl)).setCell (p := ⟨b, i, none⟩) (Nat.le_refl _) u).setCell (p := ⟨b, i', none⟩) (Nat.le_refl _) v, ?_, fun c hc hne => ?_⟩
  · have := ((hbA.mono (Nat.le_of_lt hbl)).setCell (p := ⟨b, i, none⟩) (Nat.le_refl _) u).setCell (p := ⟨b, i', none⟩) (Nat.le_refl _) v
    exact this.size
  · rw [Below.heap_setCell _ _ _ _ hne, Below.heap_setCell _ _ _ _ hne]
    exact hbA.block c hc

set_option maxRecDepth 100000 in
set_option maxHeartbeats 2000000 in
theorem takeFirst_any (b : Nat) (X : ByteArray) (A : Option Addr) (c : Nat) (F : List Ed) (vs vp vm : Value) (k j : Nat) (sh : Int) (w : World) (hk : k < F.length) (hl : Small F) (hr : rising 60000 0 F = true) (hs1 : -100000000 ≤ sh) (hs2 : sh ≤ 100000000)
    (hE : EdsV w A F) (hb : w.heap[b]? = some (.cells (mgCells X (.slice A F.length c) vs vp k j sh vm) 98 (0, 0))) :
    Calls Tryd.prog 100 #[.pointer (some ⟨b, 0, none⟩)] w fun e w' => e = .returned (.tuple #[]) ∧
      w'.heap[b]? = some (.cells (mgCells X (.slice A F.length c) vs vp (k + 1) j (sh + growE F[k]) vm) 98 (0, 0)) ∧ Only b w w' := by
  have hbl : b < w.heap.size := by
    rcases Nat.lt_or_ge b w.heap.size with h | h
    · exact h
    · rw [Array.getElem?_eq_none h] at hb; cases hb
  have hk1 := hl.1
  obtain ⟨g1, g2, g3, g4⟩ := rising_get hr hk
  have hz := hl.get hk
  obtain ⟨b0, off, rfl, hb0, c1, c2, c3⟩ := hE.get hk
  have m1 : w.cell? ⟨b, 1, none⟩ = some (.slice (some ⟨b0, off, none⟩) F.length c) := Lib.cell_of_heap hb 1
  have m4 : w.cell? ⟨b, 4, none⟩ = some (.int .i64 k) := Lib.cell_of_heap hb 4
  have m6 : w.cell? ⟨b, 6, none⟩ = some (.int .i64 sh) := Lib.cell_of_heap hb 6
  have f6 : w.frozen? ⟨b, 6, none⟩ = false := by simp [World.frozen?, hb]
  have f4 : w.frozen? ⟨b, 4, none⟩ = false := by simp [World.frozen?, hb]
  have hi1 : (k : Int) < (F.length : Int) := by omega
  obtain ⟨⟨ef, et, es⟩, he⟩ : ∃ x, x = F[k] := ⟨_, rfl⟩
  rw [← he] at g1 g2 g3 g4 hz c1 c2 c3
  rw [← he]
  simp only at g1 g2 g3 g4 hz c1 c2 c3
  have HB := Lib.hid hb
  have hgr : -200000 ≤ growE ⟨ef, et, es⟩ ∧ growE ⟨ef, et, es⟩ ≤ 200000 := by simp only [growE]; omega
  have hgrow := growth_any ef et es
  have HG := Lib.hid (fun W => hgrow W (by omega) (by omega) hz)
  generalize growE ⟨ef, et, es⟩ = G at hgr HG
  clear hb hE he hgrow hr hl
  go_enter Tryd.func100, Tryd.ntmps100
  go_wp2_with fail
  go_region_law ((first
     | (go_simp
        go_at_call 98
        with_reducible refine (HG.out _).mono ?_
        rintro e wA ⟨rfl, hbA⟩
        have n1 : wA.cell? ⟨b, 1, none⟩ = some (.slice (some ⟨b0, off, none⟩) F.length c) := ((bcell hbA).1 _ _ hbl).trans m1
        have n4 : wA.cell? ⟨b, 4, none⟩ = some (.int .i64 k) := ((bcell hbA).1 _ _ hbl).trans m4
        have n6 : wA.cell? ⟨b, 6, none⟩ = some (.int .i64 sh) := ((bcell hbA).1 _ _ hbl).trans m6
        have l4 : wA.frozen? ⟨b, 4, none⟩ = false := ((bcell hbA).2 _ _ hbl).trans f4
        have l6 : wA.frozen? ⟨b, 6, none⟩ = false := ((bcell hbA).2 _ _ hbl).trans f6)))
  all_goals
    have sw : IntKind.i64.wrap (sh + G) = sh + G := IntWalk.i64_in _ (by omega)
    rw [sw]
    go_wp2_with fail
    go_end0
    have hb0 : Below w.heap.size w wA := by first | exact hbA | exact (Below.drew (Below.refl _ _)).trans (show Below w.heap.size w.drew wA from hbA)
    exact ⟨rfl, mg_set ((hb0.block _ hbl).trans HB.out), Only.set2 hbl hb0 6 4 _ _⟩
end Go.Proofs.YtkdnacniligjjaaDoor
