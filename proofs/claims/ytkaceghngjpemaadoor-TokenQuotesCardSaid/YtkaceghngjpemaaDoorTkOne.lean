/-
  The contract of the specification's One; a token as an argument.
-/
import Derived.Test.YtkaceghngjpemaaDoorTkShort
import Derived.Test.YtkaceghngjpemaaDoorTkArg
import Derived.Deep.RegionHeld3
import Derived.Lib.Builder
import Derived.BigRegion
import Derived.Handy
namespace Go.Proofs.YtkaceghngjpemaaDoor
set_option linter.unusedVariables false
set_option linter.unusedSimpArgs false
open Go.ChangeShapes Go.WideShapes Go.RowKit Go.Deep

theorem cellsTok : Tryd.prog.cellsOf 44 = 2 := by kernel_rfl
section
variable {H : Type} {enc : TypeId × Value → H} {w : World}
set_option maxRecDepth 100000 in
theorem tok_of_arg {r : Reach} {b0 : Nat} {v : Value} {d : DataW H} {ps : List MemPlace} (hval : Value.okWide Tryd.prog w r b0 44 v) (h : DataW.Trod enc Tryd.prog w 0 (fun _ => true) true 44 v d ps) :
    ∃ (k : Int) (s : ByteArray), v = .agg #[.int .i64 k, .string s] ∧ s.size ≤ maxLen := by
  obtain ⟨v0, v1, y0, y1, n, rfl, _, _, h0, h1⟩ := Go.Joins.open_agg2 Tryd.underlying44 (by kernel_rfl) cellsTok hval h
  obtain ⟨a, ha, _, wa⟩ := DataW.trod_int Tryd.underlying3 h0
  obtain ⟨b, hb, _, wb⟩ := DataW.trod_string Tryd.underlying9 h1
  simp at ha hb
  subst ha hb
  exact ⟨a, b, rfl, wb⟩
end

set_option maxRecDepth 100000 in
set_option maxHeartbeats 1000000 in
theorem One_any (k : Int) (s : ByteArray) (w : World) (hs : s.size ≤ maxLen) :
    Calls Tryd.prog 32 #[.agg #[.int .i64 k, .string s]] w fun e w' => e = .returned (.agg #[.int .i64 k, .string (shortT s)]) ∧ Below w.heap.size w w' := by
  unfold maxLen at hs
  have hsh : shortT s = s.extract 0 (min s.size 20001) := rfl
  have hm : min (s.size : Int) 20001 = ((min s.size 20001 : Nat) : Int) := by omega
  have hle : min s.size 20001 ≤ s.size := Nat.min_le_left _ _
  generalize min s.size 20001 = m at hsh hm hle
  have Hsh := Lib.hid hsh
  have hm1 : (0 : Int) ≤ (m : Int) := by omega
  have hm2 : (m : Int) ≤ (s.size : Int) := by omega
  clear hsh
  go_enter Tryd.func32, Tryd.ntmps32
  go_wp2_with fail
  obtain ⟨w2, hw2⟩ : ∃ w2, w2 = (w.alloc (.cells #[.int .i64 k, .string s] 44)).alloc (.cells #[.int .i64 0, .string { data := #[] }] 44) := ⟨_, rfl⟩
  have hB : Below w.heap.size w w2 := by rw [hw2]; exact ((Below.refl _ _).alloc (Nat.le_refl _) _).alloc (by simp) _
  have h1 : w2.heap[w.heap.size]? = some (.cells #[.int .i64 k, .string s] 44 (0, 0)) := by
    rw [hw2]
    exact (Below.heap_alloc _ _ _ (by simp)).trans (heap_alloc_new w _)
  have h2 : w2.heap[w.heap.size + 1]? = some (.cells #[.int .i64 0, .string { data := #[] }] 44 (0, 0)) := by
    rw [hw2]
    have h := heap_alloc_new (w.alloc (.cells #[.int .i64 k, .string s] 44)) (.cells #[.int .i64 0, .string { data := #[] }] 44)
    rw [show (w.alloc (.cells #[.int .i64 k, .string s] 44)).heap.size = w.heap.size + 1 by simp] at h
    exact h
  rw [← hw2]
  have m0 : w2.cell? ⟨w.heap.size, 0, none⟩ = some (.int .i64 k) := Lib.cell_of_heap h1 0
  have m1 : w2.cell? ⟨w.heap.size, 1, none⟩ = some (.string s) := Lib.cell_of_heap h1 1
  have n0 : w2.cell? ⟨w.heap.size + 1, 0, none⟩ = some (.int .i64 0) := Lib.cell_of_heap h2 0
  have n1 : w2.cell? ⟨w.heap.size + 1, 1, none⟩ = some (.string { data := #[] }) := Lib.cell_of_heap h2 1
  have f0 : w2.frozen? ⟨w.heap.size + 1, 0, none⟩ = false := by simp [World.frozen?, h2]
  have f1 : w2.frozen? ⟨w.heap.size + 1, 1, none⟩ = false := by simp [World.frozen?, h2]
  have HB := Lib.hid hB
  have H2 := Lib.hid h2
  clear hw2 h1 h2 hB
  go_region
  all_goals
    go_wp2_with fail
    obtain ⟨w3, hw3⟩ : ∃ w3, w3 = ((w2.setCell ⟨w.heap.size + 1, 0, none⟩ (.int .i64 k)).setCell ⟨w.heap.size + 1, 1, none⟩ (.string (s.extract 0 m))).drew := ⟨_, rfl⟩
    rw [← hw3]
    have hB3 : Below w.heap.size w w3 := by
      rw [hw3]
      exact ((HB.out.setCell (p := ⟨w.heap.size + 1, 0, none⟩) (by simp) _).setCell (p := ⟨w.heap.size + 1, 1, none⟩) (by simp) _).drew
    have h3 : w3.heap[w.heap.size + 1]? = some (.cells #[.int .i64 k, .string (s.extract 0 m)] 44 (0, 0)) := by
      rw [hw3]
      change ((w2.setCell ⟨w.heap.size + 1, 0, none⟩ (.int .i64 k)).setCell ⟨w.heap.size + 1, 1, none⟩ (.string (s.extract 0 m))).heap[w.heap.size + 1]? = _
      unfold World.setCell
      simp only [Array.getElem?_modify, H2.out]
      simp
    have p0 : w3.cell? ⟨w.heap.size + 1, 0, none⟩ = some (.int .i64 k) := Lib.cell_of_heap h3 0
    have p1 : w3.cell? ⟨w.heap.size + 1, 1, none⟩ = some (.string (s.extract 0 m)) := Lib.cell_of_heap h3 1
    clear hw3 h3
    refine bodyPost_ret (by simp [results, Tryd.results32, go_sem, p0, p1]; try rfl) rfl ?_
    exact ⟨by rw [Hsh.out], hB3⟩
end Go.Proofs.YtkaceghngjpemaaDoor
