/-
  The contract of Span of place; sizes of what Short gives.
-/
import Derived.Test.YtmbpjjehnfjdiaaDoorPlRef
import Derived.Test.YtmbpjjehnfjdiaaDoorPlAlive
import Derived.Test.YtmbpjjehnfjdiaaDoorPlArg
import Derived.Test.YtmbpjjehnfjdiaaDoorCut
namespace Go.Proofs.YtmbpjjehnfjdiaaDoor
set_option linter.unusedVariables false
set_option linter.unusedSimpArgs false
open Go.RowKit

theorem short_sz (t : ByteArray) : (shortB t).size ≤ 20001 := by unfold shortB; rw [ByteArray.size_extract]; omega

/-- what Span returns -/
def SpanR (s : ByteArray) (a b c d : Int) (e : Ending) : Prop :=
  (20000 < s.size ∧ e = .returned (.tuple #[.agg #[.int .i64 0, .int .i64 0], .int .i64 3])) ∨
  (s.size ≤ 20000 ∧ ∃ x y : Nat, HasOff s a b x ∧ HasOff s c d y ∧ x ≤ y ∧ e = .returned (.tuple #[.agg #[.int .i64 (x : Int), .int .i64 (y : Int)], .int .i64 0])) ∨
  (s.size ≤ 20000 ∧ (¬ ∃ x y : Nat, HasOff s a b x ∧ HasOff s c d y ∧ x ≤ y) ∧ e = .returned (.tuple #[.agg #[.int .i64 0, .int .i64 0], .int .i64 2]))

set_option maxRecDepth 100000 in
set_option maxHeartbeats 2000000 in
theorem Span_any (s : ByteArray) (a b c d : Int) (w : World) (hs : s.size ≤ 60000) :
    Calls Tryd.prog 19 #[.string s, .agg #[.int .i64 a, .int .i64 b], .agg #[.int .i64 c, .int .i64 d]] w fun e w' => SpanR s a b c d e ∧ Below w.heap.size w w' := by
  obtain ⟨w1, hw1⟩ : ∃ w1, w1 = w.alloc (.cells #[.int .i64 a, .int .i64 b] 23) := ⟨_, rfl⟩
  obtain ⟨w2, hw2⟩ : ∃ w2, w2 = w1.alloc (.cells #[.int .i64 c, .int .i64 d] 23) := ⟨_, rfl⟩
  obtain ⟨w3, hw3⟩ : ∃ w3, w3 = w2.alloc (.cells #[.int .i64 0, .int .i64 0] 39) := ⟨_, rfl⟩
  have z1 : w1.heap.size = w.heap.size + 1 := by rw [hw1]; simp
  have z2 : w2.heap.size = w.heap.size + 2 := by rw [hw2]; simp [z1]
  have z3 : w3.heap.size = w.heap.size + 3 := by rw [hw3]; simp [z2]
  have b1 : Below w1.heap.size w1 w2 := by rw [hw2]; exact (Below.refl _ _).alloc (Nat.le_refl _) _
  have b2 : Below w2.heap.size w2 w3 := by rw [hw3]; exact (Below.refl _ _).alloc (Nat.le_refl _) _
  have b0 : Below w.heap.size w w1 := by rw [hw1]; exact (Below.refl _ _).alloc (Nat.le_refl _) _
  have hB3 : Below w.heap.size w w3 := (b0.trans (b1.mono b0.size)).trans (b2.mono (by omega))
  have k1 : w1.heap[w.heap.size]? = some (.cells #[.int .i64 a, .int .i64 b] 23 (0, 0)) := by rw [hw1]; exact heap_alloc_new w _
  have k2 : w2.heap[w1.heap.size]? = some (.cells #[.int .i64 c, .int .i64 d] 23 (0, 0)) := by rw [hw2]; exact heap_alloc_new w1 _
  have k3 : w3.heap[w2.heap.size]? = some (.cells #[.int .i64 0, .int .i64 0] 39 (0, 0)) := by rw [hw3]; exact heap_alloc_new w2 _
  have k1' := (b2.block _ (by omega)).trans ((b1.block _ (by omega)).trans k1)
  have k2' := (b2.block _ (by omega)).trans k2
  rw [z1] at k2'
  rw [z2] at k3
  have p0 : w3.cell? ⟨w.heap.size, 0, none⟩ = some (.int .i64 a) := Lib.cell_of_heap k1' 0
  have p1 : w3.cell? ⟨w.heap.size, 1, none⟩ = some (.int .i64 b) := Lib.cell_of_heap k1' 1
  have HK := Lib.hid (And.intro k2' k3)
  have hw123 : w3 = ((w.alloc (.cells #[.int .i64 a, .int .i64 b] 23)).alloc (.cells #[.int .i64 c, .int .i64 d] 23)).alloc (.cells #[.int .i64 0, .int .i64 0] 39) := by rw [hw3, hw2, hw1]
  have HE := Lib.hid hw123.symm
  clear k1 k2 k3 k1' k2' b0 b1 b2 hw1 hw2 hw3 hw123
  go_enter Tryd.func19, Tryd.ntmps19
  go_wp2_with fail
  rw [HE.out]
  with_reducible refine (Offset_any s a b w3 hs).mono ?_
  rintro e w4 ⟨hR, hb4⟩
  have hB4 := hB3.trans (hb4.mono hB3.size)
  obtain ⟨k2, k3⟩ := HK.out
  have k2' := (hb4.block _ (by omega)).trans k2
  have k3' := (hb4.block _ (by omega)).trans k3
  have q0 : w4.cell? ⟨w.heap.size + 1, 0, none⟩ = some (.int .i64 c) := Lib.cell_of_heap k2' 0
  have q1 : w4.cell? ⟨w.heap.size + 1, 1, none⟩ = some (.int .i64 d) := Lib.cell_of_heap k2' 1
  have r0 : w4.cell? ⟨w.heap.size + 2, 0, none⟩ = some (.int .i64 0) := Lib.cell_of_heap k3' 0
  have r1 : w4.cell? ⟨w.heap.size + 2, 1, none⟩ = some (.int .i64 0) := Lib.cell_of_heap k3' 1
  have f0 : w4.frozen? ⟨w.heap.size + 2, 0, none⟩ = false := by simp [World.frozen?, k3']
  have f1 : w4.frozen? ⟨w.heap.size + 2, 1, none⟩ = false := by simp [World.frozen?, k3']
  have hst : ∀ (X : World) (u v : Value), Below w.heap.size w X → Below w.heap.size w ((X.setCell ⟨w.heap.size + 2, 0, none⟩ u).setCell ⟨w.heap.size + 2, 1, none⟩ v) := fun X u v h =>
    (h.setCell (p := ⟨w.heap.size + 2, 0, none⟩) (Nat.le_add_right _ _) _).setCell (p := ⟨w.heap.size + 2, 1, none⟩) (Nat.le_add_right _ _) _
  have HS := Lib.hid hst
  have HK3 := Lib.hid k3'
  clear k2 k3 k2' k3' p0 p1 hst
  rcases hR with ⟨ht, rfl⟩ | ⟨hle, x, hx, rfl⟩ | ⟨hle, hx, rfl⟩
  · go_wp2_with fail
    exact bodyPost_ret (v := .tuple #[.agg #[.int .i64 0, .int .i64 0], .int .i64 3]) (by simp [results, Tryd.results19, go_sem, r0, r1]) rfl ⟨.inl ⟨ht, rfl⟩, HS.out _ _ _ hB4⟩
  · have Hx := Lib.hid hx
    clear hx
    go_wp2_with fail
    with_reducible refine (Offset_any s c d w4 hs).mono ?_
    rintro e w5 ⟨hR, hb5⟩
    have hB5 := hB4.trans (hb5.mono hB4.size)
    have k3' := (hb5.block _ (lt_of_heap HK3.out)).trans HK3.out
    have r0' : w5.cell? ⟨w.heap.size + 2, 0, none⟩ = some (.int .i64 0) := Lib.cell_of_heap k3' 0
    have r1' : w5.cell? ⟨w.heap.size + 2, 1, none⟩ = some (.int .i64 0) := Lib.cell_of_heap k3' 1
    have f0' : w5.frozen? ⟨w.heap.size + 2, 0, none⟩ = false := by simp [World.frozen?, k3']
    have f1' : w5.frozen? ⟨w.heap.size + 2, 1, none⟩ = false := by simp [World.frozen?, k3']
    clear k3' r0 r1 f0 f1 q0 q1
    rcases hR with ⟨ht, rfl⟩ | ⟨_, y, hy, rfl⟩ | ⟨_, hy, rfl⟩
    · exfalso; omega
    · have Hy := Lib.hid hy
      clear hy
      by_cases hxy : x ≤ y
      · go_wp2_with fail
        exact bodyPost_ret (v := .tuple #[.agg #[.int .i64 (x : Int), .int .i64 (y : Int)], .int .i64 0]) (by simp [results, Tryd.results19, go_sem, r0', r1']) rfl ⟨.inr (.inl ⟨hle, x, y, Hx.out, Hy.out, hxy, rfl⟩), HS.out _ _ _ hB5⟩
      · have hno : ¬ ∃ x y : Nat, HasOff s a b x ∧ HasOff s c d y ∧ x ≤ y := by
          rintro ⟨x', y', h1, h2, h3⟩
          have e1 := h1.unique Hx.out
          have e2 := h2.unique Hy.out
          omega
        have Hno := Lib.hid hno
        clear hno
        go_wp2_with fail
        exact bodyPost_ret (v := .tuple #[.agg #[.int .i64 0, .int .i64 0], .int .i64 2]) (by simp [results, Tryd.results19, go_sem, r0', r1']) rfl ⟨.inr (.inr ⟨hle, Hno.out, rfl⟩), HS.out _ _ _ hB5⟩
    · have hno : ¬ ∃ x y : Nat, HasOff s a b x ∧ HasOff s c d y ∧ x ≤ y := fun ⟨x', y', _, h2, _⟩ => hy ⟨y', h2⟩
      have Hno := Lib.hid hno
      clear hno hy
      go_wp2_with fail
      exact bodyPost_ret (v := .tuple #[.agg #[.int .i64 0, .int .i64 0], .int .i64 2]) (by simp [results, Tryd.results19, go_sem, r0', r1']) rfl ⟨.inr (.inr ⟨hle, Hno.out, rfl⟩), HS.out _ _ _ hB5⟩
  · have hno : ¬ ∃ x y : Nat, HasOff s a b x ∧ HasOff s c d y ∧ x ≤ y := fun ⟨x', y', h2, _, _⟩ => hx ⟨x', h2⟩
    have Hno := Lib.hid hno
    clear hno hx
    go_wp2_with fail
    exact bodyPost_ret (v := .tuple #[.agg #[.int .i64 0, .int .i64 0], .int .i64 2]) (by simp [results, Tryd.results19, go_sem, r0, r1]) rfl ⟨.inr (.inr ⟨hle, Hno.out, rfl⟩), HS.out _ _ _ hB4⟩
end Go.Proofs.YtmbpjjehnfjdiaaDoor
