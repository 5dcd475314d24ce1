/-
  PlaceSpans: Span is that between two places of the specification.
  No condition: every input.
-/
import Derived.Test.YtmbpjjehnfjdiaaDoorPlSpan
namespace Go.Proofs.YtmbpjjehnfjdiaaDoor.lawPlaceSpans
set_option linter.unusedVariables false
set_option linter.unusedSimpArgs false
open Go.ChangeShapes Go.WideShapes Go.RowKit
open Go.ChangeMaps (open_string shut_string)

set_option maxRecDepth 100000 in
set_option maxHeartbeats 4000000 in
theorem walk (t : ByteArray) (ht : t.size ≤ maxLen) (a b : Int) (wa : (Lit.int .i64 a).wf = true) (wb : (Lit.int .i64 b).wf = true) (c d : Int) (wc : (Lit.int .i64 c).wf = true) (wd : (Lit.int .i64 d).wf = true)
    (w : World) (hT : Lib.Utf8Tabs 0 1 w) :
    Calls Tryd.prog 4 #[.string t, .agg #[.int .i64 a, .int .i64 b], .agg #[.int .i64 c, .int .i64 d]] w fun e w' => e = .returned (.bool true) ∧ Below w.heap.size w w' := by
  have hst := short_sz t
  obtain ⟨w1, hw1⟩ : ∃ w1, w1 = w.alloc (.cells #[.int .i64 a, .int .i64 b] 23) := ⟨_, rfl⟩
  obtain ⟨w2, hw2⟩ : ∃ w2, w2 = w1.alloc (.cells #[.int .i64 c, .int .i64 d] 23) := ⟨_, rfl⟩
  have z1 : w1.heap.size = w.heap.size + 1 := by rw [hw1]; simp
  have z2 : w2.heap.size = w.heap.size + 2 := by rw [hw2]; simp [z1]
  have b0 : Below w.heap.size w w1 := by rw [hw1]; exact (Below.refl _ _).alloc (Nat.le_refl _) _
  have b1 : Below w1.heap.size w1 w2 := by rw [hw2]; exact (Below.refl _ _).alloc (Nat.le_refl _) _
  have hB2 : Below w.heap.size w w2 := b0.trans (b1.mono b0.size)
  have k1 : w1.heap[w.heap.size]? = some (.cells #[.int .i64 a, .int .i64 b] 23 (0, 0)) := by rw [hw1]; exact heap_alloc_new w _
  have k2 : w2.heap[w1.heap.size]? = some (.cells #[.int .i64 c, .int .i64 d] 23 (0, 0)) := by rw [hw2]; exact heap_alloc_new w1 _
  have k1' := (b1.block _ (by omega)).trans k1
  rw [z1] at k2
  have hbox : ∀ X : World, Below w2.heap.size w2 X → X.cell? ⟨w.heap.size, 0, none⟩ = some (.int .i64 a) ∧ X.cell? ⟨w.heap.size, 1, none⟩ = some (.int .i64 b) ∧ X.cell? ⟨w.heap.size + 1, 0, none⟩ = some (.int .i64 c) ∧ X.cell? ⟨w.heap.size + 1, 1, none⟩ = some (.int .i64 d) := fun X h =>
    ⟨Lib.cell_of_heap ((h.block _ (by omega)).trans k1') 0, Lib.cell_of_heap ((h.block _ (by omega)).trans k1') 1, Lib.cell_of_heap ((h.block _ (by omega)).trans k2) 0, Lib.cell_of_heap ((h.block _ (by omega)).trans k2) 1⟩
  have HBX := Lib.hid hbox
  have hsh := Short_any t w2 ht
  generalize shortB t = s at hst hsh
  have Hsh := Lib.hid hsh
  have hw12 : w2 = (w.alloc (.cells #[.int .i64 a, .int .i64 b] 23)).alloc (.cells #[.int .i64 c, .int .i64 d] 23) := by rw [hw2, hw1]
  have HE := Lib.hid hw12.symm
  obtain ⟨p0, p1, p2, p3⟩ := hbox w2 (Below.refl _ _)
  clear hsh ht wa wb wc wd hw1 hw2 hw12 k1 k2 k1' b0 b1 hbox
  go_enter Tryd.func4, Tryd.ntmps4
  go_wp2_with fail
  rw [HE.out]
  refine Hsh.out.mono ?_
  rintro e w3 ⟨rfl, rfl⟩
  go_wp2_with fail
  with_reducible refine (Span_any s a b c d _ (by omega)).mono ?_
  rintro e w3 ⟨hR, hb3⟩
  have hB3 := hB2.trans (hb3.mono hB2.size)
  clear p0 p1 p2 p3
  have key : ∀ (v0 v1 er : Int), e = .returned (.tuple #[.agg #[.int .i64 v0, .int .i64 v1], .int .i64 er]) →
      (20000 < s.size ∧ v0 = 0 ∧ v1 = 0 ∧ er = 3) ∨ (s.size ≤ 20000 ∧ ∃ x y : Nat, HasOff s a b x ∧ HasOff s c d y ∧ x ≤ y ∧ v0 = x ∧ v1 = y ∧ er = 0) ∨ (s.size ≤ 20000 ∧ (¬ ∃ x y : Nat, HasOff s a b x ∧ HasOff s c d y ∧ x ≤ y) ∧ v0 = 0 ∧ v1 = 0 ∧ er = 2) := by
    intro v0 v1 er he
    rcases hR with ⟨h, h2⟩ | ⟨h, x, y, hx, hy, hxy, h2⟩ | ⟨h, hn, h2⟩
    · rw [he] at h2; simp at h2; exact .inl ⟨h, h2.1.1, h2.1.2, h2.2⟩
    · rw [he] at h2; simp at h2; exact .inr (.inl ⟨h, x, y, hx, hy, hxy, h2.1.1, h2.1.2, h2.2⟩)
    · rw [he] at h2; simp at h2; exact .inr (.inr ⟨h, hn, h2.1.1, h2.1.2, h2.2⟩)
  obtain ⟨v0, v1, er, he⟩ : ∃ v0 v1 er : Int, e = .returned (.tuple #[.agg #[.int .i64 v0, .int .i64 v1], .int .i64 er]) := by
    rcases hR with ⟨h, h2⟩ | ⟨h, x, y, hx, hy, hxy, h2⟩ | ⟨h, hn, h2⟩ <;> exact ⟨_, _, _, h2⟩
  have hk := key v0 v1 er he
  subst he
  clear key hR
  have hco : Below w3.heap.size w3 (w3.alloc (.cells #[.int .i64 v0, .int .i64 v1] 39)) := (Below.refl _ _).alloc (Nat.le_refl _) _
  have hkn := heap_alloc_new w3 (.cells #[.int .i64 v0, .int .i64 v1] 39)
  obtain ⟨p0, p1, p2, p3⟩ := HBX.out _ (hb3.trans (hco.mono hb3.size))
  have HKN := Lib.hid hkn
  clear hkn
  go_wp2_with fail
  with_reducible refine (rOffset_any s a b _ (by omega)).mono ?_
  rintro e w4 ⟨hR1, hb4⟩
  have hz4 := hb4.size
  have hb34 := hco.trans (hb4.mono hco.size)
  have hB4 := hB3.trans (hb34.mono hB3.size)
  have hk4 := (hb4.block w3.heap.size (by simp)).trans HKN.out
  have e1 : ∃ (x1 : Int) (o1 : Bool), e = .returned (.tuple #[.int .i64 x1, .bool o1]) ∧ ((o1 = true ∧ ∃ o : Nat, HasOff s a b o ∧ x1 = o) ∨ (o1 = false ∧ ¬ ∃ o : Nat, HasOff s a b o)) := by
    rcases hR1 with ⟨o, h, rfl⟩ | ⟨h, z, rfl⟩
    · exact ⟨_, _, rfl, .inl ⟨rfl, o, h, rfl⟩⟩
    · exact ⟨_, _, rfl, .inr ⟨rfl, h⟩⟩
  obtain ⟨x1, o1, rfl, h1⟩ := e1
  have HK4 := Lib.hid hk4
  obtain ⟨p0', p1', p2', p3'⟩ := HBX.out _ (hb3.trans (hb34.mono hb3.size))
  clear p0 p1 p2 p3 hk4 hR1
  go_wp2_with fail
  with_reducible refine (rOffset_any s c d _ (by omega)).mono ?_
  rintro e w5 ⟨hR2, hb5⟩
  have hB5 := hB4.trans (hb5.mono hB4.size)
  have hk5 := (hb5.block w3.heap.size (lt_of_heap HK4.out)).trans HK4.out
  have e2 : ∃ (x2 : Int) (o2 : Bool), e = .returned (.tuple #[.int .i64 x2, .bool o2]) ∧ ((o2 = true ∧ ∃ o : Nat, HasOff s c d o ∧ x2 = o) ∨ (o2 = false ∧ ¬ ∃ o : Nat, HasOff s c d o)) := by
    rcases hR2 with ⟨o, h, rfl⟩ | ⟨h, z, rfl⟩
    · exact ⟨_, _, rfl, .inl ⟨rfl, o, h, rfl⟩⟩
    · exact ⟨_, _, rfl, .inr ⟨rfl, h⟩⟩
  obtain ⟨x2, o2, rfl, h2⟩ := e2
  have r0 : w5.cell? ⟨w3.heap.size, 0, none⟩ = some (.int .i64 v0) := Lib.cell_of_heap hk5 0
  have r1 : w5.cell? ⟨w3.heap.size, 1, none⟩ = some (.int .i64 v1) := Lib.cell_of_heap hk5 1
  have hT5 := Utf8Tabs_below hT hB5
  -- what is left of the four ways
  have hway : (decide ((20000 : Int) < (s.size : Int)) = true ∧ v0 = 0 ∧ v1 = 0 ∧ er = 3) ∨
      (decide ((20000 : Int) < (s.size : Int)) = false ∧ o1 = true ∧ o2 = true ∧ decide (x2 < x1) = false ∧ v0 = x1 ∧ v1 = x2 ∧ er = 0) ∨
      (decide ((20000 : Int) < (s.size : Int)) = false ∧ v0 = 0 ∧ v1 = 0 ∧ er = 2 ∧ (o1 = false ∨ (o1 = true ∧ o2 = false) ∨ (o1 = true ∧ o2 = true ∧ decide (x2 < x1) = true))) := by
    simp only [decide_eq_true_eq, decide_eq_false_iff_not]
    rcases hk with ⟨h, e0, e1, e2⟩ | ⟨h, x, y, hx, hy, hxy, e0, e1, e2⟩ | ⟨h, hn, e0, e1, e2⟩
    · exact .inl ⟨by omega, e0, e1, e2⟩
    · right; left
      rcases h1 with ⟨rfl, o, ho, rfl⟩ | ⟨_, hno⟩
      · rcases h2 with ⟨rfl, o', ho', rfl⟩ | ⟨_, hno⟩
        · have q1 := ho.unique hx
          have q2 := ho'.unique hy
          exact ⟨by omega, rfl, rfl, by omega, by omega, by omega, e2⟩
        · exact absurd ⟨y, hy⟩ hno
      · exact absurd ⟨x, hx⟩ hno
    · right; right
      refine ⟨by omega, e0, e1, e2, ?_⟩
      rcases h1 with ⟨rfl, o, ho, rfl⟩ | ⟨rfl, hno⟩
      · rcases h2 with ⟨rfl, o', ho', rfl⟩ | ⟨rfl, hno⟩
        · right; right
          refine ⟨rfl, rfl, ?_⟩
          rcases Nat.lt_or_ge o' o with h | h
          · omega
          · exact absurd ⟨o, o', ho, ho', h⟩ hn
        · exact .inr (.inl ⟨rfl, rfl⟩)
      · exact .inl rfl
  clear hk h1 h2 hR2 hk5 p0' p1' p2' p3'
  rcases hway with ⟨d0, rfl, rfl, rfl⟩ | ⟨d0, rfl, rfl, d1, rfl, rfl, rfl⟩ | ⟨d0, rfl, rfl, rfl, rfl | ⟨rfl, rfl⟩ | ⟨rfl, rfl, d1⟩⟩
  all_goals
    go_wp2_with fail
    with_reducible refine (palive_any _ hT5).mono ?_
    rintro e w6 ⟨rfl, hb6⟩
    go_wp2_with fail
    go_ret
    exact ⟨rfl, hB5.trans (hb6.mono hB5.size)⟩
end Go.Proofs.YtmbpjjehnfjdiaaDoor.lawPlaceSpans
