/-
  PlaceOffsets: Of, Offset and Near are those of the specification.
  No condition: every input.
-/
import Derived.Test.YtmbpjjehnfjdiaaDoorPlRef2
namespace Go.Proofs.YtmbpjjehnfjdiaaDoor.lawPlaceOffsets
set_option linter.unusedVariables false
set_option linter.unusedSimpArgs false
open Go.ChangeShapes Go.WideShapes Go.RowKit
open Go.ChangeMaps (open_string shut_string)

theorem box_kept2 {w w' : World} {g : Nat} {v0 v1 : Value} (hb : Below w.heap.size w w') (hlt : g < w.heap.size) (h0 : w.cell? ⟨g, 0, none⟩ = some v0) (h1 : w.cell? ⟨g, 1, none⟩ = some v1) :
    Below w.heap.size w w' ∧ w'.cell? ⟨g, 0, none⟩ = some v0 ∧ w'.cell? ⟨g, 1, none⟩ = some v1 := ⟨hb, ((bcell hb).1 g 0 hlt).trans h0, ((bcell hb).1 g 1 hlt).trans h1⟩

set_option maxRecDepth 100000 in
set_option maxHeartbeats 4000000 in
theorem walk (t : ByteArray) (ht : t.size ≤ maxLen) (off : Int) (a b : Int) (wa : (Lit.int .i64 a).wf = true) (wb : (Lit.int .i64 b).wf = true)
    (w : World) (hT : Lib.Utf8Tabs 0 1 w) :
    Calls Tryd.prog 3 #[.string t, .int .i64 off, .agg #[.int .i64 a, .int .i64 b]] w fun e w' => e = .returned (.bool true) ∧ Below w.heap.size w w' := by
  have hst := short_sz t
  obtain ⟨w1, hw1⟩ : ∃ w1, w1 = w.alloc (.cells #[.int .i64 a, .int .i64 b] 23) := ⟨_, rfl⟩
  have hB1 : Below w.heap.size w w1 := by rw [hw1]; exact (Below.refl _ _).alloc (Nat.le_refl _) _
  have z1 : w1.heap.size = w.heap.size + 1 := by rw [hw1]; simp
  have k1 : w1.heap[w.heap.size]? = some (.cells #[.int .i64 a, .int .i64 b] 23 (0, 0)) := by rw [hw1]; exact heap_alloc_new w _
  have hbox : ∀ X : World, Below w1.heap.size w1 X → X.cell? ⟨w.heap.size, 0, none⟩ = some (.int .i64 a) ∧ X.cell? ⟨w.heap.size, 1, none⟩ = some (.int .i64 b) := fun X h =>
    ⟨Lib.cell_of_heap ((h.block _ (by omega)).trans k1) 0, Lib.cell_of_heap ((h.block _ (by omega)).trans k1) 1⟩
  have HBX := Lib.hid hbox
  have hsh := Short_any t w1 ht
  generalize shortB t = s at hst hsh
  have Hsh := Lib.hid hsh
  have HE := Lib.hid hw1.symm
  clear hsh ht wa wb hw1 k1 hbox
  have hs6 : s.size ≤ 60000 := by omega
  go_enter Tryd.func3, Tryd.ntmps3
  go_wp2_with fail
  rw [HE.out]
  refine Hsh.out.mono ?_
  rintro e w2 ⟨rfl, rfl⟩
  go_wp2_with fail
  with_reducible refine (Of_any s off _ hs6 (Utf8Tabs_below hT hB1)).mono ?_
  rintro e w2 ⟨hR, hb2⟩
  have hway : ∃ (v0 v1 er : Int), e = .returned (.tuple #[.agg #[.int .i64 v0, .int .i64 v1], .int .i64 er]) ∧
      ((20000 < s.size ∧ v0 = 0 ∧ v1 = 0 ∧ er = 3) ∨ (s.size ≤ 20000 ∧ er = 0 ∧ ∃ o l c : Nat, off = o ∧ o ≤ s.size ∧ (∃ w, Ch s 0 o w) ∧ PlaceAt s o l c ∧ v0 = l ∧ v1 = c) ∨
       (s.size ≤ 20000 ∧ (off < 0 ∨ (s.size : Int) < off ∨ ∃ o : Nat, off = o ∧ ¬ ∃ w, Ch s 0 o w) ∧ v0 = 0 ∧ v1 = 0 ∧ er = 2)) := by
    rcases hR with ⟨h, rfl⟩ | ⟨h, o, l, c, h1, h2, h3, h4, rfl⟩ | ⟨h, h1, rfl⟩
    · exact ⟨_, _, _, rfl, .inl ⟨h, rfl, rfl, rfl⟩⟩
    · exact ⟨_, _, _, rfl, .inr (.inl ⟨h, rfl, o, l, c, h1, h2, h3, h4, rfl, rfl⟩)⟩
    · exact ⟨_, _, _, rfl, .inr (.inr ⟨h, h1, rfl, rfl, rfl⟩)⟩
  obtain ⟨v0, v1, er, rfl, hof⟩ := hway
  clear hR
  have hB2 := hB1.trans (hb2.mono hB1.size)
  have hco : Below w2.heap.size w2 (w2.alloc (.cells #[.int .i64 v0, .int .i64 v1] 23)) := (Below.refl _ _).alloc (Nat.le_refl _) _
  have HKN := Lib.hid (heap_alloc_new w2 (.cells #[.int .i64 v0, .int .i64 v1] 23))
  have hb12 := hb2.trans (hco.mono hb2.size)
  obtain ⟨p0, p1⟩ := HBX.out _ hb12
  have HOF := Lib.hid hof
  clear hof
  go_wp2_with fail
  with_reducible refine (Offset_any s a b _ hs6).mono ?_
  rintro e w3 ⟨hR, hb3⟩
  have hway : ∃ (x1 e1 : Int), e = .returned (.tuple #[.int .i64 x1, .int .i64 e1]) ∧
      ((20000 < s.size ∧ x1 = 0 ∧ e1 = 3) ∨ (s.size ≤ 20000 ∧ e1 = 0 ∧ ∃ o : Nat, HasOff s a b o ∧ x1 = o) ∨ (s.size ≤ 20000 ∧ (¬ ∃ o : Nat, HasOff s a b o) ∧ x1 = 0 ∧ e1 = 2)) := by
    rcases hR with ⟨h, rfl⟩ | ⟨h, o, h1, rfl⟩ | ⟨h, h1, rfl⟩
    · exact ⟨_, _, rfl, .inl ⟨h, rfl, rfl⟩⟩
    · exact ⟨_, _, rfl, .inr (.inl ⟨h, rfl, o, h1, rfl⟩)⟩
    · exact ⟨_, _, rfl, .inr (.inr ⟨h, h1, rfl, rfl⟩)⟩
  obtain ⟨x1, e1, rfl, hoff⟩ := hway
  have hb13 := hb12.trans (hb3.mono hb12.size)
  have HK3 := Lib.hid ((hb3.block w2.heap.size (by simp)).trans HKN.out)
  obtain ⟨p0', p1'⟩ := HBX.out _ hb13
  have HOFF := Lib.hid hoff
  clear hoff hR p0 p1
  go_wp2_with fail
  with_reducible refine (Near_any s a b _ hs6).mono ?_
  rintro e w4 ⟨hR, hb4⟩
  have hway : ∃ (x2 e2 : Int), e = .returned (.tuple #[.int .i64 x2, .int .i64 e2]) ∧
      ((20000 < s.size ∧ x2 = 0 ∧ e2 = 3) ∨ (s.size ≤ 20000 ∧ e2 = 0 ∧ ∃ o : Nat, NearAll s a b o ∧ x2 = o)) := by
    rcases hR with ⟨h, rfl⟩ | ⟨h, o, h1, _, rfl⟩
    · exact ⟨_, _, rfl, .inl ⟨h, rfl, rfl⟩⟩
    · exact ⟨_, _, rfl, .inr ⟨h, rfl, o, h1, rfl⟩⟩
  obtain ⟨x2, e2, rfl, hnear⟩ := hway
  have hb14 := hb13.trans (hb4.mono hb13.size)
  have hB4 := hB1.trans (hb14.mono hB1.size)
  have HK4 := Lib.hid ((hb4.block w2.heap.size (lt_of_heap HK3.out)).trans HK3.out)
  have q0 : w4.cell? ⟨w2.heap.size, 0, none⟩ = some (.int .i64 v0) := Lib.cell_of_heap HK4.out 0
  have q1 : w4.cell? ⟨w2.heap.size, 1, none⟩ = some (.int .i64 v1) := Lib.cell_of_heap HK4.out 1
  have HNEAR := Lib.hid hnear
  clear hnear hR p0' p1'
  have hT4 := Utf8Tabs_below hT hB4
  by_cases h0 : 20000 < s.size
  · have d0 : decide ((20000 : Int) < (s.size : Int)) = true := decide_eq_true (by omega)
    obtain ⟨rfl, rfl, rfl⟩ : v0 = 0 ∧ v1 = 0 ∧ er = 3 := by rcases HOF.out with ⟨_, h⟩ | ⟨h, _⟩ | ⟨h, _⟩; exact h; omega; omega
    obtain ⟨rfl, rfl⟩ : x1 = 0 ∧ e1 = 3 := by rcases HOFF.out with ⟨_, h⟩ | ⟨h, _⟩ | ⟨h, _⟩; exact h; omega; omega
    obtain ⟨rfl, rfl⟩ : x2 = 0 ∧ e2 = 3 := by rcases HNEAR.out with ⟨_, h⟩ | ⟨h, _⟩; exact h; omega
    clear h0
    go_wp2_with fail
    with_reducible refine (palive_any _ hT4).mono ?_
    rintro e w6 ⟨rfl, hb6⟩
    go_wp2_with fail
    go_ret
    exact ⟨rfl, hB4.trans (hb6.mono hB4.size)⟩
  · have d0 : decide ((20000 : Int) < (s.size : Int)) = false := decide_eq_false (by omega)
    obtain ⟨e2z, o2, hn2, x2z⟩ : e2 = 0 ∧ ∃ o : Nat, NearAll s a b o ∧ x2 = o := by rcases HNEAR.out with ⟨h, _⟩ | ⟨_, h⟩; omega; exact h
    subst e2z x2z
    have HN2 := Lib.hid hn2
    have hoff : (∃ o : Nat, HasOff s a b o ∧ x1 = o ∧ e1 = 0) ∨ ((¬ ∃ o : Nat, HasOff s a b o) ∧ x1 = 0 ∧ e1 = 2) := by
      rcases HOFF.out with ⟨h, _⟩ | ⟨_, h1, o, h2, h3⟩ | ⟨_, h1, h2, h3⟩
      · omega
      · exact .inl ⟨o, h2, h3, h1⟩
      · exact .inr ⟨h1, h2, h3⟩
    have HO := Lib.hid hoff
    have hof : (er = 0 ∧ ∃ o l c : Nat, off = o ∧ o ≤ s.size ∧ (∃ w, Ch s 0 o w) ∧ PlaceAt s o l c ∧ v0 = l ∧ v1 = c) ∨
        ((off < 0 ∨ (s.size : Int) < off ∨ ∃ o : Nat, off = o ∧ ¬ ∃ w, Ch s 0 o w) ∧ v0 = 0 ∧ v1 = 0 ∧ er = 2) := by
      rcases HOF.out with ⟨h, _⟩ | ⟨_, h⟩ | ⟨_, h⟩
      · omega
      · exact .inl h
      · exact .inr h
    clear hn2 hoff h0
    rcases hof with ⟨rfl, o, l, c, rfl, ho, hch, hpl, rfl, rfl⟩ | ⟨hno, rfl, rfl, rfl⟩
    · have i1 : decide ((o : Int) < 0) = false := decide_eq_false (by omega)
      have i2 : decide ((s.size : Int) < (o : Int)) = false := decide_eq_false (by omega)
      have HCH := Lib.hid hch
      have HPL := Lib.hid hpl
      clear hch hpl
      go_wp2_with fail
      with_reducible refine (rBegins_any s _ hs6).mono ?_
      rintro e w5 ⟨g, cap, xs, rfl, hown, hxs, hb5⟩
      obtain ⟨b5, hb5x, hb5i⟩ := hxs o ho
      obtain rfl : b5 = true := hb5i.2 ⟨by omega, HCH.out⟩
      have y1 : w5.cell? ⟨g, o, none⟩ = some (.bool true) := by rw [hown.cellAt _ (by omega)]; exact hb5x
      have y2 : (o : Int) < (s.size : Int) + 1 := by omega
      have hb15 := hb14.trans (hb5.mono hb14.size)
      have HK5 := Lib.hid ((hb5.block w2.heap.size (lt_of_heap HK4.out)).trans HK4.out)
      have r0 : w5.cell? ⟨w2.heap.size, 0, none⟩ = some (.int .i64 (l : Int)) := Lib.cell_of_heap HK5.out 0
      have r1 : w5.cell? ⟨w2.heap.size, 1, none⟩ = some (.int .i64 (c : Int)) := Lib.cell_of_heap HK5.out 1
      have hlt5 : w2.heap.size < w5.heap.size := lt_of_heap HK5.out
      clear hxs hb5x hb5i hown q0 q1
      go_wp2_with fail
      go_region_held3 (fun w' => Below w5.heap.size w5 w' ∧ w'.cell? ⟨w2.heap.size, 0, none⟩ = some (.int .i64 (l : Int)) ∧ w'.cell? ⟨w2.heap.size, 1, none⟩ = some (.int .i64 (c : Int)))
        (exact box_kept2 (by repeat (first | with_reducible exact Below.refl _ _ | with_reducible assumption | with_reducible refine Below.drew ?_ | with_reducible refine below_drewN ?_ _ | with_reducible refine below_call ?_ (Nat.le_refl _) hbC)) hlt5 r0 r1)
        ((go_at_call 16
          with_reducible refine (rOf_any s o _ hs6 ho HCH.out).mono ?_
          rintro e wC ⟨⟨l', c', hpl', rfl⟩, hbC⟩
          obtain ⟨rfl, rfl⟩ := HPL.out.det hpl'))
      all_goals
        have hbw : Below w5.heap.size w5 wC := (by repeat (first | with_reducible exact Below.refl _ _ | with_reducible assumption | with_reducible refine Below.drew ?_ | with_reducible refine below_drewN ?_ _ | with_reducible refine below_call ?_ (Nat.le_refl _) hbC))
        have hb1C := hb15.trans (hbw.mono hb15.size)
        obtain ⟨m0, m1⟩ := HBX.out _ hb1C
        have hBX := hB1.trans ((hb1C).mono hB1.size)
        go_wp2_with fail
        with_reducible refine (rOffset_any s a b _ hs6).mono ?_
        rintro e w7 ⟨hR, hb7⟩
        have hb17 := (hb1C).trans (hb7.mono (hb1C).size)
        have hway : (∃ o : Nat, e = .returned (.tuple #[.int .i64 (o : Int), .bool true]) ∧ x1 = o ∧ e1 = 0) ∨ (∃ z : Int, e = .returned (.tuple #[.int .i64 z, .bool false]) ∧ x1 = 0 ∧ e1 = 2) := by
          rcases hR with ⟨o, h, h2⟩ | ⟨h, z, h2⟩ <;> rcases HO.out with ⟨o', h', h3, h4⟩ | ⟨h', h3, h4⟩
          · exact .inl ⟨o, h2, by rw [h3, h.unique h'], h4⟩
          · exact absurd ⟨o, h⟩ h'
          · exact absurd ⟨o', h'⟩ h
          · exact .inr ⟨z, h2, h3, h4⟩
        obtain ⟨n0, n1⟩ := HBX.out _ hb17
        have hB17 := hB1.trans (hb17.mono hB1.size)
        have hT7 := Utf8Tabs_below hT hB17
        clear hR m0 m1
        rcases hway with ⟨o7, rfl, rfl, rfl⟩ | ⟨z7, rfl, rfl, rfl⟩
        all_goals
          go_wp2_with fail
          with_reducible refine (rNear_any s a b _ hs6).mono ?_
          rintro e w8 ⟨⟨o8, hn8, rfl⟩, hb8⟩
          obtain rfl := HN2.out.unique hn8
          have hB8 := hB17.trans (hb8.mono hB17.size)
          go_wp2_with fail
          with_reducible refine (palive_any _ (Utf8Tabs_below hT hB8)).mono ?_
          rintro e w9 ⟨rfl, hb9⟩
          go_wp2_with fail
          go_ret
          exact ⟨rfl, hB8.trans (hb9.mono hB8.size)⟩
    · have hsel : (decide (off < 0) = true) ∨ (decide (off < 0) = false ∧ decide ((s.size : Int) < off) = true) ∨ (∃ o : Nat, off = o ∧ o ≤ s.size ∧ ¬ ∃ w, Ch s 0 o w) := by
        simp only [decide_eq_true_eq, decide_eq_false_iff_not]
        rcases hno with h | h | ⟨o, rfl, h⟩
        · exact .inl h
        · exact .inr (.inl ⟨by omega, h⟩)
        · by_cases hz : o ≤ s.size
          · exact .inr (.inr ⟨o, rfl, hz, h⟩)
          · exact .inr (.inl ⟨by omega, by omega⟩)
      clear hno
      rcases hsel with i1 | ⟨i1, i2⟩ | ⟨o, rfl, ho, hno⟩
      · skip
        obtain ⟨m0, m1⟩ := HBX.out _ hb14
        have hBX := hB1.trans ((hb14).mono hB1.size)
        go_wp2_with fail
        with_reducible refine (rOffset_any s a b _ hs6).mono ?_
        rintro e w7 ⟨hR, hb7⟩
        have hb17 := (hb14).trans (hb7.mono (hb14).size)
        have hway : (∃ o : Nat, e = .returned (.tuple #[.int .i64 (o : Int), .bool true]) ∧ x1 = o ∧ e1 = 0) ∨ (∃ z : Int, e = .returned (.tuple #[.int .i64 z, .bool false]) ∧ x1 = 0 ∧ e1 = 2) := by
          rcases hR with ⟨o, h, h2⟩ | ⟨h, z, h2⟩ <;> rcases HO.out with ⟨o', h', h3, h4⟩ | ⟨h', h3, h4⟩
          · exact .inl ⟨o, h2, by rw [h3, h.unique h'], h4⟩
          · exact absurd ⟨o, h⟩ h'
          · exact absurd ⟨o', h'⟩ h
          · exact .inr ⟨z, h2, h3, h4⟩
        obtain ⟨n0, n1⟩ := HBX.out _ hb17
        have hB17 := hB1.trans (hb17.mono hB1.size)
        have hT7 := Utf8Tabs_below hT hB17
        clear hR m0 m1
        rcases hway with ⟨o7, rfl, rfl, rfl⟩ | ⟨z7, rfl, rfl, rfl⟩
        all_goals
          go_wp2_with fail
          with_reducible refine (rNear_any s a b _ hs6).mono ?_
          rintro e w8 ⟨⟨o8, hn8, rfl⟩, hb8⟩
          obtain rfl := HN2.out.unique hn8
          have hB8 := hB17.trans (hb8.mono hB17.size)
          go_wp2_with fail
          with_reducible refine (palive_any _ (Utf8Tabs_below hT hB8)).mono ?_
          rintro e w9 ⟨rfl, hb9⟩
          go_wp2_with fail
          go_ret
          exact ⟨rfl, hB8.trans (hb9.mono hB8.size)⟩
      · skip
        obtain ⟨m0, m1⟩ := HBX.out _ hb14
        have hBX := hB1.trans ((hb14).mono hB1.size)
        go_wp2_with fail
        with_reducible refine (rOffset_any s a b _ hs6).mono ?_
        rintro e w7 ⟨hR, hb7⟩
        have hb17 := (hb14).trans (hb7.mono (hb14).size)
        have hway : (∃ o : Nat, e = .returned (.tuple #[.int .i64 (o : Int), .bool true]) ∧ x1 = o ∧ e1 = 0) ∨ (∃ z : Int, e = .returned (.tuple #[.int .i64 z, .bool false]) ∧ x1 = 0 ∧ e1 = 2) := by
          rcases hR with ⟨o, h, h2⟩ | ⟨h, z, h2⟩ <;> rcases HO.out with ⟨o', h', h3, h4⟩ | ⟨h', h3, h4⟩
          · exact .inl ⟨o, h2, by rw [h3, h.unique h'], h4⟩
          · exact absurd ⟨o, h⟩ h'
          · exact absurd ⟨o', h'⟩ h
          · exact .inr ⟨z, h2, h3, h4⟩
        obtain ⟨n0, n1⟩ := HBX.out _ hb17
        have hB17 := hB1.trans (hb17.mono hB1.size)
        have hT7 := Utf8Tabs_below hT hB17
        clear hR m0 m1
        rcases hway with ⟨o7, rfl, rfl, rfl⟩ | ⟨z7, rfl, rfl, rfl⟩
        all_goals
          go_wp2_with fail
          with_reducible refine (rNear_any s a b _ hs6).mono ?_
          rintro e w8 ⟨⟨o8, hn8, rfl⟩, hb8⟩
          obtain rfl := HN2.out.unique hn8
          have hB8 := hB17.trans (hb8.mono hB17.size)
          go_wp2_with fail
          with_reducible refine (palive_any _ (Utf8Tabs_below hT hB8)).mono ?_
          rintro e w9 ⟨rfl, hb9⟩
          go_wp2_with fail
          go_ret
          exact ⟨rfl, hB8.trans (hb9.mono hB8.size)⟩
      · have i1 : decide ((o : Int) < 0) = false := decide_eq_false (by omega)
        have i2 : decide ((s.size : Int) < (o : Int)) = false := decide_eq_false (by omega)
        go_wp2_with fail
        with_reducible refine (rBegins_any s _ hs6).mono ?_
        rintro e w5 ⟨g, cap, xs, rfl, hown, hxs, hb5⟩
        obtain ⟨b5, hb5x, hb5i⟩ := hxs o ho
        obtain rfl : b5 = false := by
          cases b5
          · rfl
          · exact absurd (hb5i.1 rfl).2 hno
        have y1 : w5.cell? ⟨g, o, none⟩ = some (.bool false) := by rw [hown.cellAt _ (by omega)]; exact hb5x
        have y2 : (o : Int) < (s.size : Int) + 1 := by omega
        have hb15 := hb14.trans (hb5.mono hb14.size)
        have HK5 := Lib.hid ((hb5.block w2.heap.size (lt_of_heap HK4.out)).trans HK4.out)
        have r0 : w5.cell? ⟨w2.heap.size, 0, none⟩ = some (.int .i64 0) := Lib.cell_of_heap HK5.out 0
        have r1 : w5.cell? ⟨w2.heap.size, 1, none⟩ = some (.int .i64 0) := Lib.cell_of_heap HK5.out 1
        clear hxs hb5x hb5i hown q0 q1 hno
        obtain ⟨m0, m1⟩ := HBX.out _ hb15
        have hBX := hB1.trans ((hb15).mono hB1.size)
        go_wp2_with fail
        with_reducible refine (rOffset_any s a b _ hs6).mono ?_
        rintro e w7 ⟨hR, hb7⟩
        have hb17 := (hb15).trans (hb7.mono (hb15).size)
        have hway : (∃ o : Nat, e = .returned (.tuple #[.int .i64 (o : Int), .bool true]) ∧ x1 = o ∧ e1 = 0) ∨ (∃ z : Int, e = .returned (.tuple #[.int .i64 z, .bool false]) ∧ x1 = 0 ∧ e1 = 2) := by
          rcases hR with ⟨o, h, h2⟩ | ⟨h, z, h2⟩ <;> rcases HO.out with ⟨o', h', h3, h4⟩ | ⟨h', h3, h4⟩
          · exact .inl ⟨o, h2, by rw [h3, h.unique h'], h4⟩
          · exact absurd ⟨o, h⟩ h'
          · exact absurd ⟨o', h'⟩ h
          · exact .inr ⟨z, h2, h3, h4⟩
        obtain ⟨n0, n1⟩ := HBX.out _ hb17
        have hB17 := hB1.trans (hb17.mono hB1.size)
        have hT7 := Utf8Tabs_below hT hB17
        clear hR m0 m1
        rcases hway with ⟨o7, rfl, rfl, rfl⟩ | ⟨z7, rfl, rfl, rfl⟩
        all_goals
          go_wp2_with fail
          with_reducible refine (rNear_any s a b _ hs6).mono ?_
          rintro e w8 ⟨⟨o8, hn8, rfl⟩, hb8⟩
          obtain rfl := HN2.out.unique hn8
          have hB8 := hB17.trans (hb8.mono hB17.size)
          go_wp2_with fail
          with_reducible refine (palive_any _ (Utf8Tabs_below hT hB8)).mono ?_
          rintro e w9 ⟨rfl, hb9⟩
          go_wp2_with fail
          go_ret
          exact ⟨rfl, hB8.trans (hb9.mono hB8.size)⟩
end Go.Proofs.YtmbpjjehnfjdiaaDoor.lawPlaceOffsets
