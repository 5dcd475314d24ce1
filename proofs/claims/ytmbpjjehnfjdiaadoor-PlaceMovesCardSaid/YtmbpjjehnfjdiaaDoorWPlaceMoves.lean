/-
  PlaceMoves: Moved of a place is the place of the specification, for edits that are right; else the error.
  No condition: every input.
-/
import Derived.Test.YtmbpjjehnfjdiaaDoorPlMoved
import Derived.Test.YtmbpjjehnfjdiaaDoorArg
import Derived.Test.YtmbpjjehnfjdiaaDoorMove
import Derived.Deep.RegionHeld3
namespace Go.Proofs.YtmbpjjehnfjdiaaDoor.lawPlaceMoves
set_option linter.unusedVariables false
set_option linter.unusedSimpArgs false
open Go.ChangeShapes Go.WideShapes Go.RowKit
open Go.ChangeMaps (open_string shut_string)

theorem mkept {w w' : World} {b : Nat} {u v : Value} (hb : Below w.heap.size w w') (hlt : b < w.heap.size) (h0 : w.cell? ⟨b, 0, none⟩ = some u) (h1 : w.cell? ⟨b, 1, none⟩ = some v) :
    Below w.heap.size w w' ∧ w'.cell? ⟨b, 0, none⟩ = some u ∧ w'.cell? ⟨b, 1, none⟩ = some v := ⟨hb, ((bcell hb).1 _ 0 hlt).trans h0, ((bcell hb).1 _ 1 hlt).trans h1⟩

set_option maxRecDepth 100000 in
set_option maxHeartbeats 4000000 in
theorem walk (t : ByteArray) (ht : t.size ≤ maxLen) (a b : Int) (wa : (Lit.int .i64 a).wf = true) (wb : (Lit.int .i64 b).wf = true) (A : Option Addr) (c : Nat) (l : List Ed) (hl : l.length ≤ maxLen) (hs : ∀ e ∈ l, e.s.size ≤ maxLen)
    (w : World) (hT : Lib.Utf8Tabs 0 1 w) (hE : EdsV w A l) :
    Calls Tryd.prog 6 #[.string t, .agg #[.int .i64 a, .int .i64 b], .slice A l.length c] w fun e w' => e = .returned (.bool true) ∧ Below w.heap.size w w' := by
  have hst := short_sz t
  obtain ⟨w1, hw1⟩ : ∃ w1, w1 = w.alloc (.cells #[.int .i64 a, .int .i64 b] 23) := ⟨_, rfl⟩
  have z1 : w1.heap.size = w.heap.size + 1 := by rw [hw1]; simp
  have hB1 : Below w.heap.size w w1 := by rw [hw1]; exact (Below.refl _ _).alloc (Nat.le_refl _) _
  have k1 : w1.heap[w.heap.size]? = some (.cells #[.int .i64 a, .int .i64 b] 23 (0, 0)) := by rw [hw1]; exact heap_alloc_new w _
  have hbox : ∀ X : World, Below w1.heap.size w1 X → X.cell? ⟨w.heap.size, 0, none⟩ = some (.int .i64 a) ∧ X.cell? ⟨w.heap.size, 1, none⟩ = some (.int .i64 b) := fun X h =>
    ⟨Lib.cell_of_heap ((h.block _ (by omega)).trans k1) 0, Lib.cell_of_heap ((h.block _ (by omega)).trans k1) 1⟩
  have HBX := Lib.hid hbox
  have hsh := Short_any t w1 ht
  have hcut := Cut_any 2000 c A l w1 hl hs (hE.below hB1)
  have hsm := cutL_small (m := 2000) (by omega) l
  generalize cutL 2000 l = L at hcut hsm
  generalize shortB t = s at hst hsh
  have Hsh := Lib.hid hsh
  have Hcut := Lib.hid hcut
  have HEq := Lib.hid hw1.symm
  have hs6 : s.size ≤ 60000 := by omega
  clear hsh hcut ht hl hs hE wa wb hw1 k1 hbox
  go_enter Tryd.func6, Tryd.ntmps6
  go_wp2_with fail
  rw [HEq.out]
  refine Hsh.out.mono ?_
  rintro e w2 ⟨rfl, rfl⟩
  go_wp2_with fail
  refine Hcut.out.mono ?_
  rintro e w2 ⟨A1, c1, rfl, hE2, hb2⟩
  have hB2 := hB1.trans (hb2.mono hB1.size)
  obtain ⟨p0, p1⟩ := HBX.out w2 hb2
  go_wp2_with fail
  with_reducible refine (Moved_any s a b c1 A1 L w2 hs6 hsm hE2 (Utf8Tabs_below hT hB2)).mono ?_
  rintro e w3 ⟨hR, hb3⟩
  have hb13 := hb2.trans (hb3.mono hb2.size)
  have hE3 := hE2.below hb3
  have hway : ∃ x y er : Int, e = .returned (.tuple #[.agg #[.int .i64 x, .int .i64 y], .int .i64 er]) ∧
      ((20000 < s.size ∧ x = 0 ∧ y = 0 ∧ er = 3) ∨
       (s.size ≤ 20000 ∧ (¬ ∃ o : Nat, HasOff s a b o) ∧ x = 0 ∧ y = 0 ∧ er = 2) ∨
       (s.size ≤ 20000 ∧ (∃ o : Nat, HasOff s a b o) ∧ checkE s.size L ≠ 0 ∧ x = 0 ∧ y = 0 ∧ er = checkE s.size L) ∨
       (s.size ≤ 20000 ∧ checkE s.size L = 0 ∧ ∃ o m bb x' y' : Nat, HasOff s a b o ∧ moveE o true 0 L = m ∧ BegR (applyB s L) m bb ∧ PlaceAt (applyB s L) bb x' y' ∧ x = x' ∧ y = y' ∧ er = 0)) := by
    rcases hR with ⟨h, h2⟩ | ⟨h, hn, h2⟩ | ⟨h, ho, hc, h2⟩ | ⟨h, hc, o, m, bb, x, y, ho, hm, hb, hp, h2⟩
    · exact ⟨_, _, _, h2, .inl ⟨h, rfl, rfl, rfl⟩⟩
    · exact ⟨_, _, _, h2, .inr (.inl ⟨h, hn, rfl, rfl, rfl⟩)⟩
    · exact ⟨_, _, _, h2, .inr (.inr (.inl ⟨h, ho, hc, rfl, rfl, rfl⟩))⟩
    · exact ⟨_, _, _, h2, .inr (.inr (.inr ⟨h, hc, o, m, bb, x, y, ho, hm, hb, hp, rfl, rfl, rfl⟩))⟩
  obtain ⟨x, y, er, rfl, hway⟩ := hway
  have HW := Lib.hid hway
  have HE3 := Lib.hid hE3
  clear hR hway p0 p1 hE2 hE3
  have hco : Below w3.heap.size w3 (w3.alloc (.cells #[.int .i64 x, .int .i64 y] 23)) := (Below.refl _ _).alloc (Nat.le_refl _) _
  have HKN := Lib.hid (heap_alloc_new w3 (.cells #[.int .i64 x, .int .i64 y] 23))
  have hb14 := hb13.trans (hco.mono hb13.size)
  obtain ⟨p0, p1⟩ := HBX.out _ hb14
  go_wp2_with fail
  with_reducible refine (rOffset_any s a b _ hs6).mono ?_
  rintro e w4 ⟨hR1, hb4⟩
  have hb34 := hco.trans (hb4.mono hco.size)
  have hb15 := hb13.trans (hb34.mono hb13.size)
  have hB4 := hB1.trans (hb15.mono hB1.size)
  have hE4 := HE3.out.below hb34
  have hk4 := (hb4.block w3.heap.size (by simp)).trans HKN.out
  have hlt4 : w3.heap.size < w4.heap.size := lt_of_heap hk4
  have r0 : w4.cell? ⟨w3.heap.size, 0, none⟩ = some (.int .i64 x) := Lib.cell_of_heap hk4 0
  have r1 : w4.cell? ⟨w3.heap.size, 1, none⟩ = some (.int .i64 y) := Lib.cell_of_heap hk4 1
  clear hk4
  have hT4 := Utf8Tabs_below hT hB4
  rcases HW.out with ⟨h, rfl, rfl, rfl⟩ | ⟨h, hn, rfl, rfl, rfl⟩ | ⟨h, ⟨o, ho⟩, hc, rfl, rfl, rfl⟩ | ⟨h, hc, o, m, bb, x', y', ho, hm, hbb, hpl, rfl, rfl, rfl⟩
  · have e1 : ∃ (x1 : Int) (o1 : Bool), e = .returned (.tuple #[.int .i64 x1, .bool o1]) := by
      rcases hR1 with ⟨o, h, rfl⟩ | ⟨h, z, rfl⟩ <;> exact ⟨_, _, rfl⟩
    obtain ⟨x1, o1, rfl⟩ := e1
    have d0 : decide ((20000 : Int) < (s.size : Int)) = true := decide_eq_true (by omega)
    clear hR1
    go_wp2_with fail
    with_reducible refine (palive_any _ hT4).mono ?_
    rintro e w6 ⟨rfl, hb6⟩
    go_wp2_with fail
    go_ret
    exact ⟨rfl, hB4.trans (hb6.mono hB4.size)⟩
  · obtain ⟨z, rfl⟩ : ∃ z : Int, e = .returned (.tuple #[.int .i64 z, .bool false]) := by
      rcases hR1 with ⟨o, h, _⟩ | ⟨_, h⟩
      · exact absurd ⟨o, h⟩ hn
      · exact h
    have d0 : decide ((20000 : Int) < (s.size : Int)) = false := decide_eq_false (by omega)
    clear hR1 hn
    go_wp2_with fail
    with_reducible refine (palive_any _ hT4).mono ?_
    rintro e w6 ⟨rfl, hb6⟩
    go_wp2_with fail
    go_ret
    exact ⟨rfl, hB4.trans (hb6.mono hB4.size)⟩
  · obtain rfl : e = .returned (.tuple #[.int .i64 (o : Int), .bool true]) := by
      rcases hR1 with ⟨o1, h1, h2⟩ | ⟨h1, _⟩
      · rw [ho.unique h1]; exact h2
      · exact absurd ⟨o, ho⟩ h1
    have d0 : decide ((20000 : Int) < (s.size : Int)) = false := decide_eq_false (by omega)
    have q : (checkE s.size L != 0) = true := by simpa using hc
    clear hR1 ho hc
    go_wp2_with fail
    with_reducible refine (rCheck_any s c1 A1 L w4 hsm hs6 hE4).mono ?_
    rintro e w5 ⟨rfl, hb5⟩
    have hB5 := hB4.trans (hb5.mono hB4.size)
    have hT5 := Utf8Tabs_below hT hB5
    have s0 := ((bcell hb5).1 _ 0 hlt4).trans r0
    have s1 := ((bcell hb5).1 _ 1 hlt4).trans r1
    clear r0 r1
    go_wp2_with fail
    with_reducible refine (palive_any _ hT5).mono ?_
    rintro e w6 ⟨rfl, hb6⟩
    go_wp2_with fail
    go_ret
    exact ⟨rfl, hB5.trans (hb6.mono hB5.size)⟩
  · have hol : o ≤ s.size := by obtain ⟨_, _, _, _, _, h, _⟩ := ho.place; exact h
    obtain rfl : e = .returned (.tuple #[.int .i64 (o : Int), .bool true]) := by
      rcases hR1 with ⟨o1, h1, h2⟩ | ⟨h1, _⟩
      · rw [ho.unique h1]; exact h2
      · exact absurd ⟨o, ho⟩ h1
    have d0 : decide ((20000 : Int) < (s.size : Int)) = false := decide_eq_false (by omega)
    have HC := Lib.hid hc
    have HP := Lib.hid (And.intro hm (And.intro hbb hpl))
    clear hR1 ho hc hm hbb hpl
    go_wp2_with fail
    with_reducible refine (rCheck_any s c1 A1 L w4 hsm hs6 hE4).mono ?_
    rw [HC.out]
    rintro e w5 ⟨rfl, hb5⟩
    have hB5 := hB4.trans (hb5.mono hB4.size)
    have hT5 := Utf8Tabs_below hT hB5
    have HE5 := Lib.hid (hE4.below hb5)
    have HT5 := Lib.hid hT5
    have s0 : w5.cell? ⟨w3.heap.size, 0, none⟩ = some (.int .i64 (x' : Int)) := ((bcell hb5).1 _ 0 hlt4).trans r0
    have s1 : w5.cell? ⟨w3.heap.size, 1, none⟩ = some (.int .i64 (y' : Int)) := ((bcell hb5).1 _ 1 hlt4).trans r1
    have hlt5 : w3.heap.size < w5.heap.size := by have := hb5.size; omega
    clear r0 r1 hE4 hT4 hT5
    go_wp2_with fail
    go_region_held3 (fun w' => Below w5.heap.size w5 w' ∧ w'.cell? ⟨w3.heap.size, 0, none⟩ = some (.int .i64 (x' : Int)) ∧ w'.cell? ⟨w3.heap.size, 1, none⟩ = some (.int .i64 (y' : Int)))
      (exact mkept (by repeat (first | with_reducible exact Below.refl _ _ | with_reducible assumption | with_reducible refine Below.drew ?_ | with_reducible refine below_drewN ?_ _ | with_reducible refine below_call ?_ (Nat.le_refl _) hbC | with_reducible refine below_call ?_ (Nat.le_refl _) hbA)) hlt5 s0 s1)
      ((first
       | (go_at_call 27
          with_reducible refine (rMoved_any s o c1 A1 L _ hs6 hsm HC.out hol ?_).mono ?_
          · exact HE5.out.below (by repeat (first | with_reducible exact Below.refl _ _ | with_reducible assumption | with_reducible refine Below.drew ?_ | with_reducible refine below_drewN ?_ _))
          rintro e wA ⟨⟨mA, bA, xA, yA, hmA, hbbA, hplA, rfl⟩, hbA⟩
          obtain rfl : mA = m := by have := HP.out.1; omega
          obtain rfl := hbbA.unique HP.out.2.1
          obtain ⟨rfl, rfl⟩ := hplA.det HP.out.2.2
          clear hmA hbbA hplA)
       | (go_at_call 14
          with_reducible refine (palive_any _ ?_).mono ?_
          · exact Utf8Tabs_below HT5.out (by repeat (first | with_reducible exact Below.refl _ _ | with_reducible assumption | with_reducible refine Below.drew ?_ | with_reducible refine below_drewN ?_ _ | with_reducible refine below_call ?_ (Nat.le_refl _) hbA))
          rintro e wC ⟨rfl, hbC⟩)))
    all_goals
      have hbw : Below w5.heap.size w5 wC := (by repeat (first | with_reducible exact Below.refl _ _ | with_reducible assumption | with_reducible refine Below.drew ?_ | with_reducible refine below_drewN ?_ _ | with_reducible refine below_call ?_ (Nat.le_refl _) hbC | with_reducible refine below_call ?_ (Nat.le_refl _) hbA))
      go_wp2_with fail
      go_ret
      exact ⟨rfl, hB5.trans (hbw.mono hB5.size)⟩
end Go.Proofs.YtmbpjjehnfjdiaaDoor.lawPlaceMoves
