/-
  Line of ropes where there is none; the specification's IsSpan; shows.
-/
import Derived.Test.YtmbpjjehnfjdiaaLineR
import Derived.Test.YtmbpjjehnfjdiaaRLines
import Derived.Test.YtmbpjjehnfjdiaaOwn
namespace Go.Proofs.Ytmbpjjehnfjdiaa
set_option linter.unusedVariables false
set_option linter.unusedSimpArgs false
open Go.RowKit

theorem rIsSpan_any (a b n : Int) (w : World) :
    Calls Try.prog 41 #[.agg #[.int .i64 a, .int .i64 b], .int .i64 n] w fun e w' => e = .returned (.bool (isSpanB a b n)) ∧ Below w.heap.size w w' := by
  go_enter Try.func41, Try.ntmps41
  go_wp2
  all_goals
    go_ret
    exact ⟨ret_bool (by unfold isSpanB; rw [Bool.eq_iff_iff]; simp; omega), (Below.refl _ _).alloc (Nat.le_refl _) _⟩

set_option maxRecDepth 100000 in
set_option maxHeartbeats 2000000 in
theorem Line_no (v bef : Value) (t : Pc) (n : Int) (w : World) (hts : t.size ≤ 60000) (hn : n < 0 ∨ (t.feeds : Int) < n) (hR : RopeAt w v t bef) :
    Calls Try.prog 42 #[v, .int .i64 n] w fun e w' => e = .returned (.tuple #[spanV (0, 0), .int .i64 2]) ∧ Below w.heap.size w w' := by
  have hw0 : Below w.heap.size w (w.alloc (.cells #[.int .i64 0, .int .i64 0] 36)) := (Below.refl _ _).alloc (Nat.le_refl _) _
  have hfe := t.feeds_le
  have frz : ∀ (X : World) (b j : Nat) (cs : Array Value) (T : TypeId), X.heap[b]? = some (.cells cs T (0, 0)) → X.frozen? ⟨b, j, none⟩ = false := fun X b j cs T h => by simp [World.frozen?, h]
  have hR0 := hR.below hw0
  obtain ⟨r, vroot, rfl, hh, hp, hg⟩ := id hR0
  clear hh hp hR
  by_cases h0 : n < 0
  · have q : decide (n < 0) = true := by simpa using h0
    go_enter Try.func42, Try.ntmps42
    go_wp2_with fail
    refine (isMade_any _ bef t _ hR0).mono ?_
    rintro e w1 ⟨rfl, rfl⟩
    go_wp2_with fail
    exact bodyPost_ret (v := .tuple #[spanV (0, 0), .int .i64 2]) (by simp [results, Try.results42, go_sem, spanV]) rfl ⟨rfl, hw0⟩
  · have q : decide (n < 0) = false := by simp; omega
    have q1 : decide ((t.feeds : Int) + 1 ≤ n) = true := by simp; omega
    go_enter Try.func42, Try.ntmps42
    go_wp2_with fail
    refine (isMade_any _ bef t _ hR0).mono ?_
    rintro e w1 ⟨rfl, rfl⟩
    go_wp2_with fail
    refine (Lines_any _ bef t _ hts hR0).mono ?_
    rintro e w1 ⟨rfl, hb1⟩
    have hnew := (hb1.block w.heap.size (by simp)).trans (heap_alloc_new w _)
    have e0 := cell_of hnew 0
    have e1 := cell_of hnew 1
    have f0 := frz _ w.heap.size 0 _ _ hnew
    have f1 := frz _ w.heap.size 1 _ _ hnew
    simp only [List.getElem?_toArray, List.getElem?_cons_zero, List.getElem?_cons_succ] at e0 e1
    have hBW := hw0.trans (hb1.mono (by simp))
    go_wp2_with fail
    exact bodyPost_ret (v := .tuple #[spanV (0, 0), .int .i64 2]) (by simp [results, Try.results42, go_sem, spanV, e0, e1]) rfl ⟨rfl, (hBW.setCell (p := ⟨w.heap.size, 0, none⟩) (Nat.le_refl _) _).setCell (p := ⟨w.heap.size, 1, none⟩) (Nat.le_refl _) _⟩

theorem byt_mk (l : List UInt8) : byt (mkB l) = l := mkB_toList l

set_option maxRecDepth 100000 in
set_option maxHeartbeats 4000000 in
theorem shows_any (v bef : Value) (t : Pc) (s : ByteArray) (a b n : Int) (w : World) (hs : mkB t.text = s) (hts : t.size ≤ 20000) (hR : RopeAt w v t bef) :
    Calls Try.prog 17 #[v, .string s, .agg #[.int .i64 a, .int .i64 b], .int .i64 n] w fun e w' => e = .returned (.bool true) ∧ Below w.heap.size w w' := by
  have htx : t.text = byt s := by rw [← hs, byt_mk]
  have hsz : t.size = s.size := by rw [← t.size_text, htx, byt_length]
  have hfe : t.feeds = feedsL (byt s) := by rw [← t.feeds_text, htx]
  have hfle := t.feeds_le
  have hll := linesOf_length (byt s)
  have hw0 : Below w.heap.size w (w.alloc (.cells #[.int .i64 a, .int .i64 b] 36)) := (Below.refl _ _).alloc (Nat.le_refl _) _
  obtain ⟨w0, hw00⟩ : ∃ w0, w0 = w.alloc (.cells #[.int .i64 a, .int .i64 b] 36) := ⟨_, rfl⟩
  have hbox : w0.heap[w.heap.size]? = some (.cells #[.int .i64 a, .int .i64 b] 36 (0, 0)) := by rw [hw00]; exact heap_alloc_new w _
  have hlt0 : w.heap.size < w0.heap.size := by rw [hw00]; simp
  have hR0 : RopeAt w0 v t bef := by rw [hw00]; exact hR.below hw0
  rw [← hw00] at hw0
  have HW := Lib.hid hw0
  have Hs := Lib.hid hs
  have Htx := Lib.hid htx
  have hssz : s.size ≤ 20000 := by omega
  have Hll := Lib.hid hll
  have Hfe := Lib.hid hfe
  have Hsz := Lib.hid hsz
  have hspb : isSpanB a b (t.size : Int) = isSpanB a b (s.size : Int) := by rw [hsz]
  have Hspb := Lib.hid hspb
  clear hs htx hR hw0 hll hfe hsz hspb
  obtain ⟨r, vr, rfl, hh, hp, hg⟩ := id hR0
  clear hh hp
  by_cases hn : 0 ≤ n ∧ n ≤ (feedsL (byt s) : Int)
  · obtain ⟨k, rfl⟩ : ∃ k : Nat, n = (k : Int) := ⟨n.toNat, by omega⟩
    have hk : k ≤ feedsL (byt s) := by omega
    have q3 : decide (((linesOf (byt s)).length : Int) ≤ (k : Int)) = false := by simp; have := Hll.out; omega
    have q4 : decide ((k : Int) < ((linesOf (byt s)).length : Int)) = true := by simp; have := Hll.out; omega
    have q5 : (k : Int) < ((linesOf (byt s)).length : Int) := by have := Hll.out; omega
    clear hn
    by_cases h1 : isSpanB a b (s.size : Int) = true
    · have hsp : 0 ≤ a ∧ a ≤ b ∧ b ≤ (s.size : Int) := by simpa [isSpanB] using h1
      obtain ⟨x, rfl⟩ : ∃ x : Nat, a = (x : Int) := ⟨a.toNat, by omega⟩
      obtain ⟨y, rfl⟩ : ∃ y : Nat, b = (y : Int) := ⟨b.toNat, by omega⟩
      have n1 : x ≤ y := by omega
      have n2 : y ≤ s.size := by omega
      have Hcut : Hid (mkB (cutI t.text (x : Int) (y : Int)) = s.extract x y) := Lib.hid (by rw [Htx.out, cutI_sub]; exact mkB_of _)
      have H1 := Lib.hid h1
      clear hsp
      skip
      go_enter Try.func17, Try.ntmps17
      go_wp2_with fail
      rw [← hw00]
      clear hw00
      refine (rLines_own s w0 (by omega)).mono ?_
      rintro e w1 ⟨vl, rfl, hown1, hb1⟩
      obtain ⟨ao, cap, rfl, hao⟩ := own_shape hown1
      have hR1 := hR0.below hb1
      go_wp2_with fail
      refine (Text_any _ bef t w1 (by omega) hR1).mono ?_
      rw [Hs.out]
      rintro e w2 ⟨rfl, hb2⟩
      have hB2 := hb1.trans (hb2.mono hb1.size)
      have hR2 := hR1.below hb2
      go_wp2_with fail
      refine (Len_any _ bef t w2 hR2).mono ?_
      rw [Hsz.out]
      rintro e w3 ⟨rfl, hb3⟩
      have hB3 := hB2.trans (hb3.mono hB2.size)
      have hR3 := hR2.below hb3
      go_wp2_with fail
      refine (Lines_any _ bef t w3 (by omega) hR3).mono ?_
      rw [Hfe.out, show ((feedsL (byt s) : Nat) : Int) + 1 = ((linesOf (byt s)).length : Int) by rw [Hll.out]; omega]
      rintro e w4 ⟨rfl, hb4⟩
      have hB4 := hB3.trans (hb4.mono hB3.size)
      have hR4 := hR3.below hb4
      have hown4 := ownsRow_below (ownsRow_below (ownsRow_below hown1 hb2) hb3) hb4
      have hbx4 := (hB4.block _ hlt0).trans hbox
      have a0 : w4.cell? ⟨w.heap.size, 0, none⟩ = some (.int .i64 (x : Int)) := cell_of hbx4 0
      have a1 : w4.cell? ⟨w.heap.size, 1, none⟩ = some (.int .i64 (y : Int)) := cell_of hbx4 1
      clear hown1 hR1 hR2 hR3
      go_wp2_with fail
      refine (Slice_ok _ bef t (x : Int) (y : Int) w4 (Hspb.out.trans h1) (by omega) hR4).mono ?_
      rw [Hcut.out]
      rintro e w5 ⟨rfl, hb5⟩
      have hB5 := hB4.trans (hb5.mono hB4.size)
      have hR5 := hR4.below hb5
      have hown5 := ownsRow_below hown4 hb5
      have hbx5 := (hB5.block _ hlt0).trans hbox
      have b0 : w5.cell? ⟨w.heap.size, 0, none⟩ = some (.int .i64 (x : Int)) := cell_of hbx5 0
      have b1 : w5.cell? ⟨w.heap.size, 1, none⟩ = some (.int .i64 (y : Int)) := cell_of hbx5 1
      clear hown4 hR4
      go_wp2_with fail
      refine (rIsSpan_any (x : Int) (y : Int) (s.size : Int) w5).mono ?_
      rw [H1.out]
      rintro e w6 ⟨rfl, hb6⟩
      have hB6 := hB5.trans (hb6.mono hB5.size)
      have hR6 := hR5.below hb6
      have hown6 := ownsRow_below hown5 hb6
      have hbx6 := (hB6.block _ hlt0).trans hbox
      have p0 : w6.cell? ⟨w.heap.size, 0, none⟩ = some (.int .i64 (x : Int)) := cell_of hbx6 0
      have p1 : w6.cell? ⟨w.heap.size, 1, none⟩ = some (.int .i64 (y : Int)) := cell_of hbx6 1
      clear hown5 hR5
      go_wp2_with fail
      refine (Line_ok _ bef t k w6 (by omega) (by have := Hfe.out; omega) hR6).mono ?_
      rw [Htx.out]
      rintro e w7 ⟨rfl, hb7⟩
      have hown7 := ownsRow_below hown6 hb7
      have hkl : k < (linesOf (byt s)).length := by rw [Hll.out]; omega
      obtain ⟨g, rfl, hg1, hg2⟩ := hao (by omega)
      obtain ⟨s1, s2⟩ := sp_get hown7 hkl
      have hge : (linesOf (byt s))[k] = lineAt (byt s) k := by
        have h := linesOf_get (byt s) k (by omega)
        rw [List.getElem?_eq_getElem hkl] at h
        exact Option.some.inj h
      rw [hge] at s1 s2
      clear hown6 hown7
      have hz7 := hb7.size
      have hz6 := hB6.size
      have hgw : g < w7.heap.size := by have := hb2.size; have := hb3.size; have := hb4.size; have := hb5.size; have := hb6.size; omega
      generalize lineAt (byt s) k = la at s1 s2
      simp only [spanV]
      go_wp2_with fail
      go_quiet (fail)
      go_wp2_with fail
      go_ret
      have hB7 := hB6.trans (hb7.mono hz6)
      exact ⟨rfl, HW.out.trans ((below_drewN (hB7.alloc hB7.size _) _).mono HW.out.size)⟩
    · have h1 : isSpanB a b (s.size : Int) = false := Bool.eq_false_iff.2 h1
      have H1 := Lib.hid h1
      skip
      go_enter Try.func17, Try.ntmps17
      go_wp2_with fail
      rw [← hw00]
      clear hw00
      refine (rLines_own s w0 (by omega)).mono ?_
      rintro e w1 ⟨vl, rfl, hown1, hb1⟩
      obtain ⟨ao, cap, rfl, hao⟩ := own_shape hown1
      have hR1 := hR0.below hb1
      go_wp2_with fail
      refine (Text_any _ bef t w1 (by omega) hR1).mono ?_
      rw [Hs.out]
      rintro e w2 ⟨rfl, hb2⟩
      have hB2 := hb1.trans (hb2.mono hb1.size)
      have hR2 := hR1.below hb2
      go_wp2_with fail
      refine (Len_any _ bef t w2 hR2).mono ?_
      rw [Hsz.out]
      rintro e w3 ⟨rfl, hb3⟩
      have hB3 := hB2.trans (hb3.mono hB2.size)
      have hR3 := hR2.below hb3
      go_wp2_with fail
      refine (Lines_any _ bef t w3 (by omega) hR3).mono ?_
      rw [Hfe.out, show ((feedsL (byt s) : Nat) : Int) + 1 = ((linesOf (byt s)).length : Int) by rw [Hll.out]; omega]
      rintro e w4 ⟨rfl, hb4⟩
      have hB4 := hB3.trans (hb4.mono hB3.size)
      have hR4 := hR3.below hb4
      have hown4 := ownsRow_below (ownsRow_below (ownsRow_below hown1 hb2) hb3) hb4
      have hbx4 := (hB4.block _ hlt0).trans hbox
      have a0 : w4.cell? ⟨w.heap.size, 0, none⟩ = some (.int .i64 a) := cell_of hbx4 0
      have a1 : w4.cell? ⟨w.heap.size, 1, none⟩ = some (.int .i64 b) := cell_of hbx4 1
      clear hown1 hR1 hR2 hR3
      go_wp2_with fail
      refine (Slice_no _ bef t a b w4 (Hspb.out.trans h1) hR4).mono ?_
      rintro e w5 ⟨rfl, hb5⟩
      have hB5 := hB4.trans (hb5.mono hB4.size)
      have hR5 := hR4.below hb5
      have hown5 := ownsRow_below hown4 hb5
      have hbx5 := (hB5.block _ hlt0).trans hbox
      have b0 : w5.cell? ⟨w.heap.size, 0, none⟩ = some (.int .i64 a) := cell_of hbx5 0
      have b1 : w5.cell? ⟨w.heap.size, 1, none⟩ = some (.int .i64 b) := cell_of hbx5 1
      clear hown4 hR4
      go_wp2_with fail
      refine (rIsSpan_any a b (s.size : Int) w5).mono ?_
      rw [H1.out]
      rintro e w6 ⟨rfl, hb6⟩
      have hB6 := hB5.trans (hb6.mono hB5.size)
      have hR6 := hR5.below hb6
      have hown6 := ownsRow_below hown5 hb6
      have hbx6 := (hB6.block _ hlt0).trans hbox
      have p0 : w6.cell? ⟨w.heap.size, 0, none⟩ = some (.int .i64 a) := cell_of hbx6 0
      have p1 : w6.cell? ⟨w.heap.size, 1, none⟩ = some (.int .i64 b) := cell_of hbx6 1
      clear hown5 hR5
      go_wp2_with fail
      refine (Line_ok _ bef t k w6 (by omega) (by have := Hfe.out; omega) hR6).mono ?_
      rw [Htx.out]
      rintro e w7 ⟨rfl, hb7⟩
      have hown7 := ownsRow_below hown6 hb7
      have hkl : k < (linesOf (byt s)).length := by rw [Hll.out]; omega
      obtain ⟨g, rfl, hg1, hg2⟩ := hao (by omega)
      obtain ⟨s1, s2⟩ := sp_get hown7 hkl
      have hge : (linesOf (byt s))[k] = lineAt (byt s) k := by
        have h := linesOf_get (byt s) k (by omega)
        rw [List.getElem?_eq_getElem hkl] at h
        exact Option.some.inj h
      rw [hge] at s1 s2
      clear hown6 hown7
      have hz7 := hb7.size
      have hz6 := hB6.size
      have hgw : g < w7.heap.size := by have := hb2.size; have := hb3.size; have := hb4.size; have := hb5.size; have := hb6.size; omega
      generalize lineAt (byt s) k = la at s1 s2
      simp only [spanV]
      go_wp2_with fail
      go_quiet (fail)
      go_wp2_with fail
      go_ret
      have hB7 := hB6.trans (hb7.mono hz6)
      exact ⟨rfl, HW.out.trans ((below_drewN (hB7.alloc hB7.size _) _).mono HW.out.size)⟩
  · have hn2 : n < 0 ∨ (feedsL (byt s) : Int) < n := by omega
    have q6 : (decide (n < 0) = true) ∨ (decide (n < 0) = false ∧ decide (((linesOf (byt s)).length : Int) ≤ n) = true) := by simp; have := Hll.out; omega
    clear hn
    by_cases h1 : isSpanB a b (s.size : Int) = true
    · have hsp : 0 ≤ a ∧ a ≤ b ∧ b ≤ (s.size : Int) := by simpa [isSpanB] using h1
      obtain ⟨x, rfl⟩ : ∃ x : Nat, a = (x : Int) := ⟨a.toNat, by omega⟩
      obtain ⟨y, rfl⟩ : ∃ y : Nat, b = (y : Int) := ⟨b.toNat, by omega⟩
      have n1 : x ≤ y := by omega
      have n2 : y ≤ s.size := by omega
      have Hcut : Hid (mkB (cutI t.text (x : Int) (y : Int)) = s.extract x y) := Lib.hid (by rw [Htx.out, cutI_sub]; exact mkB_of _)
      have H1 := Lib.hid h1
      clear hsp
      rcases q6 with q7 | ⟨q7, q8⟩
      · skip
        skip
        go_enter Try.func17, Try.ntmps17
        go_wp2_with fail
        rw [← hw00]
        clear hw00
        refine (rLines_own s w0 (by omega)).mono ?_
        rintro e w1 ⟨vl, rfl, hown1, hb1⟩
        obtain ⟨ao, cap, rfl, hao⟩ := own_shape hown1
        have hR1 := hR0.below hb1
        go_wp2_with fail
        refine (Text_any _ bef t w1 (by omega) hR1).mono ?_
        rw [Hs.out]
        rintro e w2 ⟨rfl, hb2⟩
        have hB2 := hb1.trans (hb2.mono hb1.size)
        have hR2 := hR1.below hb2
        go_wp2_with fail
        refine (Len_any _ bef t w2 hR2).mono ?_
        rw [Hsz.out]
        rintro e w3 ⟨rfl, hb3⟩
        have hB3 := hB2.trans (hb3.mono hB2.size)
        have hR3 := hR2.below hb3
        go_wp2_with fail
        refine (Lines_any _ bef t w3 (by omega) hR3).mono ?_
        rw [Hfe.out, show ((feedsL (byt s) : Nat) : Int) + 1 = ((linesOf (byt s)).length : Int) by rw [Hll.out]; omega]
        rintro e w4 ⟨rfl, hb4⟩
        have hB4 := hB3.trans (hb4.mono hB3.size)
        have hR4 := hR3.below hb4
        have hown4 := ownsRow_below (ownsRow_below (ownsRow_below hown1 hb2) hb3) hb4
        have hbx4 := (hB4.block _ hlt0).trans hbox
        have a0 : w4.cell? ⟨w.heap.size, 0, none⟩ = some (.int .i64 (x : Int)) := cell_of hbx4 0
        have a1 : w4.cell? ⟨w.heap.size, 1, none⟩ = some (.int .i64 (y : Int)) := cell_of hbx4 1
        clear hown1 hR1 hR2 hR3
        go_wp2_with fail
        refine (Slice_ok _ bef t (x : Int) (y : Int) w4 (Hspb.out.trans h1) (by omega) hR4).mono ?_
        rw [Hcut.out]
        rintro e w5 ⟨rfl, hb5⟩
        have hB5 := hB4.trans (hb5.mono hB4.size)
        have hR5 := hR4.below hb5
        have hown5 := ownsRow_below hown4 hb5
        have hbx5 := (hB5.block _ hlt0).trans hbox
        have b0 : w5.cell? ⟨w.heap.size, 0, none⟩ = some (.int .i64 (x : Int)) := cell_of hbx5 0
        have b1 : w5.cell? ⟨w.heap.size, 1, none⟩ = some (.int .i64 (y : Int)) := cell_of hbx5 1
        clear hown4 hR4
        go_wp2_with fail
        refine (rIsSpan_any (x : Int) (y : Int) (s.size : Int) w5).mono ?_
        rw [H1.out]
        rintro e w6 ⟨rfl, hb6⟩
        have hB6 := hB5.trans (hb6.mono hB5.size)
        have hR6 := hR5.below hb6
        have hown6 := ownsRow_below hown5 hb6
        have hbx6 := (hB6.block _ hlt0).trans hbox
        have p0 : w6.cell? ⟨w.heap.size, 0, none⟩ = some (.int .i64 (x : Int)) := cell_of hbx6 0
        have p1 : w6.cell? ⟨w.heap.size, 1, none⟩ = some (.int .i64 (y : Int)) := cell_of hbx6 1
        clear hown5 hR5
        go_wp2_with fail
        refine (Line_no _ bef t n w6 (by omega) (by have := Hfe.out; omega) hR6).mono ?_
        rintro e w7 ⟨rfl, hb7⟩
        simp only [spanV]
        go_wp2_with fail
        all_goals
          go_ret
          have hB7 := hB6.trans (hb7.mono hB6.size)
          exact ⟨rfl, HW.out.trans ((hB7.alloc hB7.size _).mono HW.out.size)⟩
      · skip
        skip
        go_enter Try.func17, Try.ntmps17
        go_wp2_with fail
        rw [← hw00]
        clear hw00
        refine (rLines_own s w0 (by omega)).mono ?_
        rintro e w1 ⟨vl, rfl, hown1, hb1⟩
        obtain ⟨ao, cap, rfl, hao⟩ := own_shape hown1
        have hR1 := hR0.below hb1
        go_wp2_with fail
        refine (Text_any _ bef t w1 (by omega) hR1).mono ?_
        rw [Hs.out]
        rintro e w2 ⟨rfl, hb2⟩
        have hB2 := hb1.trans (hb2.mono hb1.size)
        have hR2 := hR1.below hb2
        go_wp2_with fail
        refine (Len_any _ bef t w2 hR2).mono ?_
        rw [Hsz.out]
        rintro e w3 ⟨rfl, hb3⟩
        have hB3 := hB2.trans (hb3.mono hB2.size)
        have hR3 := hR2.below hb3
        go_wp2_with fail
        refine (Lines_any _ bef t w3 (by omega) hR3).mono ?_
        rw [Hfe.out, show ((feedsL (byt s) : Nat) : Int) + 1 = ((linesOf (byt s)).length : Int) by rw [Hll.out]; omega]
        rintro e w4 ⟨rfl, hb4⟩
        have hB4 := hB3.trans (hb4.mono hB3.size)
        have hR4 := hR3.below hb4
        have hown4 := ownsRow_below (ownsRow_below (ownsRow_below hown1 hb2) hb3) hb4
        have hbx4 := (hB4.block _ hlt0).trans hbox
        have a0 : w4.cell? ⟨w.heap.size, 0, none⟩ = some (.int .i64 (x : Int)) := cell_of hbx4 0
        have a1 : w4.cell? ⟨w.heap.size, 1, none⟩ = some (.int .i64 (y : Int)) := cell_of hbx4 1
        clear hown1 hR1 hR2 hR3
        go_wp2_with fail
        refine (Slice_ok _ bef t (x : Int) (y : Int) w4 (Hspb.out.trans h1) (by omega) hR4).mono ?_
        rw [Hcut.out]
        rintro e w5 ⟨rfl, hb5⟩
        have hB5 := hB4.trans (hb5.mono hB4.size)
        have hR5 := hR4.below hb5
        have hown5 := ownsRow_below hown4 hb5
        have hbx5 := (hB5.block _ hlt0).trans hbox
        have b0 : w5.cell? ⟨w.heap.size, 0, none⟩ = some (.int .i64 (x : Int)) := cell_of hbx5 0
        have b1 : w5.cell? ⟨w.heap.size, 1, none⟩ = some (.int .i64 (y : Int)) := cell_of hbx5 1
        clear hown4 hR4
        go_wp2_with fail
        refine (rIsSpan_any (x : Int) (y : Int) (s.size : Int) w5).mono ?_
        rw [H1.out]
        rintro e w6 ⟨rfl, hb6⟩
        have hB6 := hB5.trans (hb6.mono hB5.size)
        have hR6 := hR5.below hb6
        have hown6 := ownsRow_below hown5 hb6
        have hbx6 := (hB6.block _ hlt0).trans hbox
        have p0 : w6.cell? ⟨w.heap.size, 0, none⟩ = some (.int .i64 (x : Int)) := cell_of hbx6 0
        have p1 : w6.cell? ⟨w.heap.size, 1, none⟩ = some (.int .i64 (y : Int)) := cell_of hbx6 1
        clear hown5 hR5
        go_wp2_with fail
        refine (Line_no _ bef t n w6 (by omega) (by have := Hfe.out; omega) hR6).mono ?_
        rintro e w7 ⟨rfl, hb7⟩
        simp only [spanV]
        go_wp2_with fail
        all_goals
          go_ret
          have hB7 := hB6.trans (hb7.mono hB6.size)
          exact ⟨rfl, HW.out.trans ((hB7.alloc hB7.size _).mono HW.out.size)⟩
    · have h1 : isSpanB a b (s.size : Int) = false := Bool.eq_false_iff.2 h1
      have H1 := Lib.hid h1
      rcases q6 with q7 | ⟨q7, q8⟩
      · skip
        skip
        go_enter Try.func17, Try.ntmps17
        go_wp2_with fail
        rw [← hw00]
        clear hw00
        refine (rLines_own s w0 (by omega)).mono ?_
        rintro e w1 ⟨vl, rfl, hown1, hb1⟩
        obtain ⟨ao, cap, rfl, hao⟩ := own_shape hown1
        have hR1 := hR0.below hb1
        go_wp2_with fail
        refine (Text_any _ bef t w1 (by omega) hR1).mono ?_
        rw [Hs.out]
        rintro e w2 ⟨rfl, hb2⟩
        have hB2 := hb1.trans (hb2.mono hb1.size)
        have hR2 := hR1.below hb2
        go_wp2_with fail
        refine (Len_any _ bef t w2 hR2).mono ?_
        rw [Hsz.out]
        rintro e w3 ⟨rfl, hb3⟩
        have hB3 := hB2.trans (hb3.mono hB2.size)
        have hR3 := hR2.below hb3
        go_wp2_with fail
        refine (Lines_any _ bef t w3 (by omega) hR3).mono ?_
        rw [Hfe.out, show ((feedsL (byt s) : Nat) : Int) + 1 = ((linesOf (byt s)).length : Int) by rw [Hll.out]; omega]
        rintro e w4 ⟨rfl, hb4⟩
        have hB4 := hB3.trans (hb4.mono hB3.size)
        have hR4 := hR3.below hb4
        have hown4 := ownsRow_below (ownsRow_below (ownsRow_below hown1 hb2) hb3) hb4
        have hbx4 := (hB4.block _ hlt0).trans hbox
        have a0 : w4.cell? ⟨w.heap.size, 0, none⟩ = some (.int .i64 a) := cell_of hbx4 0
        have a1 : w4.cell? ⟨w.heap.size, 1, none⟩ = some (.int .i64 b) := cell_of hbx4 1
        clear hown1 hR1 hR2 hR3
        go_wp2_with fail
        refine (Slice_no _ bef t a b w4 (Hspb.out.trans h1) hR4).mono ?_
        rintro e w5 ⟨rfl, hb5⟩
        have hB5 := hB4.trans (hb5.mono hB4.size)
        have hR5 := hR4.below hb5
        have hown5 := ownsRow_below hown4 hb5
        have hbx5 := (hB5.block _ hlt0).trans hbox
        have b0 : w5.cell? ⟨w.heap.size, 0, none⟩ = some (.int .i64 a) := cell_of hbx5 0
        have b1 : w5.cell? ⟨w.heap.size, 1, none⟩ = some (.int .i64 b) := cell_of hbx5 1
        clear hown4 hR4
        go_wp2_with fail
        refine (rIsSpan_any a b (s.size : Int) w5).mono ?_
        rw [H1.out]
        rintro e w6 ⟨rfl, hb6⟩
        have hB6 := hB5.trans (hb6.mono hB5.size)
        have hR6 := hR5.below hb6
        have hown6 := ownsRow_below hown5 hb6
        have hbx6 := (hB6.block _ hlt0).trans hbox
        have p0 : w6.cell? ⟨w.heap.size, 0, none⟩ = some (.int .i64 a) := cell_of hbx6 0
        have p1 : w6.cell? ⟨w.heap.size, 1, none⟩ = some (.int .i64 b) := cell_of hbx6 1
        clear hown5 hR5
        go_wp2_with fail
        refine (Line_no _ bef t n w6 (by omega) (by have := Hfe.out; omega) hR6).mono ?_
        rintro e w7 ⟨rfl, hb7⟩
        simp only [spanV]
        go_wp2_with fail
        all_goals
          go_ret
          have hB7 := hB6.trans (hb7.mono hB6.size)
          exact ⟨rfl, HW.out.trans ((hB7.alloc hB7.size _).mono HW.out.size)⟩
      · skip
        skip
        go_enter Try.func17, Try.ntmps17
        go_wp2_with fail
        rw [← hw00]
        clear hw00
        refine (rLines_own s w0 (by omega)).mono ?_
        rintro e w1 ⟨vl, rfl, hown1, hb1⟩
        obtain ⟨ao, cap, rfl, hao⟩ := own_shape hown1
        have hR1 := hR0.below hb1
        go_wp2_with fail
        refine (Text_any _ bef t w1 (by omega) hR1).mono ?_
        rw [Hs.out]
        rintro e w2 ⟨rfl, hb2⟩
        have hB2 := hb1.trans (hb2.mono hb1.size)
        have hR2 := hR1.below hb2
        go_wp2_with fail
        refine (Len_any _ bef t w2 hR2).mono ?_
        rw [Hsz.out]
        rintro e w3 ⟨rfl, hb3⟩
        have hB3 := hB2.trans (hb3.mono hB2.size)
        have hR3 := hR2.below hb3
        go_wp2_with fail
        refine (Lines_any _ bef t w3 (by omega) hR3).mono ?_
        rw [Hfe.out, show ((feedsL (byt s) : Nat) : Int) + 1 = ((linesOf (byt s)).length : Int) by rw [Hll.out]; omega]
        rintro e w4 ⟨rfl, hb4⟩
        have hB4 := hB3.trans (hb4.mono hB3.size)
        have hR4 := hR3.below hb4
        have hown4 := ownsRow_below (ownsRow_below (ownsRow_below hown1 hb2) hb3) hb4
        have hbx4 := (hB4.block _ hlt0).trans hbox
        have a0 : w4.cell? ⟨w.heap.size, 0, none⟩ = some (.int .i64 a) := cell_of hbx4 0
        have a1 : w4.cell? ⟨w.heap.size, 1, none⟩ = some (.int .i64 b) := cell_of hbx4 1
        clear hown1 hR1 hR2 hR3
        go_wp2_with fail
        refine (Slice_no _ bef t a b w4 (Hspb.out.trans h1) hR4).mono ?_
        rintro e w5 ⟨rfl, hb5⟩
        have hB5 := hB4.trans (hb5.mono hB4.size)
        have hR5 := hR4.below hb5
        have hown5 := ownsRow_below hown4 hb5
        have hbx5 := (hB5.block _ hlt0).trans hbox
        have b0 : w5.cell? ⟨w.heap.size, 0, none⟩ = some (.int .i64 a) := cell_of hbx5 0
        have b1 : w5.cell? ⟨w.heap.size, 1, none⟩ = some (.int .i64 b) := cell_of hbx5 1
        clear hown4 hR4
        go_wp2_with fail
        refine (rIsSpan_any a b (s.size : Int) w5).mono ?_
        rw [H1.out]
        rintro e w6 ⟨rfl, hb6⟩
        have hB6 := hB5.trans (hb6.mono hB5.size)
        have hR6 := hR5.below hb6
        have hown6 := ownsRow_below hown5 hb6
        have hbx6 := (hB6.block _ hlt0).trans hbox
        have p0 : w6.cell? ⟨w.heap.size, 0, none⟩ = some (.int .i64 a) := cell_of hbx6 0
        have p1 : w6.cell? ⟨w.heap.size, 1, none⟩ = some (.int .i64 b) := cell_of hbx6 1
        clear hown5 hR5
        go_wp2_with fail
        refine (Line_no _ bef t n w6 (by omega) (by have := Hfe.out; omega) hR6).mono ?_
        rintro e w7 ⟨rfl, hb7⟩
        simp only [spanV]
        go_wp2_with fail
        all_goals
          go_ret
          have hB7 := hB6.trans (hb7.mono hB6.size)
          exact ⟨rfl, HW.out.trans ((hB7.alloc hB7.size _).mono HW.out.size)⟩
end Go.Proofs.Ytmbpjjehnfjdiaa
