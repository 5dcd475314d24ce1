/-
  Line of ropes.
-/
import Derived.Test.YtmbpjjehnfjdiaaDoorFeed
namespace Go.Proofs.YtmbpjjehnfjdiaaDoor
set_option linter.unusedVariables false
set_option linter.unusedSimpArgs false
open Go.RowKit

theorem feeds_ok {t : Pc} (h : t.good) (h2 : 0 < t.feeds) : t.ok := by
  rcases h with rfl | h
  · simp [Pc.feeds] at h2
  · exact h
theorem set_heap_new (w : World) (cs : Array Value) (T : TypeId) (m j : Nat) (v : Value) : (((w.alloc (.cells cs T)).drewN m).setCell ⟨w.heap.size, j, none⟩ v).heap[w.heap.size]? = some (.cells (cs.set! j v) T (0, 0)) := by
  have h1 : ((w.alloc (.cells cs T)).drewN m).heap[w.heap.size]? = some (.cells cs T (0, 0)) := by
    have : ((w.alloc (.cells cs T)).drewN m).heap = (w.alloc (.cells cs T)).heap := by simp
    rw [this]; exact heap_alloc_new w _
  unfold World.setCell
  simp only [Array.getElem?_modify, h1]
  simp
def spanV (p : Int × Int) : Value := .agg #[.int .i64 p.1, .int .i64 p.2]

set_option maxRecDepth 100000 in
set_option maxHeartbeats 2000000 in
theorem Line_ok (v bef : Value) (t : Pc) (n : Nat) (w : World) (hts : t.size ≤ 60000) (hn : n ≤ t.feeds) (hR : RopeAt w v t bef) :
    Calls Tryd.prog 30 #[v, .int .i64 n] w fun e w' => e = .returned (.tuple #[spanV (lineAt t.text n), .int .i64 0]) ∧ Below w.heap.size w w' := by
  have hw0 : Below w.heap.size w (w.alloc (.cells #[.int .i64 0, .int .i64 0] 39)) := (Below.refl _ _).alloc (Nat.le_refl _) _
  have hfe := t.feeds_le
  have hfl : ∀ k, feedAt t.text k ≤ 60000 := fun k => by have := feedAt_le t.text k; rw [t.size_text] at this; omega
  obtain ⟨w0, hw00⟩ : ∃ w0, w0 = w.alloc (.cells #[.int .i64 0, .int .i64 0] 39) := ⟨_, rfl⟩
  have hlt0 : w.heap.size < w0.heap.size := by rw [hw00]; simp
  have hnew : w0.heap[w.heap.size]? = some (.cells #[.int .i64 0, .int .i64 0] 39 (0, 0)) := by rw [hw00]; exact heap_alloc_new w _
  have hR0 : RopeAt w0 v t bef := by rw [hw00]; exact hR.below hw0
  rw [← hw00] at hw0
  obtain ⟨r, vroot, rfl, hh, hp, hg⟩ := id hR0
  obtain ⟨oroot, rfl⟩ := good_pointer hp
  have c1 : w0.cell? ⟨r, 1, none⟩ = some (.pointer oroot) := cell_of hh 1
  have hrl := lt_of hh
  have HP := Lib.hid hp
  clear hh hp hR
  go_enter Tryd.func30, Tryd.ntmps30
  go_wp2_with fail
  rw [← hw00]
  clear hw00
  refine (isMade_any _ bef t w0 hR0).mono ?_
  rintro e w1 ⟨rfl, rfl⟩
  go_wp2_with fail
  refine (Lines_any _ bef t w0 hts hR0).mono ?_
  rintro e w1 ⟨rfl, hb1⟩
  have hR1 := hR0.below hb1
  go_wp2_with fail
  refine (Len_any _ bef t w1 hR1).mono ?_
  rintro e w2 ⟨rfl, hb2⟩
  have hB2 := hb1.trans (hb2.mono hb1.size)
  have hR2 := hR1.below hb2
  have HP2 := Lib.hid (HP.out.belowTop hB2)
  have c2 : w2.cell? ⟨r, 1, none⟩ = some (.pointer oroot) := ((bcell hB2).1 r 1 hrl).trans c1
  have hnew2 := (hB2.block _ hlt0).trans hnew
  have hz2 := hB2.size
  have hrl2 : r < w2.heap.size := Nat.lt_of_lt_of_le hrl hz2
  have frz : ∀ (X : World) (b j : Nat) (cs : Array Value) (T : TypeId), X.heap[b]? = some (.cells cs T (0, 0)) → X.frozen? ⟨b, j, none⟩ = false := fun X b j cs T h => by simp [World.frozen?, h]
  have hok : 0 < t.feeds → t.ok := feeds_ok hg
  have FL := Lib.hid hfl
  have HW := Lib.hid hw0
  clear hfl
  by_cases h0 : n = 0
  · subst h0
    by_cases h1 : 0 < t.feeds
    · skip
      have Hla := Lib.hid (show lineAt t.text 0 = (0, (feedAt t.text 0 : Int)) by unfold lineAt; rw [if_pos rfl])
      have hb3 : Below w2.heap.size w2 (w2.alloc (.cells #[.int .i64 0, .int .i64 (t.size : Int)] 39)) := (Below.refl _ _).alloc (Nat.le_refl _) _
      have q1 : decide ((0 : Int) < (t.feeds : Int)) = true := by simp; omega
      go_wp2_with fail
      refine (Lines_any _ bef t _ hts (hR2.below hb3)).mono ?_
      rintro e w4 ⟨rfl, hb4⟩
      have hbox := (hb4.block w2.heap.size (by simp)).trans (heap_alloc_new w2 _)
      have hB4 : Below w0.heap.size w0 w4 := (hB2.trans (hb3.mono hz2)).trans (hb4.mono (by simp; omega))
      have d0 : w4.cell? ⟨w2.heap.size, 0, none⟩ = some (.int .i64 (0)) := cell_of hbox 0
      have d1 : w4.cell? ⟨w2.heap.size, 1, none⟩ = some (.int .i64 (t.size : Int)) := cell_of hbox 1
      have c4 : w4.cell? ⟨r, 1, none⟩ = some (.pointer oroot) := ((bcell hB4).1 r 1 hrl).trans c1
      have g1 := frz w4 w2.heap.size 1 _ _ hbox
      have hl2 := FL.out 0
      go_wp2_with fail
      refine (feed_any t _ 0 _ hts (hok (by omega)) (by omega) (HP.out.belowTop hB4)).mono ?_
      rintro e w5 ⟨rfl, m5, rfl⟩
      have hBX : Below w0.heap.size w0 ((w4.drewN m5).setCell ⟨w2.heap.size, 1, none⟩ (.int .i64 (feedAt t.text 0 : Int))) := (below_drewN hB4 m5).setCell (p := ⟨w2.heap.size, 1, none⟩) hz2 _
      have hnewX := (hBX.block _ hlt0).trans hnew
      have e0 := cell_of hnewX 0
      have e1 := cell_of hnewX 1
      have f0 := frz _ w.heap.size 0 _ _ hnewX
      have f1 := frz _ w.heap.size 1 _ _ hnewX
      simp only [List.getElem?_toArray, List.getElem?_cons_zero, List.getElem?_cons_succ] at e0 e1
      have hBW := HW.out.trans (hBX.mono HW.out.size)
      go_wp2_with fail
      refine bodyPost_ret (v := .tuple #[spanV (lineAt t.text 0), .int .i64 0]) (by rw [Hla.out]; simp [results, Tryd.results30, go_sem, spanV, e0, e1]) rfl ⟨rfl, (hBW.setCell (p := ⟨w.heap.size, 0, none⟩) (Nat.le_refl _) _).setCell (p := ⟨w.heap.size, 1, none⟩) (Nat.le_refl _) _⟩
    · skip
      have Hla := Lib.hid (show lineAt t.text 0 = (0, (t.size : Int)) by unfold lineAt; rw [if_pos rfl]; rw [feedAt_none _ 0 (by rw [t.feeds_text]; omega), t.size_text])
      have hb3 : Below w2.heap.size w2 (w2.alloc (.cells #[.int .i64 0, .int .i64 (t.size : Int)] 39)) := (Below.refl _ _).alloc (Nat.le_refl _) _
      have q1 : decide ((0 : Int) < (t.feeds : Int)) = false := by simp; omega
      go_wp2_with fail
      refine (Lines_any _ bef t _ hts (hR2.below hb3)).mono ?_
      rintro e w4 ⟨rfl, hb4⟩
      have hbox := (hb4.block w2.heap.size (by simp)).trans (heap_alloc_new w2 _)
      have hB4 : Below w0.heap.size w0 w4 := (hB2.trans (hb3.mono hz2)).trans (hb4.mono (by simp; omega))
      have d0 : w4.cell? ⟨w2.heap.size, 0, none⟩ = some (.int .i64 (0)) := cell_of hbox 0
      have d1 : w4.cell? ⟨w2.heap.size, 1, none⟩ = some (.int .i64 (t.size : Int)) := cell_of hbox 1
      have c4 : w4.cell? ⟨r, 1, none⟩ = some (.pointer oroot) := ((bcell hB4).1 r 1 hrl).trans c1
      have g1 := frz w4 w2.heap.size 1 _ _ hbox
      have hBX := hB4
      have hnewX := (hBX.block _ hlt0).trans hnew
      have e0 := cell_of hnewX 0
      have e1 := cell_of hnewX 1
      have f0 := frz _ w.heap.size 0 _ _ hnewX
      have f1 := frz _ w.heap.size 1 _ _ hnewX
      simp only [List.getElem?_toArray, List.getElem?_cons_zero, List.getElem?_cons_succ] at e0 e1
      have hBW := HW.out.trans (hBX.mono HW.out.size)
      go_wp2_with fail
      refine bodyPost_ret (v := .tuple #[spanV (lineAt t.text 0), .int .i64 0]) (by rw [Hla.out]; simp [results, Tryd.results30, go_sem, spanV, e0, e1]) rfl ⟨rfl, (hBW.setCell (p := ⟨w.heap.size, 0, none⟩) (Nat.le_refl _) _).setCell (p := ⟨w.heap.size, 1, none⟩) (Nat.le_refl _) _⟩
  · by_cases h1 : n < t.feeds
    · skip
      have Hla := Lib.hid (show lineAt t.text n = ((feedAt t.text (n - 1) : Int) + 1, (feedAt t.text n : Int)) by unfold lineAt; rw [if_neg h0])
      have hb3 : Below w2.heap.size w2 (w2.alloc (.cells #[.int .i64 0, .int .i64 (t.size : Int)] 39)) := (Below.refl _ _).alloc (Nat.le_refl _) _
      have q1 : decide (((n : Int) : Int) < (t.feeds : Int)) = true := by simp; omega
      have q0 : decide ((0 : Int) < (n : Int)) = true := by simp; omega
      have s1 : IntKind.i64.wrap ((n : Int) - 1) = ((n - 1 : Nat) : Int) := by rw [IntWalk.i64_in _ (by omega)]; omega
      have hl1 := FL.out (n - 1)
      go_wp2_with fail
      refine (feed_any t _ (n - 1) _ hts (hok (by omega)) (by omega) (HP2.out.belowTop hb3)).mono ?_
      rintro e w3 ⟨rfl, m, rfl⟩
      have hb3m := below_drewN hb3 m
      have hb3s := hb3m.setCell (p := ⟨w2.heap.size, 0, none⟩) (Nat.le_refl _) (.int .i64 ((feedAt t.text (n - 1) : Int) + 1))
      go_wp2_with fail
      refine (Lines_any _ bef t _ hts (hR2.below hb3s)).mono ?_
      rintro e w4 ⟨rfl, hb4⟩
      have hbox0 : (((w2.alloc (.cells #[.int .i64 0, .int .i64 (t.size : Int)] 39)).drewN m).setCell ⟨w2.heap.size, 0, none⟩ (.int .i64 ((feedAt t.text (n - 1) : Int) + 1))).heap[w2.heap.size]? = some (.cells #[.int .i64 ((feedAt t.text (n - 1) : Int) + 1), .int .i64 (t.size : Int)] 39 (0, 0)) := by
        rw [set_heap_new]; simp
      have hbox := (hb4.block w2.heap.size (lt_of hbox0)).trans hbox0
      have hB4 : Below w0.heap.size w0 w4 := (hB2.trans (hb3s.mono hz2)).trans (hb4.mono (Nat.le_trans hz2 hb3s.size))
      have d0 : w4.cell? ⟨w2.heap.size, 0, none⟩ = some (.int .i64 ((feedAt t.text (n - 1) : Int) + 1)) := cell_of hbox 0
      have d1 : w4.cell? ⟨w2.heap.size, 1, none⟩ = some (.int .i64 (t.size : Int)) := cell_of hbox 1
      have c4 : w4.cell? ⟨r, 1, none⟩ = some (.pointer oroot) := ((bcell hB4).1 r 1 hrl).trans c1
      have g1 := frz w4 w2.heap.size 1 _ _ hbox
      have hl2 := FL.out n
      go_wp2_with fail
      refine (feed_any t _ n _ hts (hok (by omega)) (by omega) (HP.out.belowTop hB4)).mono ?_
      rintro e w5 ⟨rfl, m5, rfl⟩
      have hBX : Below w0.heap.size w0 ((w4.drewN m5).setCell ⟨w2.heap.size, 1, none⟩ (.int .i64 (feedAt t.text n : Int))) := (below_drewN hB4 m5).setCell (p := ⟨w2.heap.size, 1, none⟩) hz2 _
      have hnewX := (hBX.block _ hlt0).trans hnew
      have e0 := cell_of hnewX 0
      have e1 := cell_of hnewX 1
      have f0 := frz _ w.heap.size 0 _ _ hnewX
      have f1 := frz _ w.heap.size 1 _ _ hnewX
      simp only [List.getElem?_toArray, List.getElem?_cons_zero, List.getElem?_cons_succ] at e0 e1
      have hBW := HW.out.trans (hBX.mono HW.out.size)
      go_wp2_with fail
      refine bodyPost_ret (v := .tuple #[spanV (lineAt t.text n), .int .i64 0]) (by rw [Hla.out]; simp [results, Tryd.results30, go_sem, spanV, e0, e1]) rfl ⟨rfl, (hBW.setCell (p := ⟨w.heap.size, 0, none⟩) (Nat.le_refl _) _).setCell (p := ⟨w.heap.size, 1, none⟩) (Nat.le_refl _) _⟩
    · skip
      have Hla := Lib.hid (show lineAt t.text n = ((feedAt t.text (n - 1) : Int) + 1, (t.size : Int)) by unfold lineAt; rw [if_neg h0]; rw [feedAt_none _ n (by rw [t.feeds_text]; omega), t.size_text])
      have hb3 : Below w2.heap.size w2 (w2.alloc (.cells #[.int .i64 0, .int .i64 (t.size : Int)] 39)) := (Below.refl _ _).alloc (Nat.le_refl _) _
      have q1 : decide (((n : Int) : Int) < (t.feeds : Int)) = false := by simp; omega
      have q0 : decide ((0 : Int) < (n : Int)) = true := by simp; omega
      have s1 : IntKind.i64.wrap ((n : Int) - 1) = ((n - 1 : Nat) : Int) := by rw [IntWalk.i64_in _ (by omega)]; omega
      have hl1 := FL.out (n - 1)
      go_wp2_with fail
      refine (feed_any t _ (n - 1) _ hts (hok (by omega)) (by omega) (HP2.out.belowTop hb3)).mono ?_
      rintro e w3 ⟨rfl, m, rfl⟩
      have hb3m := below_drewN hb3 m
      have hb3s := hb3m.setCell (p := ⟨w2.heap.size, 0, none⟩) (Nat.le_refl _) (.int .i64 ((feedAt t.text (n - 1) : Int) + 1))
      go_wp2_with fail
      refine (Lines_any _ bef t _ hts (hR2.below hb3s)).mono ?_
      rintro e w4 ⟨rfl, hb4⟩
      have hbox0 : (((w2.alloc (.cells #[.int .i64 0, .int .i64 (t.size : Int)] 39)).drewN m).setCell ⟨w2.heap.size, 0, none⟩ (.int .i64 ((feedAt t.text (n - 1) : Int) + 1))).heap[w2.heap.size]? = some (.cells #[.int .i64 ((feedAt t.text (n - 1) : Int) + 1), .int .i64 (t.size : Int)] 39 (0, 0)) := by
        rw [set_heap_new]; simp
      have hbox := (hb4.block w2.heap.size (lt_of hbox0)).trans hbox0
      have hB4 : Below w0.heap.size w0 w4 := (hB2.trans (hb3s.mono hz2)).trans (hb4.mono (Nat.le_trans hz2 hb3s.size))
      have d0 : w4.cell? ⟨w2.heap.size, 0, none⟩ = some (.int .i64 ((feedAt t.text (n - 1) : Int) + 1)) := cell_of hbox 0
      have d1 : w4.cell? ⟨w2.heap.size, 1, none⟩ = some (.int .i64 (t.size : Int)) := cell_of hbox 1
      have c4 : w4.cell? ⟨r, 1, none⟩ = some (.pointer oroot) := ((bcell hB4).1 r 1 hrl).trans c1
      have g1 := frz w4 w2.heap.size 1 _ _ hbox
      have hBX := hB4
      have hnewX := (hBX.block _ hlt0).trans hnew
      have e0 := cell_of hnewX 0
      have e1 := cell_of hnewX 1
      have f0 := frz _ w.heap.size 0 _ _ hnewX
      have f1 := frz _ w.heap.size 1 _ _ hnewX
      simp only [List.getElem?_toArray, List.getElem?_cons_zero, List.getElem?_cons_succ] at e0 e1
      have hBW := HW.out.trans (hBX.mono HW.out.size)
      go_wp2_with fail
      refine bodyPost_ret (v := .tuple #[spanV (lineAt t.text n), .int .i64 0]) (by rw [Hla.out]; simp [results, Tryd.results30, go_sem, spanV, e0, e1]) rfl ⟨rfl, (hBW.setCell (p := ⟨w.heap.size, 0, none⟩) (Nat.le_refl _) _).setCell (p := ⟨w.heap.size, 1, none⟩) (Nat.le_refl _) _⟩
end Go.Proofs.YtmbpjjehnfjdiaaDoor
