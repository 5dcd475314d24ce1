/-
  The contract of the specification's Next.
-/
import Derived.Test.YtpjlgahbbmlngaaDoorTreeLeavesp10
import Derived.Test.YtpjlgahbbmlngaaDoorTreeLeavesp11
import Derived.OwnWalk
namespace Go.Proofs.YtpjlgahbbmlngaaDoor
set_option linter.unusedVariables false
set_option linter.unusedSimpArgs false
open Go.RowKit

abbrev zTok : Obj := .cells #[.int .i64 0, .string { data := #[] }] 23 (0, 0)
theorem fin_tok {w w1 : World} {g : Nat} (x y : Value) (hB : Below w.heap.size w w1) (hg : w.heap.size ≤ g) (h : w1.heap[g]? = some zTok) :
    Below w.heap.size w ((w1.setCell ⟨g, 0, none⟩ x).setCell ⟨g, 1, none⟩ y) ∧ ((w1.setCell ⟨g, 0, none⟩ x).setCell ⟨g, 1, none⟩ y).cell? ⟨g, 0, none⟩ = some x ∧ ((w1.setCell ⟨g, 0, none⟩ x).setCell ⟨g, 1, none⟩ y).cell? ⟨g, 1, none⟩ = some y := by
  have h3 : ((w1.setCell ⟨g, 0, none⟩ x).setCell ⟨g, 1, none⟩ y).heap[g]? = some (.cells #[x, y] 23 (0, 0)) := by
    unfold World.setCell
    simp only [Array.getElem?_modify, h]
    simp
  exact ⟨(hB.setCell (p := ⟨g, 0, none⟩) hg _).setCell (p := ⟨g, 1, none⟩) hg _, Lib.cell_of_heap h3 0, Lib.cell_of_heap h3 1⟩
theorem ret_tok {s : ByteArray} {p : Int × Nat} {a : Int} {x : ByteArray} (h : p.1 = a ∧ s.extract 0 p.2 = x) : Ending.returned (.agg #[.int .i64 a, .string x]) = .returned (.agg #[.int .i64 p.1, .string (s.extract 0 p.2)]) := by rw [h.1, h.2]
abbrev nextR (s : ByteArray) : Ending := .returned (.agg #[.int .i64 (firstP s).1, .string (s.extract 0 (firstP s).2)])
theorem fixj {t : ByteArray} {k j : Nat} {p : Prop} {x : ByteArray} (h : k ≤ j) (hk : p ∧ x = t.extract k (k + (j - k))) : p ∧ x = t.extract k j := by rwa [Nat.add_sub_cancel' h] at hk

set_option maxRecDepth 100000 in
set_option maxHeartbeats 2000000 in
theorem Next_blank (t : ByteArray) (k : Nat) (w : World) (ht : t.size ≤ 60000) (hk : k < t.size) (h1 : blankB (t[k]'hk) = true) :
    Calls Tryd.prog 67 #[.string t, .int .i64 (k : Int)] w fun e w' => e = nextR (t.extract k t.size) ∧ Below w.heap.size w w' := by
  have hz := tail_size t k
  have hb0 := b0_tail hk
  have hk0 : (0 : Int) ≤ (k : Int) := by omega
  have hk9 : (k : Int) < (t.size : Int) := by omega
  have hk1 : k + 1 ≤ t.size := by omega
  have HK : Hid (∀ n, runL blankB (byt (t.extract k t.size)) = n → k + n ≤ t.size → (firstP (t.extract k t.size)).1 = 1 ∧ (t.extract k t.size).extract 0 (firstP (t.extract k t.size)).2 = t.extract k (k + n)) := Lib.hid (fun n hn _ => by
    rw [firstP1 (show beginK (t.extract k t.size) = 1 by unfold beginK; rw [hb0, h1]; rfl)]
    exact ⟨rfl, by simp only; rw [hn, ext_ext]⟩)
  have HR1 : Hid (runL blankB (byt (t.extract k t.size)) = 1 + runL blankB ((byt t).drop (k + 1))) := Lib.hid (by
    have g1 : k < (byt t).length := by rw [byt_length]; exact hk
    rw [byt_drop, runL_step g1 h1]; omega)
  clear hb0
  obtain ⟨w0, hw0⟩ : ∃ w0, w0 = w.alloc zTok := ⟨_, rfl⟩
  have hB0 : Below w.heap.size w w0 := by rw [hw0]; exact (Below.refl _ _).alloc (Nat.le_refl _) _
  have h0 : w0.heap[w.heap.size]? = some zTok := by rw [hw0]; exact heap_alloc_new w _
  have n0 : w0.cell? ⟨w.heap.size, 0, none⟩ = some (.int .i64 0) := Lib.cell_of_heap h0 0
  have n1 : w0.cell? ⟨w.heap.size, 1, none⟩ = some (.string { data := #[] }) := Lib.cell_of_heap h0 1
  have f0 : w0.frozen? ⟨w.heap.size, 0, none⟩ = false := by simp [World.frozen?, h0]
  have f1 : w0.frozen? ⟨w.heap.size, 1, none⟩ = false := by simp [World.frozen?, h0]
  have HB0 := Lib.hid hB0
  have H0 := Lib.hid h0
  have HW0 := Lib.hid hw0
  clear hw0 h0 hB0
  go_enter Tryd.func67, Tryd.ntmps67
  go_wp2_with fail
  rw [← HW0.out]
  refine (RBlank_any _ _).mono ?_
  rw [h1]
  rintro e w0 ⟨rfl, rfl⟩
  go_wp2_with fail
  go_loopw [6] (fun i wr => ∃ j : Nat, k + 1 ≤ j ∧ j ≤ t.size ∧ i = .int .i64 j ∧ runL blankB (byt (t.extract k t.size)) = (j - k) + runL blankB ((byt t).drop j) ∧ wr = w0) (fun i _ => t.size - (intOf i).toNat)
  case atStart => exact ⟨k + 1, by omega, by omega, by go_num, by rw [HR1.out, show k + 1 - k = 1 by omega], rfl⟩
  case round =>
    obtain ⟨j, hj1, hj, rfl, he, rfl⟩ := hrel
    have hj0 : (0 : Int) ≤ (j : Int) := by omega
    have hkj : k ≤ j := by omega
    have hkj2 : (k : Int) ≤ (j : Int) := by omega
    by_cases hlt : j < t.size
    · have g1 : j < (byt t).length := by rw [byt_length]; exact hlt
      have hjs : (j : Int) < (t.size : Int) := by omega
      cases hq : blankB (t[j]'hlt)
      · have He : runL blankB (byt (t.extract k t.size)) = j - k := by rw [he, runL_stop g1 hq]; rfl
        have Hr := Lib.hid (fixj hkj (HK.out (j - k) He (by omega)))
        clear he He
        go_wp2_with fail
        refine (RBlank_any _ _).mono ?_
        rw [hq]
        rintro e w1 ⟨rfl, rfl⟩
        go_wp2_with fail
        obtain ⟨w3, hw3⟩ : ∃ w3, w3 = (w1.setCell ⟨w.heap.size, 0, none⟩ (.int .i64 1)).setCell ⟨w.heap.size, 1, none⟩ (.string (t.extract k j)) := ⟨_, rfl⟩
        rw [← hw3]
        obtain ⟨hB3, p0, p1⟩ := fin_tok (.int .i64 1) (.string (t.extract k j)) HB0.out (Nat.le_refl _) H0.out
        rw [← hw3] at hB3 p0 p1
        clear hw3
        refine bodyPost_ret (by simp [results, Tryd.results67, go_sem, p0, p1]; try rfl) rfl ?_
        exact ⟨ret_tok Hr.out, hB3⟩
      · have He : Hid (runL blankB (byt (t.extract k t.size)) = (j + 1 - k) + runL blankB ((byt t).drop (j + 1))) := Lib.hid (by rw [he, runL_step g1 hq]; omega)
        clear he
        go_wp2_with fail
        refine (RBlank_any _ _).mono ?_
        rw [hq]
        rintro e w1 ⟨rfl, rfl⟩
        go_wp2_with fail
        exact ⟨⟨j + 1, by omega, by omega, by go_num, He.out, by first | rfl | trivial⟩, by simp [intOf]; omega⟩
    · have He : runL blankB (byt (t.extract k t.size)) = j - k := by rw [he, runL_end (by rw [byt_length]; omega)]; rfl
      have hjt : decide ((j : Int) < (t.size : Int)) = false := by simp; omega
      have Hr := Lib.hid (fixj hkj (HK.out (j - k) He (by omega)))
      have hjl : (j : Int) ≤ (t.size : Int) := by omega
      clear he He
      go_wp2_with fail
      obtain ⟨w3, hw3⟩ : ∃ w3, w3 = (wr.setCell ⟨w.heap.size, 0, none⟩ (.int .i64 1)).setCell ⟨w.heap.size, 1, none⟩ (.string (t.extract k j)) := ⟨_, rfl⟩
      rw [← hw3]
      obtain ⟨hB3, p0, p1⟩ := fin_tok (.int .i64 1) (.string (t.extract k j)) HB0.out (Nat.le_refl _) H0.out
      rw [← hw3] at hB3 p0 p1
      clear hw3
      refine bodyPost_ret (by simp [results, Tryd.results67, go_sem, p0, p1]; try rfl) rfl ?_
      exact ⟨ret_tok Hr.out, hB3⟩

set_option maxRecDepth 100000 in
set_option maxHeartbeats 2000000 in
theorem Next_remark (t : ByteArray) (k : Nat) (w : World) (ht : t.size ≤ 60000) (hk : k < t.size) (h1 : blankB (t[k]'hk) = false) (hr : preB (t.extract k t.size) slashes = true) :
    Calls Tryd.prog 67 #[.string t, .int .i64 (k : Int)] w fun e w' => e = nextR (t.extract k t.size) ∧ Below w.heap.size w w' := by
  have hz := tail_size t k
  have hb0 := b0_tail hk
  have hk0 : (0 : Int) ≤ (k : Int) := by omega
  have hk9 : (k : Int) < (t.size : Int) := by omega
  have hk1 : k + 1 ≤ t.size := by omega
  have hrem : ∀ W, Calls Tryd.prog 87 #[.string t, .int .i64 (k : Int)] W fun e w' => e = .returned (.bool true) ∧ w' = W := fun W => by
    have := remark_any t k W ht hk
    rwa [hr] at this
  have Hrem := Lib.hid hrem
  clear hrem
  have hlin : ∀ W, Calls Tryd.prog 88 #[.string t, .int .i64 (k : Int)] W fun e w' => e = .returned (.int .i64 ((k + runL lineB (byt (t.extract k t.size)) : Nat) : Int)) ∧ w' = W := fun W => line_any t k W ht (by omega)
  have hlle := runL_le lineB (byt (t.extract k t.size))
  rw [byt_length, hz] at hlle
  obtain ⟨m, hm⟩ : ∃ m, m = k + runL lineB (byt (t.extract k t.size)) := ⟨_, rfl⟩
  rw [← hm] at hlin
  have hm1 : k ≤ m := by omega
  have hm2 : m ≤ t.size := by omega
  have hmi1 : (k : Int) ≤ (m : Int) := by omega
  have hmi2 : (m : Int) ≤ (t.size : Int) := by omega
  have HM := Lib.hid hm
  have Hlin := Lib.hid hlin
  clear hlin hlle hm
  have Hr : Hid ((firstP (t.extract k t.size)).1 = 2 ∧ (t.extract k t.size).extract 0 (firstP (t.extract k t.size)).2 = t.extract k m) := Lib.hid (by
    rw [firstP2 (begin2 hr), HM.out]
    exact ⟨rfl, by simp only; rw [ext_ext]⟩)
  clear hb0
  obtain ⟨w0, hw0⟩ : ∃ w0, w0 = w.alloc zTok := ⟨_, rfl⟩
  have hB0 : Below w.heap.size w w0 := by rw [hw0]; exact (Below.refl _ _).alloc (Nat.le_refl _) _
  have h0 : w0.heap[w.heap.size]? = some zTok := by rw [hw0]; exact heap_alloc_new w _
  have n0 : w0.cell? ⟨w.heap.size, 0, none⟩ = some (.int .i64 0) := Lib.cell_of_heap h0 0
  have n1 : w0.cell? ⟨w.heap.size, 1, none⟩ = some (.string { data := #[] }) := Lib.cell_of_heap h0 1
  have f0 : w0.frozen? ⟨w.heap.size, 0, none⟩ = false := by simp [World.frozen?, h0]
  have f1 : w0.frozen? ⟨w.heap.size, 1, none⟩ = false := by simp [World.frozen?, h0]
  have HB0 := Lib.hid hB0
  have H0 := Lib.hid h0
  have HW0 := Lib.hid hw0
  clear hw0 h0 hB0
  go_enter Tryd.func67, Tryd.ntmps67
  go_wp2_with fail
  rw [← HW0.out]
  refine (RBlank_any _ _).mono ?_
  rw [h1]
  rintro e w0 ⟨rfl, rfl⟩
  go_wp2_with fail
  refine (Hrem.out _).mono ?_
  rintro e w0 ⟨rfl, rfl⟩
  go_wp2_with fail
  refine (Hlin.out _).mono ?_
  rintro e w0 ⟨rfl, rfl⟩
  go_wp2_with fail
  obtain ⟨w3, hw3⟩ : ∃ w3, w3 = (w0.setCell ⟨w.heap.size, 0, none⟩ (.int .i64 2)).setCell ⟨w.heap.size, 1, none⟩ (.string (t.extract k m)) := ⟨_, rfl⟩
  rw [← hw3]
  obtain ⟨hB3, p0, p1⟩ := fin_tok (.int .i64 2) (.string (t.extract k m)) HB0.out (Nat.le_refl _) H0.out
  rw [← hw3] at hB3 p0 p1
  clear hw3
  refine bodyPost_ret (by simp [results, Tryd.results67, go_sem, p0, p1]; try rfl) rfl ?_
  exact ⟨ret_tok Hr.out, hB3⟩

set_option maxRecDepth 100000 in
set_option maxHeartbeats 2000000 in
theorem Next_digit (t : ByteArray) (k : Nat) (w : World) (ht : t.size ≤ 60000) (hk : k < t.size) (h1 : blankB (t[k]'hk) = false) (hr : preB (t.extract k t.size) slashes = false) (hl : letterB (t[k]'hk) = false) (h2 : digitB (t[k]'hk) = true) :
    Calls Tryd.prog 67 #[.string t, .int .i64 (k : Int)] w fun e w' => e = nextR (t.extract k t.size) ∧ Below w.heap.size w w' := by
  have hz := tail_size t k
  have hb0 := b0_tail hk
  have hk0 : (0 : Int) ≤ (k : Int) := by omega
  have hk9 : (k : Int) < (t.size : Int) := by omega
  have hk1 : k + 1 ≤ t.size := by omega
  have hrem : ∀ W, Calls Tryd.prog 87 #[.string t, .int .i64 (k : Int)] W fun e w' => e = .returned (.bool false) ∧ w' = W := fun W => by
    have := remark_any t k W ht hk
    rwa [hr] at this
  have Hrem := Lib.hid hrem
  clear hrem
  have HK : Hid (∀ n, runL digitB (byt (t.extract k t.size)) = n → k + n ≤ t.size → (firstP (t.extract k t.size)).1 = 5 ∧ (t.extract k t.size).extract 0 (firstP (t.extract k t.size)).2 = t.extract k (k + n)) := Lib.hid (fun n hn _ => by
    rw [firstP5 (show beginK (t.extract k t.size) = 5 by unfold beginK; rw [hb0, h1, hr, h2]; rfl)]
    exact ⟨rfl, by simp only; rw [hn, ext_ext]⟩)
  have HR1 : Hid (runL digitB (byt (t.extract k t.size)) = 1 + runL digitB ((byt t).drop (k + 1))) := Lib.hid (by
    have g1 : k < (byt t).length := by rw [byt_length]; exact hk
    rw [byt_drop, runL_step g1 h2]; omega)
  clear hb0
  obtain ⟨w0, hw0⟩ : ∃ w0, w0 = w.alloc zTok := ⟨_, rfl⟩
  have hB0 : Below w.heap.size w w0 := by rw [hw0]; exact (Below.refl _ _).alloc (Nat.le_refl _) _
  have h0 : w0.heap[w.heap.size]? = some zTok := by rw [hw0]; exact heap_alloc_new w _
  have n0 : w0.cell? ⟨w.heap.size, 0, none⟩ = some (.int .i64 0) := Lib.cell_of_heap h0 0
  have n1 : w0.cell? ⟨w.heap.size, 1, none⟩ = some (.string { data := #[] }) := Lib.cell_of_heap h0 1
  have f0 : w0.frozen? ⟨w.heap.size, 0, none⟩ = false := by simp [World.frozen?, h0]
  have f1 : w0.frozen? ⟨w.heap.size, 1, none⟩ = false := by simp [World.frozen?, h0]
  have HB0 := Lib.hid hB0
  have H0 := Lib.hid h0
  have HW0 := Lib.hid hw0
  clear hw0 h0 hB0
  go_enter Tryd.func67, Tryd.ntmps67
  go_wp2_with fail
  rw [← HW0.out]
  refine (RBlank_any _ _).mono ?_
  rw [h1]
  rintro e w0 ⟨rfl, rfl⟩
  go_wp2_with fail
  refine (Hrem.out _).mono ?_
  rintro e w0 ⟨rfl, rfl⟩
  go_wp2_with fail
  refine (RLetter_any _ _).mono ?_
  rw [hl]
  rintro e w0 ⟨rfl, rfl⟩
  go_wp2_with fail
  refine (RDigit_any _ _).mono ?_
  rw [h2]
  rintro e w0 ⟨rfl, rfl⟩
  go_wp2_with fail
  go_loopw [6] (fun i wr => ∃ j : Nat, k + 1 ≤ j ∧ j ≤ t.size ∧ i = .int .i64 j ∧ runL digitB (byt (t.extract k t.size)) = (j - k) + runL digitB ((byt t).drop j) ∧ wr = w0) (fun i _ => t.size - (intOf i).toNat)
  case atStart => exact ⟨k + 1, by omega, by omega, by go_num, by rw [HR1.out, show k + 1 - k = 1 by omega], rfl⟩
  case round =>
    obtain ⟨j, hj1, hj, rfl, he, rfl⟩ := hrel
    have hj0 : (0 : Int) ≤ (j : Int) := by omega
    have hkj : k ≤ j := by omega
    have hkj2 : (k : Int) ≤ (j : Int) := by omega
    by_cases hlt : j < t.size
    · have g1 : j < (byt t).length := by rw [byt_length]; exact hlt
      have hjs : (j : Int) < (t.size : Int) := by omega
      cases hq : digitB (t[j]'hlt)
      · have He : runL digitB (byt (t.extract k t.size)) = j - k := by rw [he, runL_stop g1 hq]; rfl
        have Hr := Lib.hid (fixj hkj (HK.out (j - k) He (by omega)))
        clear he He
        go_wp2_with fail
        refine (RDigit_any _ _).mono ?_
        rw [hq]
        rintro e w1 ⟨rfl, rfl⟩
        go_wp2_with fail
        obtain ⟨w3, hw3⟩ : ∃ w3, w3 = (w1.setCell ⟨w.heap.size, 0, none⟩ (.int .i64 5)).setCell ⟨w.heap.size, 1, none⟩ (.string (t.extract k j)) := ⟨_, rfl⟩
        rw [← hw3]
        obtain ⟨hB3, p0, p1⟩ := fin_tok (.int .i64 5) (.string (t.extract k j)) HB0.out (Nat.le_refl _) H0.out
        rw [← hw3] at hB3 p0 p1
        clear hw3
        refine bodyPost_ret (by simp [results, Tryd.results67, go_sem, p0, p1]; try rfl) rfl ?_
        exact ⟨ret_tok Hr.out, hB3⟩
      · have He : Hid (runL digitB (byt (t.extract k t.size)) = (j + 1 - k) + runL digitB ((byt t).drop (j + 1))) := Lib.hid (by rw [he, runL_step g1 hq]; omega)
        clear he
        go_wp2_with fail
        refine (RDigit_any _ _).mono ?_
        rw [hq]
        rintro e w1 ⟨rfl, rfl⟩
        go_wp2_with fail
        exact ⟨⟨j + 1, by omega, by omega, by go_num, He.out, by first | rfl | trivial⟩, by simp [intOf]; omega⟩
    · have He : runL digitB (byt (t.extract k t.size)) = j - k := by rw [he, runL_end (by rw [byt_length]; omega)]; rfl
      have hjt : decide ((j : Int) < (t.size : Int)) = false := by simp; omega
      have Hr := Lib.hid (fixj hkj (HK.out (j - k) He (by omega)))
      have hjl : (j : Int) ≤ (t.size : Int) := by omega
      clear he He
      go_wp2_with fail
      obtain ⟨w3, hw3⟩ : ∃ w3, w3 = (wr.setCell ⟨w.heap.size, 0, none⟩ (.int .i64 5)).setCell ⟨w.heap.size, 1, none⟩ (.string (t.extract k j)) := ⟨_, rfl⟩
      rw [← hw3]
      obtain ⟨hB3, p0, p1⟩ := fin_tok (.int .i64 5) (.string (t.extract k j)) HB0.out (Nat.le_refl _) H0.out
      rw [← hw3] at hB3 p0 p1
      clear hw3
      refine bodyPost_ret (by simp [results, Tryd.results67, go_sem, p0, p1]; try rfl) rfl ?_
      exact ⟨ret_tok Hr.out, hB3⟩

set_option maxRecDepth 100000 in
set_option maxHeartbeats 2000000 in
theorem Next_text (t : ByteArray) (k : Nat) (w : World) (ht : t.size ≤ 60000) (hk : k < t.size) (h1 : blankB (t[k]'hk) = false) (hr : preB (t.extract k t.size) slashes = false) (hl : letterB (t[k]'hk) = false) (hd : digitB (t[k]'hk) = false) (hq : (((t[k]'hk).toNat : Int) == 34) = true) (n : Nat) (he : textE (t.extract k t.size) = some n) :
    Calls Tryd.prog 67 #[.string t, .int .i64 (k : Int)] w fun e w' => e = nextR (t.extract k t.size) ∧ Below w.heap.size w w' := by
  have hz := tail_size t k
  have hb0 := b0_tail hk
  have hk0 : (0 : Int) ≤ (k : Int) := by omega
  have hk9 : (k : Int) < (t.size : Int) := by omega
  have hk1 : k + 1 ≤ t.size := by omega
  have hrem : ∀ W, Calls Tryd.prog 87 #[.string t, .int .i64 (k : Int)] W fun e w' => e = .returned (.bool false) ∧ w' = W := fun W => by
    have := remark_any t k W ht hk
    rwa [hr] at this
  have Hrem := Lib.hid hrem
  clear hrem
  have hquo : ∀ W, Calls Tryd.prog 93 #[.string t, .int .i64 (k : Int)] W fun e w' => e = .returned (.int .i64 ((k + n : Nat) : Int)) ∧ w' = W := fun W => by
    have := quoted_any t k W ht hk
    rwa [show quotedN (t.extract k t.size) k = k + n by unfold quotedN; rw [he]] at this
  have Hquo := Lib.hid hquo
  clear hquo
  have hle := textF_le _ _ _ _ he
  rw [tail_size] at hle
  have hm1 : k ≤ k + n := by omega
  have hm2 : k + n ≤ t.size := by omega
  have hmi1 : (k : Int) ≤ ((k + n : Nat) : Int) := by omega
  have hmi2 : ((k + n : Nat) : Int) ≤ (t.size : Int) := by omega
  have hmi3 : decide ((0 : Int) < ((k + n : Nat) : Int)) = true := by simp only [decide_eq_true_eq]; omega
  have hm0 : 0 < k + n := by omega
  have Hr : Hid ((firstP (t.extract k t.size)).1 = 6 ∧ (t.extract k t.size).extract 0 (firstP (t.extract k t.size)).2 = t.extract k (k + n)) := Lib.hid (by
    rw [firstP6 (by unfold beginK; rw [hb0, h1, hr, part_letter, hl, hd, hq]; rfl)]
    unfold textP
    rw [he]
    exact ⟨rfl, by simp only; rw [ext_ext]⟩)
  clear hb0 he hle
  obtain ⟨m, hm⟩ : ∃ m, m = k + n := ⟨_, rfl⟩
  rw [← hm] at Hquo hm0 hm1 hm2 hmi1 hmi2 hmi3 Hr
  clear hm
  obtain ⟨w0, hw0⟩ : ∃ w0, w0 = w.alloc zTok := ⟨_, rfl⟩
  have hB0 : Below w.heap.size w w0 := by rw [hw0]; exact (Below.refl _ _).alloc (Nat.le_refl _) _
  have h0 : w0.heap[w.heap.size]? = some zTok := by rw [hw0]; exact heap_alloc_new w _
  have n0 : w0.cell? ⟨w.heap.size, 0, none⟩ = some (.int .i64 0) := Lib.cell_of_heap h0 0
  have n1 : w0.cell? ⟨w.heap.size, 1, none⟩ = some (.string { data := #[] }) := Lib.cell_of_heap h0 1
  have f0 : w0.frozen? ⟨w.heap.size, 0, none⟩ = false := by simp [World.frozen?, h0]
  have f1 : w0.frozen? ⟨w.heap.size, 1, none⟩ = false := by simp [World.frozen?, h0]
  have HB0 := Lib.hid hB0
  have H0 := Lib.hid h0
  have HW0 := Lib.hid hw0
  clear hw0 h0 hB0
  go_enter Tryd.func67, Tryd.ntmps67
  go_wp2_with fail
  rw [← HW0.out]
  refine (RBlank_any _ _).mono ?_
  rw [h1]
  rintro e w0 ⟨rfl, rfl⟩
  go_wp2_with fail
  refine (Hrem.out _).mono ?_
  rintro e w0 ⟨rfl, rfl⟩
  go_wp2_with fail
  refine (RLetter_any _ _).mono ?_
  rw [hl]
  rintro e w0 ⟨rfl, rfl⟩
  go_wp2_with fail
  refine (RDigit_any _ _).mono ?_
  rw [hd]
  rintro e w0 ⟨rfl, rfl⟩
  go_wp2_with fail
  refine (Hquo.out _).mono ?_
  rintro e w0 ⟨rfl, rfl⟩
  go_wp2_with fail
  obtain ⟨w3, hw3⟩ : ∃ w3, w3 = (w0.setCell ⟨w.heap.size, 0, none⟩ (.int .i64 6)).setCell ⟨w.heap.size, 1, none⟩ (.string (t.extract k m)) := ⟨_, rfl⟩
  rw [← hw3]
  obtain ⟨hB3, p0, p1⟩ := fin_tok (.int .i64 6) (.string (t.extract k m)) HB0.out (Nat.le_refl _) H0.out
  rw [← hw3] at hB3 p0 p1
  clear hw3
  refine bodyPost_ret (by simp [results, Tryd.results67, go_sem, p0, p1]; try rfl) rfl ?_
  exact ⟨ret_tok Hr.out, hB3⟩

set_option maxRecDepth 100000 in
set_option maxHeartbeats 2000000 in
theorem Next_open (t : ByteArray) (k : Nat) (w : World) (ht : t.size ≤ 60000) (hk : k < t.size) (h1 : blankB (t[k]'hk) = false) (hr : preB (t.extract k t.size) slashes = false) (hl : letterB (t[k]'hk) = false) (hd : digitB (t[k]'hk) = false) (hq : (((t[k]'hk).toNat : Int) == 34) = true) (he : textE (t.extract k t.size) = none) :
    Calls Tryd.prog 67 #[.string t, .int .i64 (k : Int)] w fun e w' => e = nextR (t.extract k t.size) ∧ Below w.heap.size w w' := by
  have hz := tail_size t k
  have hb0 := b0_tail hk
  have hk0 : (0 : Int) ≤ (k : Int) := by omega
  have hk9 : (k : Int) < (t.size : Int) := by omega
  have hk1 : k + 1 ≤ t.size := by omega
  have hrem : ∀ W, Calls Tryd.prog 87 #[.string t, .int .i64 (k : Int)] W fun e w' => e = .returned (.bool false) ∧ w' = W := fun W => by
    have := remark_any t k W ht hk
    rwa [hr] at this
  have Hrem := Lib.hid hrem
  clear hrem
  have hquo : ∀ W, Calls Tryd.prog 93 #[.string t, .int .i64 (k : Int)] W fun e w' => e = .returned (.int .i64 ((0 : Nat) : Int)) ∧ w' = W := fun W => by
    have := quoted_any t k W ht hk
    rwa [show quotedN (t.extract k t.size) k = 0 by unfold quotedN; rw [he]] at this
  have Hquo := Lib.hid hquo
  clear hquo
  have hlin : ∀ W, Calls Tryd.prog 88 #[.string t, .int .i64 (k : Int)] W fun e w' => e = .returned (.int .i64 ((k + runL lineB (byt (t.extract k t.size)) : Nat) : Int)) ∧ w' = W := fun W => line_any t k W ht (by omega)
  have hlle := runL_le lineB (byt (t.extract k t.size))
  rw [byt_length, hz] at hlle
  obtain ⟨m, hm⟩ : ∃ m, m = k + runL lineB (byt (t.extract k t.size)) := ⟨_, rfl⟩
  rw [← hm] at hlin
  have hm1 : k ≤ m := by omega
  have hm2 : m ≤ t.size := by omega
  have hmi1 : (k : Int) ≤ (m : Int) := by omega
  have hmi2 : (m : Int) ≤ (t.size : Int) := by omega
  have HM := Lib.hid hm
  have Hlin := Lib.hid hlin
  clear hlin hlle hm
  have Hr : Hid ((firstP (t.extract k t.size)).1 = 8 ∧ (t.extract k t.size).extract 0 (firstP (t.extract k t.size)).2 = t.extract k m) := Lib.hid (by
    rw [firstP6 (by unfold beginK; rw [hb0, h1, hr, part_letter, hl, hd, hq]; rfl)]
    unfold textP
    rw [he, HM.out]
    exact ⟨rfl, by simp only; rw [ext_ext]⟩)
  clear hb0 he
  obtain ⟨w0, hw0⟩ : ∃ w0, w0 = w.alloc zTok := ⟨_, rfl⟩
  have hB0 : Below w.heap.size w w0 := by rw [hw0]; exact (Below.refl _ _).alloc (Nat.le_refl _) _
  have h0 : w0.heap[w.heap.size]? = some zTok := by rw [hw0]; exact heap_alloc_new w _
  have n0 : w0.cell? ⟨w.heap.size, 0, none⟩ = some (.int .i64 0) := Lib.cell_of_heap h0 0
  have n1 : w0.cell? ⟨w.heap.size, 1, none⟩ = some (.string { data := #[] }) := Lib.cell_of_heap h0 1
  have f0 : w0.frozen? ⟨w.heap.size, 0, none⟩ = false := by simp [World.frozen?, h0]
  have f1 : w0.frozen? ⟨w.heap.size, 1, none⟩ = false := by simp [World.frozen?, h0]
  have HB0 := Lib.hid hB0
  have H0 := Lib.hid h0
  have HW0 := Lib.hid hw0
  clear hw0 h0 hB0
  go_enter Tryd.func67, Tryd.ntmps67
  go_wp2_with fail
  rw [← HW0.out]
  refine (RBlank_any _ _).mono ?_
  rw [h1]
  rintro e w0 ⟨rfl, rfl⟩
  go_wp2_with fail
  refine (Hrem.out _).mono ?_
  rintro e w0 ⟨rfl, rfl⟩
  go_wp2_with fail
  refine (RLetter_any _ _).mono ?_
  rw [hl]
  rintro e w0 ⟨rfl, rfl⟩
  go_wp2_with fail
  refine (RDigit_any _ _).mono ?_
  rw [hd]
  rintro e w0 ⟨rfl, rfl⟩
  go_wp2_with fail
  refine (Hquo.out _).mono ?_
  rintro e w0 ⟨rfl, rfl⟩
  go_wp2_with fail
  refine (Hlin.out _).mono ?_
  rintro e w0 ⟨rfl, rfl⟩
  go_wp2_with fail
  obtain ⟨w3, hw3⟩ : ∃ w3, w3 = (w0.setCell ⟨w.heap.size, 0, none⟩ (.int .i64 8)).setCell ⟨w.heap.size, 1, none⟩ (.string (t.extract k m)) := ⟨_, rfl⟩
  rw [← hw3]
  obtain ⟨hB3, p0, p1⟩ := fin_tok (.int .i64 8) (.string (t.extract k m)) HB0.out (Nat.le_refl _) H0.out
  rw [← hw3] at hB3 p0 p1
  clear hw3
  refine bodyPost_ret (by simp [results, Tryd.results67, go_sem, p0, p1]; try rfl) rfl ?_
  exact ⟨ret_tok Hr.out, hB3⟩

set_option maxRecDepth 100000 in
set_option maxHeartbeats 2000000 in
theorem Next_sign (t : ByteArray) (k : Nat) (w : World) (ht : t.size ≤ 60000) (hk : k < t.size) (h1 : blankB (t[k]'hk) = false) (hr : preB (t.extract k t.size) slashes = false) (hl : letterB (t[k]'hk) = false) (hd : digitB (t[k]'hk) = false) (hq : (((t[k]'hk).toNat : Int) == 34) = false) (hs : 0 < signN (t.extract k t.size)) :
    Calls Tryd.prog 67 #[.string t, .int .i64 (k : Int)] w fun e w' => e = nextR (t.extract k t.size) ∧ Below w.heap.size w w' := by
  have hz := tail_size t k
  have hb0 := b0_tail hk
  have hk0 : (0 : Int) ≤ (k : Int) := by omega
  have hk9 : (k : Int) < (t.size : Int) := by omega
  have hk1 : k + 1 ≤ t.size := by omega
  have hrem : ∀ W, Calls Tryd.prog 87 #[.string t, .int .i64 (k : Int)] W fun e w' => e = .returned (.bool false) ∧ w' = W := fun W => by
    have := remark_any t k W ht hk
    rwa [hr] at this
  have Hrem := Lib.hid hrem
  clear hrem
  have hsig : ∀ W, Calls Tryd.prog 94 #[.string t, .int .i64 (k : Int)] W fun e w' => e = .returned (.int .i64 ((signN (t.extract k t.size) : Nat) : Int)) ∧ Below W.heap.size W w' := fun W => sign_any t k W ht hk
  have hle := signTo_le (t.extract k t.size) 22
  change signN (t.extract k t.size) ≤ _ at hle
  have Hr : Hid ((firstP (t.extract k t.size)).1 = 7 ∧ (t.extract k t.size).extract 0 (firstP (t.extract k t.size)).2 = t.extract k (k + signN (t.extract k t.size))) := Lib.hid (by
    rw [firstP7 (by unfold beginK; rw [hb0, h1, hr, part_letter, hl, hd, hq]; simp [hs])]
    exact ⟨rfl, by simp only; rw [ext_ext]⟩)
  generalize signN (t.extract k t.size) = n at hsig hle Hr hs
  have Hsig := Lib.hid hsig
  have hm1 : k ≤ k + n := by omega
  have hm2 : k + n ≤ t.size := by omega
  have hn3 : decide ((0 : Int) < (n : Int)) = true := by simp; omega
  have hn4 : (0 : Int) ≤ (n : Int) := by omega
  have hmi1 : (k : Int) ≤ (k : Int) + (n : Int) := by omega
  have hmi2 : (k : Int) + (n : Int) ≤ (t.size : Int) := by omega
  have hmi3 : ((k : Int) + (n : Int)).toNat = k + n := by omega
  clear hb0 hsig
  obtain ⟨w0, hw0⟩ : ∃ w0, w0 = w.alloc zTok := ⟨_, rfl⟩
  have hB0 : Below w.heap.size w w0 := by rw [hw0]; exact (Below.refl _ _).alloc (Nat.le_refl _) _
  have h0 : w0.heap[w.heap.size]? = some zTok := by rw [hw0]; exact heap_alloc_new w _
  have n0 : w0.cell? ⟨w.heap.size, 0, none⟩ = some (.int .i64 0) := Lib.cell_of_heap h0 0
  have n1 : w0.cell? ⟨w.heap.size, 1, none⟩ = some (.string { data := #[] }) := Lib.cell_of_heap h0 1
  have f0 : w0.frozen? ⟨w.heap.size, 0, none⟩ = false := by simp [World.frozen?, h0]
  have f1 : w0.frozen? ⟨w.heap.size, 1, none⟩ = false := by simp [World.frozen?, h0]
  have HB0 := Lib.hid hB0
  have H0 := Lib.hid h0
  have HW0 := Lib.hid hw0
  clear hw0 h0 hB0
  go_enter Tryd.func67, Tryd.ntmps67
  go_wp2_with fail
  rw [← HW0.out]
  refine (RBlank_any _ _).mono ?_
  rw [h1]
  rintro e w0 ⟨rfl, rfl⟩
  go_wp2_with fail
  refine (Hrem.out _).mono ?_
  rintro e w0 ⟨rfl, rfl⟩
  go_wp2_with fail
  refine (RLetter_any _ _).mono ?_
  rw [hl]
  rintro e w0 ⟨rfl, rfl⟩
  go_wp2_with fail
  refine (RDigit_any _ _).mono ?_
  rw [hd]
  rintro e w0 ⟨rfl, rfl⟩
  go_wp2_with fail
  refine (Hsig.out _).mono ?_
  rintro e w1 ⟨rfl, hb1⟩
  have hlt0 : w.heap.size < w0.heap.size := lt_of_cell n0
  have h1b := (hb1.block w.heap.size hlt0).trans H0.out
  have hB1 := HB0.out.trans (hb1.mono HB0.out.size)
  have m0 : w1.cell? ⟨w.heap.size, 0, none⟩ = some (.int .i64 0) := Lib.cell_of_heap h1b 0
  have m1 : w1.cell? ⟨w.heap.size, 1, none⟩ = some (.string { data := #[] }) := Lib.cell_of_heap h1b 1
  have g0 : w1.frozen? ⟨w.heap.size, 0, none⟩ = false := by simp [World.frozen?, h1b]
  have g1 : w1.frozen? ⟨w.heap.size, 1, none⟩ = false := by simp [World.frozen?, h1b]
  have H1b := Lib.hid h1b
  have HB1 := Lib.hid hB1
  clear hb1 h1b hB1 n0 n1 f0 f1
  go_wp2_with fail
  obtain ⟨w3, hw3⟩ : ∃ w3, w3 = (w1.setCell ⟨w.heap.size, 0, none⟩ (.int .i64 7)).setCell ⟨w.heap.size, 1, none⟩ (.string (t.extract k (k + n))) := ⟨_, rfl⟩
  rw [← hw3]
  obtain ⟨hB3, p0, p1⟩ := fin_tok (.int .i64 7) (.string (t.extract k (k + n))) HB1.out (Nat.le_refl _) H1b.out
  rw [← hw3] at hB3 p0 p1
  clear hw3
  refine bodyPost_ret (by simp [results, Tryd.results67, go_sem, p0, p1]; try rfl) rfl ?_
  exact ⟨ret_tok Hr.out, hB3⟩

set_option maxRecDepth 100000 in
set_option maxHeartbeats 2000000 in
theorem Next_bad (t : ByteArray) (k : Nat) (w : World) (ht : t.size ≤ 60000) (hk : k < t.size) (h1 : blankB (t[k]'hk) = false) (hr : preB (t.extract k t.size) slashes = false) (hl : letterB (t[k]'hk) = false) (hd : digitB (t[k]'hk) = false) (hq : (((t[k]'hk).toNat : Int) == 34) = false) (hs : signN (t.extract k t.size) = 0) :
    Calls Tryd.prog 67 #[.string t, .int .i64 (k : Int)] w fun e w' => e = nextR (t.extract k t.size) ∧ Below w.heap.size w w' := by
  have hz := tail_size t k
  have hb0 := b0_tail hk
  have hk0 : (0 : Int) ≤ (k : Int) := by omega
  have hk9 : (k : Int) < (t.size : Int) := by omega
  have hk1 : k + 1 ≤ t.size := by omega
  have hrem : ∀ W, Calls Tryd.prog 87 #[.string t, .int .i64 (k : Int)] W fun e w' => e = .returned (.bool false) ∧ w' = W := fun W => by
    have := remark_any t k W ht hk
    rwa [hr] at this
  have Hrem := Lib.hid hrem
  clear hrem
  have hsig : ∀ W, Calls Tryd.prog 94 #[.string t, .int .i64 (k : Int)] W fun e w' => e = .returned (.int .i64 ((0 : Nat) : Int)) ∧ Below W.heap.size W w' := fun W => by
    have := sign_any t k W ht hk
    rwa [hs] at this
  have HK : Hid (∀ n, badN (t.extract k t.size) = n → k + n ≤ t.size → (firstP (t.extract k t.size)).1 = 8 ∧ (t.extract k t.size).extract 0 (firstP (t.extract k t.size)).2 = t.extract k (k + n)) := Lib.hid (fun n hn _ => by
    rw [firstP8 (by unfold beginK; rw [hb0, h1, hr, part_letter, hl, hd, hq]; simp [hs])]
    exact ⟨rfl, by simp only; rw [hn, ext_ext]⟩)
  have HBad : Hid (badN (t.extract k t.size) = badF (t.size - (k + 1)) (t.extract k t.size) (k + 1 - k)) := Lib.hid (by
    unfold badN
    rw [hz, show t.size - k - 1 = t.size - (k + 1) by omega, show k + 1 - k = 1 by omega])
  have Hsig := Lib.hid hsig
  clear hb0 hsig hs
  obtain ⟨w0, hw0⟩ : ∃ w0, w0 = w.alloc zTok := ⟨_, rfl⟩
  have hB0 : Below w.heap.size w w0 := by rw [hw0]; exact (Below.refl _ _).alloc (Nat.le_refl _) _
  have h0 : w0.heap[w.heap.size]? = some zTok := by rw [hw0]; exact heap_alloc_new w _
  have n0 : w0.cell? ⟨w.heap.size, 0, none⟩ = some (.int .i64 0) := Lib.cell_of_heap h0 0
  have n1 : w0.cell? ⟨w.heap.size, 1, none⟩ = some (.string { data := #[] }) := Lib.cell_of_heap h0 1
  have f0 : w0.frozen? ⟨w.heap.size, 0, none⟩ = false := by simp [World.frozen?, h0]
  have f1 : w0.frozen? ⟨w.heap.size, 1, none⟩ = false := by simp [World.frozen?, h0]
  have HB0 := Lib.hid hB0
  have H0 := Lib.hid h0
  have HW0 := Lib.hid hw0
  clear hw0 h0 hB0
  go_enter Tryd.func67, Tryd.ntmps67
  go_wp2_with fail
  rw [← HW0.out]
  refine (RBlank_any _ _).mono ?_
  rw [h1]
  rintro e w0 ⟨rfl, rfl⟩
  go_wp2_with fail
  refine (Hrem.out _).mono ?_
  rintro e w0 ⟨rfl, rfl⟩
  go_wp2_with fail
  refine (RLetter_any _ _).mono ?_
  rw [hl]
  rintro e w0 ⟨rfl, rfl⟩
  go_wp2_with fail
  refine (RDigit_any _ _).mono ?_
  rw [hd]
  rintro e w0 ⟨rfl, rfl⟩
  go_wp2_with fail
  refine (Hsig.out _).mono ?_
  rintro e w1 ⟨rfl, hb1⟩
  have hlt0 : w.heap.size < w0.heap.size := lt_of_cell n0
  have h1b := (hb1.block w.heap.size hlt0).trans H0.out
  have hB1 := HB0.out.trans (hb1.mono HB0.out.size)
  have m0 : w1.cell? ⟨w.heap.size, 0, none⟩ = some (.int .i64 0) := Lib.cell_of_heap h1b 0
  have m1 : w1.cell? ⟨w.heap.size, 1, none⟩ = some (.string { data := #[] }) := Lib.cell_of_heap h1b 1
  have g0 : w1.frozen? ⟨w.heap.size, 0, none⟩ = false := by simp [World.frozen?, h1b]
  have g1 : w1.frozen? ⟨w.heap.size, 1, none⟩ = false := by simp [World.frozen?, h1b]
  have H1b := Lib.hid h1b
  have HB1 := Lib.hid hB1
  clear hb1 h1b hB1 n0 n1 f0 f1
  go_wp2_with fail
  go_loopw [6] (fun i wr => ∃ j : Nat, k + 1 ≤ j ∧ j ≤ t.size ∧ i = .int .i64 j ∧ badN (t.extract k t.size) = badF (t.size - j) (t.extract k t.size) (j - k) ∧ Below w.heap.size w wr ∧ wr.heap[w.heap.size]? = some zTok) (fun i _ => t.size - (intOf i).toNat)
  case atStart => exact ⟨k + 1, by omega, by omega, by go_num, HBad.out, HB1.out, H1b.out⟩
  case round =>
    obtain ⟨j, hj1, hj, rfl, he, hB, hblk⟩ := hrel
    have hj0 : (0 : Int) ≤ (j : Int) := by omega
    have hkj : k ≤ j := by omega
    have hkj2 : (k : Int) ≤ (j : Int) := by omega
    have hws : w.heap.size < wr.heap.size := lt_of_cell (Lib.cell_of_heap hblk 0)
    clear m0 m1 g0 g1
    by_cases hlt : j < t.size
    · have hjs : (j : Int) < (t.size : Int) := by omega
      have hbg := RBegins_any t j wr ht hlt
      rw [begins_eq] at hbg
      have hbf : badF (t.size - j) (t.extract k t.size) (j - k) = if beginK (t.extract j t.size) = 8 then badF (t.size - (j + 1)) (t.extract k t.size) (j + 1 - k) else j - k := by
        rw [show t.size - j = t.size - (j + 1) + 1 by omega]
        simp only [badF]
        rw [tail_tail, show k + (j - k) = j by omega, show j - k + 1 = j + 1 - k by omega]
      by_cases h8 : beginK (t.extract j t.size) = 8
      · have He : Hid (badN (t.extract k t.size) = badF (t.size - (j + 1)) (t.extract k t.size) (j + 1 - k)) := Lib.hid (by rw [he, hbf, if_pos h8])
        rw [decide_eq_false (not_not_intro h8)] at hbg
        have Hbg := Lib.hid hbg
        have HBl := Lib.hid hblk
        clear he hbf h8 hbg hblk
        go_wp2_with fail
        refine Hbg.out.mono ?_
        rintro e w2 ⟨rfl, hb2⟩
        have hB2 := hB.trans (hb2.mono hB.size)
        have hblk2 := (hb2.block w.heap.size hws).trans HBl.out
        go_wp2_with fail
        exact ⟨⟨j + 1, by omega, by omega, by go_num, He.out, hB2, hblk2⟩, by simp [intOf]; omega⟩
      · have He : badN (t.extract k t.size) = j - k := by rw [he, hbf, if_neg h8]
        rw [decide_eq_true h8] at hbg
        have Hbg := Lib.hid hbg
        have HBl := Lib.hid hblk
        have Hr := Lib.hid (fixj hkj (HK.out (j - k) He (by omega)))
        clear he hbf h8 hbg hblk He
        go_wp2_with fail
        refine Hbg.out.mono ?_
        rintro e w2 ⟨rfl, hb2⟩
        have hB2 := hB.trans (hb2.mono hB.size)
        have hblk2 := (hb2.block w.heap.size hws).trans HBl.out
        have m0 : w2.cell? ⟨w.heap.size, 0, none⟩ = some (.int .i64 0) := Lib.cell_of_heap hblk2 0
        have m1 : w2.cell? ⟨w.heap.size, 1, none⟩ = some (.string { data := #[] }) := Lib.cell_of_heap hblk2 1
        have g0 : w2.frozen? ⟨w.heap.size, 0, none⟩ = false := by simp [World.frozen?, hblk2]
        have g1 : w2.frozen? ⟨w.heap.size, 1, none⟩ = false := by simp [World.frozen?, hblk2]
        have HBl2 := Lib.hid hblk2
        have HB2 := Lib.hid hB2
        clear hblk2 hB2 hb2 hB
        go_wp2_with fail
        obtain ⟨w3, hw3⟩ : ∃ w3, w3 = (w2.setCell ⟨w.heap.size, 0, none⟩ (.int .i64 8)).setCell ⟨w.heap.size, 1, none⟩ (.string (t.extract k j)) := ⟨_, rfl⟩
        rw [← hw3]
        obtain ⟨hB3, p0, p1⟩ := fin_tok (.int .i64 8) (.string (t.extract k j)) HB2.out (Nat.le_refl _) HBl2.out
        rw [← hw3] at hB3 p0 p1
        clear hw3
        refine bodyPost_ret (by simp [results, Tryd.results67, go_sem, p0, p1]; try rfl) rfl ?_
        exact ⟨ret_tok Hr.out, hB3⟩
    · have hjt : decide ((j : Int) < (t.size : Int)) = false := by simp; omega
      have He : badN (t.extract k t.size) = j - k := by rw [he, show t.size - j = 0 by omega]; rfl
      have Hr := Lib.hid (fixj hkj (HK.out (j - k) He (by omega)))
      have hjl : (j : Int) ≤ (t.size : Int) := by omega
      have m0 : wr.cell? ⟨w.heap.size, 0, none⟩ = some (.int .i64 0) := Lib.cell_of_heap hblk 0
      have m1 : wr.cell? ⟨w.heap.size, 1, none⟩ = some (.string { data := #[] }) := Lib.cell_of_heap hblk 1
      have g0 : wr.frozen? ⟨w.heap.size, 0, none⟩ = false := by simp [World.frozen?, hblk]
      have g1 : wr.frozen? ⟨w.heap.size, 1, none⟩ = false := by simp [World.frozen?, hblk]
      have HBl2 := Lib.hid hblk
      have HB2 := Lib.hid hB
      clear he He hblk hB
      go_wp2_with fail
      obtain ⟨w3, hw3⟩ : ∃ w3, w3 = (wr.setCell ⟨w.heap.size, 0, none⟩ (.int .i64 8)).setCell ⟨w.heap.size, 1, none⟩ (.string (t.extract k j)) := ⟨_, rfl⟩
      rw [← hw3]
      obtain ⟨hB3, p0, p1⟩ := fin_tok (.int .i64 8) (.string (t.extract k j)) HB2.out (Nat.le_refl _) HBl2.out
      rw [← hw3] at hB3 p0 p1
      clear hw3
      refine bodyPost_ret (by simp [results, Tryd.results67, go_sem, p0, p1]; try rfl) rfl ?_
      exact ⟨ret_tok Hr.out, hB3⟩

set_option maxRecDepth 100000 in
set_option maxHeartbeats 2000000 in
theorem Next_name (t : ByteArray) (k : Nat) (w : World) (ht : t.size ≤ 60000) (hk : k < t.size) (h1 : blankB (t[k]'hk) = false) (hr : preB (t.extract k t.size) slashes = false) (hl : letterB (t[k]'hk) = true) :
    Calls Tryd.prog 67 #[.string t, .int .i64 (k : Int)] w fun e w' => e = nextR (t.extract k t.size) ∧ Below w.heap.size w w' := by
  have hz := tail_size t k
  have hb0 := b0_tail hk
  have hk0 : (0 : Int) ≤ (k : Int) := by omega
  have hk9 : (k : Int) < (t.size : Int) := by omega
  have hk1 : k + 1 ≤ t.size := by omega
  have hrem : ∀ W, Calls Tryd.prog 87 #[.string t, .int .i64 (k : Int)] W fun e w' => e = .returned (.bool false) ∧ w' = W := fun W => by
    have := remark_any t k W ht hk
    rwa [hr] at this
  have Hrem := Lib.hid hrem
  clear hrem
  have hpt : partB (t[k]'hk) = true := by rw [part_letter, hl]; rfl
  have HK : Hid (∀ (n : Nat) (kd : Int), runL partB (byt (t.extract k t.size)) = n → k + n ≤ t.size → (if hasB wordsB (t.extract k (k + n)) = true then (4 : Int) else 3) = kd → (firstP (t.extract k t.size)).1 = kd ∧ (t.extract k t.size).extract 0 (firstP (t.extract k t.size)).2 = t.extract k (k + n)) := Lib.hid (fun n kd hn _ hkd => by
    rw [firstP3 (by unfold beginK; rw [hb0, h1, hr, letter_digit hl, hpt]; rfl)]
    unfold nameP
    simp only
    rw [hn, ext_ext, wordTo_mem]
    exact ⟨hkd, rfl⟩)
  have HR1 : Hid (runL partB (byt (t.extract k t.size)) = 1 + runL partB ((byt t).drop (k + 1))) := Lib.hid (by
    have g1 : k < (byt t).length := by rw [byt_length]; exact hk
    rw [byt_drop, runL_step g1 hpt]; omega)
  clear hb0 hpt
  obtain ⟨w0, hw0⟩ : ∃ w0, w0 = w.alloc zTok := ⟨_, rfl⟩
  have hB0 : Below w.heap.size w w0 := by rw [hw0]; exact (Below.refl _ _).alloc (Nat.le_refl _) _
  have h0 : w0.heap[w.heap.size]? = some zTok := by rw [hw0]; exact heap_alloc_new w _
  have n0 : w0.cell? ⟨w.heap.size, 0, none⟩ = some (.int .i64 0) := Lib.cell_of_heap h0 0
  have n1 : w0.cell? ⟨w.heap.size, 1, none⟩ = some (.string { data := #[] }) := Lib.cell_of_heap h0 1
  have f0 : w0.frozen? ⟨w.heap.size, 0, none⟩ = false := by simp [World.frozen?, h0]
  have f1 : w0.frozen? ⟨w.heap.size, 1, none⟩ = false := by simp [World.frozen?, h0]
  have HB0 := Lib.hid hB0
  have H0 := Lib.hid h0
  have HW0 := Lib.hid hw0
  clear hw0 h0 hB0
  go_enter Tryd.func67, Tryd.ntmps67
  go_wp2_with fail
  rw [← HW0.out]
  refine (RBlank_any _ _).mono ?_
  rw [h1]
  rintro e w0 ⟨rfl, rfl⟩
  go_wp2_with fail
  refine (Hrem.out _).mono ?_
  rintro e w0 ⟨rfl, rfl⟩
  go_wp2_with fail
  refine (RLetter_any _ _).mono ?_
  rw [hl]
  rintro e w0 ⟨rfl, rfl⟩
  go_wp2_with fail
  go_loopw [6] (fun i wr => ∃ j : Nat, k + 1 ≤ j ∧ j ≤ t.size ∧ i = .int .i64 j ∧ runL partB (byt (t.extract k t.size)) = (j - k) + runL partB ((byt t).drop j) ∧ wr = w0) (fun i _ => t.size - (intOf i).toNat)
  case atStart => exact ⟨k + 1, by omega, by omega, by go_num, by rw [HR1.out, show k + 1 - k = 1 by omega], rfl⟩
  case round =>
    obtain ⟨j, hj1, hj, rfl, he, rfl⟩ := hrel
    have hj0 : (0 : Int) ≤ (j : Int) := by omega
    have hkj : k ≤ j := by omega
    have hkj2 : (k : Int) ≤ (j : Int) := by omega
    by_cases hlt : j < t.size
    · have g1 : j < (byt t).length := by rw [byt_length]; exact hlt
      have hjs : (j : Int) < (t.size : Int) := by omega
      cases hq : partB (t[j]'hlt)
      · have He : runL partB (byt (t.extract k t.size)) = j - k := by rw [he, runL_stop g1 hq]; rfl
        rw [part_letter, Bool.or_eq_false_iff] at hq
        obtain ⟨hq1, hq2⟩ := hq
        cases hw : hasB wordsB (t.extract k j)
        · have Hr := Lib.hid (fixj hkj (HK.out (j - k) 3 He (by omega) (by rw [show k + (j - k) = j by omega, hw]; rfl)))
          clear he He
          go_wp2_with fail
          refine (RLetter_any _ _).mono ?_
          rw [hq1]
          rintro e wr ⟨rfl, rfl⟩
          go_wp2_with fail
          refine (RDigit_any _ _).mono ?_
          rw [hq2]
          rintro e wr ⟨rfl, rfl⟩
          go_wp2_with fail
          go_region_held3 (fun _ => True) (trivial) ((first
            | (go_simp
               go_at_call 92
               refine (RWords_any _).mono ?_
               rintro e wS ⟨rfl, hS, hbS⟩)
            | (go_simp
               go_at_call 91
               refine (has_any _ 12 12 wordsB _ _ (by rfl) (by decide) (by first | exact hS | exact StrsV.drew hS | exact StrsV.drewN hS _)).mono ?_
               rintro e wH ⟨rfl, rfl⟩)))
          all_goals
            have hbW : Below wr.heap.size wr wH := by
              first
              | exact (Below.drew (Below.refl _ _)).trans hbS
              | exact ((Below.drew (Below.refl _ _)).trans hbS).drew
              | exact (below_drewT (Below.refl _ _) _).trans hbS
            have hlt0 : w.heap.size < wr.heap.size := lt_of_cell n0
            have h1b := (hbW.block w.heap.size hlt0).trans H0.out
            have hB1 := HB0.out.trans (hbW.mono HB0.out.size)
            have m0 : wH.cell? ⟨w.heap.size, 0, none⟩ = some (.int .i64 0) := Lib.cell_of_heap h1b 0
            have m1 : wH.cell? ⟨w.heap.size, 1, none⟩ = some (.string { data := #[] }) := Lib.cell_of_heap h1b 1
            have g0 : wH.frozen? ⟨w.heap.size, 0, none⟩ = false := by simp [World.frozen?, h1b]
            have g1 : wH.frozen? ⟨w.heap.size, 1, none⟩ = false := by simp [World.frozen?, h1b]
            have H1b := Lib.hid h1b
            have HB1 := Lib.hid hB1
            clear hbW h1b hB1 n0 n1 f0 f1 hS hbS
            go_wp2_with fail
            obtain ⟨w3, hw3⟩ : ∃ w3, w3 = (wH.setCell ⟨w.heap.size, 0, none⟩ (.int .i64 3)).setCell ⟨w.heap.size, 1, none⟩ (.string (t.extract k j)) := ⟨_, rfl⟩
            rw [← hw3]
            obtain ⟨hB3, p0, p1⟩ := fin_tok (.int .i64 3) (.string (t.extract k j)) HB1.out (Nat.le_refl _) H1b.out
            rw [← hw3] at hB3 p0 p1
            clear hw3
            refine bodyPost_ret (by simp [results, Tryd.results67, go_sem, p0, p1]; try rfl) rfl ?_
            exact ⟨ret_tok Hr.out, hB3⟩
        · have Hr := Lib.hid (fixj hkj (HK.out (j - k) 4 He (by omega) (by rw [show k + (j - k) = j by omega, hw]; rfl)))
          clear he He
          go_wp2_with fail
          refine (RLetter_any _ _).mono ?_
          rw [hq1]
          rintro e wr ⟨rfl, rfl⟩
          go_wp2_with fail
          refine (RDigit_any _ _).mono ?_
          rw [hq2]
          rintro e wr ⟨rfl, rfl⟩
          go_wp2_with fail
          go_region_held3 (fun _ => True) (trivial) ((first
            | (go_simp
               go_at_call 92
               refine (RWords_any _).mono ?_
               rintro e wS ⟨rfl, hS, hbS⟩)
            | (go_simp
               go_at_call 91
               refine (has_any _ 12 12 wordsB _ _ (by rfl) (by decide) (by first | exact hS | exact StrsV.drew hS | exact StrsV.drewN hS _)).mono ?_
               rintro e wH ⟨rfl, rfl⟩)))
          all_goals
            have hbW : Below wr.heap.size wr wH := by
              first
              | exact (Below.drew (Below.refl _ _)).trans hbS
              | exact ((Below.drew (Below.refl _ _)).trans hbS).drew
              | exact (below_drewT (Below.refl _ _) _).trans hbS
            have hlt0 : w.heap.size < wr.heap.size := lt_of_cell n0
            have h1b := (hbW.block w.heap.size hlt0).trans H0.out
            have hB1 := HB0.out.trans (hbW.mono HB0.out.size)
            have m0 : wH.cell? ⟨w.heap.size, 0, none⟩ = some (.int .i64 0) := Lib.cell_of_heap h1b 0
            have m1 : wH.cell? ⟨w.heap.size, 1, none⟩ = some (.string { data := #[] }) := Lib.cell_of_heap h1b 1
            have g0 : wH.frozen? ⟨w.heap.size, 0, none⟩ = false := by simp [World.frozen?, h1b]
            have g1 : wH.frozen? ⟨w.heap.size, 1, none⟩ = false := by simp [World.frozen?, h1b]
            have H1b := Lib.hid h1b
            have HB1 := Lib.hid hB1
            clear hbW h1b hB1 n0 n1 f0 f1 hS hbS
            go_wp2_with fail
            obtain ⟨w3, hw3⟩ : ∃ w3, w3 = (wH.setCell ⟨w.heap.size, 0, none⟩ (.int .i64 4)).setCell ⟨w.heap.size, 1, none⟩ (.string (t.extract k j)) := ⟨_, rfl⟩
            rw [← hw3]
            obtain ⟨hB3, p0, p1⟩ := fin_tok (.int .i64 4) (.string (t.extract k j)) HB1.out (Nat.le_refl _) H1b.out
            rw [← hw3] at hB3 p0 p1
            clear hw3
            refine bodyPost_ret (by simp [results, Tryd.results67, go_sem, p0, p1]; try rfl) rfl ?_
            exact ⟨ret_tok Hr.out, hB3⟩
      · have He : Hid (runL partB (byt (t.extract k t.size)) = (j + 1 - k) + runL partB ((byt t).drop (j + 1))) := Lib.hid (by rw [he, runL_step g1 hq]; omega)
        clear he
        rw [part_letter] at hq
        cases hq1 : letterB (t[j]'hlt)
        · rw [hq1, Bool.false_or] at hq
          go_wp2_with fail
          refine (RLetter_any _ _).mono ?_
          rw [hq1]
          rintro e w1 ⟨rfl, rfl⟩
          go_wp2_with fail
          refine (RDigit_any _ _).mono ?_
          rw [hq]
          rintro e w1 ⟨rfl, rfl⟩
          go_wp2_with fail
          exact ⟨⟨j + 1, by omega, by omega, by go_num, He.out, by first | rfl | trivial⟩, by simp [intOf]; omega⟩
        · clear hq
          go_wp2_with fail
          refine (RLetter_any _ _).mono ?_
          rw [hq1]
          rintro e w1 ⟨rfl, rfl⟩
          go_wp2_with fail
          exact ⟨⟨j + 1, by omega, by omega, by go_num, He.out, by first | rfl | trivial⟩, by simp [intOf]; omega⟩
    · have He : runL partB (byt (t.extract k t.size)) = j - k := by rw [he, runL_end (by rw [byt_length]; omega)]; rfl
      have hjt : decide ((j : Int) < (t.size : Int)) = false := by simp; omega
      have hjl : (j : Int) ≤ (t.size : Int) := by omega
      cases hw : hasB wordsB (t.extract k j)
      · have Hr := Lib.hid (fixj hkj (HK.out (j - k) 3 He (by omega) (by rw [show k + (j - k) = j by omega, hw]; rfl)))
        clear he He
        go_wp2_with fail
        go_region_held3 (fun _ => True) (trivial) ((first
          | (go_simp
             go_at_call 92
             refine (RWords_any _).mono ?_
             rintro e wS ⟨rfl, hS, hbS⟩)
          | (go_simp
             go_at_call 91
             refine (has_any _ 12 12 wordsB _ _ (by rfl) (by decide) (by first | exact hS | exact StrsV.drew hS | exact StrsV.drewN hS _)).mono ?_
             rintro e wH ⟨rfl, rfl⟩)))
        all_goals
          have hbW : Below wr.heap.size wr wH := by
            first
            | exact (Below.drew (Below.refl _ _)).trans hbS
            | exact ((Below.drew (Below.refl _ _)).trans hbS).drew
            | exact (below_drewT (Below.refl _ _) _).trans hbS
          have hlt0 : w.heap.size < wr.heap.size := lt_of_cell n0
          have h1b := (hbW.block w.heap.size hlt0).trans H0.out
          have hB1 := HB0.out.trans (hbW.mono HB0.out.size)
          have m0 : wH.cell? ⟨w.heap.size, 0, none⟩ = some (.int .i64 0) := Lib.cell_of_heap h1b 0
          have m1 : wH.cell? ⟨w.heap.size, 1, none⟩ = some (.string { data := #[] }) := Lib.cell_of_heap h1b 1
          have g0 : wH.frozen? ⟨w.heap.size, 0, none⟩ = false := by simp [World.frozen?, h1b]
          have g1 : wH.frozen? ⟨w.heap.size, 1, none⟩ = false := by simp [World.frozen?, h1b]
          have H1b := Lib.hid h1b
          have HB1 := Lib.hid hB1
          clear hbW h1b hB1 n0 n1 f0 f1 hS hbS
          go_wp2_with fail
          obtain ⟨w3, hw3⟩ : ∃ w3, w3 = (wH.setCell ⟨w.heap.size, 0, none⟩ (.int .i64 3)).setCell ⟨w.heap.size, 1, none⟩ (.string (t.extract k j)) := ⟨_, rfl⟩
          rw [← hw3]
          obtain ⟨hB3, p0, p1⟩ := fin_tok (.int .i64 3) (.string (t.extract k j)) HB1.out (Nat.le_refl _) H1b.out
          rw [← hw3] at hB3 p0 p1
          clear hw3
          refine bodyPost_ret (by simp [results, Tryd.results67, go_sem, p0, p1]; try rfl) rfl ?_
          exact ⟨ret_tok Hr.out, hB3⟩
      · have Hr := Lib.hid (fixj hkj (HK.out (j - k) 4 He (by omega) (by rw [show k + (j - k) = j by omega, hw]; rfl)))
        clear he He
        go_wp2_with fail
        go_region_held3 (fun _ => True) (trivial) ((first
          | (go_simp
             go_at_call 92
             refine (RWords_any _).mono ?_
             rintro e wS ⟨rfl, hS, hbS⟩)
          | (go_simp
             go_at_call 91
             refine (has_any _ 12 12 wordsB _ _ (by rfl) (by decide) (by first | exact hS | exact StrsV.drew hS | exact StrsV.drewN hS _)).mono ?_
             rintro e wH ⟨rfl, rfl⟩)))
        all_goals
          have hbW : Below wr.heap.size wr wH := by
            first
            | exact (Below.drew (Below.refl _ _)).trans hbS
            | exact ((Below.drew (Below.refl _ _)).trans hbS).drew
            | exact (below_drewT (Below.refl _ _) _).trans hbS
          have hlt0 : w.heap.size < wr.heap.size := lt_of_cell n0
          have h1b := (hbW.block w.heap.size hlt0).trans H0.out
          have hB1 := HB0.out.trans (hbW.mono HB0.out.size)
          have m0 : wH.cell? ⟨w.heap.size, 0, none⟩ = some (.int .i64 0) := Lib.cell_of_heap h1b 0
          have m1 : wH.cell? ⟨w.heap.size, 1, none⟩ = some (.string { data := #[] }) := Lib.cell_of_heap h1b 1
          have g0 : wH.frozen? ⟨w.heap.size, 0, none⟩ = false := by simp [World.frozen?, h1b]
          have g1 : wH.frozen? ⟨w.heap.size, 1, none⟩ = false := by simp [World.frozen?, h1b]
          have H1b := Lib.hid h1b
          have HB1 := Lib.hid hB1
          clear hbW h1b hB1 n0 n1 f0 f1 hS hbS
          go_wp2_with fail
          obtain ⟨w3, hw3⟩ : ∃ w3, w3 = (wH.setCell ⟨w.heap.size, 0, none⟩ (.int .i64 4)).setCell ⟨w.heap.size, 1, none⟩ (.string (t.extract k j)) := ⟨_, rfl⟩
          rw [← hw3]
          obtain ⟨hB3, p0, p1⟩ := fin_tok (.int .i64 4) (.string (t.extract k j)) HB1.out (Nat.le_refl _) H1b.out
          rw [← hw3] at hB3 p0 p1
          clear hw3
          refine bodyPost_ret (by simp [results, Tryd.results67, go_sem, p0, p1]; try rfl) rfl ?_
          exact ⟨ret_tok Hr.out, hB3⟩

theorem Next_any (t : ByteArray) (k : Nat) (w : World) (ht : t.size ≤ 60000) (hk : k < t.size) :
    Calls Tryd.prog 67 #[.string t, .int .i64 (k : Int)] w fun e w' => e = nextR (t.extract k t.size) ∧ Below w.heap.size w w' := by
  cases h1 : blankB (t[k]'hk)
  · cases hr : preB (t.extract k t.size) slashes
    · cases hl : letterB (t[k]'hk)
      · cases hd : digitB (t[k]'hk)
        · cases hq : (((t[k]'hk).toNat : Int) == 34)
          · rcases Nat.eq_zero_or_pos (signN (t.extract k t.size)) with hs | hs
            · exact Next_bad t k w ht hk h1 hr hl hd hq hs
            · exact Next_sign t k w ht hk h1 hr hl hd hq hs
          · cases he : textE (t.extract k t.size) with
            | none => exact Next_open t k w ht hk h1 hr hl hd hq he
            | some n => exact Next_text t k w ht hk h1 hr hl hd hq n he
        · exact Next_digit t k w ht hk h1 hr hl hd
      · exact Next_name t k w ht hk h1 hr hl
    · exact Next_remark t k w ht hk h1 hr
  · exact Next_blank t k w ht hk h1
end Go.Proofs.YtpjlgahbbmlngaaDoor
