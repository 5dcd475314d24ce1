/-
  The law's own closed example: alive, of place.
-/
import Derived.Test.YtmbpjjehnfjdiaaDoorPl5
namespace Go.Proofs.YtmbpjjehnfjdiaaDoor
set_option linter.unusedVariables false
set_option linter.unusedSimpArgs false
open Go.RowKit

theorem lt_of_heap {w : World} {b : Nat} {o : Obj} (hb : w.heap[b]? = some o) : b < w.heap.size := by
  rcases Nat.lt_or_ge b w.heap.size with h | h
  · exact h
  · rw [Array.getElem?_eq_none h] at hb; cases hb
theorem OfR.ok {s : ByteArray} {o l c : Nat} {e : Ending} (h : OfR s o e) (hz : s.size ≤ 20000) (hc : ∃ w, Ch s 0 o w) (ho : o ≤ s.size) (hp : PlaceAt s o l c) : e = .returned (.tuple #[.agg #[.int .i64 (l : Int), .int .i64 (c : Int)], .int .i64 0]) := by
  rcases h with ⟨h, _⟩ | ⟨_, o', l', c', h1, _, _, h2, rfl⟩ | ⟨_, h1, _⟩
  · omega
  · obtain rfl : o = o' := by omega
    obtain ⟨rfl, rfl⟩ := hp.det h2
    rfl
  · exfalso
    rcases h1 with h1 | h1 | ⟨o', h1, h2⟩
    · omega
    · omega
    · obtain rfl : o = o' := by omega
      exact h2 hc
theorem OfR.no {s : ByteArray} {o : Nat} {e : Ending} (h : OfR s o e) (hz : s.size ≤ 20000) (hc : ¬ ∃ w, Ch s 0 o w) : e = .returned (.tuple #[.agg #[.int .i64 0, .int .i64 0], .int .i64 2]) := by
  rcases h with ⟨h, _⟩ | ⟨_, o', l', c', h1, _, h2, _, rfl⟩ | ⟨_, _, rfl⟩
  · omega
  · obtain rfl : o = o' := by omega
    exact absurd h2 hc
  · rfl
theorem OffR.ok {s : ByteArray} {a b : Int} {o : Nat} {e : Ending} (h : OffR s a b e) (hz : s.size ≤ 20000) (ho : HasOff s a b o) : e = .returned (.tuple #[.int .i64 (o : Int), .int .i64 0]) := by
  rcases h with ⟨h, _⟩ | ⟨_, o', h1, rfl⟩ | ⟨_, h1, _⟩
  · omega
  · rw [h1.unique ho]
  · exact absurd ⟨o, ho⟩ h1
theorem OffR.no {s : ByteArray} {a b : Int} {e : Ending} (h : OffR s a b e) (hz : s.size ≤ 20000) (ho : ¬ ∃ o : Nat, HasOff s a b o) : e = .returned (.tuple #[.int .i64 0, .int .i64 2]) := by
  rcases h with ⟨h, _⟩ | ⟨_, o', h1, rfl⟩ | ⟨_, _, rfl⟩
  · omega
  · exact absurd ⟨o', h1⟩ ho
  · rfl
def chW (s : ByteArray) : Nat → Nat → Nat → Option Nat
  | 0, a, j => if a = j then some 0 else none
  | f + 1, a, j => if a = j then some 0 else if a < s.size then (chW s f (a + dn s a) j).map (dw s a + ·) else none
theorem chW_sound (s : ByteArray) : ∀ (f a j w : Nat), chW s f a j = some w → Ch s a j w
  | 0, a, j, w, h => by
    unfold chW at h
    split at h
    · rename_i he; subst he; obtain rfl : (0 : Nat) = w := by simpa using h
      exact Ch.refl a
    · cases h
  | f + 1, a, j, w, h => by
    unfold chW at h
    split at h
    · rename_i he; subst he; obtain rfl : (0 : Nat) = w := by simpa using h
      exact Ch.refl a
    · split at h
      · rename_i hs
        obtain ⟨v, hv, rfl⟩ := Option.map_eq_some_iff.1 h
        exact Ch.cons hs (chW_sound s f _ j v hv)
      · cases h
def pb (l : List UInt8) : ByteArray := ⟨l.toArray⟩
def sA : ByteArray := pb [97, 195, 169, 98]
def sB : ByteArray := pb [120, 10, 240, 159, 152, 128, 121]
theorem sA1 : Ch sA 0 3 2 := chW_sound sA 4 0 3 2 (by decide +kernel)
theorem sA2 : PlaceAt sA 3 0 2 := ⟨by decide +kernel, by rw [show LS (byt sA) 3 = 0 by decide +kernel]; exact sA1⟩
theorem sA3 : ¬ ∃ w, Ch sA 0 2 w := by
  rintro ⟨w, hw⟩
  have h : Ch sA 0 1 1 := chW_sound sA 4 0 1 1 (by decide +kernel)
  have hd : dn sA 1 = 2 := by decide +kernel
  exact h.inside (by omega) (by omega) hw
theorem sB0 : lst (byt sB) 1 = 2 ∧ feedAt (byt sB) 1 = 7 ∧ feedsL (byt sB) = 1 ∧ dn sB 2 = 4 ∧ dw sB 2 = 2 := by decide +kernel
theorem sB1 : HasOff sB 1 2 6 := by
  obtain ⟨h1, h2, h3, _, _⟩ := sB0
  exact ⟨1, 2, rfl, rfl, by omega, by omega, by omega, by rw [h1]; exact chW_sound sB 4 2 6 2 (by decide +kernel)⟩
theorem sB2 : ¬ ∃ o : Nat, HasOff sB 1 1 o := by
  obtain ⟨h1, h2, h3, h4, h5⟩ := sB0
  rintro ⟨o, l, c, hl, hc, _, h6, _, h7⟩
  obtain rfl : l = 1 := by omega
  obtain rfl : c = 1 := by omega
  rw [h1] at h6 h7
  rcases Nat.lt_or_ge 2 o with h | h
  · obtain ⟨_, v, hv, _⟩ := h7.next h
    omega
  · obtain rfl : o = 2 := by omega
    have := h7.zero
    omega

set_option maxRecDepth 100000 in
set_option maxHeartbeats 2000000 in
theorem palive_any (w : World) (hT : Lib.Utf8Tabs 0 1 w) :
    Calls Tryd.prog 14 #[] w fun e w' => e = .returned (.bool true) ∧ Below w.heap.size w w' := by
  have za : sA.size ≤ 20000 := by decide
  have zb : sB.size ≤ 20000 := by decide
  go_enter Tryd.func14, Tryd.ntmps14
  go_wp2_with fail
  refine (Of_any sA 3 w (by omega) hT).mono ?_
  rintro e w1 ⟨hR, hb1⟩
  obtain rfl := OfR.ok (o := 3) hR za ⟨2, sA1⟩ (by decide) sA2
  have hw1 : Below w.heap.size w (w1.alloc (.cells #[.int .i64 ((0 : Nat) : Int), .int .i64 ((2 : Nat) : Int)] 23)) := hb1.alloc hb1.size _
  have hnew := heap_alloc_new w1 (.cells #[.int .i64 ((0 : Nat) : Int), .int .i64 ((2 : Nat) : Int)] 23)
  clear hR
  go_wp2_with fail
  refine (Of_any sA 2 _ (by omega) (Utf8Tabs_below hT hw1)).mono ?_
  rintro e w2 ⟨hR, hb2⟩
  obtain rfl := OfR.no (o := 2) hR za sA3
  have hB2 := hw1.trans (hb2.mono hw1.size)
  have hbx := (hb2.block w1.heap.size (by simp)).trans hnew
  clear hR
  have hw2 : Below w.heap.size w (w2.alloc (.cells #[.int .i64 0, .int .i64 0] 23)) := hB2.alloc hB2.size _
  have hbx2 := (((Below.refl w2.heap.size w2).alloc (Nat.le_refl _) (.cells #[.int .i64 0, .int .i64 0] 23)).block w1.heap.size (by have := hb2.size; simp at this; omega)).trans hbx
  go_wp2_with fail
  refine (Offset_any sB 1 2 _ (by omega)).mono ?_
  rintro e w3 ⟨hR, hb3⟩
  obtain rfl := hR.ok zb sB1
  have hB3 := hw2.trans (hb3.mono hw2.size)
  have hbx3 := (hb3.block w1.heap.size (lt_of_heap hbx2)).trans hbx2
  clear hR
  go_wp2_with fail
  refine (Offset_any sB 1 1 _ (by omega)).mono ?_
  rintro e w4 ⟨hR, hb4⟩
  obtain rfl := hR.no zb sB2
  have hB4 := hB3.trans (hb4.mono hB3.size)
  have hbx4 := (hb4.block w1.heap.size (lt_of_heap hbx3)).trans hbx3
  have e0 : w4.cell? ⟨w1.heap.size, 0, none⟩ = some (.int .i64 0) := Lib.cell_of_heap hbx4 0
  have e1 : w4.cell? ⟨w1.heap.size, 1, none⟩ = some (.int .i64 2) := Lib.cell_of_heap hbx4 1
  clear hR hbx hbx2 hbx3 hbx4 hnew
  go_wp2_with fail
  go_ret
  exact ⟨rfl, hB4⟩
end Go.Proofs.YtmbpjjehnfjdiaaDoor
