/-
  Contracts of Of, Offset, Near, Width, Lines of place.
-/
import Derived.Test.YtmbpjjehnfjdiaaDoorPl3
namespace Go.Proofs.YtmbpjjehnfjdiaaDoor
set_option linter.unusedVariables false
set_option linter.unusedSimpArgs false
open Go.RowKit

/-- what Of returns -/
def OfR (s : ByteArray) (off : Int) (e : Ending) : Prop :=
  (20000 < s.size ∧ e = .returned (.tuple #[.agg #[.int .i64 0, .int .i64 0], .int .i64 3])) ∨
  (s.size ≤ 20000 ∧ ∃ o l c : Nat, off = o ∧ o ≤ s.size ∧ (∃ w, Ch s 0 o w) ∧ PlaceAt s o l c ∧ e = .returned (.tuple #[.agg #[.int .i64 (l : Int), .int .i64 (c : Int)], .int .i64 0])) ∨
  (s.size ≤ 20000 ∧ (off < 0 ∨ (s.size : Int) < off ∨ ∃ o : Nat, off = o ∧ ¬ ∃ w, Ch s 0 o w) ∧ e = .returned (.tuple #[.agg #[.int .i64 0, .int .i64 0], .int .i64 2]))

set_option maxRecDepth 100000 in
set_option maxHeartbeats 1000000 in
theorem Of_any (s : ByteArray) (off : Int) (w : World) (hs : s.size ≤ 60000) (hT : Lib.Utf8Tabs 0 1 w) :
    Calls Tryd.prog 11 #[.string s, .int .i64 off] w fun e w' => OfR s off e ∧ Below w.heap.size w w' := by
  have hw0 : Below w.heap.size w (w.alloc (.cells #[.int .i64 0, .int .i64 0] 23)) := (Below.refl _ _).alloc (Nat.le_refl _) _
  by_cases ht : 20000 < s.size
  · have q : decide (20000 < s.size) = true := by simpa using ht
    go_enter Tryd.func11, Tryd.ntmps11
    go_wp2_with fail
    with_reducible refine (isTooLong_any s _ hs).mono ?_
    rw [q]
    rintro e w1 ⟨rfl, rfl⟩
    go_wp2_with fail
    exact bodyPost_ret (v := .tuple #[.agg #[.int .i64 0, .int .i64 0], .int .i64 3]) (by simp [results, Tryd.results11, go_sem]) rfl ⟨.inl ⟨ht, rfl⟩, hw0⟩
  · have hle : s.size ≤ 20000 := by omega
    have q : decide (20000 < s.size) = false := by simpa using hle
    by_cases hin : 0 ≤ off ∧ off ≤ (s.size : Int)
    · obtain ⟨h0, h1⟩ := hin
      obtain ⟨o, rfl⟩ : ∃ o : Nat, off = (o : Int) := ⟨off.toNat, by omega⟩
      have ho : o ≤ s.size := by omega
      go_enter Tryd.func11, Tryd.ntmps11
      go_wp2_with fail
      with_reducible refine (isTooLong_any s _ hs).mono ?_
      rw [q]
      rintro e w1 ⟨rfl, rfl⟩
      go_wp2_with fail
      with_reducible refine (begin_any s o _ hs ho (Utf8Tabs_below hT hw0)).mono ?_
      rintro e w1 ⟨b, rfl, hb, hb1⟩
      have hnew := (hb1.block w.heap.size (by simp)).trans (heap_alloc_new w _)
      have e0 : w1.cell? ⟨w.heap.size, 0, none⟩ = some (.int .i64 0) := Lib.cell_of_heap hnew 0
      have e1 : w1.cell? ⟨w.heap.size, 1, none⟩ = some (.int .i64 0) := Lib.cell_of_heap hnew 1
      have f0 : w1.frozen? ⟨w.heap.size, 0, none⟩ = false := by simp [World.frozen?, hnew]
      have f1 : w1.frozen? ⟨w.heap.size, 1, none⟩ = false := by simp [World.frozen?, hnew]
      have hB1 := hw0.trans (hb1.mono (by simp))
      by_cases hq : b = o
      · have hch := hb.is_self.1 hq
        have q2 : ((b : Int) != (o : Int)) = false := by simp [hq]
        obtain ⟨u, hu⟩ := id hch
        obtain ⟨c, hc⟩ := Ch.of_LS ho hu
        have hpl : PlaceAt s o (feedsL ((byt s).take o)) c := ⟨rfl, hc⟩
        have Hch := Lib.hid hch
        have Hq := Lib.hid hq
        clear hch hu hc hq hnew
        generalize feedsL ((byt s).take o) = l at hpl
        go_wp2_with fail
        with_reducible refine (placeOf_any s o l c w1 hs ho hpl).mono ?_
        rintro e w2 ⟨rfl, hb2⟩
        have e0' : w2.cell? ⟨w.heap.size, 0, none⟩ = some (.int .i64 0) := (hb2.cell (p := ⟨w.heap.size, 0, none⟩) (by have := hb1.size; simp at this; show w.heap.size < w1.heap.size; omega)).trans e0
        have e1' : w2.cell? ⟨w.heap.size, 1, none⟩ = some (.int .i64 0) := (hb2.cell (p := ⟨w.heap.size, 1, none⟩) (by have := hb1.size; simp at this; show w.heap.size < w1.heap.size; omega)).trans e1
        have f0' : w2.frozen? ⟨w.heap.size, 0, none⟩ = false := (hb2.frozen (p := ⟨w.heap.size, 0, none⟩) (by have := hb1.size; simp at this; show w.heap.size < w1.heap.size; omega)).trans f0
        have f1' : w2.frozen? ⟨w.heap.size, 1, none⟩ = false := (hb2.frozen (p := ⟨w.heap.size, 1, none⟩) (by have := hb1.size; simp at this; show w.heap.size < w1.heap.size; omega)).trans f1
        have hB2 := hB1.trans (hb2.mono hB1.size)
        go_wp2_with fail
        exact bodyPost_ret (v := .tuple #[.agg #[.int .i64 (l : Int), .int .i64 (c : Int)], .int .i64 0]) (by simp [results, Tryd.results11, go_sem, e0', e1']) rfl
          ⟨.inr (.inl ⟨hle, o, l, c, rfl, ho, Hch.out, hpl, rfl⟩), (hB2.setCell (p := ⟨w.heap.size, 0, none⟩) (Nat.le_refl _) _).setCell (p := ⟨w.heap.size, 1, none⟩) (Nat.le_refl _) _⟩
      · have hno : ¬ ∃ w, Ch s 0 o w := fun h => hq (hb.is_self.2 h)
        have q2 : ((b : Int) != (o : Int)) = true := by simp; omega
        have Hno := Lib.hid hno
        clear hno hq
        go_wp2_with fail
        exact bodyPost_ret (v := .tuple #[.agg #[.int .i64 0, .int .i64 0], .int .i64 2]) (by simp [results, Tryd.results11, go_sem, e0, e1]) rfl
          ⟨.inr (.inr ⟨hle, .inr (.inr ⟨o, rfl, Hno.out⟩), rfl⟩), (hB1.setCell (p := ⟨w.heap.size, 0, none⟩) (Nat.le_refl _) _).setCell (p := ⟨w.heap.size, 1, none⟩) (Nat.le_refl _) _⟩
    · have hout : off < 0 ∨ (s.size : Int) < off := by omega
      have Hout : Hid (OfR s off (.returned (.tuple #[.agg #[.int .i64 0, .int .i64 0], .int .i64 2]))) := Lib.hid (.inr (.inr ⟨hle, by rcases hout with h | h; exact .inl h; exact .inr (.inl h), rfl⟩))
      by_cases h0 : off < 0
      all_goals
        go_enter Tryd.func11, Tryd.ntmps11
        go_wp2_with fail
        with_reducible refine (isTooLong_any s _ hs).mono ?_
        rw [q]
        rintro e w1 ⟨rfl, rfl⟩
        go_wp2_with fail
        exact bodyPost_ret (v := .tuple #[.agg #[.int .i64 0, .int .i64 0], .int .i64 2]) (by simp [results, Tryd.results11, go_sem]) rfl ⟨Hout.out, hw0⟩

theorem reach_near {s : ByteArray} {k : Nat} (hk : k ≤ feedsL (byt s)) {m : Int} {o c : Nat} (h : ReachP (s.extract (lst (byt s) k) (feedAt (byt s) k)) m o c) :
    NearR s k m (lst (byt s) k + o) ∧ Ch s (lst (byt s) k) (lst (byt s) k + o) c ∧ o ≤ feedAt (byt s) k - lst (byt s) k := by
  obtain ⟨h1, h2, h3⟩ := h
  have hfz := feedAt_le_len s k
  have hll := lst_le_feedAt (byt s) k hk
  obtain ⟨W, hW⟩ := Ch.line (s := s) k hk
  have hsz : (s.extract (lst (byt s) k) (feedAt (byt s) k)).size = feedAt (byt s) k - lst (byt s) k := by rw [ByteArray.size_extract]; omega
  have hle := h1.le_size (Nat.zero_le _)
  rw [hsz] at hle
  have h4 := h1.of_extract hfz (W := W) (by rw [Nat.add_zero]; exact hW)
  rw [Nat.add_zero] at h4
  refine ⟨⟨c, h4, by omega, ?_, ?_⟩, h4, hle⟩
  · rcases h2 with rfl | h2
    · exact .inl rfl
    · exact .inr h2
  · rcases h3 with h3 | ⟨h3, h5⟩
    · rw [hsz] at h3; exact .inl (by omega)
    · rw [hsz] at h3
      right
      obtain ⟨u, hu, _⟩ := h4.split hW (by omega)
      obtain ⟨_, v, _, h6⟩ := hu.next (by omega)
      have hd := dec_extract s (lst (byt s) k) (feedAt (byt s) k) o hfz (by omega) h6.le
      have e2 : dw (s.extract (lst (byt s) k) (feedAt (byt s) k)) o = dw s (lst (byt s) k + o) := by unfold dw; rw [hd]
      rw [← e2]; exact h5

/-- what Offset returns -/
def OffR (s : ByteArray) (a b : Int) (e : Ending) : Prop :=
  (20000 < s.size ∧ e = .returned (.tuple #[.int .i64 0, .int .i64 3])) ∨
  (s.size ≤ 20000 ∧ ∃ o : Nat, HasOff s a b o ∧ e = .returned (.tuple #[.int .i64 (o : Int), .int .i64 0])) ∨
  (s.size ≤ 20000 ∧ (¬ ∃ o : Nat, HasOff s a b o) ∧ e = .returned (.tuple #[.int .i64 0, .int .i64 2]))
def NearAll (s : ByteArray) (a b : Int) (o : Nat) : Prop := (a < 0 ∧ o = 0) ∨ ((feedsL (byt s) : Int) < a ∧ o = s.size) ∨ ∃ k : Nat, a = k ∧ k ≤ feedsL (byt s) ∧ NearR s k b o
theorem NearAll.unique {s : ByteArray} {a b : Int} {o o' : Nat} (h : NearAll s a b o) (h' : NearAll s a b o') : o = o' := by
  rcases h with ⟨h1, rfl⟩ | ⟨h1, rfl⟩ | ⟨k, rfl, hk, hn⟩ <;> rcases h' with ⟨h1', h2'⟩ | ⟨h1', h2'⟩ | ⟨k', h1', hk', hn'⟩
  all_goals first | omega | skip
  obtain rfl : k = k' := by omega
  exact hn.unique hk hn'
/-- what Near returns -/
def NeR (s : ByteArray) (a b : Int) (e : Ending) : Prop :=
  (20000 < s.size ∧ e = .returned (.tuple #[.int .i64 0, .int .i64 3])) ∨
  (s.size ≤ 20000 ∧ ∃ o : Nat, NearAll s a b o ∧ o ≤ s.size ∧ e = .returned (.tuple #[.int .i64 (o : Int), .int .i64 0]))
end Go.Proofs.YtmbpjjehnfjdiaaDoor
