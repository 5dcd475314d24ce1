/-
  Contracts of Offset, Near, Width, Lines of place.
-/
import Derived.Test.YtmbpjjehnfjdiaaDoorPl4
import Derived.Deep.RegionHeld3
namespace Go.Proofs.YtmbpjjehnfjdiaaDoor
set_option linter.unusedVariables false
set_option linter.unusedSimpArgs false
open Go.RowKit

theorem below_call {B : Nat} {a Y w1 : World} (h : Below B a Y) (hB : B ≤ a.heap.size) (hb : Below Y.heap.size Y w1) : Below B a w1 := h.trans (hb.mono (Nat.le_trans hB h.size))
theorem three_kept {w w' : World} {p q : Nat} {v0 v1 v2 : Value} (hb : Below w.heap.size w w') (hp : p < w.heap.size) (hq : q < w.heap.size) (h0 : w.cell? ⟨p, 0, none⟩ = some v0) (h1 : w.cell? ⟨p, 1, none⟩ = some v1) (h2 : w.cell? ⟨q, 1, none⟩ = some v2) :
    Below w.heap.size w w' ∧ w'.cell? ⟨p, 0, none⟩ = some v0 ∧ w'.cell? ⟨p, 1, none⟩ = some v1 ∧ w'.cell? ⟨q, 1, none⟩ = some v2 := ⟨hb, ((bcell hb).1 p 0 hp).trans h0, ((bcell hb).1 p 1 hp).trans h1, ((bcell hb).1 q 1 hq).trans h2⟩
theorem ret_pair {x y e : Int} (h : x = y) : Ending.returned (.tuple #[.int .i64 x, .int .i64 e]) = .returned (.tuple #[.int .i64 y, .int .i64 e]) := by rw [h]
theorem no_has {s : ByteArray} {a b : Int} (h : a < 0 ∨ (feedsL (byt s) : Int) < a) : ¬ ∃ o : Nat, HasOff s a b o := by
  rintro ⟨o, l, c, rfl, _, hl, _⟩
  omega

set_option maxRecDepth 100000 in
set_option maxHeartbeats 2000000 in
theorem Offset_any (s : ByteArray) (a b : Int) (w : World) (hs : s.size ≤ 60000) :
    Calls Tryd.prog 12 #[.string s, .agg #[.int .i64 a, .int .i64 b]] w fun e w' => OffR s a b e ∧ Below w.heap.size w w' := by
  have hw0 : Below w.heap.size w (w.alloc (.cells #[.int .i64 a, .int .i64 b] 23)) := (Below.refl _ _).alloc (Nat.le_refl _) _
  have hnew := heap_alloc_new w (.cells #[.int .i64 a, .int .i64 b] 23)
  by_cases ht : 20000 < s.size
  · have q : decide (20000 < s.size) = true := by simpa using ht
    go_enter Tryd.func12, Tryd.ntmps12
    go_wp2_with fail
    with_reducible refine (isTooLong_any s _ hs).mono ?_
    rw [q]
    rintro e w1 ⟨rfl, rfl⟩
    go_wp2_with fail
    go_ret2
    exact ⟨.inl ⟨ht, rfl⟩, hw0⟩
  · have hle : s.size ≤ 20000 := by omega
    have q : decide (20000 < s.size) = false := by simpa using hle
    go_enter Tryd.func12, Tryd.ntmps12
    go_wp2_with fail
    with_reducible refine (isTooLong_any s _ hs).mono ?_
    rw [q]
    rintro e w1 ⟨rfl, rfl⟩
    go_wp2_with fail
    with_reducible refine (lineOf_any s a _ hs).mono ?_
    rintro e w1 ⟨hL, hb1⟩
    have hB1 := hw0.trans (hb1.mono (by simp))
    rcases hL with ⟨k, rfl, hk, rfl⟩ | ⟨hno, rfl⟩
    · have hbx := (hb1.block w.heap.size (by simp)).trans hnew
      have hfz := feedAt_le_len s k
      have hll := lst_le_feedAt (byt s) k hk
      have hrn : ∀ o c : Nat, ReachP (s.extract (lst (byt s) k) (feedAt (byt s) k)) b o c → (∀ o', HasOff s k b o' ↔ (o' = lst (byt s) k + o ∧ (c : Int) = b)) ∧ o ≤ feedAt (byt s) k - lst (byt s) k ∧ NearR s k b (lst (byt s) k + o) :=
        fun o c h => ⟨(reach_near hk h).1.has hk (reach_near hk h).2.1, (reach_near hk h).2.2, (reach_near hk h).1⟩
      have Hrn := Lib.hid hrn
      clear hrn hnew
      obtain ⟨lk, hlk⟩ : ∃ lk, lk = lst (byt s) k := ⟨_, rfl⟩
      obtain ⟨fk, hfk⟩ : ∃ fk, fk = feedAt (byt s) k := ⟨_, rfl⟩
      rw [← hlk, ← hfk] at Hrn hll
      rw [← hfk] at hfz
      rw [← hlk, ← hfk]
      clear hlk hfk
      obtain ⟨w2, hw2⟩ : ∃ w2, w2 = w1.alloc (.cells #[.int .i64 (lk : Int), .int .i64 (fk : Int)] 39) := ⟨_, rfl⟩
      have hb2 : Below w1.heap.size w1 w2 := by rw [hw2]; exact (Below.refl _ _).alloc (Nat.le_refl _) _
      have hln : w2.heap[w1.heap.size]? = some (.cells #[.int .i64 (lk : Int), .int .i64 (fk : Int)] 39 (0, 0)) := by rw [hw2]; exact heap_alloc_new w1 _
      have hbx2 := (hb2.block w.heap.size (by have := hb1.size; simp at this; omega)).trans hbx
      have d0 : w2.cell? ⟨w1.heap.size, 0, none⟩ = some (.int .i64 (lk : Int)) := Lib.cell_of_heap hln 0
      have d1 : w2.cell? ⟨w1.heap.size, 1, none⟩ = some (.int .i64 (fk : Int)) := Lib.cell_of_heap hln 1
      have d2 : w2.cell? ⟨w.heap.size, 1, none⟩ = some (.int .i64 b) := Lib.cell_of_heap hbx2 1
      have hl1 : w1.heap.size < w2.heap.size := by rw [hw2]; simp
      have hl2 : w.heap.size < w2.heap.size := by have := hb1.size; simp at this; omega
      have hB2 := hB1.trans (hb2.mono hB1.size)
      have n1 : (lk : Int) ≤ (fk : Int) := by omega
      have n2 : (fk : Int) ≤ (s.size : Int) := by omega
      clear hln hbx hbx2
      go_wp2_with fail
      rw [← hw2]
      clear hw2
      go_region_held3 (fun w' => Below w2.heap.size w2 w' ∧ w'.cell? ⟨w1.heap.size, 0, none⟩ = some (.int .i64 (lk : Int)) ∧ w'.cell? ⟨w1.heap.size, 1, none⟩ = some (.int .i64 (fk : Int)) ∧ w'.cell? ⟨w.heap.size, 1, none⟩ = some (.int .i64 b))
        (exact three_kept (by repeat (first | with_reducible exact Below.refl _ _ | with_reducible assumption | with_reducible refine Below.drew ?_ | with_reducible refine below_drewN ?_ _ | with_reducible refine below_call ?_ (Nat.le_refl _) hbC)) hl1 hl2 d0 d1 d2)
        ((go_at_call 35
          with_reducible refine (reach_any (s.extract lk fk) b _ ?_).mono ?_
          · rw [ByteArray.size_extract]; omega
          rintro e wC ⟨o, c, rfl, hR, hbC⟩))
      all_goals
        have hbw : Below w2.heap.size w2 wC := (by repeat (first | with_reducible exact Below.refl _ _ | with_reducible assumption | with_reducible refine Below.drew ?_ | with_reducible refine below_drewN ?_ _ | with_reducible refine below_call ?_ (Nat.le_refl _) hbC))
        have e0 : wC.cell? ⟨w1.heap.size, 0, none⟩ = some (.int .i64 (lk : Int)) := ((bcell hbw).1 _ 0 hl1).trans d0
        have e2 : wC.cell? ⟨w.heap.size, 1, none⟩ = some (.int .i64 b) := ((bcell hbw).1 _ 1 hl2).trans d2
        have hBC := hB2.trans (hbw.mono hB2.size)
        obtain ⟨hhas, hoz, hN⟩ := Hrn.out o c hR
        have hlkz : lk ≤ s.size := by omega
        have Hh := Lib.hid hhas
        clear hhas hN
        by_cases hq : (c : Int) = b
        · have q2 : ((c : Int) != b) = false := by simp [hq]
          have Hq := Lib.hid hq
          clear hq
          go_wp2_with fail
          go_ret2
          refine ⟨.inr (.inl ⟨hle, lk + o, (Hh.out _).2 ⟨rfl, Hq.out⟩, ?_⟩), hBC⟩
          exact ret_pair (Int.natCast_add lk o).symm
        · have q2 : ((c : Int) != b) = true := by simpa using hq
          have Hq := Lib.hid hq
          clear hq
          go_wp2_with fail
          go_ret2
          exact ⟨.inr (.inr ⟨hle, (fun ⟨o', h⟩ => Hq.out ((Hh.out o').1 h).2), rfl⟩), hBC⟩
    · have Hno := Lib.hid (no_has (b := b) hno)
      clear hno
      go_wp2_with fail
      go_ret2
      exact ⟨.inr (.inr ⟨hle, Hno.out, rfl⟩), hB1.alloc hB1.size _⟩
set_option maxRecDepth 100000 in
set_option maxHeartbeats 2000000 in
theorem Near_any (s : ByteArray) (a b : Int) (w : World) (hs : s.size ≤ 60000) :
    Calls Tryd.prog 13 #[.string s, .agg #[.int .i64 a, .int .i64 b]] w fun e w' => NeR s a b e ∧ Below w.heap.size w w' := by
  have hw0 : Below w.heap.size w (w.alloc (.cells #[.int .i64 a, .int .i64 b] 23)) := (Below.refl _ _).alloc (Nat.le_refl _) _
  have hnew := heap_alloc_new w (.cells #[.int .i64 a, .int .i64 b] 23)
  by_cases ht : 20000 < s.size
  · have q : decide (20000 < s.size) = true := by simpa using ht
    go_enter Tryd.func13, Tryd.ntmps13
    go_wp2_with fail
    with_reducible refine (isTooLong_any s _ hs).mono ?_
    rw [q]
    rintro e w1 ⟨rfl, rfl⟩
    go_wp2_with fail
    go_ret2
    exact ⟨.inl ⟨ht, rfl⟩, hw0⟩
  · have hle : s.size ≤ 20000 := by omega
    have q : decide (20000 < s.size) = false := by simpa using hle
    by_cases ha : a < 0
    · go_enter Tryd.func13, Tryd.ntmps13
      go_wp2_with fail
      with_reducible refine (isTooLong_any s _ hs).mono ?_
      rw [q]
      rintro e w1 ⟨rfl, rfl⟩
      go_wp2_with fail
      go_ret2
      exact ⟨.inr ⟨hle, 0, .inl ⟨ha, rfl⟩, by omega, rfl⟩, hw0⟩
    · skip
      go_enter Tryd.func13, Tryd.ntmps13
      go_wp2_with fail
      with_reducible refine (isTooLong_any s _ hs).mono ?_
      rw [q]
      rintro e w1 ⟨rfl, rfl⟩
      go_wp2_with fail
      with_reducible refine (lineOf_any s a _ hs).mono ?_
      rintro e w1 ⟨hL, hb1⟩
      have hB1 := hw0.trans (hb1.mono (by simp))
      rcases hL with ⟨k, rfl, hk, rfl⟩ | ⟨hno, rfl⟩
      · have hbx := (hb1.block w.heap.size (by simp)).trans hnew
        have hfz := feedAt_le_len s k
        have hll := lst_le_feedAt (byt s) k hk
        have hrn : ∀ o c : Nat, ReachP (s.extract (lst (byt s) k) (feedAt (byt s) k)) b o c → (∀ o', HasOff s k b o' ↔ (o' = lst (byt s) k + o ∧ (c : Int) = b)) ∧ o ≤ feedAt (byt s) k - lst (byt s) k ∧ NearR s k b (lst (byt s) k + o) :=
          fun o c h => ⟨(reach_near hk h).1.has hk (reach_near hk h).2.1, (reach_near hk h).2.2, (reach_near hk h).1⟩
        have Hrn := Lib.hid hrn
        clear hrn hnew
        obtain ⟨lk, hlk⟩ : ∃ lk, lk = lst (byt s) k := ⟨_, rfl⟩
        obtain ⟨fk, hfk⟩ : ∃ fk, fk = feedAt (byt s) k := ⟨_, rfl⟩
        rw [← hlk, ← hfk] at Hrn hll
        rw [← hfk] at hfz
        rw [← hlk, ← hfk]
        clear hlk hfk
        obtain ⟨w2, hw2⟩ : ∃ w2, w2 = w1.alloc (.cells #[.int .i64 (lk : Int), .int .i64 (fk : Int)] 39) := ⟨_, rfl⟩
        have hb2 : Below w1.heap.size w1 w2 := by rw [hw2]; exact (Below.refl _ _).alloc (Nat.le_refl _) _
        have hln : w2.heap[w1.heap.size]? = some (.cells #[.int .i64 (lk : Int), .int .i64 (fk : Int)] 39 (0, 0)) := by rw [hw2]; exact heap_alloc_new w1 _
        have hbx2 := (hb2.block w.heap.size (by have := hb1.size; simp at this; omega)).trans hbx
        have d0 : w2.cell? ⟨w1.heap.size, 0, none⟩ = some (.int .i64 (lk : Int)) := Lib.cell_of_heap hln 0
        have d1 : w2.cell? ⟨w1.heap.size, 1, none⟩ = some (.int .i64 (fk : Int)) := Lib.cell_of_heap hln 1
        have d2 : w2.cell? ⟨w.heap.size, 1, none⟩ = some (.int .i64 b) := Lib.cell_of_heap hbx2 1
        have hl1 : w1.heap.size < w2.heap.size := by rw [hw2]; simp
        have hl2 : w.heap.size < w2.heap.size := by have := hb1.size; simp at this; omega
        have hB2 := hB1.trans (hb2.mono hB1.size)
        have n1 : (lk : Int) ≤ (fk : Int) := by omega
        have n2 : (fk : Int) ≤ (s.size : Int) := by omega
        clear hln hbx hbx2
        go_wp2_with fail
        rw [← hw2]
        clear hw2
        go_region_held3 (fun w' => Below w2.heap.size w2 w' ∧ w'.cell? ⟨w1.heap.size, 0, none⟩ = some (.int .i64 (lk : Int)) ∧ w'.cell? ⟨w1.heap.size, 1, none⟩ = some (.int .i64 (fk : Int)) ∧ w'.cell? ⟨w.heap.size, 1, none⟩ = some (.int .i64 b))
          (exact three_kept (by repeat (first | with_reducible exact Below.refl _ _ | with_reducible assumption | with_reducible refine Below.drew ?_ | with_reducible refine below_drewN ?_ _ | with_reducible refine below_call ?_ (Nat.le_refl _) hbC)) hl1 hl2 d0 d1 d2)
          ((go_at_call 35
            with_reducible refine (reach_any (s.extract lk fk) b _ ?_).mono ?_
            · rw [ByteArray.size_extract]; omega
            rintro e wC ⟨o, c, rfl, hR, hbC⟩))
        all_goals
          have hbw : Below w2.heap.size w2 wC := (by repeat (first | with_reducible exact Below.refl _ _ | with_reducible assumption | with_reducible refine Below.drew ?_ | with_reducible refine below_drewN ?_ _ | with_reducible refine below_call ?_ (Nat.le_refl _) hbC))
          have e0 : wC.cell? ⟨w1.heap.size, 0, none⟩ = some (.int .i64 (lk : Int)) := ((bcell hbw).1 _ 0 hl1).trans d0
          have e2 : wC.cell? ⟨w.heap.size, 1, none⟩ = some (.int .i64 b) := ((bcell hbw).1 _ 1 hl2).trans d2
          have hBC := hB2.trans (hbw.mono hB2.size)
          obtain ⟨hhas, hoz, hN⟩ := Hrn.out o c hR
          have hlkz : lk ≤ s.size := by omega
          have HN := Lib.hid hN
          clear hhas hN
          go_wp2_with fail
          go_ret2
          refine ⟨.inr ⟨hle, lk + o, .inr (.inr ⟨k, rfl, hk, HN.out⟩), by omega, ?_⟩, hBC⟩
          exact ret_pair (Int.natCast_add lk o).symm
      · have Hno : Hid ((feedsL (byt s) : Int) < a) := Lib.hid (by omega)
        clear hno
        go_wp2_with fail
        go_ret2
        exact ⟨.inr ⟨hle, s.size, .inr (.inl ⟨Hno.out, rfl⟩), Nat.le_refl _, rfl⟩, hB1.alloc hB1.size _⟩

/-- Width returns so much, and Lines so many spans -/
theorem Width_any (s : ByteArray) (w : World) (hs : s.size ≤ 60000) :
    Calls Tryd.prog 20 #[.string s] w fun e w' => ((20000 < s.size ∧ e = .returned (.tuple #[.int .i64 0, .int .i64 3])) ∨ (s.size ≤ 20000 ∧ ∃ W : Nat, Ch s 0 s.size W ∧ e = .returned (.tuple #[.int .i64 (W : Int), .int .i64 0]))) ∧ Below w.heap.size w w' := by
  by_cases ht : 20000 < s.size
  · have q : decide (20000 < s.size) = true := by simpa using ht
    go_enter Tryd.func20, Tryd.ntmps20
    go_wp2_with fail
    with_reducible refine (isTooLong_any s _ hs).mono ?_
    rw [q]
    rintro e w1 ⟨rfl, rfl⟩
    go_wp2_with fail
    go_ret2
    exact ⟨.inl ⟨ht, rfl⟩, Below.refl _ _⟩
  · have q : decide (20000 < s.size) = false := by simpa using ht
    go_enter Tryd.func20, Tryd.ntmps20
    go_wp2_with fail
    with_reducible refine (isTooLong_any s _ hs).mono ?_
    rw [q]
    rintro e w1 ⟨rfl, rfl⟩
    go_wp2_with fail
    with_reducible refine (widthOf_any s _ hs).mono ?_
    rintro e w2 ⟨W, rfl, hW, hb2⟩
    go_wp2_with fail
    go_ret2
    exact ⟨.inr ⟨by omega, W, hW, rfl⟩, hb2⟩
theorem Lines_ok (s : ByteArray) (w : World) (hs : s.size ≤ 20000) :
    Calls Tryd.prog 21 #[.string s] w fun e w' => ∃ v, e = .returned (.tuple #[v, .int .i64 0]) ∧ w'.ownsRow w.heap.size 39 2 v (linesOf (byt s)).length (spCells (linesOf (byt s))) ∧ Below w.heap.size w w' := by
  have q : decide (20000 < s.size) = false := by simpa using hs
  go_enter Tryd.func21, Tryd.ntmps21
  go_wp2_with fail
  with_reducible refine (isTooLong_any s _ (by omega)).mono ?_
  rw [q]
  rintro e w1 ⟨rfl, rfl⟩
  go_wp2_with fail
  with_reducible refine (lines_own s _ (by omega)).mono ?_
  rintro e w2 ⟨v, rfl, ho, hb2⟩
  go_wp2_with fail
  go_ret2
  exact ⟨v, rfl, ho, hb2⟩
theorem Lines_no (s : ByteArray) (w : World) (hs : s.size ≤ 60000) (ht : 20000 < s.size) :
    Calls Tryd.prog 21 #[.string s] w fun e w' => e = .returned (.tuple #[.slice none 0 0, .int .i64 3]) ∧ Below w.heap.size w w' := by
  have q : decide (20000 < s.size) = true := by simpa using ht
  go_enter Tryd.func21, Tryd.ntmps21
  go_wp2_with fail
  with_reducible refine (isTooLong_any s _ hs).mono ?_
  rw [q]
  rintro e w1 ⟨rfl, rfl⟩
  go_wp2_with fail
  go_ret2
  exact ⟨rfl, Below.refl _ _⟩
end Go.Proofs.YtmbpjjehnfjdiaaDoor
