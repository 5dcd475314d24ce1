/-
  Rope.Slice, of a rope that is one.
-/
import Derived.Test.YtmbpjjehnfjdiaaEdit3
namespace Go.Proofs.Ytmbpjjehnfjdiaa
set_option linter.unusedVariables false
set_option linter.unusedSimpArgs false
open Go.RowKit

theorem span_kept {w w' : World} {g : Nat} {v0 v1 : Value} (hb : Below w.heap.size w w') (hlt : g < w.heap.size) (h0 : w.cell? ⟨g, 0, none⟩ = some v0) (h1 : w.cell? ⟨g, 1, none⟩ = some v1) :
    Below w.heap.size w w' ∧ w'.cell? ⟨g, 0, none⟩ = some v0 ∧ w'.cell? ⟨g, 1, none⟩ = some v1 := ⟨hb, ((bcell hb).1 g 0 hlt).trans h0, ((bcell hb).1 g 1 hlt).trans h1⟩

theorem span_kept2 {w w' : World} {g r : Nat} {v0 v1 v2 : Value} (hb : Below w.heap.size w w') (hlt : g < w.heap.size) (hrl : r < w.heap.size) (h0 : w.cell? ⟨g, 0, none⟩ = some v0) (h1 : w.cell? ⟨g, 1, none⟩ = some v1) (h2 : w.cell? ⟨r, 1, none⟩ = some v2) :
    Below w.heap.size w w' ∧ w'.cell? ⟨g, 0, none⟩ = some v0 ∧ w'.cell? ⟨g, 1, none⟩ = some v1 ∧ w'.cell? ⟨r, 1, none⟩ = some v2 := ⟨hb, ((bcell hb).1 g 0 hlt).trans h0, ((bcell hb).1 g 1 hlt).trans h1, ((bcell hb).1 r 1 hrl).trans h2⟩

set_option maxRecDepth 100000 in
set_option maxHeartbeats 2000000 in
theorem Slice_no (v bef : Value) (t : Pc) (a b : Int) (w : World) (hs : isSpanB a b (t.size : Int) = false) (hR : RopeAt w v t bef) :
    Calls Try.prog 40 #[v, .agg #[.int .i64 a, .int .i64 b]] w fun e w' => e = .returned (.tuple #[.string ByteArray.empty, .int .i64 2]) ∧ Below w.heap.size w w' := by
  have hw0 : Below w.heap.size w (w.alloc (.cells #[.int .i64 a, .int .i64 b] 36)) := (Below.refl _ _).alloc (Nat.le_refl _) _
  obtain ⟨w0, hw00⟩ : ∃ w0, w0 = w.alloc (.cells #[.int .i64 a, .int .i64 b] 36) := ⟨_, rfl⟩
  have d0 : w0.cell? ⟨w.heap.size, 0, none⟩ = some (.int .i64 a) := by rw [hw00]; simp
  have d1 : w0.cell? ⟨w.heap.size, 1, none⟩ = some (.int .i64 b) := by rw [hw00]; simp
  have hlt : w.heap.size < w0.heap.size := by rw [hw00]; simp
  have hR0 : RopeAt w0 v t bef := by rw [hw00]; exact hR.below hw0
  rw [← hw00] at hw0
  have HS := Lib.hid hs
  clear hs
  go_enter Try.func40, Try.ntmps40
  go_wp2_with fail
  rw [← hw00]
  clear hw00
  refine (isMade_any v bef t w0 hR0).mono ?_
  rintro e w1 ⟨rfl, rfl⟩
  go_wp2_with fail
  go_region_held3 (fun w' => Below w0.heap.size w0 w' ∧ w'.cell? ⟨w.heap.size, 0, none⟩ = some (.int .i64 a) ∧ w'.cell? ⟨w.heap.size, 1, none⟩ = some (.int .i64 b))
    (exact span_kept (by repeat (first | with_reducible exact Below.refl _ _ | with_reducible assumption | with_reducible refine Below.drew ?_ | with_reducible refine below_drewN ?_ _ | with_reducible refine below_call ?_ (Nat.le_refl _) hbA)) hlt d0 d1)
    ((first
     | (go_at_call 21
        with_reducible refine (Len_any v bef t _ (hR0.below ?_)).mono ?_
        · exact (by repeat (first | with_reducible exact Below.refl _ _ | with_reducible assumption | with_reducible refine Below.drew ?_ | with_reducible refine below_drewN ?_ _))
        rintro e wA ⟨rfl, hbA⟩)
     | (go_at_call 56
        with_reducible refine (isSpan_any a b (t.size : Int) _).mono ?_
        rw [HS.out]
        rintro e wB ⟨rfl, rfl⟩)))
  all_goals
    have hbw : Below w0.heap.size w0 wA := (by repeat (first | with_reducible exact Below.refl _ _ | with_reducible assumption | with_reducible refine Below.drew ?_ | with_reducible refine below_drewN ?_ _ | with_reducible refine below_call ?_ (Nat.le_refl _) hbA))
    go_wp2_with fail
    go_ret2
    first | exact ⟨rfl, hw0.trans (hbw.mono hw0.size)⟩ | (refine ⟨rfl, ?_⟩; trace_state)

set_option maxRecDepth 100000 in
set_option maxHeartbeats 2000000 in
theorem Slice_ok (v bef : Value) (t : Pc) (a b : Int) (w : World) (hs : isSpanB a b (t.size : Int) = true) (hts : t.size ≤ 60000) (hR : RopeAt w v t bef) :
    Calls Try.prog 40 #[v, .agg #[.int .i64 a, .int .i64 b]] w fun e w' => e = .returned (.tuple #[.string (mkB (cutI t.text a b)), .int .i64 0]) ∧ Below w.heap.size w w' := by
  have hw0 : Below w.heap.size w (w.alloc (.cells #[.int .i64 a, .int .i64 b] 36)) := (Below.refl _ _).alloc (Nat.le_refl _) _
  obtain ⟨w0, hw00⟩ : ∃ w0, w0 = w.alloc (.cells #[.int .i64 a, .int .i64 b] 36) := ⟨_, rfl⟩
  have d0 : w0.cell? ⟨w.heap.size, 0, none⟩ = some (.int .i64 a) := by rw [hw00]; simp
  have d1 : w0.cell? ⟨w.heap.size, 1, none⟩ = some (.int .i64 b) := by rw [hw00]; simp
  have hlt : w.heap.size < w0.heap.size := by rw [hw00]; simp
  have hR0 : RopeAt w0 v t bef := by rw [hw00]; exact hR.below hw0
  rw [← hw00] at hw0
  have hsp : 0 ≤ a ∧ a ≤ b ∧ b ≤ (t.size : Int) := by simpa [isSpanB] using hs
  obtain ⟨r, vroot, rfl, hh, hp, hg⟩ := id hR0
  obtain ⟨oroot, rfl⟩ := good_pointer hp
  have c1 : w0.cell? ⟨r, 1, none⟩ = some (.pointer oroot) := cell_of hh 1
  have hrl := lt_of hh
  have HP := Lib.hid hp
  have HS := Lib.hid hs
  clear hh hp
  clear hs
  go_enter Try.func40, Try.ntmps40
  go_wp2_with fail
  rw [← hw00]
  clear hw00
  refine (isMade_any _ bef t w0 hR0).mono ?_
  rintro e w1 ⟨rfl, rfl⟩
  go_wp2_with fail
  go_region_held3 (fun w' => Below w0.heap.size w0 w' ∧ w'.cell? ⟨w.heap.size, 0, none⟩ = some (.int .i64 a) ∧ w'.cell? ⟨w.heap.size, 1, none⟩ = some (.int .i64 b))
    (exact span_kept (by repeat (first | with_reducible exact Below.refl _ _ | with_reducible assumption | with_reducible refine Below.drew ?_ | with_reducible refine below_drewN ?_ _ | with_reducible refine below_call ?_ (Nat.le_refl _) hbA)) hlt d0 d1)
    ((first
     | (go_at_call 21
        with_reducible refine (Len_any _ bef t _ (hR0.below ?_)).mono ?_
        · exact (by repeat (first | with_reducible exact Below.refl _ _ | with_reducible assumption | with_reducible refine Below.drew ?_ | with_reducible refine below_drewN ?_ _))
        rintro e wA ⟨rfl, hbA⟩)
     | (go_at_call 56
        with_reducible refine (isSpan_any a b (t.size : Int) _).mono ?_
        rw [HS.out]
        rintro e wB ⟨rfl, rfl⟩)))
  all_goals
    have hbw : Below w0.heap.size w0 wA := (by repeat (first | with_reducible exact Below.refl _ _ | with_reducible assumption | with_reducible refine Below.drew ?_ | with_reducible refine below_drewN ?_ _ | with_reducible refine below_call ?_ (Nat.le_refl _) hbA))
    have f0 : wA.cell? ⟨w.heap.size, 0, none⟩ = some (.int .i64 a) := ((bcell hbw).1 _ 0 hlt).trans d0
    have f1 : wA.cell? ⟨w.heap.size, 1, none⟩ = some (.int .i64 b) := ((bcell hbw).1 _ 1 hlt).trans d1
    have f2 : wA.cell? ⟨r, 1, none⟩ = some (.pointer oroot) := ((bcell hbw).1 _ 1 hrl).trans c1
    have hltA : w.heap.size < wA.heap.size := Nat.lt_of_lt_of_le hlt hbw.size
    have hrlA : r < wA.heap.size := Nat.lt_of_lt_of_le hrl hbw.size
    have HPA := Lib.hid (HP.out.belowTop hbw)
    go_wp2_with fail
    go_region_held3 (fun w' => Below wA.heap.size wA w' ∧ w'.cell? ⟨w.heap.size, 0, none⟩ = some (.int .i64 a) ∧ w'.cell? ⟨w.heap.size, 1, none⟩ = some (.int .i64 b) ∧ w'.cell? ⟨r, 1, none⟩ = some (.pointer oroot))
      (exact span_kept2 (by repeat (first | with_reducible exact Below.refl _ _ | with_reducible assumption | with_reducible refine Below.drew ?_ | with_reducible refine below_drewN ?_ _ | with_reducible refine below_call ?_ (Nat.le_refl _) hbC)) hltA hrlA f0 f1 f2)
      ((go_at_call 50
        with_reducible refine (slice_any t (.pointer oroot) a b _ hts hg ?_ ?_ ?_ ?_ ?_).mono ?_
        · omega
        · omega
        · omega
        · omega
        · exact HPA.out.belowTop (by repeat (first | with_reducible exact Below.refl _ _ | with_reducible assumption | with_reducible refine Below.drew ?_ | with_reducible refine below_drewN ?_ _))
        rintro e wC ⟨rfl, hbC⟩))
    all_goals
      have hbw2 : Below wA.heap.size wA wC := (by repeat (first | with_reducible exact Below.refl _ _ | with_reducible assumption | with_reducible refine Below.drew ?_ | with_reducible refine below_drewN ?_ _ | with_reducible refine below_call ?_ (Nat.le_refl _) hbC))
      go_wp2_with fail
      go_ret2
      exact ⟨rfl, hw0.trans ((hbw.trans (hbw2.mono hbw.size)).mono hw0.size)⟩
end Go.Proofs.Ytmbpjjehnfjdiaa
