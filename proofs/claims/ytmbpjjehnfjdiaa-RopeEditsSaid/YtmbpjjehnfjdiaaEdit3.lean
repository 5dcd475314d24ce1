/-
  Rope.Edit where Check refuses; Rope.Pieces; Undo of a rope that New made.
-/
import Derived.Test.YtmbpjjehnfjdiaaEdit2
namespace Go.Proofs.Ytmbpjjehnfjdiaa
set_option linter.unusedVariables false
set_option linter.unusedSimpArgs false
open Go.RowKit

theorem Edit_no (v bef : Value) (t : Pc) (c : Nat) (A : Option Addr) (l : List Ed) (w : World) (hl : Small l) (hc : checkLen t.size l ≠ 0) (hts : t.size ≤ 20000) (hE : EdsV w A l) (hR : RopeAt w v t bef) :
    Calls Try.prog 18 #[v, .slice A l.length c] w fun e w' => e = .returned (.tuple #[.pointer none, .int .i64 (checkLen t.size l)]) ∧ Below w.heap.size w w' := by
  have q : (checkLen t.size l != 0) = true := by simpa using hc
  clear hc
  go_enter Try.func18, Try.ntmps18
  go_wp2_with fail
  refine (isMade_any _ bef t w hR).mono ?_
  rintro e w0 ⟨rfl, rfl⟩
  go_wp2_with fail
  refine (Len_any _ bef t w hR).mono ?_
  rintro e w1 ⟨rfl, hb1⟩
  go_wp2_with fail
  refine (check_any _ c A l w1 hl (by omega) (by omega) (hE.below hb1)).mono ?_
  rintro e w2 ⟨rfl, hb2⟩
  go_wp2_with fail
  go_ret2
  exact ⟨rfl, hb1.trans (hb2.mono hb1.size)⟩

theorem Pieces_any (v bef : Value) (t : Pc) (w : World) (h : RopeAt w v t bef) :
    Calls Try.prog 20 #[v] w fun e w' => e = .returned (.int .i64 (t.leaves : Int)) ∧ Below w.heap.size w w' := by
  go_enter Try.func20, Try.ntmps20
  go_wp2_with fail
  refine (pieces_any v bef t w h).mono ?_
  rintro e w1 ⟨⟨p, rfl, hp⟩, rfl⟩
  go_wp2_with fail
  refine (sums_any p t w hp).mono ?_
  rintro e w1 ⟨rfl, hb1⟩
  simp only [sumsV]
  go_wp2_with fail
  go_ret
  exact ⟨ret_int rfl, hb1⟩

theorem Undo_none (v : Value) (t : Pc) (w : World) (h : RopeAt w v t (.pointer none)) :
    Calls Try.prog 19 #[v] w fun e w' => e = .returned (.tuple #[.pointer none, .int .i64 5]) ∧ w = w' := by
  have hR := h
  obtain ⟨r, vroot, rfl, hh, hp, hg⟩ := h
  have c2 : w.cell? ⟨r, 2, none⟩ = some (.pointer none) := cell_of hh 2
  have HR := Lib.hid hR
  clear hh hp hR
  go_enter Try.func19, Try.ntmps19
  go_wp2_with fail
  refine (isMade_any _ _ t w HR.out).mono ?_
  rintro e w0 ⟨rfl, rfl⟩
  go_wp2_with fail
  go_ret2
  exact ⟨rfl, rfl⟩
end Go.Proofs.Ytmbpjjehnfjdiaa
