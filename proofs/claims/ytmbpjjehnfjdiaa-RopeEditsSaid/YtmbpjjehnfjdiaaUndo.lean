/-
  Rope.Undo of a rope that Edit made; sizes of what Short and Invert give.
-/
import Derived.Test.YtmbpjjehnfjdiaaSlice
import Derived.Test.YtmbpjjehnfjdiaaCut
namespace Go.Proofs.Ytmbpjjehnfjdiaa
set_option linter.unusedVariables false
set_option linter.unusedSimpArgs false
open Go.RowKit

theorem short_size (t : ByteArray) : (shortB t).size = min t.size 20001 := by unfold shortB; rw [ByteArray.size_extract]; omega
theorem mk_byt (s : ByteArray) : mkB (byt s) = s := mkB_of s
theorem Undo_ok (v : Value) (a : Addr) (t : Pc) (w : World) (h : RopeAt w v t (.pointer (some a))) :
    Calls Try.prog 19 #[v] w fun e w' => e = .returned (.tuple #[.pointer (some a), .int .i64 0]) ∧ w = w' := by
  have hR := h
  obtain ⟨r, vroot, rfl, hh, hp, hg⟩ := h
  have c2 : w.cell? ⟨r, 2, none⟩ = some (.pointer (some a)) := cell_of hh 2
  have HR := Lib.hid hR
  clear hh hp hR
  go_enter Try.func19, Try.ntmps19
  go_wp2_with fail
  refine (isMade_any _ _ t w HR.out).mono ?_
  rintro e w0 ⟨rfl, rfl⟩
  go_wp2_with fail
  go_ret2
  exact ⟨rfl, rfl⟩
end Go.Proofs.Ytmbpjjehnfjdiaa
