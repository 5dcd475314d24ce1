/-
  The contract of Rope.Edit, of edits that are wrong.
-/
import Derived.Test.YtmdgclcakogggaaEdit
namespace Go.Proofs.Ytmdgclcakogggaa
set_option linter.unusedVariables false
set_option linter.unusedSimpArgs false
open Go.RowKit

theorem Edit_no (v bef : Value) (t : Pc) (c : Nat) (A : Option Addr) (l : List Ed) (w : World) (hl : Small l) (hc : checkLen t.size l ≠ 0) (hts : t.size ≤ 20000) (hE : EdsV w A l) (hR : RopeAt w v t bef) :
    Calls Try.prog 10 #[v, .slice A l.length c] w fun e w' => e = .returned (.tuple #[.pointer none, .int .i64 (checkLen t.size l)]) ∧ Below w.heap.size w w' := by
  have q : (checkLen t.size l != 0) = true := by simpa using hc
  clear hc
  go_enter Try.func10, Try.ntmps10
  go_wp2_with fail
  refine (isMade_any _ bef t w hR).mono ?_
  rintro e w0 ⟨rfl, rfl⟩
  go_wp2_with fail
  refine (Len_any _ bef t w hR).mono ?_
  rintro e w1 ⟨rfl, hb1⟩
  go_wp2_with fail
  refine (check_any _ c A l w1 hl (by omega) (by omega) (hE.below hb1)).mono ?_
  rintro e w2 ⟨rfl, hb2⟩
  go_wp2_with fail
  go_ret2
  exact ⟨rfl, hb1.trans (hb2.mono hb1.size)⟩

end Go.Proofs.Ytmdgclcakogggaa
