/-
  The contract of the specification's Short.
-/
import Derived.Test.YtkaceghngjpemaaDoorTkMath
import Derived.Test.YtkaceghngjpemaaDoorRows
import Derived.WalkKit
import Derived.Lib.Hide
namespace Go.Proofs.YtkaceghngjpemaaDoor
set_option linter.unusedVariables false
set_option linter.unusedSimpArgs false
open Go.RowKit

def shortT (t : ByteArray) : ByteArray := t.extract 0 (min t.size 20001)
theorem shortT_size (t : ByteArray) : (shortT t).size = min t.size 20001 := by unfold shortT; rw [ByteArray.size_extract]; omega
theorem ShortT_any (t : ByteArray) (w : World) (ht : t.size ≤ maxLen) :
    Calls Tryd.prog 16 #[.string t] w fun e w' => e = .returned (.string (shortT t)) ∧ w = w' := by
  unfold maxLen at ht
  by_cases h : (t.size : Int) ≤ 20001
  · have hr : Hid (shortT t = t) := Lib.hid (by
      apply bytj
      unfold shortT
      rw [show min t.size 20001 = t.size by omega]
      rw [byt_drop, List.drop_zero])
    have hm : min (t.size : Int) 20001 = (t.size : Int) := by omega
    have h0 : ¬ (20001 : Int) < (t.size : Int) := by omega
    go_enter Tryd.func16, Tryd.ntmps16
    go_wp2_with fail
    go_ret
    exact ⟨congrArg (fun x => Ending.returned (.string x)) hr.out.symm, rfl⟩
  · have hr : Hid (shortT t = t.extract 0 20001) := Lib.hid (by unfold shortT; rw [show min t.size 20001 = 20001 by omega])
    have hm : min (t.size : Int) 20001 = 20001 := by omega
    have h0 : (20001 : Int) ≤ (t.size : Int) := by omega
    go_enter Tryd.func16, Tryd.ntmps16
    go_wp2_with fail
    go_ret
    exact ⟨congrArg (fun x => Ending.returned (.string x)) hr.out.symm, rfl⟩
end Go.Proofs.YtkaceghngjpemaaDoor
