/-
  The contract of token's first.
-/
import Derived.Test.YtkaceghngjpemaaDoorTk5
namespace Go.Proofs.YtkaceghngjpemaaDoor
set_option linter.unusedVariables false
set_option linter.unusedSimpArgs false
open Go.RowKit

set_option maxRecDepth 100000 in
set_option maxHeartbeats 1000000 in
theorem first_any (s : ByteArray) (w : World) (hs : s.size ≤ 60000) (hz : 0 < s.size) (hT : Tabs w) :
    Calls Tryd.prog 63 #[.string s] w fun e w' => e = .returned (.tuple #[.int .i64 (firstP s).1, .int .i64 ((firstP s).2 : Int)]) ∧ Below w.heap.size w w' := by
  have hb10 : ∀ W, Calls Tryd.prog 91 #[.int .u8 10] W fun en w' => en = .returned (.func (.func 122) #[] #[.pointer (some ⟨W.heap.size, 0, none⟩)]) ∧ w'.heap[W.heap.size]? = some (.cells #[.int .u8 10] 5 (0, 0)) ∧ Below W.heap.size W w' := fun W => isNot_any 10 W
  have HB10 := Lib.hid hb10
  have hb := begins_any s w hz hT
  have HT := Lib.hid hT
  clear hb10 hT
  rcases beginK_is s with h | h | h | h | h | h | h
  · have hr : Hid (firstP s = (1, runL blankB (byt s))) := Lib.hid (by unfold firstP; rw [h]; rfl)
    rw [h] at hb
    have Hb := Lib.hid hb
    clear hb h
    go_enter Tryd.func63, Tryd.ntmps63
    go_wp2_with fail
    refine Hb.out.mono ?_
    rintro e w1 ⟨rfl, rfl⟩
    go_wp2_with fail
    refine (run_blank s _ hs).mono ?_
    rintro e w2 ⟨rfl, rfl⟩
    go_wp2_with fail
    go_ret2
    exact ⟨ret_in hr.out, Below.refl _ _⟩
  · have hr : Hid (firstP s = (2, runL lineB (byt s))) := Lib.hid (by unfold firstP; rw [h]; rfl)
    rw [h] at hb
    have Hb := Lib.hid hb
    clear hb h
    go_enter Tryd.func63, Tryd.ntmps63
    go_wp2_with fail
    refine Hb.out.mono ?_
    rintro e w1 ⟨rfl, rfl⟩
    go_wp2_with fail
    refine (HB10.out _).mono ?_
    rintro e w2 ⟨rfl, hh, hb2⟩
    have hc : w2.cell? ⟨w1.heap.size, 0, none⟩ = some (.int .u8 10) := Lib.cell_of_heap hh 0
    go_wp2_with fail
    refine (run_line s w1.heap.size w2 hs hc).mono ?_
    rintro e w3 ⟨rfl, rfl⟩
    go_wp2_with fail
    go_ret2
    exact ⟨ret_in hr.out, hb2⟩
  · have hr : Hid (firstP s = ((nameP s).1, (nameP s).2)) := Lib.hid (by unfold firstP; rw [h]; rfl)
    rw [h] at hb
    have Hb := Lib.hid hb
    clear hb h
    go_enter Tryd.func63, Tryd.ntmps63
    go_wp2_with fail
    refine Hb.out.mono ?_
    rintro e w1 ⟨rfl, rfl⟩
    go_wp2_with fail
    refine (nameOrWord_any s _ hs HT.out).mono ?_
    rintro e w2 ⟨rfl, rfl⟩
    go_wp2_with fail
    go_ret2
    exact ⟨ret_in hr.out, Below.refl _ _⟩
  · have hr : Hid (firstP s = (5, runL digitB (byt s))) := Lib.hid (by unfold firstP; rw [h]; rfl)
    rw [h] at hb
    have Hb := Lib.hid hb
    clear hb h
    go_enter Tryd.func63, Tryd.ntmps63
    go_wp2_with fail
    refine Hb.out.mono ?_
    rintro e w1 ⟨rfl, rfl⟩
    go_wp2_with fail
    refine (run_digit s _ hs).mono ?_
    rintro e w2 ⟨rfl, rfl⟩
    go_wp2_with fail
    go_ret2
    exact ⟨ret_in hr.out, Below.refl _ _⟩
  · have hr : Hid (firstP s = ((textP s).1, (textP s).2)) := Lib.hid (by unfold firstP; rw [h]; rfl)
    rw [h] at hb
    have Hb := Lib.hid hb
    clear hb h
    go_enter Tryd.func63, Tryd.ntmps63
    go_wp2_with fail
    refine Hb.out.mono ?_
    rintro e w1 ⟨rfl, rfl⟩
    go_wp2_with fail
    refine (textOrBad_any s _ hs hz).mono ?_
    rintro e w2 ⟨rfl, hb2⟩
    go_wp2_with fail
    go_ret2
    exact ⟨ret_in hr.out, hb2⟩
  · have hr : Hid (firstP s = (7, signN s)) := Lib.hid (by unfold firstP; rw [h]; rfl)
    rw [h] at hb
    have Hb := Lib.hid hb
    clear hb h
    go_enter Tryd.func63, Tryd.ntmps63
    go_wp2_with fail
    refine Hb.out.mono ?_
    rintro e w1 ⟨rfl, rfl⟩
    go_wp2_with fail
    refine (signSize_any s _ HT.out).mono ?_
    rintro e w2 ⟨rfl, rfl⟩
    go_wp2_with fail
    go_ret2
    exact ⟨ret_in hr.out, Below.refl _ _⟩
  · have hr : Hid (firstP s = (8, badN s)) := Lib.hid (by unfold firstP; rw [h]; rfl)
    rw [h] at hb
    have Hb := Lib.hid hb
    clear hb h
    go_enter Tryd.func63, Tryd.ntmps63
    go_wp2_with fail
    refine Hb.out.mono ?_
    rintro e w1 ⟨rfl, rfl⟩
    go_wp2_with fail
    refine (badSize_any s _ hs hz HT.out).mono ?_
    rintro e w2 ⟨rfl, rfl⟩
    go_wp2_with fail
    go_ret2
    exact ⟨ret_in hr.out, Below.refl _ _⟩
end Go.Proofs.YtkaceghngjpemaaDoor
