/-
  relex: the specification's Check and Least.
-/
import Derived.Test.YtkdnacniligjjaaDoorRelexCommonsp30
import Derived.Test.YtkdnacniligjjaaDoorRelexTokensp2
import Derived.Test.YtkdnacniligjjaaDoorRelexTokensp3
import Derived.Test.YtkdnacniligjjaaDoorRelexTokensp1
import Derived.Test.YtkdnacniligjjaaDoorRelexTokensp4
namespace Go.Proofs.YtkdnacniligjjaaDoor
set_option linter.unusedVariables false
set_option linter.unusedSimpArgs false
open Go.RowKit

theorem applyT_err (l : List Tok) (es : List Ed) : (applyT l es).2.2 = if checkT l ≠ 0 then checkT l else checkE (mkB (catL l)).size es := by
  by_cases h : checkT l = 0
  · obtain ⟨h1, _⟩ := textR_ok h
    unfold applyT
    rw [h1, if_neg (by simp [h])]
    by_cases h2 : checkE (mkB (catL l)).size es = 0
    · simp [h, h2]
    · simp [h, h2]
  · have h1 := textR_no h
    unfold applyT
    rw [h1]
    simp [h]

set_option maxRecDepth 100000 in
set_option maxHeartbeats 1000000 in
theorem RxCheck_any (c ce : Nat) (A Ae : Option Addr) (l : List Tok) (es : List Ed) (w : World) (hl : l.length ≤ 60000) (hcl : (catL l).length ≤ 60000) (hes : Small es) (hE : TksV w A l) (hEe : EdsV w Ae es) :
    Calls Tryd.prog 26 #[.slice A l.length c, .slice Ae es.length ce] w fun e w' => e = .returned (.int .i64 (applyT l es).2.2) ∧ Below w.heap.size w w' := by
  have hck := RCheck_any c A l w hl hcl hE
  have hsz : (mkB (catL l)).size ≤ 60000 := by rw [mkB_size]; exact hcl
  rw [applyT_err]
  by_cases h0 : checkT l = 0
  · rw [if_neg (by simp [h0])]
    rw [h0] at hck
    have hrt := fun W (hW : TksV W A l) => RText_any c A l W hl hcl hW
    have hrc := fun W (hW : EdsV W Ae es) => rCheck_any (mkB (catL l)) ce Ae es W hes hsz hW
    have Hck := Lib.hid hck
    have Hrt := Lib.hid hrt
    have Hrc := Lib.hid hrc
    have HE := Lib.hid hE
    have HEe := Lib.hid hEe
    clear hck hrt hrc hE hEe h0
    go_enter Tryd.func26, Tryd.ntmps26
    go_wp2_with fail
    refine Hck.out.mono ?_
    rintro e w1 ⟨rfl, hb1⟩
    go_wp2_with fail
    refine (Hrt.out w1 (HE.out.below hb1)).mono ?_
    rintro e w2 ⟨rfl, hb2⟩
    have hB2 := hb1.trans (hb2.mono hb1.size)
    go_wp2_with fail
    refine (Hrc.out w2 (HEe.out.below hB2)).mono ?_
    rintro e w3 ⟨rfl, hb3⟩
    go_wp2_with fail
    go_ret
    exact ⟨rfl, hB2.trans (hb3.mono hB2.size)⟩
  · rw [if_pos h0]
    have Hck := Lib.hid hck
    have q : (checkT l != 0) = true := by simpa using h0
    clear hck h0 hE hEe
    go_enter Tryd.func26, Tryd.ntmps26
    go_wp2_with fail
    refine Hck.out.mono ?_
    rintro e w1 ⟨rfl, hb1⟩
    go_wp2_with fail
    go_ret
    exact ⟨rfl, hb1⟩

end Go.Proofs.YtkdnacniligjjaaDoor
