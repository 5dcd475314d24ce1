/-
  The contract of the specification's sign.
-/
import Derived.Test.YtkaceghngjpemaaDoorRk1
import Derived.Deep.RegionLaw
import Derived.BigRegion
import Derived.BigQuiet
import Derived.Deep.QuietTactic
namespace Go.Proofs.YtkaceghngjpemaaDoor
set_option linter.unusedVariables false
set_option linter.unusedSimpArgs false
open Go.RowKit

set_option maxRecDepth 100000 in
set_option maxHeartbeats 1000000 in
theorem sign_any (t : ByteArray) (k : Nat) (w : World) (ht : t.size ≤ 60000) (hk : k < t.size) :
    Calls Tryd.prog 104 #[.string t, .int .i64 (k : Int)] w fun e w' => e = .returned (.int .i64 ((signN (t.extract k t.size) : Nat) : Int)) ∧ Below w.heap.size w w' := by
  have hz := tail_size t k
  rw [← signAt_eq (by omega)]
  have hx2 := ext_ext t k 2
  have hx1 := ext_ext t k 1
  have hk0 : (0 : Int) ≤ (k : Int) := by omega
  have hk9 : (k : Int) < (t.size : Int) := by omega
  have hk1 : k + 1 ≤ t.size := by omega
  have sk1 : IntKind.i64.wrap ((k : Int) + 1) = (k : Int) + 1 := IntWalk.i64_in _ (by omega)
  have sk2 : IntKind.i64.wrap ((k : Int) + 2) = (k : Int) + 2 := IntWalk.i64_in _ (by omega)
  have sn1 : ((k : Int) + 1).toNat = k + 1 := by omega
  have sn2 : ((k : Int) + 2).toNat = k + 2 := by omega
  have sb1 : (0 : Int) ≤ (k : Int) + 1 := by omega
  have sb2 : (0 : Int) ≤ (k : Int) + 2 := by omega
  have sc1 : (k : Int) ≤ (k : Int) + 1 := by omega
  have sc2 : (k : Int) ≤ (k : Int) + 2 := by omega
  have sd1 : (k : Int) + 1 ≤ (t.size : Int) := by omega
  by_cases h1 : k + 1 < t.size
  · have h1' : (k : Int) + 1 < (t.size : Int) := by omega
    have h2 : k + 2 ≤ t.size := by omega
    have q : decide ((k : Int) + 1 < (t.size : Int)) = true := by simp; omega
    have sd2 : (k : Int) + 2 ≤ (t.size : Int) := by omega
    cases q2 : hasB signsB (t.extract k (k + 2))
    · have hs1 : signAt (t.extract k t.size) = if hasB signsB (t.extract k (k + 1)) = true then 1 else 0 := by
        unfold signAt
        rw [hx2, q2, if_neg (by simp), hx1]
      cases q3 : hasB signsB (t.extract k (k + 1))
      all_goals
        rw [q3] at hs1
        have hr := Lib.hid hs1
        clear hs1 hx1 hx2
        go_enter Tryd.func104, Tryd.ntmps104
        go_wp2_with fail
        go_region_held3 (fun _ => True) (trivial) ((first
          | (go_simp
             go_at_call 22
             refine (RSigns_any _).mono ?_
             rintro e wS ⟨rfl, hS, hbS⟩)
          | (go_simp
             go_at_call 102
             refine (has_any _ 22 22 signsB _ _ (by rfl) (by decide) (by first | exact hS | exact StrsV.drew hS | exact StrsV.drewN hS _)).mono ?_
             rintro e wH ⟨rfl, rfl⟩)))
        all_goals
          have hB1 : Below w.heap.size w wH := by
            first
            | exact (Below.drew (Below.refl _ _)).trans hbS
            | exact ((Below.drew (Below.refl _ _)).trans hbS).drew
          have HB1 := Lib.hid hB1
          clear hbS hB1 hS
          go_wp2_with fail
          go_region_held3 (fun _ => True) (trivial) ((first
            | (go_simp
               go_at_call 22
               refine (RSigns_any _).mono ?_
               rintro e wS2 ⟨rfl, hS2, hbS2⟩)
            | (go_simp
               go_at_call 102
               refine (has_any _ 22 22 signsB _ _ (by rfl) (by decide) (by first | exact hS2 | exact StrsV.drew hS2 | exact StrsV.drewN hS2 _)).mono ?_
               rintro e wH2 ⟨rfl, rfl⟩)))
          all_goals
            have hB2 : Below wH.heap.size wH wH2 := by
              first
              | exact hbS2
              | exact (Below.drew (Below.refl _ _)).trans hbS2
              | exact (below_drewT (Below.refl _ _) _).trans hbS2
            have HB2 := Lib.hid (HB1.out.trans (hB2.mono HB1.out.size))
            clear hbS2 hB2 hS2
            go_wp2_with fail
            go_ret
            refine ⟨ret_i hr.out.symm, ?_⟩
            first
            | exact HB2.out
            | exact HB2.out.drew
            | exact below_drewT HB2.out _
    · have hr : Hid (signAt (t.extract k t.size) = 2) := Lib.hid (by
        unfold signAt
        rw [hx2, q2, if_pos ⟨by omega, rfl⟩])
      clear hx1 hx2
      go_enter Tryd.func104, Tryd.ntmps104
      go_wp2_with fail
      go_region_held3 (fun _ => True) (trivial) ((first
        | (go_simp
           go_at_call 22
           refine (RSigns_any _).mono ?_
           rintro e wS ⟨rfl, hS, hbS⟩)
        | (go_simp
           go_at_call 102
           refine (has_any _ 22 22 signsB _ _ (by rfl) (by decide) (by first | exact hS | exact StrsV.drew hS | exact StrsV.drewN hS _)).mono ?_
           rintro e wH ⟨rfl, rfl⟩)))
      all_goals
        have hB1 : Below w.heap.size w wH := by
          first
          | exact (Below.drew (Below.refl _ _)).trans hbS
          | exact ((Below.drew (Below.refl _ _)).trans hbS).drew
        have HB1 := Lib.hid hB1
        clear hbS hB1 hS
        go_wp2_with fail
        go_ret
        refine ⟨ret_i hr.out.symm, ?_⟩
        first
        | exact HB1.out
        | exact HB1.out.drew
        | exact below_drewT HB1.out _
  · have h1' : ¬ (k : Int) + 1 < (t.size : Int) := by omega
    have q : decide ((k : Int) + 1 < (t.size : Int)) = false := by simp; omega
    have hs1 : signAt (t.extract k t.size) = if hasB signsB (t.extract k (k + 1)) = true then 1 else 0 := by
      unfold signAt
      rw [if_neg (by omega), hx1]
    cases q3 : hasB signsB (t.extract k (k + 1))
    all_goals
      rw [q3] at hs1
      have hr := Lib.hid hs1
      clear hs1 hx1 hx2
      go_enter Tryd.func104, Tryd.ntmps104
      go_wp2_with fail
      go_quiet (fail)
      go_wp2_with fail
      go_region_held3 (fun _ => True) (trivial) ((first
        | (go_simp
           go_at_call 22
           refine (RSigns_any _).mono ?_
           rintro e wS ⟨rfl, hS, hbS⟩)
        | (go_simp
           go_at_call 102
           refine (has_any _ 22 22 signsB _ _ (by rfl) (by decide) (by first | exact hS | exact StrsV.drew hS | exact StrsV.drewN hS _)).mono ?_
           rintro e wH ⟨rfl, rfl⟩)))
      all_goals
        have hB1 : Below w.heap.size w wH := by
          first
          | exact (below_drewT (Below.refl _ _) _).trans hbS
          | exact (Below.drew (below_drewT (Below.refl _ _) _)).trans hbS
        have HB1 := Lib.hid hB1
        clear hbS hB1 hS
        go_wp2_with fail
        go_ret
        refine ⟨ret_i hr.out.symm, ?_⟩
        first
        | exact HB1.out
        | exact HB1.out.drew
        | exact below_drewT HB1.out _
end Go.Proofs.YtkaceghngjpemaaDoor
