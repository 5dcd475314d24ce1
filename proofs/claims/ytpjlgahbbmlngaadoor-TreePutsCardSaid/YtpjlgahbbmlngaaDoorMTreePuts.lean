/-
  TreePuts: the card, from the walk (the text WTreePuts), for every input: no condition.
-/
import Derived.Test.YtpjlgahbbmlngaaDoorTreePutsp3
import Derived.Test.YtpjlgahbbmlngaaDoorTreeLeavesp37
import Derived.Test.YtpjlgahbbmlngaaDoorTreeLeavesp33
import Derived.Test.YtpjlgahbbmlngaaDoorCards
import Derived.Test.YtpjlgahbbmlngaaDoorTie



namespace Go.Proofs.YtpjlgahbbmlngaaDoor.lawTreePuts
set_option linter.unusedVariables false
set_option linter.unusedSimpArgs false
open Go.ChangeShapes Go.WideShapes Go.RowKit
open Go.ChangeMaps (open_string shut_string)

theorem own : ownKnob Tryd.prog.godebug = none := by kernel_rfl
theorem laid : laidOutB Tryd.prog = true := by kernel_rfl
theorem readable : (Tryd.f8.params.toList.all fun t => Tryd.prog.readableRec t && decide (t < Tryd.prog.types.size)) = true := by kernel_rfl

set_option maxRecDepth 100000 in
theorem lifted (os : Os) (started : os.Started) (H : Type) (enc : TypeId × Value → H) :
    ReturnsInHanded {} Tryd.checked os 8 .any (fun w args => (Rows.treePutsSpec.pre enc Tryd.prog Tryd.f8 Rows.treePutsRow.domain false w args ∧ laidMetH Tryd.prog Rows.treePutsRow.laid w) ∧ sizedMet enc Tryd.prog Tryd.f8 (OpenSpec.ofChange Rows.treePutsSpec) false w args)
      (Rows.treePutsSpec.post enc Tryd.prog Tryd.f8 false true false false) := by
  refine returnsInHanded_of_change_and (C := Tryd.checked) (X := fun w _ => laidMetH Tryd.prog Rows.treePutsRow.laid w) (fun _ _ _ hh h => h.of_heap hh) own started (by kernel_rfl) Tryd.func8
    (ChangeSpec.witness_at (enc := enc) (C := Tryd.checked) (os := os) (X := fun w _ => laidMetH Tryd.prog Rows.treePutsRow.laid w) false (laidWorldR os) #[.agg #[.int .i64 0, .int .i64 0, .string ByteArray.empty, .slice none 0 0], .slice none 0 0, .agg #[.int .i64 0, .int .i64 0, .string ByteArray.empty, .slice none 0 0]] 8 rfl (by kernel_rfl) (by kernel_rfl) (by kernel_rfl) (by kernel_rfl) (by kernel_rfl) (laidWorldR_met os _)) ?_
  intro W base args ds gs before hval0 hW hcnd _ hL _
  have hval : ∀ (j : Nat) t v, Tryd.f8.params[j]? = some t → args[j]? = some v → Value.okWide Tryd.prog W .any base t v := hval0
  have hT : Tabs W := tabs_of_laidR hL
  have hW' := hW
  obtain ⟨p, q, hA0, hV, rfl, hfz, hnd⟩ := hW
  have hA : DataW.TrodAll enc Tryd.prog W 0 (fun _ => true) true Tryd.f8.params.toList args.toList ds p := hA0
  rw [Tryd.params8] at hA hval
  obtain ⟨v0, vs0, d0, ds0, p0, q0, hargs, rfl, rfl, h0, r0⟩ := trodAll_cons hA
  obtain ⟨v1, vs1, d1, ds1, p1, q1, rfl, rfl, rfl, h1, r1⟩ := trodAll_cons r0
  obtain ⟨v2, vs2, d2, ds2, p2, q2, rfl, rfl, rfl, h2, r2⟩ := trodAll_cons r1
  obtain ⟨rfl, rfl, rfl⟩ := trodAll_nil r2
  obtain rfl : args = #[v0, v1, v2] := by cases args; simp_all
  obtain ⟨rfl, rfl⟩ := trodVars_none hV
  obtain ⟨n0, hN0, hR0⟩ := node_of_arg (hval 0 26 v0 rfl rfl) h0
  obtain ⟨A1, c1, l1, rfl, hE1, hl1, hs1⟩ := ints_of_arg (hval 1 51 v1 rfl rfl) h1
  obtain ⟨n2, hN2, hR2⟩ := node_of_arg (hval 2 26 v2 rfl rfl) h2
  clear hA0 hval0
  refine (walk n0 v0 hR0 A1 c1 l1 hl1 hs1 n2 v2 hR2 W hT hN0 hE1 hN2).mono fun e W' ⟨he, hb⟩ => ?_
  subst he
  exact ⟨_, rfl, law_post laid (fun t ht => by have h := List.all_eq_true.1 readable t ht; rw [Bool.and_eq_true, decide_eq_true_eq] at h; exact h) (by kernel_rfl) Tryd.underlying4 rfl rfl hW' hb⟩

theorem over : Rows.TreePutsSaid :=
  OpenClaim.holds_of_wide 8 Tryd.f8 rfl rfl rfl rfl rfl rfl rfl ⟨rfl, rfl, rfl, rfl, rfl⟩ rfl rfl rfl rfl rfl (by kernel_rfl) Tryd.func8 (by kernel_rfl)
    (of_decide_eq_true (by kernel_rfl)) (by unfold Func.isWrapper; first | (rw [if_pos (by decide +kernel)]; kernel_rfl) | (rw [if_neg (by decide +kernel)]; exact ⟨rfl, rfl⟩))
    (fun os started H enc _ => lifted os started H enc)

theorem proved : Rows.TreePutsCardSaid :=
  Claim7.holds_tied_plain_at .later [] [.data, .data] true (true, "62649d204eeba83e46624117946040814fde11a4c84f40a2076397e22f7c0bb6") false
    over (fun _ h => by cases h) (by kernel_rfl) (fun _ h => by cases h) treePuts_row_tie rfl ⟨rfl, rfl⟩ (by kernel_rfl) rfl
    (fun f fn hf hfn => by
      obtain rfl : f = 8 := Option.some.inj ((show Tryd.prog.funcNamed "marginalia/marginalialaw05.TreePuts" = some 8 by kernel_rfl).symm.trans hf) |>.symm
      obtain rfl : fn = Tryd.f8 := (Option.some.inj (Tryd.func8.symm.trans hfn)).symm
      exact ⟨by kernel_rfl, fun j t ht => by
          rw [Tryd.params8] at ht
          rcases j with _ | j
          · obtain rfl : 26 = t := by simpa using ht
            exact (show Tryd.prog.wantsStandIn 26 = false by kernel_rfl)
          rcases j with _ | j
          · obtain rfl : 51 = t := by simpa using ht
            exact (show Tryd.prog.wantsStandIn 51 = false by kernel_rfl)
          rcases j with _ | j
          · obtain rfl : 26 = t := by simpa using ht
            exact (show Tryd.prog.wantsStandIn 26 = false by kernel_rfl)
          simp at ht⟩)
    (by kernel_rfl)
#print axioms proved
end Go.Proofs.YtpjlgahbbmlngaaDoor.lawTreePuts
