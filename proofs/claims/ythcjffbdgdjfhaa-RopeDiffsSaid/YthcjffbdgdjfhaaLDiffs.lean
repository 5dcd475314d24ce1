/-
  RopeDiffs: Diff returns what the specification says, for any two strings, or the error.
  No condition: every input.
-/
import Derived.Test.YthcjffbdgdjfhaaArg
namespace Go.Proofs.Ythcjffbdgdjfhaa.lawRopeDiffs
set_option linter.unusedVariables false
set_option linter.unusedSimpArgs false
open Go.ChangeShapes Go.WideShapes Go.RowKit
open Go.ChangeMaps (open_string shut_string)

theorem short_size (t : ByteArray) : (shortB t).size = min t.size 20001 := by unfold shortB; rw [ByteArray.size_extract]; omega

set_option maxRecDepth 100000 in
set_option maxHeartbeats 1000000 in
theorem walk (a : ByteArray) (ha : a.size ≤ maxLen) (b : ByteArray) (hb : b.size ≤ maxLen) (w : World) :
    Calls Try.prog 6 #[.string a, .string b] w fun e w' => e = .returned (.bool true) ∧ Below w.heap.size w w' := by
  have hsa := short_size a
  have hsb := short_size b
  have ka : (shortB a).size ≤ 20001 := by omega
  have kb : (shortB b).size ≤ 20001 := by omega
  clear hsa hsb
  by_cases hbig : 20000 < (shortB a).size ∨ 20000 < (shortB b).size
  · have h1 : diffErr (shortB a) (shortB b) = 3 := by unfold diffErr; rw [if_pos hbig]
    have h2 : diffR (shortB a) (shortB b) = [] := by unfold diffR; rw [if_neg (by omega)]
    have H1 := Lib.hid h1
    have H2 := Lib.hid h2
    clear h1 h2
    by_cases h3 : 20000 < (shortB a).size
    all_goals
      go_enter Try.func6, Try.ntmps6
      go_wp2_with fail
      refine (Short_any a w ha).mono ?_
      rintro e w1 ⟨rfl, rfl⟩
      go_wp2_with fail
      refine (Short_any b w hb).mono ?_
      rintro e w1 ⟨rfl, rfl⟩
      go_wp2_with fail
      refine (Diff_any (shortB a) (shortB b) w (by omega) (by omega)).mono ?_
      rw [H1.out, H2.out]
      rintro e w1 ⟨A, c, rfl, _, _, hb1⟩
      go_wp2_with fail
      refine (alive_any w1).mono ?_
      rintro e w2 ⟨rfl, hb2⟩
      go_wp2_with fail
      go_ret
      exact ⟨rfl, hb1.trans (hb2.mono hb1.size)⟩
  · have h1 : diffErr (shortB a) (shortB b) = 0 := by unfold diffErr; rw [if_neg hbig]
    have h2 : diffR (shortB a) (shortB b) = diffL (shortB a) (shortB b) := by unfold diffR; rw [if_pos h1]
    have H1 := Lib.hid h1
    have H2 := Lib.hid h2
    have k1 : (shortB a).size ≤ 20000 := by omega
    have k2 : (shortB b).size ≤ 20000 := by omega
    have hlen : (diffL (shortB a) (shortB b)).length ≤ 1000 := by unfold diffL; split <;> simp
    have h4 := rDiff_any (shortB a) (shortB b)
    clear h1 h2 hbig ka kb
    generalize diffL (shortB a) (shortB b) = L at *
    have H4 := Lib.hid h4
    clear h4
    go_enter Try.func6, Try.ntmps6
    go_wp2_with fail
    refine (Short_any a w ha).mono ?_
    rintro e w1 ⟨rfl, rfl⟩
    go_wp2_with fail
    refine (Short_any b w hb).mono ?_
    rintro e w1 ⟨rfl, rfl⟩
    go_wp2_with fail
    refine (Diff_any (shortB a) (shortB b) w (by omega) (by omega)).mono ?_
    rw [H1.out, H2.out]
    rintro e w1 ⟨A, c, rfl, hE1, _, hb1⟩
    go_wp2_with fail
    refine (H4.out w1 (by omega) (by omega)).mono ?_
    rintro e w2 ⟨A2, c2, rfl, hE2, _, hb2⟩
    have hB2 := hb1.trans (hb2.mono hb1.size)
    have hE1' := hE1.below hb2
    clear hE1
    go_wp2_with fail
    refine (Same_any c c2 A A2 _ _ w2 hlen hE1' hE2).mono ?_
    rintro e w3 ⟨rfl, hb3⟩
    rw [decide_eq_true rfl]
    have hB3 := hB2.trans (hb3.mono hB2.size)
    clear hE1' hE2
    go_wp2_with fail
    refine (alive_any w3).mono ?_
    rintro e w4 ⟨rfl, hb4⟩
    go_wp2_with fail
    go_ret
    exact ⟨rfl, hB3.trans (hb4.mono hB3.size)⟩

theorem own : ownKnob Try.prog.godebug = none := by kernel_rfl
theorem laid : laidOutB Try.prog = true := by kernel_rfl
theorem readable : (Try.f6.params.toList.all fun t => Try.prog.readableRec t && decide (t < Try.prog.types.size)) = true := by kernel_rfl

set_option maxRecDepth 100000 in
theorem lifted (os : Os) (started : os.Started) (H : Type) (enc : TypeId × Value → H) :
    ReturnsInHanded {} Try.checked os 6 .any (Rows.ropeDiffsSpec.pre6 enc Try.prog Try.f6 Rows.ropeDiffsRow.domain false) (Rows.ropeDiffsSpec.post enc Try.prog Try.f6 false true false false) := by
  refine returnsInHanded_of_change (C := Try.checked) own started (by kernel_rfl) Try.func6
    (ChangeSpec.witness6 (enc := enc) (C := Try.checked) false ⟨#[], #[.string ByteArray.empty, .string ByteArray.empty], []⟩ 8 (by kernel_rfl) (by kernel_rfl) (by kernel_rfl) (by kernel_rfl)) ?_
  intro W base args ds gs before hval0 hW hcnd _
  have hval : ∀ (j : Nat) t v, Try.f6.params[j]? = some t → args[j]? = some v → Value.okWide Try.prog W .any base t v := hval0
  have hW' := hW
  obtain ⟨p, q, hA0, hV, rfl, hfz, hnd⟩ := hW
  have hA : DataW.TrodAll enc Try.prog W 0 (fun _ => true) true Try.f6.params.toList args.toList ds p := hA0
  rw [Try.params6] at hA hval
  obtain ⟨v0, vs0, d0, ds0, p0, q0, hargs, rfl, rfl, h0, r0⟩ := trodAll_cons hA
  obtain ⟨v1, vs1, d1, ds1, p1, q1, rfl, rfl, rfl, h1, r1⟩ := trodAll_cons r0
  obtain ⟨rfl, rfl, rfl⟩ := trodAll_nil r1
  obtain rfl : args = #[v0, v1] := by cases args; simp_all
  obtain ⟨rfl, rfl⟩ := trodVars_none hV
  obtain ⟨a0, rfl, rfl, rfl, w0⟩ := open_string Try.underlying9 (hval 0 9 v0 rfl rfl) h0
  obtain ⟨a1, rfl, rfl, rfl, w1⟩ := open_string Try.underlying9 (hval 1 9 v1 rfl rfl) h1
  clear hA0 hval0
  refine (walk a0 w0 a1 w1 W).mono fun e W' ⟨he, hb⟩ => ?_
  subst he
  exact ⟨_, rfl, law_post laid (fun t ht => by have h := List.all_eq_true.1 readable t ht; rw [Bool.and_eq_true, decide_eq_true_eq] at h; exact h) (by kernel_rfl) Try.underlying4 rfl rfl hW' hb⟩

theorem over : Rows.ropeDiffsRow.holds Try.pinned (OpenSpec.ofChange Rows.ropeDiffsSpec) :=
  OpenClaim.holds_of_wide 6 Try.f6 rfl rfl rfl rfl rfl rfl rfl ⟨rfl, rfl, rfl, rfl, rfl⟩ rfl rfl rfl rfl rfl (by kernel_rfl) Try.func6 (by kernel_rfl)
    (of_decide_eq_true (by kernel_rfl)) (by unfold Func.isWrapper; first | (rw [if_pos (by decide +kernel)]; kernel_rfl) | (rw [if_neg (by decide +kernel)]; exact ⟨rfl, rfl⟩))
    (fun os started H enc _ => lifted os started H enc)

theorem proved : Rows.RopeDiffsSaid :=
  over
#print axioms proved
end Go.Proofs.Ythcjffbdgdjfhaa.lawRopeDiffs
