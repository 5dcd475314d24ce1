/-
  RopeMoves: Move returns where an offset is behind any edits, or the error, as the specification says.
  No condition: every input.
-/
import Derived.Test.YthcjffbdgdjfhaaArg
namespace Go.Proofs.Ythcjffbdgdjfhaa.lawRopeMoves
set_option linter.unusedVariables false
set_option linter.unusedSimpArgs false
open Go.ChangeShapes Go.WideShapes Go.RowKit

theorem ok_of {L : List Ed} {o : Int} (h1 : ¬ 100 < L.length) (h2 : rising 20000 0 L = true) (h3 : 0 ≤ o) (h4 : o ≤ 20000) : moveErr L o = 0 := by
  unfold moveErr
  rw [if_neg h1, if_neg]
  rw [h2]
  unfold isSpanB
  simp
  omega
theorem no_of {L : List Ed} {o : Int} (h1 : ¬ 100 < L.length) (h : rising 20000 0 L = false ∨ o < 0 ∨ 20000 < o) : moveErr L o = 2 := by
  unfold moveErr
  rw [if_neg h1, if_pos]
  rcases h with h | h | h
  · exact .inl h
  · right; unfold isSpanB; simp; omega
  · right; unfold isSpanB; simp; omega

set_option maxRecDepth 100000 in
set_option maxHeartbeats 2000000 in
theorem walk (A : Option Addr) (c : Nat) (l : List Ed) (hl : l.length ≤ maxLen) (hs : ∀ e ∈ l, e.s.size ≤ maxLen) (o : Int) (after : Bool) (w : World) (hE : EdsV w A l) :
    Calls Try.prog 5 #[.slice A l.length c, .int .i64 o, .bool after] w fun e w' => e = .returned (.bool true) ∧ Below w.heap.size w w' := by
  have hcut := Cut_any 2000 c A l w hl hs hE
  have hsm := cutL_small (m := 2000) (by omega) l
  generalize cutL 2000 l = L at hcut hsm
  have Hcut := Lib.hid hcut
  clear hcut hl hs hE
  have hl1 := hsm.1
  by_cases hlen : 100 < L.length
  · have H1 := Lib.hid (moveErr_3 (o := o) hlen)
    go_enter Try.func5, Try.ntmps5
    go_wp2_with fail
    refine Hcut.out.mono ?_
    rintro e w1 ⟨A1, c1, rfl, hE1, hb1⟩
    go_wp2_with fail
    refine (Move_any c1 A1 L o after w1 hsm hE1).mono ?_
    rw [moveRes_no (by rw [H1.out]; decide), H1.out]
    rintro e w2 ⟨rfl, hb2⟩
    have hB2 := hb1.trans (hb2.mono hb1.size)
    clear hE1
    go_wp2_with fail
    refine (alive_any w2).mono ?_
    rintro e w3 ⟨rfl, hb3⟩
    go_wp2_with fail
    go_ret
    exact ⟨rfl, hB2.trans (hb3.mono hB2.size)⟩
  · by_cases hr : rising 20000 0 L = true
    · by_cases ho : o < 0 ∨ 20000 < o
      · have H1 := Lib.hid (no_of hlen (.inr ho))
        have Hr := Lib.hid hr
        clear hr
        rcases ho with ho | ho
        case' inr => have ho0 : 0 ≤ o := by omega
        all_goals
          go_enter Try.func5, Try.ntmps5
          go_wp2_with fail
          refine Hcut.out.mono ?_
          rintro e w1 ⟨A1, c1, rfl, hE1, hb1⟩
          go_wp2_with fail
          refine (Move_any c1 A1 L o after w1 hsm hE1).mono ?_
          rw [moveRes_no (by rw [H1.out]; decide), H1.out]
          rintro e w2 ⟨rfl, hb2⟩
          have hB2 := hb1.trans (hb2.mono hb1.size)
          have hE2 := hE1.below hb2
          clear hE1
          go_wp2_with fail
          refine (rSpans_any c1 A1 L w2 hl1 hE2).mono ?_
          rw [Hr.out]
          rintro e w3 ⟨rfl, hb3⟩
          have hB3 := hB2.trans (hb3.mono hB2.size)
          clear hE2
          go_wp2_with fail
          refine (alive_any w3).mono ?_
          rintro e w4 ⟨rfl, hb4⟩
          go_wp2_with fail
          go_ret
          exact ⟨rfl, hB3.trans (hb4.mono hB3.size)⟩
      · have ho1 : 0 ≤ o := by omega
        have ho2 : o ≤ 20000 := by omega
        have H1 := Lib.hid (ok_of hlen hr ho1 ho2)
        have Hsame := Lib.hid (move_same (o := o) (after := after) (sh := 0) hr)
        have Hr := Lib.hid hr
        clear hr ho
        go_enter Try.func5, Try.ntmps5
        go_wp2_with fail
        refine Hcut.out.mono ?_
        rintro e w1 ⟨A1, c1, rfl, hE1, hb1⟩
        go_wp2_with fail
        refine (Move_any c1 A1 L o after w1 hsm hE1).mono ?_
        rw [moveRes_ok H1.out, H1.out]
        rintro e w2 ⟨rfl, hb2⟩
        have hB2 := hb1.trans (hb2.mono hb1.size)
        have hE2 := hE1.below hb2
        clear hE1
        go_wp2_with fail
        refine (rSpans_any c1 A1 L w2 hl1 hE2).mono ?_
        rw [Hr.out]
        rintro e w3 ⟨rfl, hb3⟩
        have hB3 := hB2.trans (hb3.mono hB2.size)
        have hE3 := hE2.below hb3
        clear hE2
        go_wp2_with fail
        refine (rMove_any c1 A1 L o after w3 hsm Hr.out ho1 ho2 hE3).mono ?_
        rw [← Hsame.out]
        rintro e w4 ⟨rfl, hb4⟩
        have hB4 := hB3.trans (hb4.mono hB3.size)
        clear hE3
        go_wp2_with fail
        refine (alive_any w4).mono ?_
        rintro e w5 ⟨rfl, hb5⟩
        go_wp2_with fail
        go_ret
        exact ⟨rfl, hB4.trans (hb5.mono hB4.size)⟩
    · have hr' := Bool.eq_false_iff.2 hr
      have H1 := Lib.hid (no_of (o := o) hlen (.inl hr'))
      have Hr := Lib.hid hr'
      clear hr hr'
      go_enter Try.func5, Try.ntmps5
      go_wp2_with fail
      refine Hcut.out.mono ?_
      rintro e w1 ⟨A1, c1, rfl, hE1, hb1⟩
      go_wp2_with fail
      refine (Move_any c1 A1 L o after w1 hsm hE1).mono ?_
      rw [moveRes_no (by rw [H1.out]; decide), H1.out]
      rintro e w2 ⟨rfl, hb2⟩
      have hB2 := hb1.trans (hb2.mono hb1.size)
      have hE2 := hE1.below hb2
      clear hE1
      go_wp2_with fail
      refine (rSpans_any c1 A1 L w2 hl1 hE2).mono ?_
      rw [Hr.out]
      rintro e w3 ⟨rfl, hb3⟩
      have hB3 := hB2.trans (hb3.mono hB2.size)
      clear hE2
      go_wp2_with fail
      refine (alive_any w3).mono ?_
      rintro e w4 ⟨rfl, hb4⟩
      go_wp2_with fail
      go_ret
      exact ⟨rfl, hB3.trans (hb4.mono hB3.size)⟩

theorem own : ownKnob Try.prog.godebug = none := by kernel_rfl
theorem laid : laidOutB Try.prog = true := by kernel_rfl
theorem readable : (Try.f5.params.toList.all fun t => Try.prog.readableRec t && decide (t < Try.prog.types.size)) = true := by kernel_rfl

set_option maxRecDepth 100000 in
theorem lifted (os : Os) (started : os.Started) (H : Type) (enc : TypeId × Value → H) :
    ReturnsInHanded {} Try.checked os 5 .any (Rows.ropeMovesSpec.pre6 enc Try.prog Try.f5 Rows.ropeMovesRow.domain false) (Rows.ropeMovesSpec.post enc Try.prog Try.f5 false true false false) := by
  refine returnsInHanded_of_change (C := Try.checked) own started (by kernel_rfl) Try.func5
    (ChangeSpec.witness6 (enc := enc) (C := Try.checked) false ⟨#[], #[.slice none 0 0, .int .i64 0, .bool false], []⟩ 8 (by kernel_rfl) (by kernel_rfl) (by kernel_rfl) (by kernel_rfl)) ?_
  intro W base args ds gs before hval0 hW hcnd _
  have hval : ∀ (j : Nat) t v, Try.f5.params[j]? = some t → args[j]? = some v → Value.okWide Try.prog W .any base t v := hval0
  have hW' := hW
  obtain ⟨p, q, hA0, hV, rfl, hfz, hnd⟩ := hW
  have hA : DataW.TrodAll enc Try.prog W 0 (fun _ => true) true Try.f5.params.toList args.toList ds p := hA0
  rw [Try.params5] at hA hval
  obtain ⟨v0, vs0, d0, ds0, p0, q0, hargs, rfl, rfl, h0, r0⟩ := trodAll_cons hA
  obtain ⟨v1, vs1, d1, ds1, p1, q1, rfl, rfl, rfl, h1, r1⟩ := trodAll_cons r0
  obtain ⟨v2, vs2, d2, ds2, p2, q2, rfl, rfl, rfl, h2, r2⟩ := trodAll_cons r1
  obtain ⟨rfl, rfl, rfl⟩ := trodAll_nil r2
  obtain rfl : args = #[v0, v1, v2] := by cases args; simp_all
  obtain ⟨rfl, rfl⟩ := trodVars_none hV
  obtain ⟨A0, c0, l0, rfl, hE0, hl0, hs0⟩ := eds_of_arg (hval 0 22 v0 rfl rfl) h0
  obtain ⟨n1, rfl, rfl, rfl, w1⟩ := open_int Try.underlying3 (hval 1 3 v1 rfl rfl) h1
  obtain ⟨b2, rfl, rfl, rfl⟩ := open_bool Try.underlying4 (hval 2 4 v2 rfl rfl) h2
  clear hA0 hval0
  refine (walk A0 c0 l0 hl0 hs0 n1 b2 W hE0).mono fun e W' ⟨he, hb⟩ => ?_
  subst he
  exact ⟨_, rfl, law_post laid (fun t ht => by have h := List.all_eq_true.1 readable t ht; rw [Bool.and_eq_true, decide_eq_true_eq] at h; exact h) (by kernel_rfl) Try.underlying4 rfl rfl hW' hb⟩

theorem over : Rows.ropeMovesRow.holds Try.pinned (OpenSpec.ofChange Rows.ropeMovesSpec) :=
  OpenClaim.holds_of_wide 5 Try.f5 rfl rfl rfl rfl rfl rfl rfl ⟨rfl, rfl, rfl, rfl, rfl⟩ rfl rfl rfl rfl rfl (by kernel_rfl) Try.func5 (by kernel_rfl)
    (of_decide_eq_true (by kernel_rfl)) (by unfold Func.isWrapper; first | (rw [if_pos (by decide +kernel)]; kernel_rfl) | (rw [if_neg (by decide +kernel)]; exact ⟨rfl, rfl⟩))
    (fun os started H enc _ => lifted os started H enc)

theorem proved : Rows.RopeMovesSaid :=
  over
#print axioms proved
end Go.Proofs.Ythcjffbdgdjfhaa.lawRopeMoves
