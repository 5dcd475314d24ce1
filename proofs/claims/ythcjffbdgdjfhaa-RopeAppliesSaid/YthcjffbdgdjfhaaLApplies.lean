/-
  RopeApplies: Check, Apply and Invert return what the specification says of any string and edits, or the error.
  No condition: every input.
-/
import Derived.Test.YthcjffbdgdjfhaaArg
import Derived.Test.YthcjffbdgdjfhaaRInv
import Derived.Test.YthcjffbdgdjfhaaMove
namespace Go.Proofs.Ythcjffbdgdjfhaa.lawRopeApplies
set_option linter.unusedVariables false
set_option linter.unusedSimpArgs false
open Go.ChangeShapes Go.WideShapes Go.RowKit
open Go.ChangeMaps (open_string shut_string)

theorem short_size (t : ByteArray) : (shortB t).size = min t.size 20001 := by unfold shortB; rw [ByteArray.size_extract]; omega

set_option maxRecDepth 100000 in
set_option maxHeartbeats 2000000 in
theorem walk (t : ByteArray) (ht : t.size ≤ maxLen) (A : Option Addr) (c : Nat) (l : List Ed) (hl : l.length ≤ maxLen) (hs : ∀ e ∈ l, e.s.size ≤ maxLen) (w : World) (hE : EdsV w A l) :
    Calls Try.prog 3 #[.string t, .slice A l.length c] w fun e w' => e = .returned (.bool true) ∧ Below w.heap.size w w' := by
  have hcut := Cut_any 2000 c A l w hl hs hE
  have hsm := cutL_small (m := 2000) (by omega) l
  have hst := short_size t
  have hst2 : (shortB t).size ≤ 60000 := by omega
  have hsh := Short_any t w ht
  generalize cutL 2000 l = L at hcut hsm
  generalize shortB t = s at hst2 hsh
  have Hcut := Lib.hid hcut
  have Hsh := Lib.hid hsh
  clear hcut hl hs hE hst hsh ht
  have hl1 := hsm.1
  by_cases h0 : checkE s.size L = 0
  · have H1 := Lib.hid (applyR_ok h0)
    have H2 : Hid (invertR s L = invertL s 0 L) := Lib.hid (by unfold invertR; rw [if_pos h0])
    have hok := checkE_ok h0
    have Hr := Lib.hid hok.2.2.1
    have hil : (invertL s 0 L).length ≤ 1000 := by rw [invertL_length]; exact hl1
    have H0 := Lib.hid h0
    clear h0 hok
    go_enter Try.func3, Try.ntmps3
    go_wp2_with fail
    refine Hsh.out.mono ?_
    rintro e w1 ⟨rfl, rfl⟩
    go_wp2_with fail
    refine Hcut.out.mono ?_
    rintro e w1 ⟨A1, c1, rfl, hE1, hb1⟩
    go_wp2_with fail
    refine (rCheck_any s c1 A1 L w1 hsm hst2 hE1).mono ?_
    rw [H0.out]
    rintro e w2 ⟨rfl, hb2⟩
    have hB2 := hb1.trans (hb2.mono hb1.size)
    have hE2 := hE1.below hb2
    clear hE1
    go_wp2_with fail
    refine (Apply_any s c1 A1 L w2 hsm hst2 hE2).mono ?_
    rw [H0.out, H1.out]
    rintro e w3 ⟨rfl, hb3⟩
    have hB3 := hB2.trans (hb3.mono hB2.size)
    have hE3 := hE2.below hb3
    clear hE2
    go_wp2_with fail
    refine (Invert_any s c1 A1 L w3 hsm hst2 hE3).mono ?_
    rw [H0.out, H2.out]
    rintro e w4 ⟨A4, c4, rfl, hI4, _, hb4⟩
    have hB4 := hB3.trans (hb4.mono hB3.size)
    have hE4 := hE3.below hb4
    clear hE3
    go_wp2_with fail
    refine (Check_any s c1 A1 L w4 hsm hst2 hE4).mono ?_
    rw [H0.out]
    rintro e w5 ⟨rfl, hb5⟩
    have hB5 := hB4.trans (hb5.mono hB4.size)
    have hE5 := hE4.below hb5
    have hI5 := hI4.below hb5
    clear hE4 hI4
    go_wp2_with fail
    refine (rApply_any s c1 A1 L w5 hsm hst2 Hr.out hE5).mono ?_
    rintro e w6 ⟨rfl, hb6⟩
    have hB6 := hB5.trans (hb6.mono hB5.size)
    have hE6 := hE5.below hb6
    have hI6 := hI5.below hb6
    clear hE5 hI5
    go_wp2_with fail
    refine (rInvert_own s c1 A1 L w6 hsm hst2 Hr.out hE6).mono ?_
    rintro e w7 ⟨v7, rfl, ho7, hb7⟩
    obtain ⟨A7, c7, rfl, hE7, _⟩ := EdsV.of_own ho7
    have hB7 := hB6.trans (hb7.mono hB6.size)
    have hI7 := hI6.below hb7
    clear hE6 hI6 ho7
    go_wp2_with fail
    refine (Same_any c4 c7 A4 A7 _ _ w7 hil hI7 hE7).mono ?_
    rw [decide_eq_true rfl]
    rintro e w8 ⟨rfl, hb8⟩
    have hB8 := hB7.trans (hb8.mono hB7.size)
    clear hI7 hE7
    go_wp2_with fail
    refine (alive_any w8).mono ?_
    rintro e w9 ⟨rfl, hb9⟩
    go_wp2_with fail
    go_ret
    exact ⟨rfl, hB8.trans (hb9.mono hB8.size)⟩
  · have H1 := Lib.hid (applyR_no h0)
    have H2 : Hid (invertR s L = []) := Lib.hid (by unfold invertR; rw [if_neg h0])
    have q : (checkE (s.size : Int) L != 0) = true := by simpa using h0
    have q2 : ByteArray.empty.toList = [] := by decide +kernel
    clear h0
    go_enter Try.func3, Try.ntmps3
    go_wp2_with fail
    refine Hsh.out.mono ?_
    rintro e w1 ⟨rfl, rfl⟩
    go_wp2_with fail
    refine Hcut.out.mono ?_
    rintro e w1 ⟨A1, c1, rfl, hE1, hb1⟩
    go_wp2_with fail
    refine (rCheck_any s c1 A1 L w1 hsm hst2 hE1).mono ?_
    rintro e w2 ⟨rfl, hb2⟩
    have hB2 := hb1.trans (hb2.mono hb1.size)
    have hE2 := hE1.below hb2
    clear hE1
    go_wp2_with fail
    refine (Apply_any s c1 A1 L w2 hsm hst2 hE2).mono ?_
    rw [H1.out]
    rintro e w3 ⟨rfl, hb3⟩
    have hB3 := hB2.trans (hb3.mono hB2.size)
    have hE3 := hE2.below hb3
    clear hE2
    go_wp2_with fail
    refine (Invert_any s c1 A1 L w3 hsm hst2 hE3).mono ?_
    rw [H2.out]
    rintro e w4 ⟨A4, c4, rfl, hI4, _, hb4⟩
    have hB4 := hB3.trans (hb4.mono hB3.size)
    have hE4 := hE3.below hb4
    clear hE3 hI4
    go_wp2_with fail
    refine (Check_any s c1 A1 L w4 hsm hst2 hE4).mono ?_
    rintro e w5 ⟨rfl, hb5⟩
    have hB5 := hB4.trans (hb5.mono hB4.size)
    clear hE4
    go_wp2_with fail
    refine (alive_any w5).mono ?_
    rintro e w9 ⟨rfl, hb9⟩
    go_wp2_with fail
    go_ret
    exact ⟨rfl, hB5.trans (hb9.mono hB5.size)⟩

theorem own : ownKnob Try.prog.godebug = none := by kernel_rfl
theorem laid : laidOutB Try.prog = true := by kernel_rfl
theorem readable : (Try.f3.params.toList.all fun t => Try.prog.readableRec t && decide (t < Try.prog.types.size)) = true := by kernel_rfl

set_option maxRecDepth 100000 in
theorem lifted (os : Os) (started : os.Started) (H : Type) (enc : TypeId × Value → H) :
    ReturnsInHanded {} Try.checked os 3 .any (Rows.ropeAppliesSpec.pre6 enc Try.prog Try.f3 Rows.ropeAppliesRow.domain false) (Rows.ropeAppliesSpec.post enc Try.prog Try.f3 false true false false) := by
  refine returnsInHanded_of_change (C := Try.checked) own started (by kernel_rfl) Try.func3
    (ChangeSpec.witness6 (enc := enc) (C := Try.checked) false ⟨#[], #[.string ByteArray.empty, .slice none 0 0], []⟩ 8 (by kernel_rfl) (by kernel_rfl) (by kernel_rfl) (by kernel_rfl)) ?_
  intro W base args ds gs before hval0 hW hcnd _
  have hval : ∀ (j : Nat) t v, Try.f3.params[j]? = some t → args[j]? = some v → Value.okWide Try.prog W .any base t v := hval0
  have hW' := hW
  obtain ⟨p, q, hA0, hV, rfl, hfz, hnd⟩ := hW
  have hA : DataW.TrodAll enc Try.prog W 0 (fun _ => true) true Try.f3.params.toList args.toList ds p := hA0
  rw [Try.params3] at hA hval
  obtain ⟨v0, vs0, d0, ds0, p0, q0, hargs, rfl, rfl, h0, r0⟩ := trodAll_cons hA
  obtain ⟨v1, vs1, d1, ds1, p1, q1, rfl, rfl, rfl, h1, r1⟩ := trodAll_cons r0
  obtain ⟨rfl, rfl, rfl⟩ := trodAll_nil r1
  obtain rfl : args = #[v0, v1] := by cases args; simp_all
  obtain ⟨rfl, rfl⟩ := trodVars_none hV
  obtain ⟨a0, rfl, rfl, rfl, w0⟩ := open_string Try.underlying9 (hval 0 9 v0 rfl rfl) h0
  obtain ⟨A1, c1, l1, rfl, hE1, hl1, hs1⟩ := eds_of_arg (hval 1 22 v1 rfl rfl) h1
  clear hA0 hval0
  refine (walk a0 w0 A1 c1 l1 hl1 hs1 W hE1).mono fun e W' ⟨he, hb⟩ => ?_
  subst he
  exact ⟨_, rfl, law_post laid (fun t ht => by have h := List.all_eq_true.1 readable t ht; rw [Bool.and_eq_true, decide_eq_true_eq] at h; exact h) (by kernel_rfl) Try.underlying4 rfl rfl hW' hb⟩

theorem over : Rows.ropeAppliesRow.holds Try.pinned (OpenSpec.ofChange Rows.ropeAppliesSpec) :=
  OpenClaim.holds_of_wide 3 Try.f3 rfl rfl rfl rfl rfl rfl rfl ⟨rfl, rfl, rfl, rfl, rfl⟩ rfl rfl rfl rfl rfl (by kernel_rfl) Try.func3 (by kernel_rfl)
    (of_decide_eq_true (by kernel_rfl)) (by unfold Func.isWrapper; first | (rw [if_pos (by decide +kernel)]; kernel_rfl) | (rw [if_neg (by decide +kernel)]; exact ⟨rfl, rfl⟩))
    (fun os started H enc _ => lifted os started H enc)

theorem proved : Rows.RopeAppliesSaid :=
  over
#print axioms proved
end Go.Proofs.Ythcjffbdgdjfhaa.lawRopeApplies
