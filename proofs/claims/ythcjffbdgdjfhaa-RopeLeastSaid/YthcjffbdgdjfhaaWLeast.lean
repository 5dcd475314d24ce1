/-
  RopeLeast: Apply of Diff to the old string is the new one; its edit is at most as long, in bytes replaced and put, as any other single edit that does it.
  No condition: every input.
-/
import Derived.Test.YthcjffbdgdjfhaaArg
import Derived.Test.YthcjffbdgdjfhaaLeastMath
import Derived.Deep.RegionHeld3
namespace Go.Proofs.Ythcjffbdgdjfhaa.lawRopeLeast
set_option linter.unusedVariables false
set_option linter.unusedSimpArgs false
open Go.ChangeShapes Go.WideShapes Go.RowKit
open Go.ChangeMaps (open_string shut_string)

theorem diffL_new (a b : ByteArray) : ∀ d ∈ diffL a b, d.s.size ≤ b.size := by
  intro d hd
  unfold diffL at hd
  split at hd
  · simp at hd
  · simp at hd
    subst hd
    simp only
    rw [ByteArray.size_extract]
    omega
theorem short_size (t : ByteArray) : (shortB t).size = min t.size 20001 := by unfold shortB; rw [ByteArray.size_extract]; omega

set_option maxRecDepth 100000 in
set_option maxHeartbeats 2000000 in
theorem walk (t : ByteArray) (ht : t.size ≤ maxLen) (e0 : Ed) (hes : e0.s.size ≤ maxLen) (u0 : (Lit.int .i64 e0.f).wf = true) (v0 : (Lit.int .i64 e0.t).wf = true) (w : World) :
    Calls Try.prog 13 #[.string t, .agg #[.int .i64 e0.f, .int .i64 e0.t, .string e0.s]] w fun e w' => e = .returned (.bool true) ∧ Below w.heap.size w w' := by
  clear u0 v0
  have hcut : ∀ (A : Option Addr) (w1 : World), EdsV w1 A [e0] → Calls Try.prog 16 #[.slice A 1 1, .int .i64 (2000 : Nat)] w1 fun e w' => ∃ A' c', e = .returned (.slice A' 1 c') ∧ EdsV w' A' [cutE 2000 e0] ∧ Below w1.heap.size w1 w' :=
    fun A w1 hE => Cut_any 2000 1 A [e0] w1 (by unfold maxLen; simp) (fun x hx => by simp at hx; rw [hx]; exact hes) hE
  have hsm : Small [cutE 2000 e0] := cutL_small (m := 2000) (by omega) [e0]
  have hst := short_size t
  have hst2 : (shortB t).size ≤ 60000 := by omega
  have hsh := fun w => Short_any t w ht
  generalize cutE 2000 e0 = E at hcut hsm
  generalize shortB t = s at hst2 hsh
  have Hcut := Lib.hid hcut
  have Hsh := Lib.hid hsh
  clear hcut hst hsh ht hes
  have hbox : EdsV ((w.alloc (.cells #[.int .i64 e0.f, .int .i64 e0.t, .string e0.s] 61)).alloc (.cells #[.int .i64 e0.f, .int .i64 e0.t, .string e0.s] 61)) (some ⟨w.heap.size + 1, 0, none⟩) [e0] := EdsV.block (heap_new2 w _ _) rfl
  have Hbox := Lib.hid hbox
  clear hbox
  have hw1 : Below w.heap.size w ((w.alloc (.cells #[.int .i64 e0.f, .int .i64 e0.t, .string e0.s] 61)).alloc (.cells #[.int .i64 e0.f, .int .i64 e0.t, .string e0.s] 61)) := ((Below.refl _ _).alloc (Nat.le_refl _) _).alloc (by simp) _
  by_cases h0 : checkE s.size [E] = 0
  · have H1 := Lib.hid (applyR_ok h0)
    have hok := checkE_ok h0
    have q0 : (checkE (s.size : Int) [E] != 0) = false := by simpa using h0
    have hss : s.size ≤ 20000 := by omega
    have hxs := applyB_size hok.2.2.1
    have hle := diff_least s E h0
    generalize applyB s [E] = x at hxs hle H1
    have hxs2 : x.size ≤ 20000 := by omega
    have hmk := diff_makes s x hxs2 hss
    have hde : diffErr s x = 0 := by unfold diffErr; rw [if_neg (by omega)]
    have hdr : diffR s x = diffL s x := by unfold diffR; rw [if_pos hde]
    have hdl : (diffL s x).length ≤ 1 := by unfold diffL; split <;> simp
    have H0 := Lib.hid h0
    have Hde := Lib.hid hde
    have hA : applyR s (diffL s x) = x ∧ checkE (s.size : Int) (diffL s x) = 0 := ⟨by rw [applyR_ok hmk.1]; exact hmk.2, hmk.1⟩
    clear h0 hde hmk
    by_cases heq : s = x
    · have hD : diffL s x = [] := hle.1.2 heq
      rw [hD] at hdr hA
      have HD := Lib.hid hdr
      have HA := Lib.hid hA
      have HDs : Hid (Small []) := Lib.hid ⟨by simp, fun e h => by simp at h⟩
      have q7 : (s.toList == x.toList) = true := by rw [heq]; exact beq_self_eq_true _
      clear hdr hA hD hle hdl hxs heq hok
      go_enter Try.func13, Try.ntmps13
      go_wp2_with fail
      refine (Hsh.out _).mono ?_
      rintro e w1 ⟨rfl, rfl⟩
      go_wp2_with fail
      refine (Hcut.out _ _ Hbox.out).mono ?_
      rintro e w1 ⟨A1, c1, rfl, hE1, hb1⟩
      have hB1 := hw1.trans (hb1.mono hw1.size)
      go_wp2_with fail
      refine (Apply_any s c1 A1 [E] w1 hsm hst2 hE1).mono ?_
      rw [H1.out, H0.out]
      rintro e w3 ⟨rfl, hb3⟩
      have hB3 := hB1.trans (hb3.mono hB1.size)
      have hE3 := hE1.below hb3
      clear hE1
      go_wp2_with fail
      refine (Diff_any s x w3 hst2 (by omega)).mono ?_
      rw [Hde.out, HD.out]
      rintro e w4 ⟨A4, c4, rfl, hD4, _, hb4⟩
      have hB4 := hB3.trans (hb4.mono hB3.size)
      have hE4 := hE3.below hb4
      clear hE3
      go_wp2_with fail
      refine (Apply_any s c4 A4 _ w4 HDs.out hst2 hD4).mono ?_
      rw [HA.out.1, HA.out.2]
      rintro e w5 ⟨rfl, hb5⟩
      have hB5 := hB4.trans (hb5.mono hB4.size)
      have hE5 := hE4.below hb5
      have hD5 := hD4.below hb5
      clear hE4 hD4

      go_wp2_with fail
      refine (alive_any w5).mono ?_
      rintro e w9 ⟨rfl, hb9⟩
      go_wp2_with fail
      go_ret
      exact ⟨rfl, hB5.trans (hb9.mono hB5.size)⟩
    · have hDne : diffL s x ≠ [] := fun h => heq (hle.1.1 h)
      obtain ⟨d, hD⟩ : ∃ d, diffL s x = [d] := by
        match h : diffL s x with
        | [] => exact absurd h hDne
        | [d] => exact ⟨d, rfl⟩
        | _ :: _ :: _ => rw [h] at hdl; simp at hdl
      have hleast := hle.2 d hD
      rw [hD] at hdr hA
      have HD := Lib.hid hdr
      have HA := Lib.hid hA
      have q7 : (s.toList == x.toList) = false := by
        rw [beq_eq_false_iff_ne]
        exact fun h => heq (toList_inj h)
      have hdn : d.s.size ≤ x.size := diffL_new s x d (by rw [hD]; simp)
      have HDs : Hid (Small [d]) := Lib.hid ⟨by simp, fun y hy => by simp at hy; rw [hy]; omega⟩
      have hdr2 := (checkE_ok hA.2).2.2.1
      rw [rising_cons] at hdr2
      obtain ⟨_, r1, r2, r3, _⟩ := hdr2
      have her := hok.2.2.1
      rw [rising_cons] at her
      obtain ⟨_, r4, r5, r6, _⟩ := her
      have r7 : E.s.size ≤ 60000 := hsm.2 E (by simp)
      clear hdr hA hD hle hdl hxs heq hDne hok
      go_enter Try.func13, Try.ntmps13
      go_wp2_with fail
      refine (Hsh.out _).mono ?_
      rintro e w1 ⟨rfl, rfl⟩
      go_wp2_with fail
      refine (Hcut.out _ _ Hbox.out).mono ?_
      rintro e w1 ⟨A1, c1, rfl, hE1, hb1⟩
      have hB1 := hw1.trans (hb1.mono hw1.size)
      go_wp2_with fail
      refine (Apply_any s c1 A1 [E] w1 hsm hst2 hE1).mono ?_
      rw [H1.out, H0.out]
      rintro e w3 ⟨rfl, hb3⟩
      have hB3 := hB1.trans (hb3.mono hB1.size)
      have hE3 := hE1.below hb3
      clear hE1
      go_wp2_with fail
      refine (Diff_any s x w3 hst2 (by omega)).mono ?_
      rw [Hde.out, HD.out]
      rintro e w4 ⟨A4, c4, rfl, hD4, _, hb4⟩
      have hB4 := hB3.trans (hb4.mono hB3.size)
      have hE4 := hE3.below hb4
      clear hE3
      go_wp2_with fail
      refine (Apply_any s c4 A4 _ w4 HDs.out hst2 hD4).mono ?_
      rw [HA.out.1, HA.out.2]
      rintro e w5 ⟨rfl, hb5⟩
      have hB5 := hB4.trans (hb5.mono hB4.size)
      have hE5 := hE4.below hb5
      have hD5 := hD4.below hb5
      clear hE4 hD4

      go_wp2_with fail
      obtain ⟨bd, od, rfl, hbd, d1, d2, d3⟩ := hD5.get (k := 0) (by simp)
      obtain ⟨be, oe, rfl, hbe, g1, g2, g3⟩ := hE5.get (k := 0) (by simp)
      simp only [Nat.zero_mul, Nat.add_zero, List.getElem_cons_zero] at d1 d2 d3 g1 g2 g3
      have s1 : IntKind.i64.wrap (d.t - d.f) = d.t - d.f := IntWalk.i64_in _ (by omega)
      have s2 : IntKind.i64.wrap (d.t - d.f + (d.s.size : Int)) = d.t - d.f + (d.s.size : Int) := IntWalk.i64_in _ (by omega)
      have s3 : IntKind.i64.wrap (E.t - E.f) = E.t - E.f := IntWalk.i64_in _ (by omega)
      have s4 : IntKind.i64.wrap (E.t - E.f + (E.s.size : Int)) = E.t - E.f + (E.s.size : Int) := IntWalk.i64_in _ (by omega)
      have q8 : decide (d.t - d.f + (d.s.size : Int) ≤ E.t - E.f + (E.s.size : Int)) = true := by simpa using hleast
      clear hD5 hE5
      go_region_held3 (fun w' => w'.cell? ⟨bd, od, none⟩ = some (.int .i64 d.f) ∧ w'.cell? ⟨bd, od + 1, none⟩ = some (.int .i64 d.t) ∧ w'.cell? ⟨bd, od + 2, none⟩ = some (.string d.s) ∧
          w'.cell? ⟨be, oe, none⟩ = some (.int .i64 E.f) ∧ w'.cell? ⟨be, oe + 1, none⟩ = some (.int .i64 E.t) ∧ w'.cell? ⟨be, oe + 2, none⟩ = some (.string E.s))
        (first | (go_keep; done) | (refine ⟨?_, ?_, ?_, ?_, ?_, ?_⟩ <;> (rw [hb6.cell (by simp; omega)]; assumption)))
        ((go_at_call 21; refine (alive_any _).mono ?_; rintro e w6 ⟨rfl, hb6⟩))
      go_wp2_with fail
      go_ret
      exact ⟨rfl, hB5.drew.trans (hb6.mono hB5.size)⟩
  · have H1 := Lib.hid (applyR_no h0)
    have q : (checkE (s.size : Int) [E] != 0) = true := by simpa using h0
    clear h0
    go_enter Try.func13, Try.ntmps13
    go_wp2_with fail
    refine (Hsh.out _).mono ?_
    rintro e w1 ⟨rfl, rfl⟩
    go_wp2_with fail
    refine (Hcut.out _ _ Hbox.out).mono ?_
    rintro e w1 ⟨A1, c1, rfl, hE1, hb1⟩
    have hB1 := hw1.trans (hb1.mono hw1.size)
    go_wp2_with fail
    refine (Apply_any s c1 A1 [E] w1 hsm hst2 hE1).mono ?_
    rw [H1.out]
    rintro e w3 ⟨rfl, hb3⟩
    have hB3 := hB1.trans (hb3.mono hB1.size)
    go_wp2_with fail
    refine (alive_any w3).mono ?_
    rintro e w9 ⟨rfl, hb9⟩
    go_wp2_with fail
    go_ret
    exact ⟨rfl, hB3.trans (hb9.mono hB3.size)⟩

end Go.Proofs.Ythcjffbdgdjfhaa.lawRopeLeast
