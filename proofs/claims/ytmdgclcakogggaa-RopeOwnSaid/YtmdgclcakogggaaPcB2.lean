/-
  The contract of balance, the other side, and whole.
-/
import Derived.Test.YtmdgclcakogggaaPcB
namespace Go.Proofs.Ytmdgclcakogggaa
set_option linter.unusedVariables false
set_option linter.unusedSimpArgs false
open Go.RowKit

set_option maxRecDepth 100000 in
set_option maxHeartbeats 2000000 in
theorem balR_any (l rl rr : Pc) (vl vr : Value) (w : World) (hol : l.ok) (horl : rl.ok) (horr : rr.ok) (hsz : l.size + (rl.size + rr.size) ≤ 60000) (hh : l.height + 1 < (Pc.node rl rr).height) (hl : PcAt w w.heap.size vl l) (hr : PcAt w w.heap.size vr (.node rl rr)) :
    Calls Try.prog 49 #[vl, vr] w (GivesPc w (balR l rl rr)) := by
  have hrh := (show (Pc.node rl rr).ok from ⟨horl, horr⟩).height_le
  have hlh := hol.height_le
  have hrsz : (Pc.node rl rr).size = rl.size + rr.size := rfl
  obtain ⟨br, e1, _, hbr, _, _, _, r6⟩ := hr.totals (by intro h; cases h)
  obtain ⟨bl, rfl, _, hbl, _, _, _, l6⟩ := hl.totals (by rintro rfl; exact hol)
  obtain ⟨br', vrl, vrr, e2, _, hhr, hrl, hrr, _, _⟩ := hr
  subst e1
  obtain rfl : br = br' := by injection e2 with e2; injection e2 with e2; injection e2
  have k1 : w.cell? ⟨br, 1, none⟩ = some vrl := cell_of hhr 1
  have k2 : w.cell? ⟨br, 2, none⟩ = some vrr := cell_of hhr 2
  obtain ⟨brl, rfl, _, hbrl, _, _, _, rl6⟩ := hrl.totals (by rintro rfl; exact horl)
  obtain ⟨brr, rfl, _, hbrr, _, _, _, rr6⟩ := hrr.totals (by rintro rfl; exact horr)
  have hrl6 := horl.height_le
  have hrr6 := horr.height_le
  have s1 : IntKind.i64.wrap ((l.height : Int) + 1) = (l.height : Int) + 1 := IntWalk.i64_in _ (by omega)
  have s2 : IntKind.i64.wrap (((Pc.node rl rr).height : Int) + 1) = ((Pc.node rl rr).height : Int) + 1 := IntWalk.i64_in _ (by omega)
  have q0 : decide (((Pc.node rl rr).height : Int) + 1 < (l.height : Int)) = false := by simp; omega
  have q1 : decide ((l.height : Int) + 1 < ((Pc.node rl rr).height : Int)) = true := by simp; omega
  by_cases hc : rl.height ≤ rr.height
  · have hres : balR l rl rr = .node (.node l rl) rr := by unfold balR; rw [if_pos hc]
    rw [hres]
    have q2 : decide (rl.height ≤ rr.height) = true := by simpa using hc
    have hokA : (Pc.node l rl).ok := ⟨hol, horl⟩
    have HRL := Lib.hid hrl
    have HRR := Lib.hid hrr
    have HL := Lib.hid hl
    clear hres hhr hrl hrr hl hc e2 hrsz
    go_enter Try.func49, Try.ntmps49
    go_wp2_with fail
    go_quiet (fail)
    go_wp2_with fail
    go_quiet (fail)
    go_wp2_with fail
    go_quiet (fail)
    go_wp2_with fail
    go_quiet (fail)
    go_wp2_with fail
    refine (pair_any l rl _ _ _ hol horl (by omega) (HL.out.drewN _) (HRL.out.drewN _)).mono ?_
    rintro e wA ⟨oA, rfl, hpA, hbA⟩
    go_wp2_with fail
    refine (pair_any (.node l rl) rr _ _ _ hokA horr (by show l.size + rl.size + rr.size ≤ 60000; omega) hpA (HRR.out.belowTop (by repeat (first | with_reducible exact Below.refl _ _ | with_reducible assumption | with_reducible refine Below.drew ?_ | with_reducible refine below_drewN ?_ _ | with_reducible refine below_call ?_ (Nat.le_refl _) hbA)))).mono ?_
    rintro e wC ⟨oC, rfl, hpC, hbC⟩
    go_wp2_with fail
    go_ret
    exact ⟨oC, rfl, hpC, (by repeat (first | with_reducible exact Below.refl _ _ | with_reducible assumption | with_reducible refine Below.drew ?_ | with_reducible refine below_drewN ?_ _ | with_reducible refine below_call ?_ (Nat.le_refl _) hbC | with_reducible refine below_call ?_ (Nat.le_refl _) hbA))⟩
  · obtain ⟨a, b, rfl⟩ : ∃ a b, rl = .node a b := by
      cases rl with
      | nil => exact absurd horl id
      | leaf s => exact absurd hc (by have := horr.height_le; simp only [Pc.height] at *; omega)
      | node a b => exact ⟨a, b, rfl⟩
    have hres : balR l (.node a b) rr = .node (.node l a) (.node b rr) := by unfold balR; rw [if_neg hc]
    rw [hres]
    have q2 : decide ((Pc.node a b).height ≤ rr.height) = false := by simpa using hc
    obtain ⟨brl', va, vb, e3, _, hhrl, ha, hb, hoa, hob⟩ := hrl
    obtain rfl : brl = brl' := by injection e3 with e3; injection e3 with e3; injection e3
    have k3 : w.cell? ⟨brl, 1, none⟩ = some va := cell_of hhrl 1
    have k4 : w.cell? ⟨brl, 2, none⟩ = some vb := cell_of hhrl 2
    have hokA : (Pc.node l a).ok := ⟨hol, hoa⟩
    have hokB : (Pc.node b rr).ok := ⟨hob, horr⟩
    have HA := Lib.hid ha
    have HB := Lib.hid hb
    have HL := Lib.hid hl
    have HRR := Lib.hid hrr
    clear hres hhr hhrl hrr ha hb hl hc e2 e3 hrsz
    go_enter Try.func49, Try.ntmps49
    go_wp2_with fail
    go_quiet (fail)
    go_wp2_with fail
    go_quiet (fail)
    go_wp2_with fail
    go_quiet (fail)
    go_wp2_with fail
    go_quiet (fail)
    go_wp2_with fail
    go_region_held3 (fun w' => Below w.heap.size w w' ∧ w'.cell? ⟨brl, 1, none⟩ = some va ∧ w'.cell? ⟨brl, 2, none⟩ = some vb)
      (exact two_kept (by repeat (first | with_reducible exact Below.refl _ _ | with_reducible assumption | with_reducible refine Below.drew ?_ | with_reducible refine below_drewN ?_ _ | with_reducible refine below_call ?_ (Nat.le_refl _) hbC | with_reducible refine below_call ?_ (Nat.le_refl _) hbA | with_reducible refine below_call ?_ (Nat.le_refl _) hbB)) hbrl k3 k4)
      ((go_at_call 50; first
       | (with_reducible refine (pair_any l a (.pointer (some ⟨bl, 0, none⟩)) va _ hol hoa ?_ ?_ ?_).mono ?_
          · simp only [Pc.size] at hsz ⊢; omega
          · exact HL.out.belowTop (by repeat (first | with_reducible exact Below.refl _ _ | with_reducible assumption | with_reducible refine Below.drew ?_ | with_reducible refine below_drewN ?_ _ | with_reducible refine below_call ?_ (Nat.le_refl _) hbB))
          · exact HA.out.belowTop (by repeat (first | with_reducible exact Below.refl _ _ | with_reducible assumption | with_reducible refine Below.drew ?_ | with_reducible refine below_drewN ?_ _ | with_reducible refine below_call ?_ (Nat.le_refl _) hbB))
          rintro e wA ⟨oA, rfl, hpA, hbA⟩)
       | (with_reducible refine (pair_any b rr vb (.pointer (some ⟨brr, 0, none⟩)) _ hob horr ?_ ?_ ?_).mono ?_
          · simp only [Pc.size] at hsz ⊢; omega
          · exact HB.out.belowTop (by repeat (first | with_reducible exact Below.refl _ _ | with_reducible assumption | with_reducible refine Below.drew ?_ | with_reducible refine below_drewN ?_ _ | with_reducible refine below_call ?_ (Nat.le_refl _) hbA))
          · exact HRR.out.belowTop (by repeat (first | with_reducible exact Below.refl _ _ | with_reducible assumption | with_reducible refine Below.drew ?_ | with_reducible refine below_drewN ?_ _ | with_reducible refine below_call ?_ (Nat.le_refl _) hbA))
          rintro e wB ⟨oB, rfl, hpB, hbB⟩)
       | (with_reducible refine (pair_any (.node l a) (.node b rr) (.pointer oA) (.pointer oB) _ hokA hokB ?_ ?_ ?_).mono ?_
          · simp only [Pc.size] at hsz ⊢; omega
          · exact hpA.belowTop (by repeat (first | with_reducible exact Below.refl _ _ | with_reducible assumption | with_reducible refine Below.drew ?_ | with_reducible refine below_drewN ?_ _ | with_reducible refine below_call ?_ (Nat.le_refl _) hbA | with_reducible refine below_call ?_ (Nat.le_refl _) hbB))
          · exact hpB.belowTop (by repeat (first | with_reducible exact Below.refl _ _ | with_reducible assumption | with_reducible refine Below.drew ?_ | with_reducible refine below_drewN ?_ _ | with_reducible refine below_call ?_ (Nat.le_refl _) hbA | with_reducible refine below_call ?_ (Nat.le_refl _) hbB))
          rintro e wC ⟨oC, rfl, hpC, hbC⟩)))
    all_goals
      go_wp2_with fail
      go_ret
      exact ⟨oC, rfl, hpC, (by repeat (first | with_reducible exact Below.refl _ _ | with_reducible assumption | with_reducible refine Below.drew ?_ | with_reducible refine below_drewN ?_ _ | with_reducible refine below_call ?_ (Nat.le_refl _) hbC | with_reducible refine below_call ?_ (Nat.le_refl _) hbA | with_reducible refine below_call ?_ (Nat.le_refl _) hbB))⟩

set_option maxRecDepth 100000 in
set_option maxHeartbeats 2000000 in
theorem balance_any (l r : Pc) (vl vr : Value) (w : World) (hol : l.ok) (hor : r.ok) (hsz : l.size + r.size ≤ 60000) (hl : PcAt w w.heap.size vl l) (hr : PcAt w w.heap.size vr r) :
    Calls Try.prog 49 #[vl, vr] w (GivesPc w (balP l r)) := by
  have hlh := hol.height_le
  have hrh := hor.height_le
  unfold balP
  by_cases h1 : r.height + 1 < l.height
  · rw [if_pos h1]
    cases l with
    | nil => exact absurd hol id
    | leaf s => exact absurd h1 (by simp only [Pc.height]; omega)
    | node ll lr => exact balL_any ll lr r vl vr w hol.1 hol.2 hor (by simpa [Pc.size] using hsz) h1 hl hr
  rw [if_neg h1]
  by_cases h2 : l.height + 1 < r.height
  · rw [if_pos h2]
    cases r with
    | nil => exact absurd hor id
    | leaf s => exact absurd h2 (by simp only [Pc.height]; omega)
    | node rl rr => exact balR_any l rl rr vl vr w hol hor.1 hor.2 (by simpa [Pc.size] using hsz) h2 hl hr
  rw [if_neg h2]
  obtain ⟨bl, rfl, _, hbl, _, _, _, l6⟩ := hl.totals (by rintro rfl; exact hol)
  obtain ⟨br, rfl, _, hbr, _, _, _, r6⟩ := hr.totals (by rintro rfl; exact hor)
  have s1 : IntKind.i64.wrap ((r.height : Int) + 1) = (r.height : Int) + 1 := IntWalk.i64_in _ (by omega)
  have s2 : IntKind.i64.wrap ((l.height : Int) + 1) = (l.height : Int) + 1 := IntWalk.i64_in _ (by omega)
  have q0 : decide ((r.height : Int) + 1 < (l.height : Int)) = false := by simp; omega
  have q1 : decide ((l.height : Int) + 1 < (r.height : Int)) = false := by simp; omega
  have HL := Lib.hid hl
  have HR := Lib.hid hr
  clear hl hr h1 h2
  go_enter Try.func49, Try.ntmps49
  go_wp2_with fail
  go_quiet (fail)
  go_wp2_with fail
  go_quiet (fail)
  go_wp2_with fail
  refine (pair_any l r _ _ _ hol hor hsz (HL.out.drewN _) (HR.out.drewN _)).mono ?_
  rintro e wC ⟨oC, rfl, hpC, hbC⟩
  go_wp2_with fail
  go_ret
  exact ⟨oC, rfl, hpC, (by repeat (first | with_reducible exact Below.refl _ _ | with_reducible assumption | with_reducible refine Below.drew ?_ | with_reducible refine below_drewN ?_ _ | with_reducible refine below_call ?_ (Nat.le_refl _) hbC))⟩
end Go.Proofs.Ytmdgclcakogggaa
