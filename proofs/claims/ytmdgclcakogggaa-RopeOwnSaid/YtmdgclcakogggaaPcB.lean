/-
  The contract of balance.
-/
import Derived.Test.YtmdgclcakogggaaPcJ
namespace Go.Proofs.Ytmdgclcakogggaa
set_option linter.unusedVariables false
set_option linter.unusedSimpArgs false
open Go.RowKit

/-- what balance gives where the left one is higher by two or more -/
def balL (ll lr r : Pc) : Pc :=
  if lr.height ≤ ll.height then .node ll (.node lr r) else
  match lr with
  | .node a b => .node (.node ll a) (.node b r)
  | _ => .node (.node ll lr) r
def balR (l rl rr : Pc) : Pc :=
  if rl.height ≤ rr.height then .node (.node l rl) rr else
  match rl with
  | .node a b => .node (.node l a) (.node b rr)
  | _ => .node l (.node rl rr)
def balP (l r : Pc) : Pc :=
  if r.height + 1 < l.height then
    match l with
    | .node ll lr => balL ll lr r
    | _ => .node l r
  else if l.height + 1 < r.height then
    match r with
    | .node rl rr => balR l rl rr
    | _ => .node l r
  else .node l r

theorem PcAt.drewN {w : World} {t : Pc} {v : Value} (h : PcAt w w.heap.size v t) (n : Nat) : PcAt (w.drewN n) (w.drewN n).heap.size v t := h.belowTop (below_drewN (Below.refl _ _) n)

theorem below_call {B : Nat} {a Y w1 : World} (h : Below B a Y) (hB : B ≤ a.heap.size) (hb : Below Y.heap.size Y w1) : Below B a w1 := h.trans (hb.mono (Nat.le_trans hB h.size))
/-- two cells stay as they were -/
def TwoKept (w : World) (b : Nat) (v1 v2 : Value) (w' : World) : Prop := Below w.heap.size w w' ∧ w'.cell? ⟨b, 1, none⟩ = some v1 ∧ w'.cell? ⟨b, 2, none⟩ = some v2
theorem two_kept {w w' : World} {b : Nat} {v1 v2 : Value} (hb : Below w.heap.size w w') (hlt : b < w.heap.size) (h1 : w.cell? ⟨b, 1, none⟩ = some v1) (h2 : w.cell? ⟨b, 2, none⟩ = some v2) :
    Below w.heap.size w w' ∧ w'.cell? ⟨b, 1, none⟩ = some v1 ∧ w'.cell? ⟨b, 2, none⟩ = some v2 :=
  ⟨hb, ((bcell hb).1 b 1 hlt).trans h1, ((bcell hb).1 b 2 hlt).trans h2⟩

set_option maxRecDepth 100000 in
set_option maxHeartbeats 2000000 in
theorem balL_any (ll lr r : Pc) (vl vr : Value) (w : World) (holl : ll.ok) (holr : lr.ok) (hor : r.ok) (hsz : ll.size + lr.size + r.size ≤ 60000) (hh : r.height + 1 < (Pc.node ll lr).height) (hl : PcAt w w.heap.size vl (.node ll lr)) (hr : PcAt w w.heap.size vr r) :
    Calls Try.prog 49 #[vl, vr] w (GivesPc w (balL ll lr r)) := by
  have hlh := (show (Pc.node ll lr).ok from ⟨holl, holr⟩).height_le
  have hrh := hor.height_le
  have hlsz : (Pc.node ll lr).size = ll.size + lr.size := rfl
  obtain ⟨bl, e1, _, hbl, _, _, _, l6⟩ := hl.totals (by intro h; cases h)
  obtain ⟨br, rfl, _, hbr, _, _, _, r6⟩ := hr.totals (by rintro rfl; exact hor)
  obtain ⟨bl', vll, vlr, e2, _, hhl, hll, hlr, _, _⟩ := hl
  subst e1
  obtain rfl : bl = bl' := by injection e2 with e2; injection e2 with e2; injection e2
  have k1 : w.cell? ⟨bl, 1, none⟩ = some vll := cell_of hhl 1
  have k2 : w.cell? ⟨bl, 2, none⟩ = some vlr := cell_of hhl 2
  obtain ⟨bll, rfl, _, hbll, _, _, _, ll6⟩ := hll.totals (by rintro rfl; exact holl)
  obtain ⟨blr, rfl, _, hblr, _, _, _, lr6⟩ := hlr.totals (by rintro rfl; exact holr)
  have hll6 := holl.height_le
  have hlr6 := holr.height_le
  have s1 : IntKind.i64.wrap ((r.height : Int) + 1) = (r.height : Int) + 1 := IntWalk.i64_in _ (by omega)
  have q1 : decide ((r.height : Int) + 1 < ((Pc.node ll lr).height : Int)) = true := by simp; omega
  by_cases hc : lr.height ≤ ll.height
  · have hres : balL ll lr r = .node ll (.node lr r) := by unfold balL; rw [if_pos hc]
    rw [hres]
    have q2 : decide (lr.height ≤ ll.height) = true := by simpa using hc
    have HLL := Lib.hid hll
    have HLR := Lib.hid hlr
    have HR := Lib.hid hr
    clear hres hhl hll hlr hr hc e2 hlsz
    go_enter Try.func49, Try.ntmps49
    go_wp2_with fail
    go_quiet (fail)
    go_wp2_with fail
    go_quiet (fail)
    go_wp2_with fail
    go_quiet (fail)
    go_wp2_with fail
    refine (pair_any lr r _ _ _ holr hor (by omega) (HLR.out.drewN _) (HR.out.drewN _)).mono ?_
    rintro e w1 ⟨o, rfl, hp, hb⟩
    go_wp2_with fail
    refine (pair_any ll (.node lr r) _ _ _ holl ⟨holr, hor⟩ (by show ll.size + (lr.size + r.size) ≤ 60000; omega) (HLL.out.belowTop ?_) hp).mono ?_
    · exact (below_drewN (Below.refl _ _) _).trans hb
    rintro e w2 ⟨o2, rfl, hp2, hb2⟩
    go_wp2_with fail
    go_ret
    exact ⟨o2, rfl, hp2, ((below_drewN (Below.refl _ _) _).trans hb).trans (hb2.mono hb.size)⟩
  · obtain ⟨a, b, rfl⟩ : ∃ a b, lr = .node a b := by
      cases lr with
      | nil => exact absurd holr id
      | leaf s => exact absurd hc (by have := holl.height_le; simp only [Pc.height] at *; omega)
      | node a b => exact ⟨a, b, rfl⟩
    have hres : balL ll (.node a b) r = .node (.node ll a) (.node b r) := by unfold balL; rw [if_neg hc]
    rw [hres]
    have q2 : decide ((Pc.node a b).height ≤ ll.height) = false := by simpa using hc
    obtain ⟨blr', va, vb, e3, _, hhlr, ha, hb, hoa, hob⟩ := hlr
    obtain rfl : blr = blr' := by injection e3 with e3; injection e3 with e3; injection e3
    have k3 : w.cell? ⟨blr, 1, none⟩ = some va := cell_of hhlr 1
    have k4 : w.cell? ⟨blr, 2, none⟩ = some vb := cell_of hhlr 2
    have HLL := Lib.hid hll
    have hokA : (Pc.node ll a).ok := ⟨holl, hoa⟩
    have hokB : (Pc.node b r).ok := ⟨hob, hor⟩
    have HA := Lib.hid ha
    have HB := Lib.hid hb
    have HR := Lib.hid hr
    clear hres hhl hhlr hll ha hb hr hc e2 e3 hlsz
    go_enter Try.func49, Try.ntmps49
    go_wp2_with fail
    go_quiet (fail)
    go_wp2_with fail
    go_quiet (fail)
    go_wp2_with fail
    go_quiet (fail)
    go_wp2_with fail
    go_region_held3 (fun w' => Below w.heap.size w w' ∧ w'.cell? ⟨blr, 1, none⟩ = some va ∧ w'.cell? ⟨blr, 2, none⟩ = some vb)
      (exact two_kept (by repeat (first | with_reducible exact Below.refl _ _ | with_reducible assumption | with_reducible refine Below.drew ?_ | with_reducible refine below_drewN ?_ _ | with_reducible refine below_call ?_ (Nat.le_refl _) hbC | with_reducible refine below_call ?_ (Nat.le_refl _) hbA | with_reducible refine below_call ?_ (Nat.le_refl _) hbB)) hblr k3 k4)
      ((go_at_call 50; first
       | (with_reducible refine (pair_any ll a (.pointer (some ⟨bll, 0, none⟩)) va _ holl hoa ?_ ?_ ?_).mono ?_
          · simp only [Pc.size] at hsz ⊢; omega
          · exact HLL.out.belowTop (by repeat (first | with_reducible exact Below.refl _ _ | with_reducible assumption | with_reducible refine Below.drew ?_ | with_reducible refine below_drewN ?_ _ | with_reducible refine below_call ?_ (Nat.le_refl _) hbB))
          · exact HA.out.belowTop (by repeat (first | with_reducible exact Below.refl _ _ | with_reducible assumption | with_reducible refine Below.drew ?_ | with_reducible refine below_drewN ?_ _ | with_reducible refine below_call ?_ (Nat.le_refl _) hbB))
          rintro e wA ⟨oA, rfl, hpA, hbA⟩)
       | (with_reducible refine (pair_any b r vb (.pointer (some ⟨br, 0, none⟩)) _ hob hor ?_ ?_ ?_).mono ?_
          · simp only [Pc.size] at hsz ⊢; omega
          · exact HB.out.belowTop (by repeat (first | with_reducible exact Below.refl _ _ | with_reducible assumption | with_reducible refine Below.drew ?_ | with_reducible refine below_drewN ?_ _ | with_reducible refine below_call ?_ (Nat.le_refl _) hbA))
          · exact HR.out.belowTop (by repeat (first | with_reducible exact Below.refl _ _ | with_reducible assumption | with_reducible refine Below.drew ?_ | with_reducible refine below_drewN ?_ _ | with_reducible refine below_call ?_ (Nat.le_refl _) hbA))
          rintro e wB ⟨oB, rfl, hpB, hbB⟩)
       | (with_reducible refine (pair_any (.node ll a) (.node b r) (.pointer oA) (.pointer oB) _ hokA hokB ?_ ?_ ?_).mono ?_
          · simp only [Pc.size] at hsz ⊢; omega
          · exact hpA.belowTop (by repeat (first | with_reducible exact Below.refl _ _ | with_reducible assumption | with_reducible refine Below.drew ?_ | with_reducible refine below_drewN ?_ _ | with_reducible refine below_call ?_ (Nat.le_refl _) hbA | with_reducible refine below_call ?_ (Nat.le_refl _) hbB))
          · exact hpB.belowTop (by repeat (first | with_reducible exact Below.refl _ _ | with_reducible assumption | with_reducible refine Below.drew ?_ | with_reducible refine below_drewN ?_ _ | with_reducible refine below_call ?_ (Nat.le_refl _) hbA | with_reducible refine below_call ?_ (Nat.le_refl _) hbB))
          rintro e wC ⟨oC, rfl, hpC, hbC⟩)))
    all_goals
      go_wp2_with fail
      go_ret
      exact ⟨oC, rfl, hpC, (by repeat (first | with_reducible exact Below.refl _ _ | with_reducible assumption | with_reducible refine Below.drew ?_ | with_reducible refine below_drewN ?_ _ | with_reducible refine below_call ?_ (Nat.le_refl _) hbC | with_reducible refine below_call ?_ (Nat.le_refl _) hbA | with_reducible refine below_call ?_ (Nat.le_refl _) hbB))⟩
end Go.Proofs.Ytmdgclcakogggaa
