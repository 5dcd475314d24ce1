/-
  Contracts of pair, balance and join: each gives the tree that the Lean function of its name gives.
-/
import Derived.Test.YtmdgclcakogggaaRope
import Derived.Deep.RegionHeld3
namespace Go.Proofs.Ytmdgclcakogggaa
set_option linter.unusedVariables false
set_option linter.unusedSimpArgs false
open Go.RowKit

/-- a tree comes back -/
def GivesPc (w : World) (t : Pc) (e : Ending) (w' : World) : Prop := ∃ o, e = .returned (.pointer o) ∧ PcAt w' w'.heap.size (.pointer o) t ∧ Below w.heap.size w w'

theorem heap_new_at (X : World) (o : Obj) (n : Nat) (h : X.heap.size = n) : (X.alloc o).heap[n]? = some o := by subst h; exact heap_alloc_new X o
theorem node_size (l r : Pc) : ((Pc.node l r).size : Int) = (l.size : Int) + (r.size : Int) := by simp [Pc.size]
theorem node_feeds (l r : Pc) : ((Pc.node l r).feeds : Int) = (l.feeds : Int) + (r.feeds : Int) := by simp [Pc.feeds]
theorem node_leaves (l r : Pc) : ((Pc.node l r).leaves : Int) = (l.leaves : Int) + (r.leaves : Int) := by simp [Pc.leaves]
theorem node_height (l r : Pc) : ((Pc.node l r).height : Int) = max (l.height : Int) (r.height : Int) + 1 := by simp only [Pc.height]; omega

set_option maxRecDepth 100000 in
set_option maxHeartbeats 2000000 in
theorem pair_any (l r : Pc) (vl vr : Value) (w : World) (hol : l.ok) (hor : r.ok) (hsz : l.size + r.size ≤ 60000) (hl : PcAt w w.heap.size vl l) (hr : PcAt w w.heap.size vr r) :
    Calls Try.prog 50 #[vl, vr] w (GivesPc w (.node l r)) := by
  obtain ⟨bl, rfl, _, hbl, l3, l4, l5, l6⟩ := hl.totals (by rintro rfl; exact hol)
  obtain ⟨br, rfl, _, hbr, r3, r4, r5, r6⟩ := hr.totals (by rintro rfl; exact hor)
  have hlv := hol.leaves_le
  have hrv := hor.leaves_le
  have hlh := hol.height_le
  have hrh := hor.height_le
  have hlf := l.feeds_le
  have hrf := r.feeds_le
  have HL := Lib.hid hl
  have HR := Lib.hid hr
  clear hl hr
  go_enter Try.func50, Try.ntmps50
  go_wp2_with fail
  go_region_held3 (fun w' => (w'.cell? ⟨bl, 3, none⟩ = some (.int .i64 (l.size : Int)) ∧ w'.cell? ⟨bl, 4, none⟩ = some (.int .i64 (l.feeds : Int)) ∧ w'.cell? ⟨bl, 5, none⟩ = some (.int .i64 (l.leaves : Int)) ∧ w'.cell? ⟨bl, 6, none⟩ = some (.int .i64 (l.height : Int))) ∧
      w'.cell? ⟨br, 3, none⟩ = some (.int .i64 (r.size : Int)) ∧ w'.cell? ⟨br, 4, none⟩ = some (.int .i64 (r.feeds : Int)) ∧ w'.cell? ⟨br, 5, none⟩ = some (.int .i64 (r.leaves : Int)) ∧ w'.cell? ⟨br, 6, none⟩ = some (.int .i64 (r.height : Int)))
    (go_keep) (fail)
  all_goals
    go_wp2_with fail
    go_ret
    refine ⟨some ⟨w.heap.size + 1 + 1 + 1, 0, none⟩, by simp, ⟨w.heap.size + 1 + 1 + 1, .pointer (some ⟨bl, 0, none⟩), .pointer (some ⟨br, 0, none⟩), rfl, by simp, ?_, ?_, ?_, hol, hor⟩, ?_⟩
    · refine (heap_new_at _ _ _ (by simp)).trans ?_
      unfold pcCells
      rw [node_size, node_feeds, node_leaves, node_height]
      rfl
    · exact HL.out.belowTop (by repeat (first | exact Below.refl _ _ | refine Below.drew ?_ | refine Below.alloc ?_ (by simp; try omega) _))
    · exact HR.out.belowTop (by repeat (first | exact Below.refl _ _ | refine Below.drew ?_ | refine Below.alloc ?_ (by simp; try omega) _))
    · repeat (first | exact Below.refl _ _ | refine Below.drew ?_ | refine Below.alloc ?_ (by simp; try omega) _)
end Go.Proofs.Ytmdgclcakogggaa
