/-
  Trees: the specification's Cut and the statements' cut.; Trees: what is small of a copy that is not large; what a walk of a statement keeps of it.
-/
import Derived.Test.YtgihkojlpaebiaaDoorTreeAtsp28
import Derived.Test.YtgihkojlpaebiaaDoorTreeAtsp26
namespace Go.Proofs.YtgihkojlpaebiaaDoor
set_option linter.unusedVariables false
set_option linter.unusedSimpArgs false
open Go Go.RowKit

/-- a copy that is not large -/
def cutM (most : Nat) (n : Nd) : Nd := (cutN n most 0).1
theorem cutNd_eq (n : Nd) : cutNd n = cutM 600 n := rfl
abbrev zeroCells : Array Value := #[.int .i64 0, .int .i64 0, .string { data := #[] }, .slice none 0 0]
abbrev ndCells (n : Nd) (A : Option Addr) (c : Nat) : Array Value := #[.int .i64 n.kind, .int .i64 n.tok.1, .string n.tok.2, .slice A n.kids.length c]
/-- the world in which a result's cells are set -/
theorem res_set {w w1 : World} {b : Nat} {n z : Nd} {A' : Option Addr} {c' : Nat} (hb : w1.heap[b]? = some (.cells zeroCells 26 (0, 0))) :
    ∃ W, W = ((((w1.setCell ⟨b, 0, none⟩ (.int .i64 z.kind)).setCell ⟨b, 1, none⟩ (.int .i64 z.tok.1)).setCell ⟨b, 2, none⟩ (.string z.tok.2)).setCell ⟨b, 3, none⟩ (.slice A' z.kids.length c')) ∧
      W.cell? ⟨b, 0, none⟩ = some (.int .i64 z.kind) ∧ W.cell? ⟨b, 1, none⟩ = some (.int .i64 z.tok.1) ∧ W.cell? ⟨b, 2, none⟩ = some (.string z.tok.2) ∧ W.cell? ⟨b, 3, none⟩ = some (.slice A' z.kids.length c') := by
  have h := set4 (v0 := .int .i64 z.kind) (v1 := .int .i64 z.tok.1) (v2 := .string z.tok.2) (v3 := .slice A' z.kids.length c') hb
  exact ⟨_, rfl, Lib.cell_of_heap h 0, Lib.cell_of_heap h 1, Lib.cell_of_heap h 2, Lib.cell_of_heap h 3⟩

set_option maxRecDepth 100000 in
set_option maxHeartbeats 2000000 in
theorem RCutAll_any (most : Nat) (hm1 : 1 ≤ most) (hm6 : most ≤ 600) (n : Nd) (v : Value) (w : World) (hraw : rawN n) (hV : NodeV w v n) :
    Calls Tryd.prog 51 #[v, .int .i64 (most : Nat)] w fun e w' => ∃ v', e = .returned v' ∧ NodeP (fun b => w.heap.size ≤ b) w' v' (cutM most n) ∧ Below w.heap.size w w' := by
  have hV0 := hV
  obtain ⟨A, c, rfl, hk⟩ := hV
  have hB0 : Below w.heap.size w ((w.alloc (.cells (ndCells n A c) 26)).alloc (.cells zeroCells 26)) := ((Below.refl _ _).alloc (Nat.le_refl _) _).alloc (by simp) _
  have hcl := RCut_any (deepN n + 1) n most 0 _ ((w.alloc (.cells (ndCells n A c) 26)).alloc (.cells zeroCells 26)) (Nat.lt_succ_self _) hm1 hm6 (by decide) hraw (hV0.below hB0)
  have hz : ((w.alloc (.cells (ndCells n A c) 26)).alloc (.cells zeroCells 26)).heap[w.heap.size + 1]? = some (.cells zeroCells 26 (0, 0)) := alloc_at _ _ _ (by simp)
  have hsz : ((w.alloc (.cells (ndCells n A c) 26)).alloc (.cells zeroCells 26)).heap.size = w.heap.size + 2 := by simp
  unfold cutM
  generalize (cutN n most 0).1 = z at hcl ⊢
  generalize (cutN n most 0).2 = r at hcl
  have HC := Lib.hid hcl
  have HB := Lib.hid (show _ ∧ _ ∧ _ from ⟨hB0, hz, hsz⟩)
  clear hcl hB0 hz hsz hk hV0 hraw
  go_enter Tryd.func51, Tryd.ntmps51
  go_wp2_with (go_at_call 77; refine HC.out.mono ?_; rintro e w1 ⟨v', rfl, ⟨A', c', rfl, hcc, hk⟩, hb1⟩; have hs1 := hb1.size; rw [HB.out.2.2] at hs1; have hbk := (hb1.block (w.heap.size + 1) (by rw [HB.out.2.2]; exact Nat.lt_succ_self _)).trans HB.out.2.1; have p0 := Lib.cell_of_heap hbk 0; have p1 := Lib.cell_of_heap hbk 1; have p2 := Lib.cell_of_heap hbk 2; have p3 := Lib.cell_of_heap hbk 3; have f0 := frozen_block (j := 0) hbk; have f1 := frozen_block (j := 1) hbk; have f2 := frozen_block (j := 2) hbk; have f3 := frozen_block (j := 3) hbk; have hlt1 : w.heap.size + 1 < w1.heap.size := hs1; have hne1 : w.heap.size + 1 ≠ w1.heap.size := Nat.ne_of_lt hlt1; have HK := Lib.hid (show _ ∧ _ ∧ _ from ⟨hk, hb1, hbk⟩); clear hk hb1 hbk)
  have hF := set4 (v0 := .int .i64 z.kind) (v1 := .int .i64 z.tok.1) (v2 := .string z.tok.2) (v3 := .slice A' z.kids.length c') HK.out.2.2
  obtain ⟨W, hW⟩ : ∃ W, W = (((((w1.setCell ⟨w.heap.size + 1, 0, none⟩ (.int .i64 z.kind)).setCell ⟨w.heap.size + 1, 1, none⟩ (.int .i64 z.tok.1)).setCell ⟨w.heap.size + 1, 2, none⟩ (.string z.tok.2)).setCell ⟨w.heap.size + 1, 3, none⟩ (.slice A' z.kids.length c')).alloc (.cells #[.int .i64 z.kind, .int .i64 z.tok.1, .string z.tok.2, .slice A' z.kids.length c'] 26)) := ⟨_, rfl⟩
  rw [← hW]
  have hold : ∀ b, b < w1.heap.size → b ≠ w.heap.size + 1 → W.heap[b]? = w1.heap[b]? := fun b h1 h2 => by rw [hW]; exact (alloc_old _ _ _ (by rw [size4]; exact h1)).trans (other4 h2)
  have hA : W.heap[w.heap.size + 1]? = some (.cells #[.int .i64 z.kind, .int .i64 z.tok.1, .string z.tok.2, .slice A' z.kids.length c'] 26 (0, 0)) := by rw [hW]; exact (alloc_old _ _ _ (by rw [size4]; exact hlt1)).trans hF
  have hsW : W.heap.size = w1.heap.size + 1 := by rw [hW, World.size_alloc, size4]
  have hBW : Below w.heap.size w W := by
    rw [hW]
    exact (below4 (HB.out.1.trans (HK.out.2.1.mono (by rw [HB.out.2.2]; omega))) (Nat.le_succ _)).alloc (by rw [size4]; omega) _
  have q0 := Lib.cell_of_heap hA 0
  have q1 := Lib.cell_of_heap hA 1
  have q2 := Lib.cell_of_heap hA 2
  have q3 := Lib.cell_of_heap hA 3
  refine bodyPost_ret (by simp [results, Tryd.f51, go_sem, q0, q1, q2, q3]; try rfl) rfl ?_
  exact ⟨_, rfl, ⟨A', c', rfl, hcc, HK.out.1.kept (by omega) (fun b hp hb => hold b hb (by rw [HB.out.2.2] at hp; omega)) (fun b hp _ => by rw [HB.out.2.2] at hp; omega)⟩, hBW⟩

set_option maxRecDepth 100000 in
set_option maxHeartbeats 2000000 in
theorem Cut_any (n : Nd) (v : Value) (w : World) (hraw : rawN n) (hV : NodeV w v n) :
    Calls Tryd.prog 15 #[v] w fun e w' => ∃ v', e = .returned v' ∧ NodeP (fun b => w.heap.size ≤ b) w' v' (cutM 600 n) ∧ Below w.heap.size w w' := by
  have hV0 := hV
  obtain ⟨A, c, rfl, hk⟩ := hV
  have hB0 : Below w.heap.size w ((w.alloc (.cells (ndCells n A c) 26)).alloc (.cells zeroCells 26)) := ((Below.refl _ _).alloc (Nat.le_refl _) _).alloc (by simp) _
  have hcl := RCutAll_any 600 (by decide) (by decide) n _ ((w.alloc (.cells (ndCells n A c) 26)).alloc (.cells zeroCells 26)) hraw (hV0.below hB0)
  have hz : ((w.alloc (.cells (ndCells n A c) 26)).alloc (.cells zeroCells 26)).heap[w.heap.size + 1]? = some (.cells zeroCells 26 (0, 0)) := alloc_at _ _ _ (by simp)
  have hsz : ((w.alloc (.cells (ndCells n A c) 26)).alloc (.cells zeroCells 26)).heap.size = w.heap.size + 2 := by simp
  generalize cutM 600 n = z at hcl ⊢
  have HC := Lib.hid hcl
  have HB := Lib.hid (show _ ∧ _ ∧ _ from ⟨hB0, hz, hsz⟩)
  clear hcl hB0 hz hsz hk hV0 hraw
  go_enter Tryd.func15, Tryd.ntmps15
  go_wp2_with (go_at_call 51; refine HC.out.mono ?_; rintro e w1 ⟨v', rfl, ⟨A', c', rfl, hcc, hk⟩, hb1⟩; have hs1 := hb1.size; rw [HB.out.2.2] at hs1; have hbk := (hb1.block (w.heap.size + 1) (by rw [HB.out.2.2]; exact Nat.lt_succ_self _)).trans HB.out.2.1; have p0 := Lib.cell_of_heap hbk 0; have p1 := Lib.cell_of_heap hbk 1; have p2 := Lib.cell_of_heap hbk 2; have p3 := Lib.cell_of_heap hbk 3; have f0 := frozen_block (j := 0) hbk; have f1 := frozen_block (j := 1) hbk; have f2 := frozen_block (j := 2) hbk; have f3 := frozen_block (j := 3) hbk; have HK := Lib.hid (show _ ∧ _ ∧ _ from ⟨hk, hb1, hbk⟩); clear hk hb1 hbk)
  have hF := set4 (v0 := .int .i64 z.kind) (v1 := .int .i64 z.tok.1) (v2 := .string z.tok.2) (v3 := .slice A' z.kids.length c') HK.out.2.2
  obtain ⟨W, hW⟩ : ∃ W, W = ((((w1.setCell ⟨w.heap.size + 1, 0, none⟩ (.int .i64 z.kind)).setCell ⟨w.heap.size + 1, 1, none⟩ (.int .i64 z.tok.1)).setCell ⟨w.heap.size + 1, 2, none⟩ (.string z.tok.2)).setCell ⟨w.heap.size + 1, 3, none⟩ (.slice A' z.kids.length c')) := ⟨_, rfl⟩
  rw [← hW] at hF ⊢
  have hold : ∀ b, b ≠ w.heap.size + 1 → W.heap[b]? = w1.heap[b]? := fun b h2 => by rw [hW]; exact other4 h2
  have hsW : W.heap.size = w1.heap.size := by rw [hW, size4]
  have hBW : Below w.heap.size w W := by
    rw [hW]
    exact below4 (HB.out.1.trans (HK.out.2.1.mono (by rw [HB.out.2.2]; omega))) (Nat.le_succ _)
  have q0 := Lib.cell_of_heap hF 0
  have q1 := Lib.cell_of_heap hF 1
  have q2 := Lib.cell_of_heap hF 2
  have q3 := Lib.cell_of_heap hF 3
  refine bodyPost_ret (by simp [results, Tryd.f15, go_sem, q0, q1, q2, q3]; try rfl) rfl ?_
  exact ⟨_, rfl, ⟨A', c', rfl, hcc, HK.out.1.kept (by omega) (fun b hp hb => hold b (by rw [HB.out.2.2] at hp; omega)) (fun b hp _ => by rw [HB.out.2.2] at hp; omega)⟩, hBW⟩
end Go.Proofs.YtgihkojlpaebiaaDoor

namespace Go.Proofs.YtgihkojlpaebiaaDoor
set_option linter.unusedVariables false
set_option linter.unusedSimpArgs false
open Go Go.RowKit

mutual
theorem sumT_gat : ∀ n : Nd, sumT (gatN n) = sumF (fun t => t.2.size) n
  | .mk k t l => by
    have := sumT_gatL l
    simp only [gatN, sumF]
    split
    · simp [sumT]
    · exact this
theorem sumT_gatL : ∀ l : List Nd, sumT (gatL l) = sumFL (fun t => t.2.size) l
  | [] => rfl
  | n :: l => by simp only [gatL, sumFL]; rw [sumT_append, sumT_gat n, sumT_gatL l]
end
/-- a copy that is not large -/
structure SmZ (z : Nd) : Prop where
  count : countN z ≤ 600
  sh : shN z
theorem SmZ.of_cut {most : Nat} (h1 : 1 ≤ most) (h6 : most ≤ 600) (n : Nd) : SmZ (cutM most n) :=
  ⟨by have := cutN_count n most 0 h1; unfold cutM; omega, cutN_sh n most 0⟩
theorem SmZ.size {z : Nd} (h : SmZ z) : sizeN z := by have := h.count; unfold sizeN; omega
theorem SmZ.sum {z : Nd} (h : SmZ z) : sumS z := by have := shN_sum h.sh; have := h.count; unfold sumS; omega
theorem SmZ.sm {z : Nd} (h : SmZ z) : smT z := shN_sm h.sh
theorem SmZ.sumW {z : Nd} (h : SmZ z) : sumF (fun t => t.2.size) z ≤ 12000600 := by have := shN_sumF h.sh; have := h.count; omega
theorem SmZ.gat {z : Nd} (h : SmZ z) : sumT (gatN z) ≤ 1000000000 := by rw [sumT_gat]; have := h.sumW; omega
theorem formed_gat {z : Nd} (h : formedB z = true) : gatN z = leavesN z := gatN_eq z (by
  unfold formedB at h
  simp only [Bool.and_eq_true] at h
  exact h.1.1)
theorem leavesN_le (z : Nd) : (leavesN z).length ≤ countN z := by
  have h1 := leavesW_le (walkN [] z)
  rw [leavesW_walkN, walkN_length] at h1
  exact h1
/-- the copy in a variable's block: what each later world still has of it -/
structure KeepZ (z : Nd) (A : Option Addr) (c b : Nat) (W : World) : Prop where
  box : W.heap[b]? = some (.cells (nodeCells z A c) 26 (0, 0))
  cap : z.kids.length ≤ c
  kids : KidsP (fun _ => True) W A z.kids
  tabs : Tabs W
theorem KeepZ.below {z : Nd} {A : Option Addr} {c b : Nat} {W W' : World} (h : KeepZ z A c b W) (hb : Below W.heap.size W W') : KeepZ z A c b W' :=
  ⟨(hb.block b (Array.getElem?_eq_some_iff.1 h.box).1).trans h.box, h.cap, h.kids.below hb (fun _ _ _ => trivial), h.tabs.below hb⟩
theorem KeepZ.node {z : Nd} {A : Option Addr} {c b : Nat} {W : World} (h : KeepZ z A c b W) : NodeV W (.agg #[.int .i64 z.kind, .int .i64 z.tok.1, .string z.tok.2, .slice A z.kids.length c]) z := ⟨A, c, rfl, h.kids.kids⟩
theorem KeepZ.nodeC {z : Nd} {A : Option Addr} {c b : Nat} {W : World} (h : KeepZ z A c b W) : NodeP (fun _ => True) W (.agg #[.int .i64 z.kind, .int .i64 z.tok.1, .string z.tok.2, .slice A z.kids.length c]) z := ⟨A, c, rfl, h.cap, h.kids⟩
theorem tabs_alloc {w : World} {o : Obj} (h : Tabs w) : Tabs (w.alloc o) := h.below ((Below.refl _ _).alloc (Nat.le_refl _) _)
theorem KeepZ.of {z : Nd} {A : Option Addr} {c : Nat} {w1 : World} {P : Nat → Prop} (hc : z.kids.length ≤ c) (hk : KidsP P w1 A z.kids) (hT : Tabs w1) : KeepZ z A c w1.heap.size (w1.alloc (.cells (nodeCells z A c) 26)) :=
  ⟨alloc_at _ _ _ rfl, hc, hk.below ((Below.refl _ _).alloc (Nat.le_refl _) _) (fun _ _ _ => trivial), tabs_alloc hT⟩
end Go.Proofs.YtgihkojlpaebiaaDoor
