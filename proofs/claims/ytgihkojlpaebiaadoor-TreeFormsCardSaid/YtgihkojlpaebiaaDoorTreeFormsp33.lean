/-
  Trees: the specification's Cut and the statements' cut.; Trees: what is small of a copy that is not large; what a walk of a statement keeps of it.; TreeForms: IsFormed reports, and Text, Width, Leaves and Count return, what the specification says of any Node, or ErrForm. No condition: every input. (gen_wtf.py)
-/
import Derived.Test.YtgihkojlpaebiaaDoorTreeFormsp32
import Derived.Test.YtgihkojlpaebiaaDoorTreeFormsp30
import Derived.Test.YtgihkojlpaebiaaDoorTreeFormsp27
import Derived.Test.YtgihkojlpaebiaaDoorTreeFormsp28
namespace Go.Proofs.YtgihkojlpaebiaaDoor
set_option linter.unusedVariables false
set_option linter.unusedSimpArgs false
open Go Go.RowKit

/-- a copy that is not large -/
def cutM (most : Nat) (n : Nd) : Nd := (cutN n most 0).1
theorem cutNd_eq (n : Nd) : cutNd n = cutM 600 n := rfl
abbrev zeroCells : Array Value := #[.int .i64 0, .int .i64 0, .string { data := #[] }, .slice none 0 0]
abbrev ndCells (n : Nd) (A : Option Addr) (c : Nat) : Array Value := #[.int .i64 n.kind, .int .i64 n.tok.1, .string n.tok.2, .slice A n.kids.length c]
/-- the world in which a result's cells are set -/
theorem res_set {w w1 : World} {b : Nat} {n z : Nd} {A' : Option Addr} {c' : Nat} (hb : w1.heap[b]? = some (.cells zeroCells 26 (0, 0))) :
    ∃ W, W = ((((w1.setCell ⟨b, 0, none⟩ (.int .i64 z.kind)).setCell ⟨b, 1, none⟩ (.int .i64 z.tok.1)).setCell ⟨b, 2, none⟩ (.string z.tok.2)).setCell ⟨b, 3, none⟩ (.slice A' z.kids.length c')) ∧
      W.cell? ⟨b, 0, none⟩ = some (.int .i64 z.kind) ∧ W.cell? ⟨b, 1, none⟩ = some (.int .i64 z.tok.1) ∧ W.cell? ⟨b, 2, none⟩ = some (.string z.tok.2) ∧ W.cell? ⟨b, 3, none⟩ = some (.slice A' z.kids.length c') := by
  have h := set4 (v0 := .int .i64 z.kind) (v1 := .int .i64 z.tok.1) (v2 := .string z.tok.2) (v3 := .slice A' z.kids.length c') hb
  exact ⟨_, rfl, Lib.cell_of_heap h 0, Lib.cell_of_heap h 1, Lib.cell_of_heap h 2, Lib.cell_of_heap h 3⟩

set_option maxRecDepth 100000 in
set_option maxHeartbeats 2000000 in
theorem RCutAll_any (most : Nat) (hm1 : 1 ≤ most) (hm6 : most ≤ 600) (n : Nd) (v : Value) (w : World) (hraw : rawN n) (hV : NodeV w v n) :
    Calls Tryd.prog 51 #[v, .int .i64 (most : Nat)] w fun e w' => ∃ v', e = .returned v' ∧ NodeP (fun b => w.heap.size ≤ b) w' v' (cutM most n) ∧ Below w.heap.size w w' := by
  have hV0 := hV
  obtain ⟨A, c, rfl, hk⟩ := hV
  have hB0 : Below w.heap.size w ((w.alloc (.cells (ndCells n A c) 26)).alloc (.cells zeroCells 26)) := ((Below.refl _ _).alloc (Nat.le_refl _) _).alloc (by simp) _
  have hcl := RCut_any (deepN n + 1) n most 0 _ ((w.alloc (.cells (ndCells n A c) 26)).alloc (.cells zeroCells 26)) (Nat.lt_succ_self _) hm1 hm6 (by decide) hraw (hV0.below hB0)
  have hz : ((w.alloc (.cells (ndCells n A c) 26)).alloc (.cells zeroCells 26)).heap[w.heap.size + 1]? = some (.cells zeroCells 26 (0, 0)) := alloc_at _ _ _ (by simp)
  have hsz : ((w.alloc (.cells (ndCells n A c) 26)).alloc (.cells zeroCells 26)).heap.size = w.heap.size + 2 := by simp
  unfold cutM
  generalize (cutN n most 0).1 = z at hcl ⊢
  generalize (cutN n most 0).2 = r at hcl
  have HC := Lib.hid hcl
  have HB := Lib.hid (show _ ∧ _ ∧ _ from ⟨hB0, hz, hsz⟩)
  clear hcl hB0 hz hsz hk hV0 hraw
  go_enter Tryd.func51, Tryd.ntmps51
  go_wp2_with (go_at_call 77; refine HC.out.mono ?_; rintro e w1 ⟨v', rfl, ⟨A', c', rfl, hk⟩, hb1⟩; have hs1 := hb1.size; rw [HB.out.2.2] at hs1; have hbk := (hb1.block (w.heap.size + 1) (by rw [HB.out.2.2]; exact Nat.lt_succ_self _)).trans HB.out.2.1; have p0 := Lib.cell_of_heap hbk 0; have p1 := Lib.cell_of_heap hbk 1; have p2 := Lib.cell_of_heap hbk 2; have p3 := Lib.cell_of_heap hbk 3; have f0 := frozen_block (j := 0) hbk; have f1 := frozen_block (j := 1) hbk; have f2 := frozen_block (j := 2) hbk; have f3 := frozen_block (j := 3) hbk; have hlt1 : w.heap.size + 1 < w1.heap.size := hs1; have hne1 : w.heap.size + 1 ≠ w1.heap.size := Nat.ne_of_lt hlt1; have HK := Lib.hid (show _ ∧ _ ∧ _ from ⟨hk, hb1, hbk⟩); clear hk hb1 hbk)
  have hF := set4 (v0 := .int .i64 z.kind) (v1 := .int .i64 z.tok.1) (v2 := .string z.tok.2) (v3 := .slice A' z.kids.length c') HK.out.2.2
  obtain ⟨W, hW⟩ : ∃ W, W = (((((w1.setCell ⟨w.heap.size + 1, 0, none⟩ (.int .i64 z.kind)).setCell ⟨w.heap.size + 1, 1, none⟩ (.int .i64 z.tok.1)).setCell ⟨w.heap.size + 1, 2, none⟩ (.string z.tok.2)).setCell ⟨w.heap.size + 1, 3, none⟩ (.slice A' z.kids.length c')).alloc (.cells #[.int .i64 z.kind, .int .i64 z.tok.1, .string z.tok.2, .slice A' z.kids.length c'] 26)) := ⟨_, rfl⟩
  rw [← hW]
  have hold : ∀ b, b < w1.heap.size → b ≠ w.heap.size + 1 → W.heap[b]? = w1.heap[b]? := fun b h1 h2 => by rw [hW]; exact (alloc_old _ _ _ (by rw [size4]; exact h1)).trans (other4 h2)
  have hA : W.heap[w.heap.size + 1]? = some (.cells #[.int .i64 z.kind, .int .i64 z.tok.1, .string z.tok.2, .slice A' z.kids.length c'] 26 (0, 0)) := by rw [hW]; exact (alloc_old _ _ _ (by rw [size4]; exact hlt1)).trans hF
  have hsW : W.heap.size = w1.heap.size + 1 := by rw [hW, World.size_alloc, size4]
  have hBW : Below w.heap.size w W := by
    rw [hW]
    exact (below4 (HB.out.1.trans (HK.out.2.1.mono (by rw [HB.out.2.2]; omega))) (Nat.le_succ _)).alloc (by rw [size4]; omega) _
  have q0 := Lib.cell_of_heap hA 0
  have q1 := Lib.cell_of_heap hA 1
  have q2 := Lib.cell_of_heap hA 2
  have q3 := Lib.cell_of_heap hA 3
  refine bodyPost_ret (by simp [results, Tryd.f51, go_sem, q0, q1, q2, q3]; try rfl) rfl ?_
  exact ⟨_, rfl, ⟨A', c', rfl, HK.out.1.kept (by omega) (fun b hp hb => hold b hb (by rw [HB.out.2.2] at hp; omega)) (fun b hp _ => by rw [HB.out.2.2] at hp; omega)⟩, hBW⟩

set_option maxRecDepth 100000 in
set_option maxHeartbeats 2000000 in
theorem Cut_any (n : Nd) (v : Value) (w : World) (hraw : rawN n) (hV : NodeV w v n) :
    Calls Tryd.prog 15 #[v] w fun e w' => ∃ v', e = .returned v' ∧ NodeP (fun b => w.heap.size ≤ b) w' v' (cutM 600 n) ∧ Below w.heap.size w w' := by
  have hV0 := hV
  obtain ⟨A, c, rfl, hk⟩ := hV
  have hB0 : Below w.heap.size w ((w.alloc (.cells (ndCells n A c) 26)).alloc (.cells zeroCells 26)) := ((Below.refl _ _).alloc (Nat.le_refl _) _).alloc (by simp) _
  have hcl := RCutAll_any 600 (by decide) (by decide) n _ ((w.alloc (.cells (ndCells n A c) 26)).alloc (.cells zeroCells 26)) hraw (hV0.below hB0)
  have hz : ((w.alloc (.cells (ndCells n A c) 26)).alloc (.cells zeroCells 26)).heap[w.heap.size + 1]? = some (.cells zeroCells 26 (0, 0)) := alloc_at _ _ _ (by simp)
  have hsz : ((w.alloc (.cells (ndCells n A c) 26)).alloc (.cells zeroCells 26)).heap.size = w.heap.size + 2 := by simp
  generalize cutM 600 n = z at hcl ⊢
  have HC := Lib.hid hcl
  have HB := Lib.hid (show _ ∧ _ ∧ _ from ⟨hB0, hz, hsz⟩)
  clear hcl hB0 hz hsz hk hV0 hraw
  go_enter Tryd.func15, Tryd.ntmps15
  go_wp2_with (go_at_call 51; refine HC.out.mono ?_; rintro e w1 ⟨v', rfl, ⟨A', c', rfl, hk⟩, hb1⟩; have hs1 := hb1.size; rw [HB.out.2.2] at hs1; have hbk := (hb1.block (w.heap.size + 1) (by rw [HB.out.2.2]; exact Nat.lt_succ_self _)).trans HB.out.2.1; have p0 := Lib.cell_of_heap hbk 0; have p1 := Lib.cell_of_heap hbk 1; have p2 := Lib.cell_of_heap hbk 2; have p3 := Lib.cell_of_heap hbk 3; have f0 := frozen_block (j := 0) hbk; have f1 := frozen_block (j := 1) hbk; have f2 := frozen_block (j := 2) hbk; have f3 := frozen_block (j := 3) hbk; have HK := Lib.hid (show _ ∧ _ ∧ _ from ⟨hk, hb1, hbk⟩); clear hk hb1 hbk)
  have hF := set4 (v0 := .int .i64 z.kind) (v1 := .int .i64 z.tok.1) (v2 := .string z.tok.2) (v3 := .slice A' z.kids.length c') HK.out.2.2
  obtain ⟨W, hW⟩ : ∃ W, W = ((((w1.setCell ⟨w.heap.size + 1, 0, none⟩ (.int .i64 z.kind)).setCell ⟨w.heap.size + 1, 1, none⟩ (.int .i64 z.tok.1)).setCell ⟨w.heap.size + 1, 2, none⟩ (.string z.tok.2)).setCell ⟨w.heap.size + 1, 3, none⟩ (.slice A' z.kids.length c')) := ⟨_, rfl⟩
  rw [← hW] at hF ⊢
  have hold : ∀ b, b ≠ w.heap.size + 1 → W.heap[b]? = w1.heap[b]? := fun b h2 => by rw [hW]; exact other4 h2
  have hsW : W.heap.size = w1.heap.size := by rw [hW, size4]
  have hBW : Below w.heap.size w W := by
    rw [hW]
    exact below4 (HB.out.1.trans (HK.out.2.1.mono (by rw [HB.out.2.2]; omega))) (Nat.le_succ _)
  have q0 := Lib.cell_of_heap hF 0
  have q1 := Lib.cell_of_heap hF 1
  have q2 := Lib.cell_of_heap hF 2
  have q3 := Lib.cell_of_heap hF 3
  refine bodyPost_ret (by simp [results, Tryd.f15, go_sem, q0, q1, q2, q3]; try rfl) rfl ?_
  exact ⟨_, rfl, ⟨A', c', rfl, HK.out.1.kept (by omega) (fun b hp hb => hold b (by rw [HB.out.2.2] at hp; omega)) (fun b hp _ => by rw [HB.out.2.2] at hp; omega)⟩, hBW⟩
end Go.Proofs.YtgihkojlpaebiaaDoor

namespace Go.Proofs.YtgihkojlpaebiaaDoor
set_option linter.unusedVariables false
set_option linter.unusedSimpArgs false
open Go Go.RowKit

mutual
theorem sumT_gat : ∀ n : Nd, sumT (gatN n) = sumF (fun t => t.2.size) n
  | .mk k t l => by
    have := sumT_gatL l
    simp only [gatN, sumF]
    split
    · simp [sumT]
    · exact this
theorem sumT_gatL : ∀ l : List Nd, sumT (gatL l) = sumFL (fun t => t.2.size) l
  | [] => rfl
  | n :: l => by simp only [gatL, sumFL]; rw [sumT_append, sumT_gat n, sumT_gatL l]
end
/-- a copy that is not large -/
structure SmZ (z : Nd) : Prop where
  count : countN z ≤ 600
  sh : shN z
theorem SmZ.of_cut {most : Nat} (h1 : 1 ≤ most) (h6 : most ≤ 600) (n : Nd) : SmZ (cutM most n) :=
  ⟨by have := cutN_count n most 0 h1; unfold cutM; omega, cutN_sh n most 0⟩
theorem SmZ.size {z : Nd} (h : SmZ z) : sizeN z := by have := h.count; unfold sizeN; omega
theorem SmZ.sum {z : Nd} (h : SmZ z) : sumS z := by have := shN_sum h.sh; have := h.count; unfold sumS; omega
theorem SmZ.sm {z : Nd} (h : SmZ z) : smT z := shN_sm h.sh
theorem SmZ.sumW {z : Nd} (h : SmZ z) : sumF (fun t => t.2.size) z ≤ 12000600 := by have := shN_sumF h.sh; have := h.count; omega
theorem SmZ.gat {z : Nd} (h : SmZ z) : sumT (gatN z) ≤ 1000000000 := by rw [sumT_gat]; have := h.sumW; omega
theorem formed_gat {z : Nd} (h : formedB z = true) : gatN z = leavesN z := gatN_eq z (by
  unfold formedB at h
  simp only [Bool.and_eq_true] at h
  exact h.1.1)
theorem leavesN_le (z : Nd) : (leavesN z).length ≤ countN z := by
  have h1 := leavesW_le (walkN [] z)
  rw [leavesW_walkN, walkN_length] at h1
  exact h1
/-- the copy in a variable's block: what each later world still has of it -/
structure KeepZ (z : Nd) (A : Option Addr) (c b : Nat) (W : World) : Prop where
  box : W.heap[b]? = some (.cells (nodeCells z A c) 26 (0, 0))
  kids : KidsV W A z.kids
  tabs : Tabs W
theorem KeepZ.below {z : Nd} {A : Option Addr} {c b : Nat} {W W' : World} (h : KeepZ z A c b W) (hb : Below W.heap.size W W') : KeepZ z A c b W' :=
  ⟨(hb.block b (Array.getElem?_eq_some_iff.1 h.box).1).trans h.box, h.kids.below hb, h.tabs.below hb⟩
theorem KeepZ.node {z : Nd} {A : Option Addr} {c b : Nat} {W : World} (h : KeepZ z A c b W) : NodeV W (.agg #[.int .i64 z.kind, .int .i64 z.tok.1, .string z.tok.2, .slice A z.kids.length c]) z := ⟨A, c, rfl, h.kids⟩
theorem tabs_alloc {w : World} {o : Obj} (h : Tabs w) : Tabs (w.alloc o) := h.below ((Below.refl _ _).alloc (Nat.le_refl _) _)
theorem KeepZ.of {z : Nd} {A : Option Addr} {c : Nat} {w1 : World} (hk : KidsV w1 A z.kids) (hT : Tabs w1) : KeepZ z A c w1.heap.size (w1.alloc (.cells (nodeCells z A c) 26)) :=
  ⟨alloc_at _ _ _ rfl, hk.below ((Below.refl _ _).alloc (Nat.le_refl _) _), tabs_alloc hT⟩
end Go.Proofs.YtgihkojlpaebiaaDoor

namespace Go.Proofs.YtgihkojlpaebiaaDoor.lawTreeForms
set_option linter.unusedVariables false
set_option linter.unusedSimpArgs false
open Go.ChangeShapes Go.WideShapes Go.RowKit

theorem tok_same (c1 c2 : Nat) (A1 A2 : Option Addr) (L : List Tok) (w : World) (hl : L.length ≤ 100000) (h1 : TksV w A1 L) (h2 : TksV w A2 L) :
    Calls Tryd.prog 26 #[.slice A1 L.length c1, .slice A2 L.length c2] w fun e w' => e = .returned (.bool true) ∧ Below w.heap.size w w' := by
  have h := tokens_any c1 c2 A1 A2 L L w hl h1 h2
  rw [decide_eq_true rfl] at h
  exact h

set_option maxRecDepth 100000 in
set_option maxHeartbeats 2000000 in
theorem walk (n0 : Nd) (v0 : Value) (hr0 : rawN n0) (w : World) (hT : Tabs w) (hN0 : NodeV w v0 n0) :
    Calls Tryd.prog 3 #[v0] w fun e w' => e = .returned (.bool true) ∧ Below w.heap.size w w' := by
  have hN := hN0
  obtain ⟨A0, c0, rfl, hk0⟩ := hN0
  have hB0 : Below w.heap.size w (w.alloc (.cells (nodeCells n0 A0 c0) 26)) := (Below.refl _ _).alloc (Nat.le_refl _) _
  have hcut := Cut_any n0 _ (w.alloc (.cells (nodeCells n0 A0 c0) 26)) hr0 (hN.below hB0)
  have hz := SmZ.of_cut (most := 600) (by decide) (by decide) n0
  have HT := Lib.hid (tabs_alloc (o := .cells (nodeCells n0 A0 c0) 26) hT)
  generalize cutM 600 n0 = z at hcut hz
  have Hcut := Lib.hid hcut
  have HZ := Lib.hid hz
  have HB0 := Lib.hid hB0
  clear hcut hz hT hN hk0 hr0 hB0
  have hsz : w.heap.size ≤ w.heap.size := Nat.le_refl _
  cases hf : formedB z with
  | false =>
    have hr := rFormB_eq z
    rw [hf] at hr
    have h16 := fun W v (h : NodeV W v z) => RIsFormed_any z v W (Nat.le_trans HZ.out.count (by decide)) HZ.out.sm h
    rw [hr] at h16
    have h17 := fun W v (t : Tabs W) (h : NodeV W v z) => Text_any z v W HZ.out.size HZ.out.sum t h
    have h18 := fun W v (t : Tabs W) (h : NodeV W v z) => Width_any z v W HZ.out.size HZ.out.sum t h
    have h19 := fun W v (t : Tabs W) (h : NodeV W v z) => Leaves_any z v W HZ.out.size t h
    have h20 := fun W v (t : Tabs W) (h : NodeV W v z) => Count_any z v W HZ.out.size t h
    have h21 := fun W v (t : Tabs W) (h : NodeV W v z) => IsFormed_any z v W HZ.out.size t h
    rw [hf] at h17 h18 h19 h20 h21
    simp only [Bool.false_eq_true, if_false] at h17 h18 h19 h20
    have H16 := Lib.hid h16
    have H17 := Lib.hid h17
    have H18 := Lib.hid h18
    have H19 := Lib.hid h19
    have H20 := Lib.hid h20
    have H21 := Lib.hid h21
    clear hr hf h16 h17 h18 h19 h20 h21
    go_enter Tryd.func3, Tryd.ntmps3
    go_wp2_with (go_at_call 15; refine Hcut.out.mono ?_; rintro e w1 ⟨v1, rfl, ⟨A, c, rfl, hkp⟩, hb1⟩; have HK := Lib.hid (KeepZ.of (c := c) hkp.kids (HT.out.below hb1)); have hBw : Below w.heap.size w (w1.alloc (.cells (nodeCells z A c) 26)) := (HB0.out.trans (hb1.mono HB0.out.size)).alloc (HB0.out.trans (hb1.mono HB0.out.size)).size _; have HBw := Lib.hid hBw; clear hkp hb1 hBw)
    have K1 := HK
    have B1 := HBw
    refine (H16.out (w1.alloc (.cells (nodeCells z A c) 26)) _ K1.out.node).mono ?_
    rintro e w2 ⟨rfl, hb2⟩
    have K2 := Lib.hid (K1.out.below hb2)
    have B2 := Lib.hid (B1.out.trans (hb2.mono B1.out.size))
    clear hb2
    obtain ⟨q0, q1, q2, q3⟩ := cells_of_block K2.out.box
    go_wp2_with fail
    clear q0 q1 q2 q3
    refine (H17.out w2 _ K2.out.tabs K2.out.node).mono ?_
    rintro e w3 ⟨rfl, hb3⟩
    have K3 := Lib.hid (K2.out.below hb3)
    have B3 := Lib.hid (B2.out.trans (hb3.mono B2.out.size))
    clear hb3
    obtain ⟨q0, q1, q2, q3⟩ := cells_of_block K3.out.box
    go_wp2_with fail
    clear q0 q1 q2 q3
    refine (H18.out w3 _ K3.out.tabs K3.out.node).mono ?_
    rintro e w4 ⟨rfl, hb4⟩
    have K4 := Lib.hid (K3.out.below hb4)
    have B4 := Lib.hid (B3.out.trans (hb4.mono B3.out.size))
    clear hb4
    obtain ⟨q0, q1, q2, q3⟩ := cells_of_block K4.out.box
    go_wp2_with fail
    clear q0 q1 q2 q3
    refine (H19.out w4 _ K4.out.tabs K4.out.node).mono ?_
    rintro e w5 ⟨rfl, hb5⟩
    have K5 := Lib.hid (K4.out.below hb5)
    have B5 := Lib.hid (B4.out.trans (hb5.mono B4.out.size))
    clear hb5
    obtain ⟨q0, q1, q2, q3⟩ := cells_of_block K5.out.box
    go_wp2_with fail
    clear q0 q1 q2 q3
    refine (H20.out w5 _ K5.out.tabs K5.out.node).mono ?_
    rintro e w6 ⟨rfl, hb6⟩
    have K6 := Lib.hid (K5.out.below hb6)
    have B6 := Lib.hid (B5.out.trans (hb6.mono B5.out.size))
    clear hb6
    obtain ⟨q0, q1, q2, q3⟩ := cells_of_block K6.out.box
    go_wp2_with fail
    clear q0 q1 q2 q3
    refine (H21.out w6 _ K6.out.tabs K6.out.node).mono ?_
    rintro e w7 ⟨rfl, hb7⟩
    have K7 := Lib.hid (K6.out.below hb7)
    have B7 := Lib.hid (B6.out.trans (hb7.mono B6.out.size))
    clear hb7
    obtain ⟨q0, q1, q2, q3⟩ := cells_of_block K7.out.box
    go_wp2_with fail
    clear q0 q1 q2 q3
    refine (alive5_any w7 K7.out.tabs).mono ?_
    rintro e w8 ⟨rfl, hb8⟩
    have K8 := Lib.hid (K7.out.below hb8)
    have B8 := Lib.hid (B7.out.trans (hb8.mono B7.out.size))
    clear hb8
    obtain ⟨q0, q1, q2, q3⟩ := cells_of_block K8.out.box
    go_wp2_with fail
    clear q0 q1 q2 q3
    go_ret
    exact ⟨rfl, B8.out⟩
  | true =>
    have hr := rFormB_eq z
    rw [hf] at hr
    have hg := formed_gat hf
    have h16 := fun W v (h : NodeV W v z) => RIsFormed_any z v W (Nat.le_trans HZ.out.count (by decide)) HZ.out.sm h
    rw [hr] at h16
    have h17 := fun W v (t : Tabs W) (h : NodeV W v z) => Text_any z v W HZ.out.size HZ.out.sum t h
    have h18 := fun W v (t : Tabs W) (h : NodeV W v z) => Width_any z v W HZ.out.size HZ.out.sum t h
    have h19 := fun W v (t : Tabs W) (h : NodeV W v z) => Leaves_any z v W HZ.out.size t h
    have h20 := fun W v (t : Tabs W) (h : NodeV W v z) => Count_any z v W HZ.out.size t h
    have h21 := fun W v (t : Tabs W) (h : NodeV W v z) => IsFormed_any z v W HZ.out.size t h
    have h23 := fun W v (h : NodeV W v z) => RCount_any (deepN z + 1) z v W (Nat.lt_succ_self _) (Nat.le_trans HZ.out.count (by decide)) h
    have h24 := fun W v (h : NodeV W v z) => RTextOf_any z v W (Nat.le_trans HZ.out.count (by decide)) HZ.out.gat h
    have h25 := fun W v (h : NodeV W v z) => RWidth_any (deepN z + 1) z v W (Nat.lt_succ_self _) (Nat.le_trans HZ.out.count (by decide)) (Nat.le_trans HZ.out.sumW (by decide)) h
    have h27 := fun W v (h : NodeV W v z) => RLeavesOf_any z v W (Nat.le_trans HZ.out.count (by decide)) h
    rw [hf, textN_cat] at h17
    rw [hf] at h18 h19 h20 h21
    rw [hg] at h24 h27
    rw [← sumT_gat, hg] at h25
    simp only [if_true] at h17 h18 h19 h20
    have hll := Nat.le_trans (leavesN_le z) HZ.out.count
    generalize mkB (catL (leavesN z)) = T at h17 h24
    generalize sumT (leavesN z) = S at h18 h25
    generalize leavesN z = L at h19 h27 hll
    generalize countN z = C at h20 h23
    generalize deepN z = D at h20 h23
    have hTT : (T.toList == T.toList) = true := by simp
    have H16 := Lib.hid h16
    have H17 := Lib.hid h17
    have H18 := Lib.hid h18
    have H19 := Lib.hid h19
    have H20 := Lib.hid h20
    have H21 := Lib.hid h21
    have H23 := Lib.hid h23
    have H24 := Lib.hid h24
    have H25 := Lib.hid h25
    have H27 := Lib.hid h27
    clear hr hf hg h16 h17 h18 h19 h20 h21 h23 h24 h25 h27
    go_enter Tryd.func3, Tryd.ntmps3
    go_wp2_with (go_at_call 15; refine Hcut.out.mono ?_; rintro e w1 ⟨v1, rfl, ⟨A, c, rfl, hkp⟩, hb1⟩; have HK := Lib.hid (KeepZ.of (c := c) hkp.kids (HT.out.below hb1)); have hBw : Below w.heap.size w (w1.alloc (.cells (nodeCells z A c) 26)) := (HB0.out.trans (hb1.mono HB0.out.size)).alloc (HB0.out.trans (hb1.mono HB0.out.size)).size _; have HBw := Lib.hid hBw; clear hkp hb1 hBw)
    have K1 := HK
    have B1 := HBw
    refine (H16.out (w1.alloc (.cells (nodeCells z A c) 26)) _ K1.out.node).mono ?_
    rintro e w2 ⟨rfl, hb2⟩
    have K2 := Lib.hid (K1.out.below hb2)
    have B2 := Lib.hid (B1.out.trans (hb2.mono B1.out.size))
    clear hb2
    obtain ⟨q0, q1, q2, q3⟩ := cells_of_block K2.out.box
    go_wp2_with fail
    clear q0 q1 q2 q3
    refine (H17.out w2 _ K2.out.tabs K2.out.node).mono ?_
    rintro e w3 ⟨rfl, hb3⟩
    have K3 := Lib.hid (K2.out.below hb3)
    have B3 := Lib.hid (B2.out.trans (hb3.mono B2.out.size))
    clear hb3
    obtain ⟨q0, q1, q2, q3⟩ := cells_of_block K3.out.box
    go_wp2_with fail
    clear q0 q1 q2 q3
    refine (H18.out w3 _ K3.out.tabs K3.out.node).mono ?_
    rintro e w4 ⟨rfl, hb4⟩
    have K4 := Lib.hid (K3.out.below hb4)
    have B4 := Lib.hid (B3.out.trans (hb4.mono B3.out.size))
    clear hb4
    obtain ⟨q0, q1, q2, q3⟩ := cells_of_block K4.out.box
    go_wp2_with fail
    clear q0 q1 q2 q3
    refine (H19.out w4 _ K4.out.tabs K4.out.node).mono ?_
    rintro e w5 ⟨⟨sv, rfl, hrow⟩, hb5⟩
    have K5 := Lib.hid (K4.out.below hb5)
    have B5 := Lib.hid (B4.out.trans (hb5.mono B4.out.size))
    obtain ⟨A5, c5, rfl, hE, _⟩ := TksV.of_own hrow
    have E5 := Lib.hid hE
    clear hrow hE
    clear hb5
    obtain ⟨q0, q1, q2, q3⟩ := cells_of_block K5.out.box
    go_wp2_with fail
    clear q0 q1 q2 q3
    refine (H20.out w5 _ K5.out.tabs K5.out.node).mono ?_
    rintro e w6 ⟨rfl, hb6⟩
    have K6 := Lib.hid (K5.out.below hb6)
    have B6 := Lib.hid (B5.out.trans (hb6.mono B5.out.size))
    have E6 := Lib.hid (E5.out.below hb6)
    clear hb6
    obtain ⟨q0, q1, q2, q3⟩ := cells_of_block K6.out.box
    go_wp2_with fail
    clear q0 q1 q2 q3
    refine (H21.out w6 _ K6.out.tabs K6.out.node).mono ?_
    rintro e w7 ⟨rfl, hb7⟩
    have K7 := Lib.hid (K6.out.below hb7)
    have B7 := Lib.hid (B6.out.trans (hb7.mono B6.out.size))
    have E7 := Lib.hid (E6.out.below hb7)
    clear hb7
    obtain ⟨q0, q1, q2, q3⟩ := cells_of_block K7.out.box
    go_wp2_with fail
    clear q0 q1 q2 q3
    refine (H23.out w7 _ K7.out.node).mono ?_
    rintro e w8 ⟨rfl, hb8⟩
    have K8 := Lib.hid (K7.out.below hb8)
    have B8 := Lib.hid (B7.out.trans (hb8.mono B7.out.size))
    have E8 := Lib.hid (E7.out.below hb8)
    clear hb8
    obtain ⟨q0, q1, q2, q3⟩ := cells_of_block K8.out.box
    go_wp2_with fail
    clear q0 q1 q2 q3
    refine (H24.out w8 _ K8.out.node).mono ?_
    rintro e w9 ⟨rfl, hb9⟩
    have K9 := Lib.hid (K8.out.below hb9)
    have B9 := Lib.hid (B8.out.trans (hb9.mono B8.out.size))
    have E9 := Lib.hid (E8.out.below hb9)
    clear hb9
    obtain ⟨q0, q1, q2, q3⟩ := cells_of_block K9.out.box
    go_wp2_with fail
    clear q0 q1 q2 q3
    refine (H25.out w9 _ K9.out.node).mono ?_
    rintro e w10 ⟨rfl, hb10⟩
    have K10 := Lib.hid (K9.out.below hb10)
    have B10 := Lib.hid (B9.out.trans (hb10.mono B9.out.size))
    have E10 := Lib.hid (E9.out.below hb10)
    clear hb10
    obtain ⟨q0, q1, q2, q3⟩ := cells_of_block K10.out.box
    go_wp2_with fail
    clear q0 q1 q2 q3
    refine (H27.out w10 _ K10.out.node).mono ?_
    rintro e w11 ⟨sv2, rfl, hrow2, hb11⟩
    have K11 := Lib.hid (K10.out.below hb11)
    have B11 := Lib.hid (B10.out.trans (hb11.mono B10.out.size))
    have E11 := Lib.hid (E10.out.below hb11)
    obtain ⟨A11, c11, rfl, hE2, _⟩ := TksV.of_own hrow2
    have HE11 := Lib.hid hE2
    clear hrow2 hE2
    clear hb11
    obtain ⟨q0, q1, q2, q3⟩ := cells_of_block K11.out.box
    go_wp2_with fail
    clear q0 q1 q2 q3
    refine (tok_same c5 c11 A5 A11 L w11 (by omega) E11.out HE11.out).mono ?_
    rintro e w12 ⟨rfl, hb12⟩
    have K12 := Lib.hid (K11.out.below hb12)
    have B12 := Lib.hid (B11.out.trans (hb12.mono B11.out.size))
    have E12 := Lib.hid (E11.out.below hb12)
    clear hb12
    obtain ⟨q0, q1, q2, q3⟩ := cells_of_block K12.out.box
    go_wp2_with fail
    clear q0 q1 q2 q3
    refine (alive5_any w12 K12.out.tabs).mono ?_
    rintro e w13 ⟨rfl, hb13⟩
    have K13 := Lib.hid (K12.out.below hb13)
    have B13 := Lib.hid (B12.out.trans (hb13.mono B12.out.size))
    have E13 := Lib.hid (E12.out.below hb13)
    clear hb13
    obtain ⟨q0, q1, q2, q3⟩ := cells_of_block K13.out.box
    go_wp2_with fail
    clear q0 q1 q2 q3
    go_ret
    exact ⟨rfl, B13.out⟩
end Go.Proofs.YtgihkojlpaebiaaDoor.lawTreeForms
