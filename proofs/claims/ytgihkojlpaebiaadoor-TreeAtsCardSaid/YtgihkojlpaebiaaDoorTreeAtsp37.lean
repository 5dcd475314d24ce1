/-
  Trees: Core.
-/
import Derived.Test.YtgihkojlpaebiaaDoorTreeAtsp35
namespace Go.Proofs.YtgihkojlpaebiaaDoor
set_option linter.unusedVariables false
set_option linter.unusedSimpArgs false
open Go Go.RowKit

attribute [local go_sem] Oper.semAt_some
theorem other2 {W : World} {b b' : Nat} {v0 v1 : Value} (h : b' ≠ b) : ((W.setCell ⟨b, 0, none⟩ v0).setCell ⟨b, 1, none⟩ v1).heap[b']? = W.heap[b']? := (block_other h).trans (block_other h)

set_option maxRecDepth 100000 in
set_option maxHeartbeats 2000000 in
theorem Core_err (n : Nd) (v : Value) (l : List Int) (Ap : Option Addr) (cp : Nat) (w : World) (c : Int) (hC : sizeN n) (hS : sumS n) (hT : Tabs w) (hV : NodeP (fun _ => True) w v n) (hl : l.length ≤ 1000000000) (hP : IntsR w Ap l) (hc : goErr n l = c) (h0 : c ≠ 0) :
    Calls Tryd.prog 39 #[v, .slice Ap l.length cp] w fun e w' => e = .returned (.tuple #[.agg #[.int .i64 0, .int .i64 0], .int .i64 c]) ∧ Below w.heap.size w w' := by
  have hV0 := hV
  obtain ⟨A, ca, rfl, _, _⟩ := hV0
  have hB0 : Below w.heap.size w ((w.alloc (.cells (nodeCells n A ca) 26)).alloc (.cells #[.int .i64 0, .int .i64 0] 62)) := ((Below.refl _ _).alloc (Nat.le_refl _) _).alloc (by simp) _
  have hb1 : ((w.alloc (.cells (nodeCells n A ca) 26)).alloc (.cells #[.int .i64 0, .int .i64 0] 62)).heap[w.heap.size + 1]? = some (.cells #[.int .i64 0, .int .i64 0] 62 (0, 0)) := alloc_at _ _ _ (by simp)
  have hs0 : ((w.alloc (.cells (nodeCells n A ca) 26)).alloc (.cells #[.int .i64 0, .int .i64 0] 62)).heap.size = w.heap.size + 2 := by simp
  have hgo := (goTo_any n _ l Ap cp ((w.alloc (.cells (nodeCells n A ca) 26)).alloc (.cells #[.int .i64 0, .int .i64 0] 62)) hC hS (hT.below hB0) (hV.below hB0 (fun _ _ _ => trivial)) hl (hP.below hB0)).mono fun e w' ⟨h1, h2⟩ => And.intro (goPost_err h1 hc h0) h2
  have hne : (c != 0) = true := by simpa using h0
  have HG := Lib.hid hgo
  have HX := Lib.hid (show _ ∧ _ ∧ _ from ⟨hB0, hb1, hs0⟩)
  clear hgo hB0 hb1 hs0 hC hS hT hV hP hc
  refine (callsIn_wide (n := 9)).1 ?_
  refine callsIn_of_wp_marks Tryd.func39 rfl trivial ?_ rfl
  simp only [Tryd.ntmps39, List.size_toArray, List.length_cons, List.length_nil, Nat.reduceAdd, Nat.reduceSub, Array.replicate_succ, Array.replicate_zero, List.push_toArray, List.append_toArray, List.nil_append, List.cons_append]
  refine wpIn_wide.2 ?_
  go_wp2_with (go_at_call 68; refine HG.out.mono ?_; rintro e w1 ⟨rfl, hbb⟩; have hs1 := hbb.size; rw [HX.out.2.2] at hs1; have hz := (hbb.block (w.heap.size + 1) (by rw [HX.out.2.2]; exact Nat.lt_succ_self _)).trans HX.out.2.1; have hlt : w.heap.size + 1 < w1.heap.size := hs1; have hnb : w.heap.size + 1 ≠ w1.heap.size := Nat.ne_of_lt hlt; have q0 := Lib.cell_of_heap hz 0; have q1 := Lib.cell_of_heap hz 1; have f0 := frozen_block (j := 0) hz; have f1 := frozen_block (j := 1) hz; have HB := Lib.hid (show _ ∧ _ from ⟨hz, HX.out.1.trans (hbb.mono HX.out.1.size)⟩); clear hz hbb hs1)
  have hF := set2 (v0 := .int .i64 0) (v1 := .int .i64 0) HB.out.1
  obtain ⟨W, hW⟩ : ∃ W, W = ((w1.setCell ⟨w.heap.size + 1, 0, none⟩ (.int .i64 0)).setCell ⟨w.heap.size + 1, 1, none⟩ (.int .i64 0)).alloc (.cells #[.int .i64 0, .int .i64 0, .string { data := #[] }, .slice none 0 0] 26) := ⟨_, rfl⟩
  rw [← hW]
  have hA : W.heap[w.heap.size + 1]? = some (.cells #[.int .i64 0, .int .i64 0] 62 (0, 0)) := by rw [hW]; exact (alloc_old _ _ _ (by rw [size2]; exact hlt)).trans hF
  have hBW : Below w.heap.size w W := by rw [hW]; exact (below2 HB.out.2 (Nat.le_succ _)).alloc (by rw [size2]; omega) _
  have s0 := Lib.cell_of_heap hA 0
  have s1 := Lib.cell_of_heap hA 1
  exact ⟨.tuple #[.agg #[.int .i64 0, .int .i64 0], .int .i64 c], by simp [results, Tryd.f39, go_sem, s0, s1], rfl, hBW⟩

set_option maxRecDepth 100000 in
set_option maxHeartbeats 2000000 in
theorem Core_ok (n x : Nd) (b : Nat) (v : Value) (l : List Int) (Ap : Option Addr) (cp : Nat) (w : World) (hC : sizeN n) (hS : sumS n) (hT : Tabs w) (hV : NodeP (fun _ => True) w v n) (hl : l.length ≤ 1000000000) (hP : IntsR w Ap l) (hf : formedB n = true) (hg : goR n l 0 = some (x, b)) (hsol : ∀ t ∈ leavesN x, 0 < t.2.size) :
    Calls Tryd.prog 39 #[v, .slice Ap l.length cp] w fun e w' => e = .returned (.tuple #[.agg #[.int .i64 ((coreR b (leavesN x)).1 : Nat), .int .i64 ((coreR b (leavesN x)).2.1 : Nat)], .int .i64 0]) ∧ Below w.heap.size w w' := by
  have hV0 := hV
  obtain ⟨A, ca, rfl, _, _⟩ := hV0
  have hB0 : Below w.heap.size w ((w.alloc (.cells (nodeCells n A ca) 26)).alloc (.cells #[.int .i64 0, .int .i64 0] 62)) := ((Below.refl _ _).alloc (Nat.le_refl _) _).alloc (by simp) _
  have hb1 : ((w.alloc (.cells (nodeCells n A ca) 26)).alloc (.cells #[.int .i64 0, .int .i64 0] 62)).heap[w.heap.size + 1]? = some (.cells #[.int .i64 0, .int .i64 0] 62 (0, 0)) := alloc_at _ _ _ (by simp)
  have hs0 : ((w.alloc (.cells (nodeCells n A ca) 26)).alloc (.cells #[.int .i64 0, .int .i64 0] 62)).heap.size = w.heap.size + 2 := by simp
  have hgo := (goTo_any n _ l Ap cp ((w.alloc (.cells (nodeCells n A ca) 26)).alloc (.cells #[.int .i64 0, .int .i64 0] 62)) hC hS (hT.below hB0) (hV.below hB0 (fun _ _ _ => trivial)) hl (hP.below hB0)).mono fun e w' ⟨h1, h2⟩ => And.intro (goPost_ok h1 hf hg) h2
  obtain ⟨hcx, hsx, _⟩ := goR_facts hg
  have hcx2 : sizeN x := Nat.le_trans hcx hC
  have hsx2 : b + sumT (leavesN x) ≤ 1000000000000 := by unfold sumS at hS; omega
  have HG := Lib.hid hgo
  have HX := Lib.hid (show _ ∧ _ ∧ _ from ⟨hB0, hb1, hs0⟩)
  have HN := Lib.hid (show _ ∧ _ ∧ _ from ⟨hcx2, hsx2, hsol⟩)
  clear hgo hB0 hb1 hs0 hC hS hT hV hP hf hg hcx hsx hcx2 hsx2 hsol
  refine (callsIn_wide (n := 9)).1 ?_
  refine callsIn_of_wp_marks Tryd.func39 rfl trivial ?_ rfl
  simp only [Tryd.ntmps39, List.size_toArray, List.length_cons, List.length_nil, Nat.reduceAdd, Nat.reduceSub, Array.replicate_succ, Array.replicate_zero, List.push_toArray, List.append_toArray, List.nil_append, List.cons_append]
  refine wpIn_wide.2 ?_
  go_wp2_with (first
    | (go_at_call 68; refine HG.out.mono ?_; rintro e w1 ⟨⟨Ax, cx, rfl, hcap, hkx⟩, hbb⟩; have hs1 := hbb.size; rw [HX.out.2.2] at hs1; have hz := (hbb.block (w.heap.size + 1) (by rw [HX.out.2.2]; exact Nat.lt_succ_self _)).trans HX.out.2.1; have hlt : w.heap.size + 1 < w1.heap.size := hs1; have HB := Lib.hid (show _ ∧ _ ∧ _ from ⟨hz, HX.out.1.trans (hbb.mono HX.out.1.size), (hkx.later hbb).kids⟩); clear hz hbb hs1 hkx hcap)
    | (go_at_call 57; refine (leaves_any x Ax cx _).mono ?_; rintro e w' ⟨rfl, rfl⟩))
  obtain ⟨W0, hW0⟩ : ∃ W0, W0 = (((w1.alloc (.cells #[.int .i64 x.kind, .int .i64 x.tok.1, .string x.tok.2, .slice Ax x.kids.length cx] 26)).alloc (.cells #[.int .i64 (b : Nat), .int .i64 (b : Nat)] 62)).alloc (.cells #[.int .i64 (b : Nat)] 3)).alloc (.cells #[.int .i64 x.kind, .int .i64 x.tok.1, .string x.tok.2, .slice Ax x.kids.length cx] 26) := ⟨_, rfl⟩
  have hB0 : Below w1.heap.size w1 W0 := by rw [hW0]; exact ((((Below.refl _ _).alloc (Nat.le_refl _) _).alloc (by simp) _).alloc (by simp; omega) _).alloc (by simp; omega) _
  have hs0 : W0.heap.size = w1.heap.size + 4 := by rw [hW0]; simp
  have hb2 : W0.heap[w1.heap.size + 1]? = some (.cells #[.int .i64 (b : Nat), .int .i64 (b : Nat)] 62 (0, 0)) := by rw [hW0, alloc_old _ _ _ (by simp), alloc_old _ _ _ (by simp), alloc_at _ _ _ (by simp)]
  have hb3 : W0.heap[w1.heap.size + 2]? = some (.cells #[.int .i64 (b : Nat)] 3 (0, 0)) := by rw [hW0, alloc_old _ _ _ (by simp), alloc_at _ _ _ (by simp)]
  have hb4 : W0.heap[w1.heap.size + 3]? = some (.cells (nodeCells x Ax cx) 26 (0, 0)) := by rw [hW0, alloc_at _ _ _ (by simp)]; rfl
  obtain ⟨c0, c1, c2, c3⟩ := cells_of_block hb4
  have hM0 : Mine (w1.heap.size + 4) w1 (fun _ => False) W0 := ⟨fun b hb => hb.elim, hB0, by omega, by omega⟩
  refine (wpIn_wide (n := 9)).1 ?_
  have hgo : ∀ (Q : Exit → Act → World → Prop) (a : Act) (g : Operand) (ps : Array Tmp) (assign body : Code), (Code.rangeFunc g ps assign body).wpIn Fence.wide 9 Tryd.prog Q a W0 → (Code.rangeFunc g ps assign body).wpIn Fence.wide 9 Tryd.prog Q a ((((w1.alloc (.cells #[.int .i64 x.kind, .int .i64 x.tok.1, .string x.tok.2, .slice Ax x.kids.length cx] 26)).alloc (.cells #[.int .i64 (b : Nat), .int .i64 (b : Nat)] 62)).alloc (.cells #[.int .i64 (b : Nat)] 3)).alloc (.cells #[.int .i64 x.kind, .int .i64 x.tok.1, .string x.tok.2, .slice Ax x.kids.length cx] 26)) := fun _ _ _ _ _ _ h => by rw [← hW0]; exact h
  refine hgo _ _ _ _ _ _ ?_
  clear hgo hW0
  refine wpIn_rangeT rfl (by decide) (gf := 81) (lb := #[.pointer (some ⟨w1.heap.size + 3, 0, none⟩)]) rfl trivial (enters_of Tryd.func81 (by kernel_rfl) rfl)
    (leaves1_gives w1 x HN.out.1 (w1.heap.size + 3) Ax cx W0 hB0 (by omega) c0 c1 c2 c3 HB.out.2.2) (Below.refl _ _) hB0.size EnL.keep (fun O x W args h => EnL.size O x W args h)
    (fun k O W => Mine (w1.heap.size + 4) w1 O W ∧ W.heap[w1.heap.size + 1]? = some (.cells #[.int .i64 ((coreR b ((leavesN x).take k)).1 : Nat), .int .i64 ((coreR b ((leavesN x).take k)).2.1 : Nat)] 62 (0, 0)) ∧ W.heap[w1.heap.size + 2]? = some (.cells #[.int .i64 ((coreR b ((leavesN x).take k)).2.2.2 : Nat)] 3 (0, 0)))
    (fun _ _ _ _ => False)
    (fun k O O' W W' h ht hg => ⟨h.1.turns ht hg, (h.1.block ht (by omega)).trans h.2.1, (h.1.block ht (by omega)).trans h.2.2⟩)
    (fun _ _ _ _ _ _ h _ _ => h)
    ⟨hM0, hb2, hb3⟩ ?round ?done ?stop
  case round =>
    rintro lp k O y args W hO hn ⟨hM, hr1, hr2⟩ hx rfl
    gi_wp2
    refine ⟨(Below.refl _ _).alloc (Nat.le_refl _) _, fun W2 hT2 hs2 hi2 he2 => ?_⟩
    have hbx : W2.heap[W.heap.size]? = some (.cells #[.int .i64 y.1, .string y.2] 23 (0, 0)) := (hT2.block _ (by simp) (fun h => Nat.lt_irrefl _ (hO _ h))).trans (alloc_at _ _ _ rfl)
    obtain ⟨hM2, hq1, hq2⟩ := hi2
    have hOs : ∀ b, O b → b < W2.heap.size := fun b h => by rw [hs2]; simp; have := hO b h; omega
    have hnx := coreR_next (b := b) hx
    have hat := coreR_at b ((leavesN x).take k)
    have hsn := sumT_take hx
    have hsl := sumT_le (leavesN x) (k + 1)
    rw [hsn] at hsl
    have hok := coreR_ok b (l := (leavesN x).take k) (fun t ht => HN.out.2.2 t (List.mem_of_mem_take ht))
    have hys := HN.out.2.2 y (List.mem_of_getElem? hx)
    have hsm := HN.out.2.1
    obtain ⟨⟨f, t, fd, a⟩, hst⟩ : ∃ s, s = coreR b ((leavesN x).take k) := ⟨_, rfl⟩
    rw [← hst] at hq1 hq2 hnx hat hok
    simp only at hq1 hq2 hat
    have hax : a + y.2.size ≤ 1000000000000 := by omega
    have e4 : wrap64 ((a : Int) + (y.2.size : Int)) = (a : Int) + (y.2.size : Int) := by unfold wrap64; omega
    have d0 : W2.cell? ⟨W.heap.size, 0, none⟩ = some (.int .i64 y.1) := Lib.cell_of_heap hbx 0
    have d1 : W2.cell? ⟨W.heap.size, 1, none⟩ = some (.string y.2) := Lib.cell_of_heap hbx 1
    have l2 : W2.cell? ⟨w1.heap.size + 1 + 1, 0, none⟩ = some (.int .i64 (a : Nat)) := Lib.cell_of_heap hq2 0
    have htr := IsTrivia_any y.1 y.2 W2
    have hwW : w1.heap.size ≤ W2.heap.size := hM2.below.size
    have hMs := hM2.size
    have hafter : ∀ w4, Below W2.heap.size W2 w4 → Keep w1.heap.size O W2 w4 ∧ Mine (w1.heap.size + 4) w1 O w4 ∧ w4.heap[w1.heap.size + 1]? = some (.cells #[.int .i64 (f : Nat), .int .i64 (t : Nat)] 62 (0, 0)) ∧ w4.heap[w1.heap.size + 2]? = some (.cells #[.int .i64 (a : Nat)] 3 (0, 0)) := fun w4 h4 =>
      ⟨Keep.of_below h4 hwW hOs, hM2.call h4, (h4.block _ (by omega)).trans hq1, (h4.block _ (by omega)).trans hq2⟩
    have HA := Lib.hid hafter
    have HNX := Lib.hid hnx
    have HOK := Lib.hid hok
    clear hafter hnx hok hM2 hq1 hq2 hOs hat hsn hsl hys hsm hst hbx hT2 hs2 he2 hM hr1 hr2 hO hn hx hB0 hs0 hb2 hb3 hb4 c0 c1 c2 c3 hM0
    unfold stepC at HNX
    simp only at HNX
    cases hq : trivB y.1
    · rw [hq] at htr
      have HTR := Lib.hid htr
      clear htr
      cases fd
      · have HN2 : Hid (coreR b ((leavesN x).take (k + 1)) = (a, a + y.2.size, true, a + y.2.size)) := Lib.hid (by rw [HNX.out, hq]; rfl)
        have hft : f = t := HOK.out.1 rfl
        subst hft
        have heq : ((f : Int) == (f : Int)) = true := by simp
        clear HNX hq
        gi_wp2_with (first | (gi_at_call 72; refine (CallsIn.inRound lp ((callsIn_wide (n := 6)).2 HTR.out)).mono ?_; rintro e w4 ⟨rfl, hb4⟩; obtain ⟨g1, g2, g3, g4⟩ := HA.out w4 hb4; have z0 := Lib.cell_of_heap g3 0; have z1 := Lib.cell_of_heap g3 1; have z2 : w4.cell? ⟨w1.heap.size + 1 + 1, 0, none⟩ = some (.int .i64 (a : Nat)) := Lib.cell_of_heap g4 0; have y0 := frozen_block (j := 0) g3; have y1 := frozen_block (j := 1) g3; have y2 : w4.frozen? ⟨w1.heap.size + 1 + 1, 0, none⟩ = false := frozen_block (j := 0) g4; have HG4 := Lib.hid (show _ ∧ _ ∧ _ ∧ _ from ⟨g1, g2, g3, g4⟩); clear hb4 g1 g2 g3 g4) | (refine And.intro (show Fence.wide.fn 72 from trivial) ?_))
        obtain ⟨g1, g2, g3, g4⟩ := HG4.out
        have hcast : ((a + y.2.size : Nat) : Int) = (a : Int) + (y.2.size : Int) := by omega
        have m0 := (g2).set (b := w1.heap.size + 1) (j := 0) (.int .i64 (a : Nat)) (by omega) (by omega)
        have m1 := (m0.1).set (b := w1.heap.size + 1) (j := 1) (.int .i64 ((a : Int) + (y.2.size : Int))) (by omega) (by omega)
        have m2 := (m1.1).set (b := w1.heap.size + 2) (j := 0) (.int .i64 ((a : Int) + (y.2.size : Int))) (by omega) (by omega)
        have b1 := set2 (v0 := .int .i64 (a : Nat)) (v1 := .int .i64 ((a : Int) + (y.2.size : Int))) g3
        have b1' := (block_other (W := (((w4).setCell ⟨w1.heap.size + 1, 0, none⟩ (.int .i64 (a : Nat))).setCell ⟨w1.heap.size + 1, 1, none⟩ (.int .i64 ((a : Int) + (y.2.size : Int))))) (j := 0) (v := .int .i64 ((a : Int) + (y.2.size : Int))) (show w1.heap.size + 1 ≠ w1.heap.size + 2 by omega)).trans b1
        refine ⟨(((g1).trans m0.2).trans m1.2).trans m2.2, m2.1, ?_, ?_⟩
        · rw [HN2.out]; simp only [hcast]; simpa using b1'
        · rw [HN2.out]; simp only [hcast]; exact set_block (v := .int .i64 ((a : Int) + (y.2.size : Int))) ((block_other (show w1.heap.size + 2 ≠ w1.heap.size + 1 by omega)).trans ((block_other (show w1.heap.size + 2 ≠ w1.heap.size + 1 by omega)).trans (g4)))
      · have HN2 : Hid (coreR b ((leavesN x).take (k + 1)) = (f, a + y.2.size, true, a + y.2.size)) := Lib.hid (by rw [HNX.out, hq]; rfl)
        have hft : f < t := HOK.out.2.1 rfl
        have heq : ((f : Int) == (t : Int)) = false := by simp; omega
        have heq2 : (f == t) = false := by simp; omega
        have hne2 : ¬ f = t := by omega
        clear HNX hq
        gi_wp2_with (first | (gi_at_call 72; refine (CallsIn.inRound lp ((callsIn_wide (n := 6)).2 HTR.out)).mono ?_; rintro e w4 ⟨rfl, hb4⟩; obtain ⟨g1, g2, g3, g4⟩ := HA.out w4 hb4; have z0 := Lib.cell_of_heap g3 0; have z1 := Lib.cell_of_heap g3 1; have z2 : w4.cell? ⟨w1.heap.size + 1 + 1, 0, none⟩ = some (.int .i64 (a : Nat)) := Lib.cell_of_heap g4 0; have y0 := frozen_block (j := 0) g3; have y1 := frozen_block (j := 1) g3; have y2 : w4.frozen? ⟨w1.heap.size + 1 + 1, 0, none⟩ = false := frozen_block (j := 0) g4; have HG4 := Lib.hid (show _ ∧ _ ∧ _ ∧ _ from ⟨g1, g2, g3, g4⟩); clear hb4 g1 g2 g3 g4) | (refine And.intro (show Fence.wide.fn 72 from trivial) ?_))
        obtain ⟨g1, g2, g3, g4⟩ := HG4.out
        have hcast : ((a + y.2.size : Nat) : Int) = (a : Int) + (y.2.size : Int) := by omega
        have m0 := (g2).set (b := w1.heap.size + 1) (j := 1) (.int .i64 ((a : Int) + (y.2.size : Int))) (by omega) (by omega)
        have m1 := (m0.1).set (b := w1.heap.size + 2) (j := 0) (.int .i64 ((a : Int) + (y.2.size : Int))) (by omega) (by omega)
        have b1 := heap_setCell_same w4 (w1.heap.size + 1) 1 _ _ (.int .i64 ((a : Int) + (y.2.size : Int))) g3
        have b1' := (block_other (W := ((w4).setCell ⟨w1.heap.size + 1, 1, none⟩ (.int .i64 ((a : Int) + (y.2.size : Int))))) (j := 0) (v := .int .i64 ((a : Int) + (y.2.size : Int))) (show w1.heap.size + 1 ≠ w1.heap.size + 2 by omega)).trans b1
        refine ⟨((g1).trans m0.2).trans m1.2, m1.1, ?_, ?_⟩
        · rw [HN2.out]; simp only [hcast]; simpa using b1'
        · rw [HN2.out]; simp only [hcast]; exact set_block (v := .int .i64 ((a : Int) + (y.2.size : Int))) ((block_other (show w1.heap.size + 2 ≠ w1.heap.size + 1 by omega)).trans (g4))
    · rw [hq] at htr
      have HTR := Lib.hid htr
      have HN2 : Hid (coreR b ((leavesN x).take (k + 1)) = (f, t, fd, a + y.2.size)) := Lib.hid (by rw [HNX.out, hq]; rfl)
      clear htr HNX hq
      gi_wp2_with (first | (gi_at_call 72; refine (CallsIn.inRound lp ((callsIn_wide (n := 6)).2 HTR.out)).mono ?_; rintro e w4 ⟨rfl, hb4⟩; obtain ⟨g1, g2, g3, g4⟩ := HA.out w4 hb4; have z0 := Lib.cell_of_heap g3 0; have z1 := Lib.cell_of_heap g3 1; have z2 : w4.cell? ⟨w1.heap.size + 1 + 1, 0, none⟩ = some (.int .i64 (a : Nat)) := Lib.cell_of_heap g4 0; have y0 := frozen_block (j := 0) g3; have y1 := frozen_block (j := 1) g3; have y2 : w4.frozen? ⟨w1.heap.size + 1 + 1, 0, none⟩ = false := frozen_block (j := 0) g4; have HG4 := Lib.hid (show _ ∧ _ ∧ _ ∧ _ from ⟨g1, g2, g3, g4⟩); clear hb4 g1 g2 g3 g4) | (refine And.intro (show Fence.wide.fn 72 from trivial) ?_))
      obtain ⟨g1, g2, g3, g4⟩ := HG4.out
      have hcast : ((a + y.2.size : Nat) : Int) = (a : Int) + (y.2.size : Int) := by omega
      have m0 := (g2).set (b := w1.heap.size + 2) (j := 0) (.int .i64 ((a : Int) + (y.2.size : Int))) (by omega) (by omega)
      have b1 := g3
      have b1' := (block_other (W := (w4)) (j := 0) (v := .int .i64 ((a : Int) + (y.2.size : Int))) (show w1.heap.size + 1 ≠ w1.heap.size + 2 by omega)).trans b1
      refine ⟨(g1).trans m0.2, m0.1, ?_, ?_⟩
      · rw [HN2.out]; simp only [hcast]; simpa using b1'
      · rw [HN2.out]; simp only [hcast]; exact set_block (v := .int .i64 ((a : Int) + (y.2.size : Int))) (g4)
  case done =>
    rintro D O W hD _ ⟨hM, hq1, hq2⟩ hKD
    rw [List.take_length] at hq1
    have hz := (hM.below.block (w.heap.size + 1) hlt).trans HB.out.1
    have m0 := Lib.cell_of_heap hq1 0
    have m1 := Lib.cell_of_heap hq1 1
    have q0 := Lib.cell_of_heap hz 0
    have q1 := Lib.cell_of_heap hz 1
    have f0 := frozen_block (j := 0) hz
    have f1 := frozen_block (j := 1) hz
    have hKD2 : ((W.setCell ⟨w.heap.size + 1, 0, none⟩ (.int .i64 ((coreR b (leavesN x)).1 : Nat))).setCell ⟨w.heap.size + 1, 1, none⟩ (.int .i64 ((coreR b (leavesN x)).2.1 : Nat))).heap[D]? = some (.deferred (some [])) := (other2 (by omega)).trans hKD
    have hF := set2 (v0 := .int .i64 ((coreR b (leavesN x)).1 : Nat)) (v1 := .int .i64 ((coreR b (leavesN x)).2.1 : Nat)) hz
    have hBW := below2 (b := w.heap.size + 1) (v0 := .int .i64 ((coreR b (leavesN x)).1 : Nat)) (v1 := .int .i64 ((coreR b (leavesN x)).2.1 : Nat)) (HB.out.2.1.trans (hM.below.mono (by omega))) (Nat.le_succ _)
    have hZ0 := Lib.cell_of_heap ((World.putObj_heap_other (o := .deferred none) (show w.heap.size + 1 ≠ D by omega)).trans hF) 0
    have hZ1 := Lib.cell_of_heap ((World.putObj_heap_other (o := .deferred none) (show w.heap.size + 1 ≠ D by omega)).trans hF) 1
    have HD := Lib.hid (show _ ∧ _ ∧ _ ∧ _ from ⟨hKD2, hBW, hZ0, hZ1⟩)
    clear hKD2 hBW hZ0 hZ1 hF hz hq1 hq2 hM
    go_wp2_with fail
    refine ⟨by simp, .inl ⟨_, _, rfl, run_takeDeferred HD.out.1, ?_⟩⟩
    have z0 := HD.out.2.2.1
    have z1 := HD.out.2.2.2
    exact ⟨.tuple #[.agg #[.int .i64 ((coreR b (leavesN x)).1 : Nat), .int .i64 ((coreR b (leavesN x)).2.1 : Nat)], .int .i64 0], by simp [results, Tryd.f39, go_sem, z0, z1], rfl, HD.out.2.1.trans ⟨rfl, rfl, rfl, by simp, fun b hb => World.putObj_heap_other (by omega)⟩⟩
  case stop =>
    rintro D O cd k W hD _ hkl h hKD
    exact h.elim
end Go.Proofs.YtgihkojlpaebiaaDoor
