/-
  TreeSame: Same and Changed of any two Nodes are the specification's, or the error. No condition: every input. (gen_wts.py)
-/
import Derived.Test.YtgihkojlpaebiaaDoorTreeAtsp34
import Derived.Test.YtgihkojlpaebiaaDoorTreeSamep5
import Derived.Test.YtgihkojlpaebiaaDoorTreeAtsp24
import Derived.Test.YtgihkojlpaebiaaDoorTreeAtsp25
import Derived.Test.YtgihkojlpaebiaaDoorTreeAtsp20
import Derived.Test.YtgihkojlpaebiaaDoorTreeAtsp28
import Derived.Deep.RegionHeld3
import Derived.Deep.DeepCutAuto
namespace Go.Proofs.YtgihkojlpaebiaaDoor.lawTreeSame
set_option linter.unusedVariables false
set_option linter.unusedSimpArgs false
set_option linter.unnecessarySimpa false
open Go.ChangeShapes Go.WideShapes Go.RowKit

theorem keptS {w w' : World} {b c : Nat} {x0 x1 x2 x3 y0 y1 y2 y3 : Value} (hb : Below w.heap.size w w') (h1 : w.heap[b]? = some (.cells #[x0, x1, x2, x3] 26 (0, 0))) (h2 : w.heap[c]? = some (.cells #[y0, y1, y2, y3] 26 (0, 0))) :
    Below w.heap.size w w' ∧ (w'.cell? ⟨b, 0, none⟩ = some x0 ∧ w'.cell? ⟨b, 1, none⟩ = some x1 ∧ w'.cell? ⟨b, 2, none⟩ = some x2 ∧ w'.cell? ⟨b, 3, none⟩ = some x3) ∧ (w'.cell? ⟨c, 0, none⟩ = some y0 ∧ w'.cell? ⟨c, 1, none⟩ = some y1 ∧ w'.cell? ⟨c, 2, none⟩ = some y2 ∧ w'.cell? ⟨c, 3, none⟩ = some y3) := by
  have e1 := keepB h1 hb
  have e2 := keepB h2 hb
  exact ⟨hb, ⟨Lib.cell_of_heap e1 0, Lib.cell_of_heap e1 1, Lib.cell_of_heap e1 2, Lib.cell_of_heap e1 3⟩, Lib.cell_of_heap e2 0, Lib.cell_of_heap e2 1, Lib.cell_of_heap e2 2, Lib.cell_of_heap e2 3⟩

set_option maxRecDepth 100000 in
set_option maxHeartbeats 8000000 in
theorem walk (a0 : Nd) (va : Value) (hra : rawN a0) (b0 : Nd) (vb : Value) (hrb : rawN b0) (w : World) (hT : Tabs w) (hNa : NodeV w va a0) (hNb : NodeV w vb b0) :
    Calls Tryd.prog 5 #[va, vb] w fun e w' => e = .returned (.bool true) ∧ Below w.heap.size w w' := by
  have hna := hNa
  have hnb := hNb
  obtain ⟨A0, c0, rfl, _⟩ := hNa
  obtain ⟨B0, d0, rfl, _⟩ := hNb
  obtain ⟨w0, hw0⟩ : ∃ w0, w0 = (w.alloc (.cells #[.int .i64 a0.kind, .int .i64 a0.tok.1, .string a0.tok.2, .slice A0 a0.kids.length c0] 26)).alloc (.cells #[.int .i64 b0.kind, .int .i64 b0.tok.1, .string b0.tok.2, .slice B0 b0.kids.length d0] 26) := ⟨_, rfl⟩
  have hB0 : Below w.heap.size w w0 := by rw [hw0]; exact ((Below.refl _ _).alloc (Nat.le_refl _) _).alloc (by simp) _
  have bx1 : w0.heap[w.heap.size]? = some (.cells #[.int .i64 a0.kind, .int .i64 a0.tok.1, .string a0.tok.2, .slice A0 a0.kids.length c0] 26 (0, 0)) := by rw [hw0, alloc_old _ _ _ (by simp)]; exact alloc_at _ _ _ rfl
  have bx2 : w0.heap[w.heap.size + 1]? = some (.cells #[.int .i64 b0.kind, .int .i64 b0.tok.1, .string b0.tok.2, .slice B0 b0.kids.length d0] 26 (0, 0)) := by rw [hw0]; exact alloc_at _ _ _ (by simp)
  have hcutA := fun W (h : Below w0.heap.size w0 W) => Cut_any a0 _ W hra ((hna.below hB0).below h)
  have hcutB := fun W (h : Below w0.heap.size w0 W) => Cut_any b0 _ W hrb ((hnb.below hB0).below h)
  have hzA := SmZ.of_cut (most := 600) (by decide) (by decide) a0
  have hzB := SmZ.of_cut (most := 600) (by decide) (by decide) b0
  generalize cutM 600 a0 = za at hcutA hzA
  generalize cutM 600 b0 = zb at hcutB hzB
  have HT := Lib.hid hT
  have HZ := Lib.hid (show _ ∧ _ from ⟨hzA, hzB⟩)
  have HcutA := Lib.hid hcutA
  have HcutB := Lib.hid hcutB
  have HB0 := Lib.hid hB0
  have HW := Lib.hid hw0
  clear hcutA hcutB hzA hzB hT hna hnb hra hrb hB0 hw0
  go_enter Tryd.func5, Tryd.ntmps5
  go_upto_region 1 with fail
  rw [← HW.out]
  go_cut [5, 6] (fun s5 s6 W => ∃ (c5 c6 : Nat) (A1 : Option Addr) (eA : Nat) (B1 : Option Addr) (eB : Nat), s5 = .pointer (some ⟨c5, 0, none⟩) ∧ s6 = .pointer (some ⟨c6, 0, none⟩) ∧ za.kids.length ≤ eA ∧ zb.kids.length ≤ eB ∧ KidsP (fun b => b ≠ c5 ∧ b ≠ c6) W A1 za.kids ∧ KidsP (fun b => b ≠ c5 ∧ b ≠ c6) W B1 zb.kids ∧ W.heap[c5]? = some (.cells (nodeCells za A1 eA) 26 (0, 0)) ∧ W.heap[c6]? = some (.cells (nodeCells zb B1 eB) 26 (0, 0)) ∧ c5 ≠ c6 ∧ Below w.heap.size w W)
  case first =>
    refine wp_region_held_drew (S := (fun W => Below w0.heap.size w0 W ∧ (W.cell? ⟨w.heap.size, 0, none⟩ = some (.int .i64 a0.kind) ∧ W.cell? ⟨w.heap.size, 1, none⟩ = some (.int .i64 a0.tok.1) ∧ W.cell? ⟨w.heap.size, 2, none⟩ = some (.string a0.tok.2) ∧ W.cell? ⟨w.heap.size, 3, none⟩ = some (.slice A0 a0.kids.length c0)) ∧ (W.cell? ⟨w.heap.size + 1, 0, none⟩ = some (.int .i64 b0.kind) ∧ W.cell? ⟨w.heap.size + 1, 1, none⟩ = some (.int .i64 b0.tok.1) ∧ W.cell? ⟨w.heap.size + 1, 2, none⟩ = some (.string b0.tok.2) ∧ W.cell? ⟨w.heap.size + 1, 3, none⟩ = some (.slice B0 b0.kids.length d0)))) (by kernel_rfl) ?_ (fun hHeld => ?_)
    · exact keptS (Below.drew (Below.refl _ _)) bx1 bx2
    obtain ⟨w_0, hw⟩ : ∃ x, x = w0.drew := ⟨_, rfl⟩
    have hB : Below w0.heap.size w0 w_0 := by rw [hw]; exact Below.drew (Below.refl _ _)
    rw [← hw] at hHeld
    rw [← hw]
    clear hw
    refine wpAnyH_take (i := 0) (oi := ⟨some 12, _, _, _, _, _⟩) (v := ?_) rfl (by kernel_rfl) (by kernel_rfl) (by kernel_rfl) (fun _ _ _ h => h) (Or.inl ⟨by rfl, ?hy⟩) (by assumption) ?_
    case hy => (intro w hSw; (try dsimp only at hSw); go_simp; (try with_reducible rfl))
    try simp only [Act.put, List.setIfInBounds_toArray, List.set_cons_zero, List.set_cons_succ]
    refine wpAnyH_take (i := 2) (oi := ⟨some 14, _, _, _, _, _⟩) (v := ?_) rfl (by kernel_rfl) (by kernel_rfl) (by kernel_rfl) (fun _ _ _ h => h) (Or.inl ⟨by rfl, ?hy⟩) (by assumption) ?_
    case hy => (intro w hSw; (try dsimp only at hSw); go_simp; (try with_reducible rfl))
    try simp only [Act.put, List.setIfInBounds_toArray, List.set_cons_zero, List.set_cons_succ]
    refine wpAnyH_ready (rs := [1, 4, 5]) (by kernel_rfl) (by simp) ?_
    refine AllReadyH.cons (o := ⟨some 13, _, _, _, _, _⟩) rfl (fun K hK => ?_) (AllReadyH.cons (o := ⟨some 5, _, _, _, _, _⟩) rfl (fun K hK => ?_) (AllReadyH.cons (o := ⟨some 6, _, _, _, _, _⟩) rfl (fun K hK => ?_) AllReadyH.nil))
    · go_simp
      go_at_call 15
      with_reducible refine (HcutA.out _ hB).mono ?_
      rintro e w_1 ⟨vA, rfl, ⟨A1, eA, rfl, gA, kA⟩, hbC⟩
      have kA : KidsP (fun b => True) w_1 A1 za.kids := kA.kept (Nat.le_refl _) (fun _ _ _ => rfl) (fun b hb _ => trivial)
      have hB : Below w0.heap.size w0 w_1 := hB.trans (hbC.mono hB.size)
      refine hK.out _ _ ?_ (fun hHeld => ?_)
      · exact keptS hB bx1 bx2
      clear hK K hbC
      try simp only [Act.put, List.setIfInBounds_toArray, List.set_cons_zero, List.set_cons_succ]
      refine wpAnyH_ready (rs := [3, 4, 5]) (by kernel_rfl) (by simp) ?_
      refine AllReadyH.cons (o := ⟨some 15, _, _, _, _, _⟩) rfl (fun K hK => ?_) (AllReadyH.cons (o := ⟨some 5, _, _, _, _, _⟩) rfl (fun K hK => ?_) (AllReadyH.cons (o := ⟨some 6, _, _, _, _, _⟩) rfl (fun K hK => ?_) AllReadyH.nil))
      · go_simp
        go_at_call 15
        with_reducible refine (HcutB.out _ hB).mono ?_
        rintro e w_2 ⟨vB, rfl, ⟨B1, eB, rfl, gB, kB⟩, hbC⟩
        have kB : KidsP (fun b => True) w_2 B1 zb.kids := kB.kept (Nat.le_refl _) (fun _ _ _ => rfl) (fun b hb _ => trivial)
        have kA : KidsP (fun b => True) w_2 A1 za.kids := kA.kept hbC.size (fun b _ hb => hbC.block b hb) (fun b h _ => h)
        have hB : Below w0.heap.size w0 w_2 := hB.trans (hbC.mono hB.size)
        refine hK.out _ _ ?_ (fun hHeld => ?_)
        · exact keptS hB bx1 bx2
        clear hK K hbC
        try simp only [Act.put, List.setIfInBounds_toArray, List.set_cons_zero, List.set_cons_succ]
        refine wpAnyH_ready (rs := [4, 5]) (by kernel_rfl) (by simp) ?_
        refine AllReadyH.cons (o := ⟨some 5, _, _, _, _, _⟩) rfl (fun K hK => ?_) (AllReadyH.cons (o := ⟨some 6, _, _, _, _, _⟩) rfl (fun K hK => ?_) AllReadyH.nil)
        · go_simp
          have hal : Below w_2.heap.size w_2 (w_2.alloc (.cells #[.int .i64 0, .int .i64 0, .string { data := #[] }, .slice none 0 0] 26)) := (Below.refl _ _).alloc (Nat.le_refl _) _
          refine hK.out _ _ ?_ (fun hHeld => ?_)
          · exact keptS (hB.trans (hal.mono hB.size)) bx1 bx2
          clear hK K
          try simp only [Act.put, List.setIfInBounds_toArray, List.set_cons_zero, List.set_cons_succ]
          obtain ⟨c5, hc⟩ : ∃ c, c = w_2.heap.size := ⟨_, rfl⟩
          obtain ⟨w_3, hw⟩ : ∃ x, x = w_2.alloc (.cells #[.int .i64 0, .int .i64 0, .string { data := #[] }, .slice none 0 0] 26) := ⟨_, rfl⟩
          rw [← hw] at hal
          have g5 : w0.heap.size ≤ c5 := by rw [hc]; exact hB.size
          have kA : KidsP (fun b => b ≠ c5) w_3 A1 za.kids := kA.kept hal.size (fun b _ hb => hal.block b hb) (fun b h hb => Nat.ne_of_lt (by rw [hc]; exact hb))
          have kB : KidsP (fun b => b ≠ c5) w_3 B1 zb.kids := kB.kept hal.size (fun b _ hb => hal.block b hb) (fun b h hb => Nat.ne_of_lt (by rw [hc]; exact hb))
          have hB : Below w0.heap.size w0 w_3 := hB.trans (hal.mono hB.size)
          have h5 : w_3.heap[c5]? = some (.cells #[.int .i64 0, .int .i64 0, .string { data := #[] }, .slice none 0 0] 26 (0, 0)) := by rw [hw, hc]; exact heap_alloc_new _ _
          rw [← hw] at hHeld
          rw [← hw]
          rw [← hc]
          clear hw hc hal
          refine wpAnyH_ready (rs := [5]) (by kernel_rfl) (by simp) ?_
          refine AllReadyH.cons (o := ⟨some 6, _, _, _, _, _⟩) rfl (fun K hK => ?_) AllReadyH.nil
          go_simp
          have hal : Below w_3.heap.size w_3 (w_3.alloc (.cells #[.int .i64 0, .int .i64 0, .string { data := #[] }, .slice none 0 0] 26)) := (Below.refl _ _).alloc (Nat.le_refl _) _
          refine hK.out _ _ ?_ (fun hHeld => ?_)
          · exact keptS (hB.trans (hal.mono hB.size)) bx1 bx2
          clear hK K
          try simp only [Act.put, List.setIfInBounds_toArray, List.set_cons_zero, List.set_cons_succ]
          obtain ⟨c6, hc⟩ : ∃ c, c = w_3.heap.size := ⟨_, rfl⟩
          obtain ⟨w_4, hw⟩ : ∃ x, x = w_3.alloc (.cells #[.int .i64 0, .int .i64 0, .string { data := #[] }, .slice none 0 0] 26) := ⟨_, rfl⟩
          rw [← hw] at hal
          have g6 : w0.heap.size ≤ c6 := by rw [hc]; exact hB.size
          have hcc : c5 ≠ c6 := by have hlt : c5 < w_3.heap.size := (Array.getElem?_eq_some_iff.1 h5).1; omega
          have kA : KidsP (fun b => b ≠ c5 ∧ b ≠ c6) w_4 A1 za.kids := kA.kept hal.size (fun b _ hb => hal.block b hb) (fun b h hb => ⟨h, Nat.ne_of_lt (by rw [hc]; exact hb)⟩)
          have kB : KidsP (fun b => b ≠ c5 ∧ b ≠ c6) w_4 B1 zb.kids := kB.kept hal.size (fun b _ hb => hal.block b hb) (fun b h hb => ⟨h, Nat.ne_of_lt (by rw [hc]; exact hb)⟩)
          have h5 := keepB h5 hal
          have hB : Below w0.heap.size w0 w_4 := hB.trans (hal.mono hB.size)
          have h6 : w_4.heap[c6]? = some (.cells #[.int .i64 0, .int .i64 0, .string { data := #[] }, .slice none 0 0] 26 (0, 0)) := by rw [hw, hc]; exact heap_alloc_new _ _
          rw [← hw] at hHeld
          rw [← hw]
          rw [← hc]
          clear hw hc hal
          refine wpAnyH_ready (rs := [6]) (by kernel_rfl) (by simp) ?_
          refine AllReadyH.cons (o := ⟨none, _, _, _, _, _⟩) rfl (fun K hK => ?_) AllReadyH.nil
          have q0 := Lib.cell_of_heap h5 0
          have q1 := Lib.cell_of_heap h5 1
          have q2 := Lib.cell_of_heap h5 2
          have q3 := Lib.cell_of_heap h5 3
          have r0 := frozen_block (j := 0) h5
          have r1 := frozen_block (j := 1) h5
          have r2 := frozen_block (j := 2) h5
          have r3 := frozen_block (j := 3) h5
          have hst := set4 (v0 := .int .i64 za.kind) (v1 := .int .i64 za.tok.1) (v2 := .string za.tok.2) (v3 := .slice A1 za.kids.length eA) h5
          have hsz : ((((w_4.setCell ⟨c5, 0, none⟩ (.int .i64 za.kind)).setCell ⟨c5, 1, none⟩ (.int .i64 za.tok.1)).setCell ⟨c5, 2, none⟩ (.string za.tok.2)).setCell ⟨c5, 3, none⟩ (.slice A1 za.kids.length eA)).heap.size = w_4.heap.size := size4
          have hB : Below w0.heap.size w0 ((((w_4.setCell ⟨c5, 0, none⟩ (.int .i64 za.kind)).setCell ⟨c5, 1, none⟩ (.int .i64 za.tok.1)).setCell ⟨c5, 2, none⟩ (.string za.tok.2)).setCell ⟨c5, 3, none⟩ (.slice A1 za.kids.length eA)) := below4 hB g5
          have hot : ∀ b, b ≠ c5 → ((((w_4.setCell ⟨c5, 0, none⟩ (.int .i64 za.kind)).setCell ⟨c5, 1, none⟩ (.int .i64 za.tok.1)).setCell ⟨c5, 2, none⟩ (.string za.tok.2)).setCell ⟨c5, 3, none⟩ (.slice A1 za.kids.length eA)).heap[b]? = w_4.heap[b]? := fun b hb => other4 hb
          go_simp
          refine hK.out _ _ ?_ (fun hHeld => ?_)
          · exact keptS hB bx1 bx2
          clear hK K q0 q1 q2 q3 r0 r1 r2 r3
          try simp only [Act.put, List.setIfInBounds_toArray, List.set_cons_zero, List.set_cons_succ]
          obtain ⟨w_5, hw⟩ : ∃ x, x = ((((w_4.setCell ⟨c5, 0, none⟩ (.int .i64 za.kind)).setCell ⟨c5, 1, none⟩ (.int .i64 za.tok.1)).setCell ⟨c5, 2, none⟩ (.string za.tok.2)).setCell ⟨c5, 3, none⟩ (.slice A1 za.kids.length eA)) := ⟨_, rfl⟩
          rw [← hw] at hst hot hB hsz hHeld
          rw [← hw]
          have h5 := hst
          have h6 := (hot c6 (Ne.symm hcc)).trans h6
          have kA : KidsP (fun b => b ≠ c5 ∧ b ≠ c6) w_5 A1 za.kids := kA.kept (Nat.le_of_eq hsz.symm) (fun b hp _ => hot b hp.1) (fun b h _ => h)
          have kB : KidsP (fun b => b ≠ c5 ∧ b ≠ c6) w_5 B1 zb.kids := kB.kept (Nat.le_of_eq hsz.symm) (fun b hp _ => hot b hp.1) (fun b h _ => h)
          clear hw hst hot hsz
          refine wpAnyH_ready (rs := [7]) (by kernel_rfl) (by simp) ?_
          refine AllReadyH.cons (o := ⟨none, _, _, _, _, _⟩) rfl (fun K hK => ?_) AllReadyH.nil
          have q0 := Lib.cell_of_heap h6 0
          have q1 := Lib.cell_of_heap h6 1
          have q2 := Lib.cell_of_heap h6 2
          have q3 := Lib.cell_of_heap h6 3
          have r0 := frozen_block (j := 0) h6
          have r1 := frozen_block (j := 1) h6
          have r2 := frozen_block (j := 2) h6
          have r3 := frozen_block (j := 3) h6
          have hst := set4 (v0 := .int .i64 zb.kind) (v1 := .int .i64 zb.tok.1) (v2 := .string zb.tok.2) (v3 := .slice B1 zb.kids.length eB) h6
          have hsz : ((((w_5.setCell ⟨c6, 0, none⟩ (.int .i64 zb.kind)).setCell ⟨c6, 1, none⟩ (.int .i64 zb.tok.1)).setCell ⟨c6, 2, none⟩ (.string zb.tok.2)).setCell ⟨c6, 3, none⟩ (.slice B1 zb.kids.length eB)).heap.size = w_5.heap.size := size4
          have hB : Below w0.heap.size w0 ((((w_5.setCell ⟨c6, 0, none⟩ (.int .i64 zb.kind)).setCell ⟨c6, 1, none⟩ (.int .i64 zb.tok.1)).setCell ⟨c6, 2, none⟩ (.string zb.tok.2)).setCell ⟨c6, 3, none⟩ (.slice B1 zb.kids.length eB)) := below4 hB g6
          have hot : ∀ b, b ≠ c6 → ((((w_5.setCell ⟨c6, 0, none⟩ (.int .i64 zb.kind)).setCell ⟨c6, 1, none⟩ (.int .i64 zb.tok.1)).setCell ⟨c6, 2, none⟩ (.string zb.tok.2)).setCell ⟨c6, 3, none⟩ (.slice B1 zb.kids.length eB)).heap[b]? = w_5.heap[b]? := fun b hb => other4 hb
          go_simp
          refine hK.out _ _ ?_ (fun hHeld => ?_)
          · exact keptS hB bx1 bx2
          clear hK K q0 q1 q2 q3 r0 r1 r2 r3
          try simp only [Act.put, List.setIfInBounds_toArray, List.set_cons_zero, List.set_cons_succ]
          obtain ⟨w_6, hw⟩ : ∃ x, x = ((((w_5.setCell ⟨c6, 0, none⟩ (.int .i64 zb.kind)).setCell ⟨c6, 1, none⟩ (.int .i64 zb.tok.1)).setCell ⟨c6, 2, none⟩ (.string zb.tok.2)).setCell ⟨c6, 3, none⟩ (.slice B1 zb.kids.length eB)) := ⟨_, rfl⟩
          rw [← hw] at hst hot hB hsz hHeld
          rw [← hw]
          have h6 := hst
          have h5 := (hot c5 hcc).trans h5
          have kA : KidsP (fun b => b ≠ c5 ∧ b ≠ c6) w_6 A1 za.kids := kA.kept (Nat.le_of_eq hsz.symm) (fun b hp _ => hot b hp.2) (fun b h _ => h)
          have kB : KidsP (fun b => b ≠ c5 ∧ b ≠ c6) w_6 B1 zb.kids := kB.kept (Nat.le_of_eq hsz.symm) (fun b hp _ => hot b hp.2) (fun b h _ => h)
          clear hw hst hot hsz
          refine wpAnyH_done (by kernel_rfl) ?_ _
          go_wp2_with fail
          go_meet
          exact ⟨c5, c6, A1, eA, B1, eB, rfl, rfl, gA, gB, kA, kB, h5, h6, hcc, HB0.out.trans (hB.mono HB0.out.size)⟩
        · go_simp
          have hal : Below w_2.heap.size w_2 (w_2.alloc (.cells #[.int .i64 0, .int .i64 0, .string { data := #[] }, .slice none 0 0] 26)) := (Below.refl _ _).alloc (Nat.le_refl _) _
          refine hK.out _ _ ?_ (fun hHeld => ?_)
          · exact keptS (hB.trans (hal.mono hB.size)) bx1 bx2
          clear hK K
          try simp only [Act.put, List.setIfInBounds_toArray, List.set_cons_zero, List.set_cons_succ]
          obtain ⟨c6, hc⟩ : ∃ c, c = w_2.heap.size := ⟨_, rfl⟩
          obtain ⟨w_7, hw⟩ : ∃ x, x = w_2.alloc (.cells #[.int .i64 0, .int .i64 0, .string { data := #[] }, .slice none 0 0] 26) := ⟨_, rfl⟩
          rw [← hw] at hal
          have g6 : w0.heap.size ≤ c6 := by rw [hc]; exact hB.size
          have kA : KidsP (fun b => b ≠ c6) w_7 A1 za.kids := kA.kept hal.size (fun b _ hb => hal.block b hb) (fun b h hb => Nat.ne_of_lt (by rw [hc]; exact hb))
          have kB : KidsP (fun b => b ≠ c6) w_7 B1 zb.kids := kB.kept hal.size (fun b _ hb => hal.block b hb) (fun b h hb => Nat.ne_of_lt (by rw [hc]; exact hb))
          have hB : Below w0.heap.size w0 w_7 := hB.trans (hal.mono hB.size)
          have h6 : w_7.heap[c6]? = some (.cells #[.int .i64 0, .int .i64 0, .string { data := #[] }, .slice none 0 0] 26 (0, 0)) := by rw [hw, hc]; exact heap_alloc_new _ _
          rw [← hw] at hHeld
          rw [← hw]
          rw [← hc]
          clear hw hc hal
          refine wpAnyH_ready (rs := [4]) (by kernel_rfl) (by simp) ?_
          refine AllReadyH.cons (o := ⟨some 5, _, _, _, _, _⟩) rfl (fun K hK => ?_) AllReadyH.nil
          go_simp
          have hal : Below w_7.heap.size w_7 (w_7.alloc (.cells #[.int .i64 0, .int .i64 0, .string { data := #[] }, .slice none 0 0] 26)) := (Below.refl _ _).alloc (Nat.le_refl _) _
          refine hK.out _ _ ?_ (fun hHeld => ?_)
          · exact keptS (hB.trans (hal.mono hB.size)) bx1 bx2
          clear hK K
          try simp only [Act.put, List.setIfInBounds_toArray, List.set_cons_zero, List.set_cons_succ]
          obtain ⟨c5, hc⟩ : ∃ c, c = w_7.heap.size := ⟨_, rfl⟩
          obtain ⟨w_8, hw⟩ : ∃ x, x = w_7.alloc (.cells #[.int .i64 0, .int .i64 0, .string { data := #[] }, .slice none 0 0] 26) := ⟨_, rfl⟩
          rw [← hw] at hal
          have g5 : w0.heap.size ≤ c5 := by rw [hc]; exact hB.size
          have hcc : c5 ≠ c6 := by have hlt : c6 < w_7.heap.size := (Array.getElem?_eq_some_iff.1 h6).1; omega
          have kA : KidsP (fun b => b ≠ c5 ∧ b ≠ c6) w_8 A1 za.kids := kA.kept hal.size (fun b _ hb => hal.block b hb) (fun b h hb => ⟨Nat.ne_of_lt (by rw [hc]; exact hb), h⟩)
          have kB : KidsP (fun b => b ≠ c5 ∧ b ≠ c6) w_8 B1 zb.kids := kB.kept hal.size (fun b _ hb => hal.block b hb) (fun b h hb => ⟨Nat.ne_of_lt (by rw [hc]; exact hb), h⟩)
          have h6 := keepB h6 hal
          have hB : Below w0.heap.size w0 w_8 := hB.trans (hal.mono hB.size)
          have h5 : w_8.heap[c5]? = some (.cells #[.int .i64 0, .int .i64 0, .string { data := #[] }, .slice none 0 0] 26 (0, 0)) := by rw [hw, hc]; exact heap_alloc_new _ _
          rw [← hw] at hHeld
          rw [← hw]
          rw [← hc]
          clear hw hc hal
          refine wpAnyH_ready (rs := [6]) (by kernel_rfl) (by simp) ?_
          refine AllReadyH.cons (o := ⟨none, _, _, _, _, _⟩) rfl (fun K hK => ?_) AllReadyH.nil
          have q0 := Lib.cell_of_heap h5 0
          have q1 := Lib.cell_of_heap h5 1
          have q2 := Lib.cell_of_heap h5 2
          have q3 := Lib.cell_of_heap h5 3
          have r0 := frozen_block (j := 0) h5
          have r1 := frozen_block (j := 1) h5
          have r2 := frozen_block (j := 2) h5
          have r3 := frozen_block (j := 3) h5
          have hst := set4 (v0 := .int .i64 za.kind) (v1 := .int .i64 za.tok.1) (v2 := .string za.tok.2) (v3 := .slice A1 za.kids.length eA) h5
          have hsz : ((((w_8.setCell ⟨c5, 0, none⟩ (.int .i64 za.kind)).setCell ⟨c5, 1, none⟩ (.int .i64 za.tok.1)).setCell ⟨c5, 2, none⟩ (.string za.tok.2)).setCell ⟨c5, 3, none⟩ (.slice A1 za.kids.length eA)).heap.size = w_8.heap.size := size4
          have hB : Below w0.heap.size w0 ((((w_8.setCell ⟨c5, 0, none⟩ (.int .i64 za.kind)).setCell ⟨c5, 1, none⟩ (.int .i64 za.tok.1)).setCell ⟨c5, 2, none⟩ (.string za.tok.2)).setCell ⟨c5, 3, none⟩ (.slice A1 za.kids.length eA)) := below4 hB g5
          have hot : ∀ b, b ≠ c5 → ((((w_8.setCell ⟨c5, 0, none⟩ (.int .i64 za.kind)).setCell ⟨c5, 1, none⟩ (.int .i64 za.tok.1)).setCell ⟨c5, 2, none⟩ (.string za.tok.2)).setCell ⟨c5, 3, none⟩ (.slice A1 za.kids.length eA)).heap[b]? = w_8.heap[b]? := fun b hb => other4 hb
          go_simp
          refine hK.out _ _ ?_ (fun hHeld => ?_)
          · exact keptS hB bx1 bx2
          clear hK K q0 q1 q2 q3 r0 r1 r2 r3
          try simp only [Act.put, List.setIfInBounds_toArray, List.set_cons_zero, List.set_cons_succ]
          obtain ⟨w_9, hw⟩ : ∃ x, x = ((((w_8.setCell ⟨c5, 0, none⟩ (.int .i64 za.kind)).setCell ⟨c5, 1, none⟩ (.int .i64 za.tok.1)).setCell ⟨c5, 2, none⟩ (.string za.tok.2)).setCell ⟨c5, 3, none⟩ (.slice A1 za.kids.length eA)) := ⟨_, rfl⟩
          rw [← hw] at hst hot hB hsz hHeld
          rw [← hw]
          have h5 := hst
          have h6 := (hot c6 (Ne.symm hcc)).trans h6
          have kA : KidsP (fun b => b ≠ c5 ∧ b ≠ c6) w_9 A1 za.kids := kA.kept (Nat.le_of_eq hsz.symm) (fun b hp _ => hot b hp.1) (fun b h _ => h)
          have kB : KidsP (fun b => b ≠ c5 ∧ b ≠ c6) w_9 B1 zb.kids := kB.kept (Nat.le_of_eq hsz.symm) (fun b hp _ => hot b hp.1) (fun b h _ => h)
          clear hw hst hot hsz
          refine wpAnyH_ready (rs := [7]) (by kernel_rfl) (by simp) ?_
          refine AllReadyH.cons (o := ⟨none, _, _, _, _, _⟩) rfl (fun K hK => ?_) AllReadyH.nil
          have q0 := Lib.cell_of_heap h6 0
          have q1 := Lib.cell_of_heap h6 1
          have q2 := Lib.cell_of_heap h6 2
          have q3 := Lib.cell_of_heap h6 3
          have r0 := frozen_block (j := 0) h6
          have r1 := frozen_block (j := 1) h6
          have r2 := frozen_block (j := 2) h6
          have r3 := frozen_block (j := 3) h6
          have hst := set4 (v0 := .int .i64 zb.kind) (v1 := .int .i64 zb.tok.1) (v2 := .string zb.tok.2) (v3 := .slice B1 zb.kids.length eB) h6
          have hsz : ((((w_9.setCell ⟨c6, 0, none⟩ (.int .i64 zb.kind)).setCell ⟨c6, 1, none⟩ (.int .i64 zb.tok.1)).setCell ⟨c6, 2, none⟩ (.string zb.tok.2)).setCell ⟨c6, 3, none⟩ (.slice B1 zb.kids.length eB)).heap.size = w_9.heap.size := size4
          have hB : Below w0.heap.size w0 ((((w_9.setCell ⟨c6, 0, none⟩ (.int .i64 zb.kind)).setCell ⟨c6, 1, none⟩ (.int .i64 zb.tok.1)).setCell ⟨c6, 2, none⟩ (.string zb.tok.2)).setCell ⟨c6, 3, none⟩ (.slice B1 zb.kids.length eB)) := below4 hB g6
          have hot : ∀ b, b ≠ c6 → ((((w_9.setCell ⟨c6, 0, none⟩ (.int .i64 zb.kind)).setCell ⟨c6, 1, none⟩ (.int .i64 zb.tok.1)).setCell ⟨c6, 2, none⟩ (.string zb.tok.2)).setCell ⟨c6, 3, none⟩ (.slice B1 zb.kids.length eB)).heap[b]? = w_9.heap[b]? := fun b hb => other4 hb
          go_simp
          refine hK.out _ _ ?_ (fun hHeld => ?_)
          · exact keptS hB bx1 bx2
          clear hK K q0 q1 q2 q3 r0 r1 r2 r3
          try simp only [Act.put, List.setIfInBounds_toArray, List.set_cons_zero, List.set_cons_succ]
          obtain ⟨w_10, hw⟩ : ∃ x, x = ((((w_9.setCell ⟨c6, 0, none⟩ (.int .i64 zb.kind)).setCell ⟨c6, 1, none⟩ (.int .i64 zb.tok.1)).setCell ⟨c6, 2, none⟩ (.string zb.tok.2)).setCell ⟨c6, 3, none⟩ (.slice B1 zb.kids.length eB)) := ⟨_, rfl⟩
          rw [← hw] at hst hot hB hsz hHeld
          rw [← hw]
          have h6 := hst
          have h5 := (hot c5 hcc).trans h5
          have kA : KidsP (fun b => b ≠ c5 ∧ b ≠ c6) w_10 A1 za.kids := kA.kept (Nat.le_of_eq hsz.symm) (fun b hp _ => hot b hp.2) (fun b h _ => h)
          have kB : KidsP (fun b => b ≠ c5 ∧ b ≠ c6) w_10 B1 zb.kids := kB.kept (Nat.le_of_eq hsz.symm) (fun b hp _ => hot b hp.2) (fun b h _ => h)
          clear hw hst hot hsz
          refine wpAnyH_done (by kernel_rfl) ?_ _
          go_wp2_with fail
          go_meet
          exact ⟨c5, c6, A1, eA, B1, eB, rfl, rfl, gA, gB, kA, kB, h5, h6, hcc, HB0.out.trans (hB.mono HB0.out.size)⟩
      · go_simp
        have hal : Below w_1.heap.size w_1 (w_1.alloc (.cells #[.int .i64 0, .int .i64 0, .string { data := #[] }, .slice none 0 0] 26)) := (Below.refl _ _).alloc (Nat.le_refl _) _
        refine hK.out _ _ ?_ (fun hHeld => ?_)
        · exact keptS (hB.trans (hal.mono hB.size)) bx1 bx2
        clear hK K
        try simp only [Act.put, List.setIfInBounds_toArray, List.set_cons_zero, List.set_cons_succ]
        obtain ⟨c5, hc⟩ : ∃ c, c = w_1.heap.size := ⟨_, rfl⟩
        obtain ⟨w_11, hw⟩ : ∃ x, x = w_1.alloc (.cells #[.int .i64 0, .int .i64 0, .string { data := #[] }, .slice none 0 0] 26) := ⟨_, rfl⟩
        rw [← hw] at hal
        have g5 : w0.heap.size ≤ c5 := by rw [hc]; exact hB.size
        have kA : KidsP (fun b => b ≠ c5) w_11 A1 za.kids := kA.kept hal.size (fun b _ hb => hal.block b hb) (fun b h hb => Nat.ne_of_lt (by rw [hc]; exact hb))
        have hB : Below w0.heap.size w0 w_11 := hB.trans (hal.mono hB.size)
        have h5 : w_11.heap[c5]? = some (.cells #[.int .i64 0, .int .i64 0, .string { data := #[] }, .slice none 0 0] 26 (0, 0)) := by rw [hw, hc]; exact heap_alloc_new _ _
        rw [← hw] at hHeld
        rw [← hw]
        rw [← hc]
        clear hw hc hal
        refine wpAnyH_ready (rs := [3, 5]) (by kernel_rfl) (by simp) ?_
        refine AllReadyH.cons (o := ⟨some 15, _, _, _, _, _⟩) rfl (fun K hK => ?_) (AllReadyH.cons (o := ⟨some 6, _, _, _, _, _⟩) rfl (fun K hK => ?_) AllReadyH.nil)
        · go_simp
          go_at_call 15
          with_reducible refine (HcutB.out _ hB).mono ?_
          rintro e w_12 ⟨vB, rfl, ⟨B1, eB, rfl, gB, kB⟩, hbC⟩
          have l5 : c5 < w_11.heap.size := (Array.getElem?_eq_some_iff.1 h5).1
          have kB : KidsP (fun b => b ≠ c5) w_12 B1 zb.kids := kB.kept (Nat.le_refl _) (fun _ _ _ => rfl) (fun b hb _ => (fun e => by omega))
          have h5 := keepB h5 hbC
          have kA : KidsP (fun b => b ≠ c5) w_12 A1 za.kids := kA.kept hbC.size (fun b _ hb => hbC.block b hb) (fun b h _ => h)
          have hB : Below w0.heap.size w0 w_12 := hB.trans (hbC.mono hB.size)
          refine hK.out _ _ ?_ (fun hHeld => ?_)
          · exact keptS hB bx1 bx2
          clear hK K hbC l5
          try simp only [Act.put, List.setIfInBounds_toArray, List.set_cons_zero, List.set_cons_succ]
          refine wpAnyH_ready (rs := [5]) (by kernel_rfl) (by simp) ?_
          refine AllReadyH.cons (o := ⟨some 6, _, _, _, _, _⟩) rfl (fun K hK => ?_) AllReadyH.nil
          go_simp
          have hal : Below w_12.heap.size w_12 (w_12.alloc (.cells #[.int .i64 0, .int .i64 0, .string { data := #[] }, .slice none 0 0] 26)) := (Below.refl _ _).alloc (Nat.le_refl _) _
          refine hK.out _ _ ?_ (fun hHeld => ?_)
          · exact keptS (hB.trans (hal.mono hB.size)) bx1 bx2
          clear hK K
          try simp only [Act.put, List.setIfInBounds_toArray, List.set_cons_zero, List.set_cons_succ]
          obtain ⟨c6, hc⟩ : ∃ c, c = w_12.heap.size := ⟨_, rfl⟩
          obtain ⟨w_13, hw⟩ : ∃ x, x = w_12.alloc (.cells #[.int .i64 0, .int .i64 0, .string { data := #[] }, .slice none 0 0] 26) := ⟨_, rfl⟩
          rw [← hw] at hal
          have g6 : w0.heap.size ≤ c6 := by rw [hc]; exact hB.size
          have hcc : c5 ≠ c6 := by have hlt : c5 < w_12.heap.size := (Array.getElem?_eq_some_iff.1 h5).1; omega
          have kA : KidsP (fun b => b ≠ c5 ∧ b ≠ c6) w_13 A1 za.kids := kA.kept hal.size (fun b _ hb => hal.block b hb) (fun b h hb => ⟨h, Nat.ne_of_lt (by rw [hc]; exact hb)⟩)
          have kB : KidsP (fun b => b ≠ c5 ∧ b ≠ c6) w_13 B1 zb.kids := kB.kept hal.size (fun b _ hb => hal.block b hb) (fun b h hb => ⟨h, Nat.ne_of_lt (by rw [hc]; exact hb)⟩)
          have h5 := keepB h5 hal
          have hB : Below w0.heap.size w0 w_13 := hB.trans (hal.mono hB.size)
          have h6 : w_13.heap[c6]? = some (.cells #[.int .i64 0, .int .i64 0, .string { data := #[] }, .slice none 0 0] 26 (0, 0)) := by rw [hw, hc]; exact heap_alloc_new _ _
          rw [← hw] at hHeld
          rw [← hw]
          rw [← hc]
          clear hw hc hal
          refine wpAnyH_ready (rs := [6]) (by kernel_rfl) (by simp) ?_
          refine AllReadyH.cons (o := ⟨none, _, _, _, _, _⟩) rfl (fun K hK => ?_) AllReadyH.nil
          have q0 := Lib.cell_of_heap h5 0
          have q1 := Lib.cell_of_heap h5 1
          have q2 := Lib.cell_of_heap h5 2
          have q3 := Lib.cell_of_heap h5 3
          have r0 := frozen_block (j := 0) h5
          have r1 := frozen_block (j := 1) h5
          have r2 := frozen_block (j := 2) h5
          have r3 := frozen_block (j := 3) h5
          have hst := set4 (v0 := .int .i64 za.kind) (v1 := .int .i64 za.tok.1) (v2 := .string za.tok.2) (v3 := .slice A1 za.kids.length eA) h5
          have hsz : ((((w_13.setCell ⟨c5, 0, none⟩ (.int .i64 za.kind)).setCell ⟨c5, 1, none⟩ (.int .i64 za.tok.1)).setCell ⟨c5, 2, none⟩ (.string za.tok.2)).setCell ⟨c5, 3, none⟩ (.slice A1 za.kids.length eA)).heap.size = w_13.heap.size := size4
          have hB : Below w0.heap.size w0 ((((w_13.setCell ⟨c5, 0, none⟩ (.int .i64 za.kind)).setCell ⟨c5, 1, none⟩ (.int .i64 za.tok.1)).setCell ⟨c5, 2, none⟩ (.string za.tok.2)).setCell ⟨c5, 3, none⟩ (.slice A1 za.kids.length eA)) := below4 hB g5
          have hot : ∀ b, b ≠ c5 → ((((w_13.setCell ⟨c5, 0, none⟩ (.int .i64 za.kind)).setCell ⟨c5, 1, none⟩ (.int .i64 za.tok.1)).setCell ⟨c5, 2, none⟩ (.string za.tok.2)).setCell ⟨c5, 3, none⟩ (.slice A1 za.kids.length eA)).heap[b]? = w_13.heap[b]? := fun b hb => other4 hb
          go_simp
          refine hK.out _ _ ?_ (fun hHeld => ?_)
          · exact keptS hB bx1 bx2
          clear hK K q0 q1 q2 q3 r0 r1 r2 r3
          try simp only [Act.put, List.setIfInBounds_toArray, List.set_cons_zero, List.set_cons_succ]
          obtain ⟨w_14, hw⟩ : ∃ x, x = ((((w_13.setCell ⟨c5, 0, none⟩ (.int .i64 za.kind)).setCell ⟨c5, 1, none⟩ (.int .i64 za.tok.1)).setCell ⟨c5, 2, none⟩ (.string za.tok.2)).setCell ⟨c5, 3, none⟩ (.slice A1 za.kids.length eA)) := ⟨_, rfl⟩
          rw [← hw] at hst hot hB hsz hHeld
          rw [← hw]
          have h5 := hst
          have h6 := (hot c6 (Ne.symm hcc)).trans h6
          have kA : KidsP (fun b => b ≠ c5 ∧ b ≠ c6) w_14 A1 za.kids := kA.kept (Nat.le_of_eq hsz.symm) (fun b hp _ => hot b hp.1) (fun b h _ => h)
          have kB : KidsP (fun b => b ≠ c5 ∧ b ≠ c6) w_14 B1 zb.kids := kB.kept (Nat.le_of_eq hsz.symm) (fun b hp _ => hot b hp.1) (fun b h _ => h)
          clear hw hst hot hsz
          refine wpAnyH_ready (rs := [7]) (by kernel_rfl) (by simp) ?_
          refine AllReadyH.cons (o := ⟨none, _, _, _, _, _⟩) rfl (fun K hK => ?_) AllReadyH.nil
          have q0 := Lib.cell_of_heap h6 0
          have q1 := Lib.cell_of_heap h6 1
          have q2 := Lib.cell_of_heap h6 2
          have q3 := Lib.cell_of_heap h6 3
          have r0 := frozen_block (j := 0) h6
          have r1 := frozen_block (j := 1) h6
          have r2 := frozen_block (j := 2) h6
          have r3 := frozen_block (j := 3) h6
          have hst := set4 (v0 := .int .i64 zb.kind) (v1 := .int .i64 zb.tok.1) (v2 := .string zb.tok.2) (v3 := .slice B1 zb.kids.length eB) h6
          have hsz : ((((w_14.setCell ⟨c6, 0, none⟩ (.int .i64 zb.kind)).setCell ⟨c6, 1, none⟩ (.int .i64 zb.tok.1)).setCell ⟨c6, 2, none⟩ (.string zb.tok.2)).setCell ⟨c6, 3, none⟩ (.slice B1 zb.kids.length eB)).heap.size = w_14.heap.size := size4
          have hB : Below w0.heap.size w0 ((((w_14.setCell ⟨c6, 0, none⟩ (.int .i64 zb.kind)).setCell ⟨c6, 1, none⟩ (.int .i64 zb.tok.1)).setCell ⟨c6, 2, none⟩ (.string zb.tok.2)).setCell ⟨c6, 3, none⟩ (.slice B1 zb.kids.length eB)) := below4 hB g6
          have hot : ∀ b, b ≠ c6 → ((((w_14.setCell ⟨c6, 0, none⟩ (.int .i64 zb.kind)).setCell ⟨c6, 1, none⟩ (.int .i64 zb.tok.1)).setCell ⟨c6, 2, none⟩ (.string zb.tok.2)).setCell ⟨c6, 3, none⟩ (.slice B1 zb.kids.length eB)).heap[b]? = w_14.heap[b]? := fun b hb => other4 hb
          go_simp
          refine hK.out _ _ ?_ (fun hHeld => ?_)
          · exact keptS hB bx1 bx2
          clear hK K q0 q1 q2 q3 r0 r1 r2 r3
          try simp only [Act.put, List.setIfInBounds_toArray, List.set_cons_zero, List.set_cons_succ]
          obtain ⟨w_15, hw⟩ : ∃ x, x = ((((w_14.setCell ⟨c6, 0, none⟩ (.int .i64 zb.kind)).setCell ⟨c6, 1, none⟩ (.int .i64 zb.tok.1)).setCell ⟨c6, 2, none⟩ (.string zb.tok.2)).setCell ⟨c6, 3, none⟩ (.slice B1 zb.kids.length eB)) := ⟨_, rfl⟩
          rw [← hw] at hst hot hB hsz hHeld
          rw [← hw]
          have h6 := hst
          have h5 := (hot c5 hcc).trans h5
          have kA : KidsP (fun b => b ≠ c5 ∧ b ≠ c6) w_15 A1 za.kids := kA.kept (Nat.le_of_eq hsz.symm) (fun b hp _ => hot b hp.2) (fun b h _ => h)
          have kB : KidsP (fun b => b ≠ c5 ∧ b ≠ c6) w_15 B1 zb.kids := kB.kept (Nat.le_of_eq hsz.symm) (fun b hp _ => hot b hp.2) (fun b h _ => h)
          clear hw hst hot hsz
          refine wpAnyH_done (by kernel_rfl) ?_ _
          go_wp2_with fail
          go_meet
          exact ⟨c5, c6, A1, eA, B1, eB, rfl, rfl, gA, gB, kA, kB, h5, h6, hcc, HB0.out.trans (hB.mono HB0.out.size)⟩
        · go_simp
          have hal : Below w_11.heap.size w_11 (w_11.alloc (.cells #[.int .i64 0, .int .i64 0, .string { data := #[] }, .slice none 0 0] 26)) := (Below.refl _ _).alloc (Nat.le_refl _) _
          refine hK.out _ _ ?_ (fun hHeld => ?_)
          · exact keptS (hB.trans (hal.mono hB.size)) bx1 bx2
          clear hK K
          try simp only [Act.put, List.setIfInBounds_toArray, List.set_cons_zero, List.set_cons_succ]
          obtain ⟨c6, hc⟩ : ∃ c, c = w_11.heap.size := ⟨_, rfl⟩
          obtain ⟨w_16, hw⟩ : ∃ x, x = w_11.alloc (.cells #[.int .i64 0, .int .i64 0, .string { data := #[] }, .slice none 0 0] 26) := ⟨_, rfl⟩
          rw [← hw] at hal
          have g6 : w0.heap.size ≤ c6 := by rw [hc]; exact hB.size
          have hcc : c5 ≠ c6 := by have hlt : c5 < w_11.heap.size := (Array.getElem?_eq_some_iff.1 h5).1; omega
          have kA : KidsP (fun b => b ≠ c5 ∧ b ≠ c6) w_16 A1 za.kids := kA.kept hal.size (fun b _ hb => hal.block b hb) (fun b h hb => ⟨h, Nat.ne_of_lt (by rw [hc]; exact hb)⟩)
          have h5 := keepB h5 hal
          have hB : Below w0.heap.size w0 w_16 := hB.trans (hal.mono hB.size)
          have h6 : w_16.heap[c6]? = some (.cells #[.int .i64 0, .int .i64 0, .string { data := #[] }, .slice none 0 0] 26 (0, 0)) := by rw [hw, hc]; exact heap_alloc_new _ _
          rw [← hw] at hHeld
          rw [← hw]
          rw [← hc]
          clear hw hc hal
          refine wpAnyH_ready (rs := [3]) (by kernel_rfl) (by simp) ?_
          refine AllReadyH.cons (o := ⟨some 15, _, _, _, _, _⟩) rfl (fun K hK => ?_) AllReadyH.nil
          go_simp
          go_at_call 15
          with_reducible refine (HcutB.out _ hB).mono ?_
          rintro e w_17 ⟨vB, rfl, ⟨B1, eB, rfl, gB, kB⟩, hbC⟩
          have l5 : c5 < w_16.heap.size := (Array.getElem?_eq_some_iff.1 h5).1
          have l6 : c6 < w_16.heap.size := (Array.getElem?_eq_some_iff.1 h6).1
          have kB : KidsP (fun b => b ≠ c5 ∧ b ≠ c6) w_17 B1 zb.kids := kB.kept (Nat.le_refl _) (fun _ _ _ => rfl) (fun b hb _ => ⟨fun e => by omega, fun e => by omega⟩)
          have h5 := keepB h5 hbC
          have h6 := keepB h6 hbC
          have kA : KidsP (fun b => b ≠ c5 ∧ b ≠ c6) w_17 A1 za.kids := kA.kept hbC.size (fun b _ hb => hbC.block b hb) (fun b h _ => h)
          have hB : Below w0.heap.size w0 w_17 := hB.trans (hbC.mono hB.size)
          refine hK.out _ _ ?_ (fun hHeld => ?_)
          · exact keptS hB bx1 bx2
          clear hK K hbC l5 l6
          try simp only [Act.put, List.setIfInBounds_toArray, List.set_cons_zero, List.set_cons_succ]
          refine wpAnyH_ready (rs := [6]) (by kernel_rfl) (by simp) ?_
          refine AllReadyH.cons (o := ⟨none, _, _, _, _, _⟩) rfl (fun K hK => ?_) AllReadyH.nil
          have q0 := Lib.cell_of_heap h5 0
          have q1 := Lib.cell_of_heap h5 1
          have q2 := Lib.cell_of_heap h5 2
          have q3 := Lib.cell_of_heap h5 3
          have r0 := frozen_block (j := 0) h5
          have r1 := frozen_block (j := 1) h5
          have r2 := frozen_block (j := 2) h5
          have r3 := frozen_block (j := 3) h5
          have hst := set4 (v0 := .int .i64 za.kind) (v1 := .int .i64 za.tok.1) (v2 := .string za.tok.2) (v3 := .slice A1 za.kids.length eA) h5
          have hsz : ((((w_17.setCell ⟨c5, 0, none⟩ (.int .i64 za.kind)).setCell ⟨c5, 1, none⟩ (.int .i64 za.tok.1)).setCell ⟨c5, 2, none⟩ (.string za.tok.2)).setCell ⟨c5, 3, none⟩ (.slice A1 za.kids.length eA)).heap.size = w_17.heap.size := size4
          have hB : Below w0.heap.size w0 ((((w_17.setCell ⟨c5, 0, none⟩ (.int .i64 za.kind)).setCell ⟨c5, 1, none⟩ (.int .i64 za.tok.1)).setCell ⟨c5, 2, none⟩ (.string za.tok.2)).setCell ⟨c5, 3, none⟩ (.slice A1 za.kids.length eA)) := below4 hB g5
          have hot : ∀ b, b ≠ c5 → ((((w_17.setCell ⟨c5, 0, none⟩ (.int .i64 za.kind)).setCell ⟨c5, 1, none⟩ (.int .i64 za.tok.1)).setCell ⟨c5, 2, none⟩ (.string za.tok.2)).setCell ⟨c5, 3, none⟩ (.slice A1 za.kids.length eA)).heap[b]? = w_17.heap[b]? := fun b hb => other4 hb
          go_simp
          refine hK.out _ _ ?_ (fun hHeld => ?_)
          · exact keptS hB bx1 bx2
          clear hK K q0 q1 q2 q3 r0 r1 r2 r3
          try simp only [Act.put, List.setIfInBounds_toArray, List.set_cons_zero, List.set_cons_succ]
          obtain ⟨w_18, hw⟩ : ∃ x, x = ((((w_17.setCell ⟨c5, 0, none⟩ (.int .i64 za.kind)).setCell ⟨c5, 1, none⟩ (.int .i64 za.tok.1)).setCell ⟨c5, 2, none⟩ (.string za.tok.2)).setCell ⟨c5, 3, none⟩ (.slice A1 za.kids.length eA)) := ⟨_, rfl⟩
          rw [← hw] at hst hot hB hsz hHeld
          rw [← hw]
          have h5 := hst
          have h6 := (hot c6 (Ne.symm hcc)).trans h6
          have kA : KidsP (fun b => b ≠ c5 ∧ b ≠ c6) w_18 A1 za.kids := kA.kept (Nat.le_of_eq hsz.symm) (fun b hp _ => hot b hp.1) (fun b h _ => h)
          have kB : KidsP (fun b => b ≠ c5 ∧ b ≠ c6) w_18 B1 zb.kids := kB.kept (Nat.le_of_eq hsz.symm) (fun b hp _ => hot b hp.1) (fun b h _ => h)
          clear hw hst hot hsz
          refine wpAnyH_ready (rs := [7]) (by kernel_rfl) (by simp) ?_
          refine AllReadyH.cons (o := ⟨none, _, _, _, _, _⟩) rfl (fun K hK => ?_) AllReadyH.nil
          have q0 := Lib.cell_of_heap h6 0
          have q1 := Lib.cell_of_heap h6 1
          have q2 := Lib.cell_of_heap h6 2
          have q3 := Lib.cell_of_heap h6 3
          have r0 := frozen_block (j := 0) h6
          have r1 := frozen_block (j := 1) h6
          have r2 := frozen_block (j := 2) h6
          have r3 := frozen_block (j := 3) h6
          have hst := set4 (v0 := .int .i64 zb.kind) (v1 := .int .i64 zb.tok.1) (v2 := .string zb.tok.2) (v3 := .slice B1 zb.kids.length eB) h6
          have hsz : ((((w_18.setCell ⟨c6, 0, none⟩ (.int .i64 zb.kind)).setCell ⟨c6, 1, none⟩ (.int .i64 zb.tok.1)).setCell ⟨c6, 2, none⟩ (.string zb.tok.2)).setCell ⟨c6, 3, none⟩ (.slice B1 zb.kids.length eB)).heap.size = w_18.heap.size := size4
          have hB : Below w0.heap.size w0 ((((w_18.setCell ⟨c6, 0, none⟩ (.int .i64 zb.kind)).setCell ⟨c6, 1, none⟩ (.int .i64 zb.tok.1)).setCell ⟨c6, 2, none⟩ (.string zb.tok.2)).setCell ⟨c6, 3, none⟩ (.slice B1 zb.kids.length eB)) := below4 hB g6
          have hot : ∀ b, b ≠ c6 → ((((w_18.setCell ⟨c6, 0, none⟩ (.int .i64 zb.kind)).setCell ⟨c6, 1, none⟩ (.int .i64 zb.tok.1)).setCell ⟨c6, 2, none⟩ (.string zb.tok.2)).setCell ⟨c6, 3, none⟩ (.slice B1 zb.kids.length eB)).heap[b]? = w_18.heap[b]? := fun b hb => other4 hb
          go_simp
          refine hK.out _ _ ?_ (fun hHeld => ?_)
          · exact keptS hB bx1 bx2
          clear hK K q0 q1 q2 q3 r0 r1 r2 r3
          try simp only [Act.put, List.setIfInBounds_toArray, List.set_cons_zero, List.set_cons_succ]
          obtain ⟨w_19, hw⟩ : ∃ x, x = ((((w_18.setCell ⟨c6, 0, none⟩ (.int .i64 zb.kind)).setCell ⟨c6, 1, none⟩ (.int .i64 zb.tok.1)).setCell ⟨c6, 2, none⟩ (.string zb.tok.2)).setCell ⟨c6, 3, none⟩ (.slice B1 zb.kids.length eB)) := ⟨_, rfl⟩
          rw [← hw] at hst hot hB hsz hHeld
          rw [← hw]
          have h6 := hst
          have h5 := (hot c5 hcc).trans h5
          have kA : KidsP (fun b => b ≠ c5 ∧ b ≠ c6) w_19 A1 za.kids := kA.kept (Nat.le_of_eq hsz.symm) (fun b hp _ => hot b hp.2) (fun b h _ => h)
          have kB : KidsP (fun b => b ≠ c5 ∧ b ≠ c6) w_19 B1 zb.kids := kB.kept (Nat.le_of_eq hsz.symm) (fun b hp _ => hot b hp.2) (fun b h _ => h)
          clear hw hst hot hsz
          refine wpAnyH_done (by kernel_rfl) ?_ _
          go_wp2_with fail
          go_meet
          exact ⟨c5, c6, A1, eA, B1, eB, rfl, rfl, gA, gB, kA, kB, h5, h6, hcc, HB0.out.trans (hB.mono HB0.out.size)⟩
      · go_simp
        have hal : Below w_1.heap.size w_1 (w_1.alloc (.cells #[.int .i64 0, .int .i64 0, .string { data := #[] }, .slice none 0 0] 26)) := (Below.refl _ _).alloc (Nat.le_refl _) _
        refine hK.out _ _ ?_ (fun hHeld => ?_)
        · exact keptS (hB.trans (hal.mono hB.size)) bx1 bx2
        clear hK K
        try simp only [Act.put, List.setIfInBounds_toArray, List.set_cons_zero, List.set_cons_succ]
        obtain ⟨c6, hc⟩ : ∃ c, c = w_1.heap.size := ⟨_, rfl⟩
        obtain ⟨w_20, hw⟩ : ∃ x, x = w_1.alloc (.cells #[.int .i64 0, .int .i64 0, .string { data := #[] }, .slice none 0 0] 26) := ⟨_, rfl⟩
        rw [← hw] at hal
        have g6 : w0.heap.size ≤ c6 := by rw [hc]; exact hB.size
        have kA : KidsP (fun b => b ≠ c6) w_20 A1 za.kids := kA.kept hal.size (fun b _ hb => hal.block b hb) (fun b h hb => Nat.ne_of_lt (by rw [hc]; exact hb))
        have hB : Below w0.heap.size w0 w_20 := hB.trans (hal.mono hB.size)
        have h6 : w_20.heap[c6]? = some (.cells #[.int .i64 0, .int .i64 0, .string { data := #[] }, .slice none 0 0] 26 (0, 0)) := by rw [hw, hc]; exact heap_alloc_new _ _
        rw [← hw] at hHeld
        rw [← hw]
        rw [← hc]
        clear hw hc hal
        refine wpAnyH_ready (rs := [3, 4]) (by kernel_rfl) (by simp) ?_
        refine AllReadyH.cons (o := ⟨some 15, _, _, _, _, _⟩) rfl (fun K hK => ?_) (AllReadyH.cons (o := ⟨some 5, _, _, _, _, _⟩) rfl (fun K hK => ?_) AllReadyH.nil)
        · go_simp
          go_at_call 15
          with_reducible refine (HcutB.out _ hB).mono ?_
          rintro e w_21 ⟨vB, rfl, ⟨B1, eB, rfl, gB, kB⟩, hbC⟩
          have l6 : c6 < w_20.heap.size := (Array.getElem?_eq_some_iff.1 h6).1
          have kB : KidsP (fun b => b ≠ c6) w_21 B1 zb.kids := kB.kept (Nat.le_refl _) (fun _ _ _ => rfl) (fun b hb _ => (fun e => by omega))
          have h6 := keepB h6 hbC
          have kA : KidsP (fun b => b ≠ c6) w_21 A1 za.kids := kA.kept hbC.size (fun b _ hb => hbC.block b hb) (fun b h _ => h)
          have hB : Below w0.heap.size w0 w_21 := hB.trans (hbC.mono hB.size)
          refine hK.out _ _ ?_ (fun hHeld => ?_)
          · exact keptS hB bx1 bx2
          clear hK K hbC l6
          try simp only [Act.put, List.setIfInBounds_toArray, List.set_cons_zero, List.set_cons_succ]
          refine wpAnyH_ready (rs := [4]) (by kernel_rfl) (by simp) ?_
          refine AllReadyH.cons (o := ⟨some 5, _, _, _, _, _⟩) rfl (fun K hK => ?_) AllReadyH.nil
          go_simp
          have hal : Below w_21.heap.size w_21 (w_21.alloc (.cells #[.int .i64 0, .int .i64 0, .string { data := #[] }, .slice none 0 0] 26)) := (Below.refl _ _).alloc (Nat.le_refl _) _
          refine hK.out _ _ ?_ (fun hHeld => ?_)
          · exact keptS (hB.trans (hal.mono hB.size)) bx1 bx2
          clear hK K
          try simp only [Act.put, List.setIfInBounds_toArray, List.set_cons_zero, List.set_cons_succ]
          obtain ⟨c5, hc⟩ : ∃ c, c = w_21.heap.size := ⟨_, rfl⟩
          obtain ⟨w_22, hw⟩ : ∃ x, x = w_21.alloc (.cells #[.int .i64 0, .int .i64 0, .string { data := #[] }, .slice none 0 0] 26) := ⟨_, rfl⟩
          rw [← hw] at hal
          have g5 : w0.heap.size ≤ c5 := by rw [hc]; exact hB.size
          have hcc : c5 ≠ c6 := by have hlt : c6 < w_21.heap.size := (Array.getElem?_eq_some_iff.1 h6).1; omega
          have kA : KidsP (fun b => b ≠ c5 ∧ b ≠ c6) w_22 A1 za.kids := kA.kept hal.size (fun b _ hb => hal.block b hb) (fun b h hb => ⟨Nat.ne_of_lt (by rw [hc]; exact hb), h⟩)
          have kB : KidsP (fun b => b ≠ c5 ∧ b ≠ c6) w_22 B1 zb.kids := kB.kept hal.size (fun b _ hb => hal.block b hb) (fun b h hb => ⟨Nat.ne_of_lt (by rw [hc]; exact hb), h⟩)
          have h6 := keepB h6 hal
          have hB : Below w0.heap.size w0 w_22 := hB.trans (hal.mono hB.size)
          have h5 : w_22.heap[c5]? = some (.cells #[.int .i64 0, .int .i64 0, .string { data := #[] }, .slice none 0 0] 26 (0, 0)) := by rw [hw, hc]; exact heap_alloc_new _ _
          rw [← hw] at hHeld
          rw [← hw]
          rw [← hc]
          clear hw hc hal
          refine wpAnyH_ready (rs := [6]) (by kernel_rfl) (by simp) ?_
          refine AllReadyH.cons (o := ⟨none, _, _, _, _, _⟩) rfl (fun K hK => ?_) AllReadyH.nil
          have q0 := Lib.cell_of_heap h5 0
          have q1 := Lib.cell_of_heap h5 1
          have q2 := Lib.cell_of_heap h5 2
          have q3 := Lib.cell_of_heap h5 3
          have r0 := frozen_block (j := 0) h5
          have r1 := frozen_block (j := 1) h5
          have r2 := frozen_block (j := 2) h5
          have r3 := frozen_block (j := 3) h5
          have hst := set4 (v0 := .int .i64 za.kind) (v1 := .int .i64 za.tok.1) (v2 := .string za.tok.2) (v3 := .slice A1 za.kids.length eA) h5
          have hsz : ((((w_22.setCell ⟨c5, 0, none⟩ (.int .i64 za.kind)).setCell ⟨c5, 1, none⟩ (.int .i64 za.tok.1)).setCell ⟨c5, 2, none⟩ (.string za.tok.2)).setCell ⟨c5, 3, none⟩ (.slice A1 za.kids.length eA)).heap.size = w_22.heap.size := size4
          have hB : Below w0.heap.size w0 ((((w_22.setCell ⟨c5, 0, none⟩ (.int .i64 za.kind)).setCell ⟨c5, 1, none⟩ (.int .i64 za.tok.1)).setCell ⟨c5, 2, none⟩ (.string za.tok.2)).setCell ⟨c5, 3, none⟩ (.slice A1 za.kids.length eA)) := below4 hB g5
          have hot : ∀ b, b ≠ c5 → ((((w_22.setCell ⟨c5, 0, none⟩ (.int .i64 za.kind)).setCell ⟨c5, 1, none⟩ (.int .i64 za.tok.1)).setCell ⟨c5, 2, none⟩ (.string za.tok.2)).setCell ⟨c5, 3, none⟩ (.slice A1 za.kids.length eA)).heap[b]? = w_22.heap[b]? := fun b hb => other4 hb
          go_simp
          refine hK.out _ _ ?_ (fun hHeld => ?_)
          · exact keptS hB bx1 bx2
          clear hK K q0 q1 q2 q3 r0 r1 r2 r3
          try simp only [Act.put, List.setIfInBounds_toArray, List.set_cons_zero, List.set_cons_succ]
          obtain ⟨w_23, hw⟩ : ∃ x, x = ((((w_22.setCell ⟨c5, 0, none⟩ (.int .i64 za.kind)).setCell ⟨c5, 1, none⟩ (.int .i64 za.tok.1)).setCell ⟨c5, 2, none⟩ (.string za.tok.2)).setCell ⟨c5, 3, none⟩ (.slice A1 za.kids.length eA)) := ⟨_, rfl⟩
          rw [← hw] at hst hot hB hsz hHeld
          rw [← hw]
          have h5 := hst
          have h6 := (hot c6 (Ne.symm hcc)).trans h6
          have kA : KidsP (fun b => b ≠ c5 ∧ b ≠ c6) w_23 A1 za.kids := kA.kept (Nat.le_of_eq hsz.symm) (fun b hp _ => hot b hp.1) (fun b h _ => h)
          have kB : KidsP (fun b => b ≠ c5 ∧ b ≠ c6) w_23 B1 zb.kids := kB.kept (Nat.le_of_eq hsz.symm) (fun b hp _ => hot b hp.1) (fun b h _ => h)
          clear hw hst hot hsz
          refine wpAnyH_ready (rs := [7]) (by kernel_rfl) (by simp) ?_
          refine AllReadyH.cons (o := ⟨none, _, _, _, _, _⟩) rfl (fun K hK => ?_) AllReadyH.nil
          have q0 := Lib.cell_of_heap h6 0
          have q1 := Lib.cell_of_heap h6 1
          have q2 := Lib.cell_of_heap h6 2
          have q3 := Lib.cell_of_heap h6 3
          have r0 := frozen_block (j := 0) h6
          have r1 := frozen_block (j := 1) h6
          have r2 := frozen_block (j := 2) h6
          have r3 := frozen_block (j := 3) h6
          have hst := set4 (v0 := .int .i64 zb.kind) (v1 := .int .i64 zb.tok.1) (v2 := .string zb.tok.2) (v3 := .slice B1 zb.kids.length eB) h6
          have hsz : ((((w_23.setCell ⟨c6, 0, none⟩ (.int .i64 zb.kind)).setCell ⟨c6, 1, none⟩ (.int .i64 zb.tok.1)).setCell ⟨c6, 2, none⟩ (.string zb.tok.2)).setCell ⟨c6, 3, none⟩ (.slice B1 zb.kids.length eB)).heap.size = w_23.heap.size := size4
          have hB : Below w0.heap.size w0 ((((w_23.setCell ⟨c6, 0, none⟩ (.int .i64 zb.kind)).setCell ⟨c6, 1, none⟩ (.int .i64 zb.tok.1)).setCell ⟨c6, 2, none⟩ (.string zb.tok.2)).setCell ⟨c6, 3, none⟩ (.slice B1 zb.kids.length eB)) := below4 hB g6
          have hot : ∀ b, b ≠ c6 → ((((w_23.setCell ⟨c6, 0, none⟩ (.int .i64 zb.kind)).setCell ⟨c6, 1, none⟩ (.int .i64 zb.tok.1)).setCell ⟨c6, 2, none⟩ (.string zb.tok.2)).setCell ⟨c6, 3, none⟩ (.slice B1 zb.kids.length eB)).heap[b]? = w_23.heap[b]? := fun b hb => other4 hb
          go_simp
          refine hK.out _ _ ?_ (fun hHeld => ?_)
          · exact keptS hB bx1 bx2
          clear hK K q0 q1 q2 q3 r0 r1 r2 r3
          try simp only [Act.put, List.setIfInBounds_toArray, List.set_cons_zero, List.set_cons_succ]
          obtain ⟨w_24, hw⟩ : ∃ x, x = ((((w_23.setCell ⟨c6, 0, none⟩ (.int .i64 zb.kind)).setCell ⟨c6, 1, none⟩ (.int .i64 zb.tok.1)).setCell ⟨c6, 2, none⟩ (.string zb.tok.2)).setCell ⟨c6, 3, none⟩ (.slice B1 zb.kids.length eB)) := ⟨_, rfl⟩
          rw [← hw] at hst hot hB hsz hHeld
          rw [← hw]
          have h6 := hst
          have h5 := (hot c5 hcc).trans h5
          have kA : KidsP (fun b => b ≠ c5 ∧ b ≠ c6) w_24 A1 za.kids := kA.kept (Nat.le_of_eq hsz.symm) (fun b hp _ => hot b hp.2) (fun b h _ => h)
          have kB : KidsP (fun b => b ≠ c5 ∧ b ≠ c6) w_24 B1 zb.kids := kB.kept (Nat.le_of_eq hsz.symm) (fun b hp _ => hot b hp.2) (fun b h _ => h)
          clear hw hst hot hsz
          refine wpAnyH_done (by kernel_rfl) ?_ _
          go_wp2_with fail
          go_meet
          exact ⟨c5, c6, A1, eA, B1, eB, rfl, rfl, gA, gB, kA, kB, h5, h6, hcc, HB0.out.trans (hB.mono HB0.out.size)⟩
        · go_simp
          have hal : Below w_20.heap.size w_20 (w_20.alloc (.cells #[.int .i64 0, .int .i64 0, .string { data := #[] }, .slice none 0 0] 26)) := (Below.refl _ _).alloc (Nat.le_refl _) _
          refine hK.out _ _ ?_ (fun hHeld => ?_)
          · exact keptS (hB.trans (hal.mono hB.size)) bx1 bx2
          clear hK K
          try simp only [Act.put, List.setIfInBounds_toArray, List.set_cons_zero, List.set_cons_succ]
          obtain ⟨c5, hc⟩ : ∃ c, c = w_20.heap.size := ⟨_, rfl⟩
          obtain ⟨w_25, hw⟩ : ∃ x, x = w_20.alloc (.cells #[.int .i64 0, .int .i64 0, .string { data := #[] }, .slice none 0 0] 26) := ⟨_, rfl⟩
          rw [← hw] at hal
          have g5 : w0.heap.size ≤ c5 := by rw [hc]; exact hB.size
          have hcc : c5 ≠ c6 := by have hlt : c6 < w_20.heap.size := (Array.getElem?_eq_some_iff.1 h6).1; omega
          have kA : KidsP (fun b => b ≠ c5 ∧ b ≠ c6) w_25 A1 za.kids := kA.kept hal.size (fun b _ hb => hal.block b hb) (fun b h hb => ⟨Nat.ne_of_lt (by rw [hc]; exact hb), h⟩)
          have h6 := keepB h6 hal
          have hB : Below w0.heap.size w0 w_25 := hB.trans (hal.mono hB.size)
          have h5 : w_25.heap[c5]? = some (.cells #[.int .i64 0, .int .i64 0, .string { data := #[] }, .slice none 0 0] 26 (0, 0)) := by rw [hw, hc]; exact heap_alloc_new _ _
          rw [← hw] at hHeld
          rw [← hw]
          rw [← hc]
          clear hw hc hal
          refine wpAnyH_ready (rs := [3]) (by kernel_rfl) (by simp) ?_
          refine AllReadyH.cons (o := ⟨some 15, _, _, _, _, _⟩) rfl (fun K hK => ?_) AllReadyH.nil
          go_simp
          go_at_call 15
          with_reducible refine (HcutB.out _ hB).mono ?_
          rintro e w_26 ⟨vB, rfl, ⟨B1, eB, rfl, gB, kB⟩, hbC⟩
          have l5 : c5 < w_25.heap.size := (Array.getElem?_eq_some_iff.1 h5).1
          have l6 : c6 < w_25.heap.size := (Array.getElem?_eq_some_iff.1 h6).1
          have kB : KidsP (fun b => b ≠ c5 ∧ b ≠ c6) w_26 B1 zb.kids := kB.kept (Nat.le_refl _) (fun _ _ _ => rfl) (fun b hb _ => ⟨fun e => by omega, fun e => by omega⟩)
          have h5 := keepB h5 hbC
          have h6 := keepB h6 hbC
          have kA : KidsP (fun b => b ≠ c5 ∧ b ≠ c6) w_26 A1 za.kids := kA.kept hbC.size (fun b _ hb => hbC.block b hb) (fun b h _ => h)
          have hB : Below w0.heap.size w0 w_26 := hB.trans (hbC.mono hB.size)
          refine hK.out _ _ ?_ (fun hHeld => ?_)
          · exact keptS hB bx1 bx2
          clear hK K hbC l5 l6
          try simp only [Act.put, List.setIfInBounds_toArray, List.set_cons_zero, List.set_cons_succ]
          refine wpAnyH_ready (rs := [6]) (by kernel_rfl) (by simp) ?_
          refine AllReadyH.cons (o := ⟨none, _, _, _, _, _⟩) rfl (fun K hK => ?_) AllReadyH.nil
          have q0 := Lib.cell_of_heap h5 0
          have q1 := Lib.cell_of_heap h5 1
          have q2 := Lib.cell_of_heap h5 2
          have q3 := Lib.cell_of_heap h5 3
          have r0 := frozen_block (j := 0) h5
          have r1 := frozen_block (j := 1) h5
          have r2 := frozen_block (j := 2) h5
          have r3 := frozen_block (j := 3) h5
          have hst := set4 (v0 := .int .i64 za.kind) (v1 := .int .i64 za.tok.1) (v2 := .string za.tok.2) (v3 := .slice A1 za.kids.length eA) h5
          have hsz : ((((w_26.setCell ⟨c5, 0, none⟩ (.int .i64 za.kind)).setCell ⟨c5, 1, none⟩ (.int .i64 za.tok.1)).setCell ⟨c5, 2, none⟩ (.string za.tok.2)).setCell ⟨c5, 3, none⟩ (.slice A1 za.kids.length eA)).heap.size = w_26.heap.size := size4
          have hB : Below w0.heap.size w0 ((((w_26.setCell ⟨c5, 0, none⟩ (.int .i64 za.kind)).setCell ⟨c5, 1, none⟩ (.int .i64 za.tok.1)).setCell ⟨c5, 2, none⟩ (.string za.tok.2)).setCell ⟨c5, 3, none⟩ (.slice A1 za.kids.length eA)) := below4 hB g5
          have hot : ∀ b, b ≠ c5 → ((((w_26.setCell ⟨c5, 0, none⟩ (.int .i64 za.kind)).setCell ⟨c5, 1, none⟩ (.int .i64 za.tok.1)).setCell ⟨c5, 2, none⟩ (.string za.tok.2)).setCell ⟨c5, 3, none⟩ (.slice A1 za.kids.length eA)).heap[b]? = w_26.heap[b]? := fun b hb => other4 hb
          go_simp
          refine hK.out _ _ ?_ (fun hHeld => ?_)
          · exact keptS hB bx1 bx2
          clear hK K q0 q1 q2 q3 r0 r1 r2 r3
          try simp only [Act.put, List.setIfInBounds_toArray, List.set_cons_zero, List.set_cons_succ]
          obtain ⟨w_27, hw⟩ : ∃ x, x = ((((w_26.setCell ⟨c5, 0, none⟩ (.int .i64 za.kind)).setCell ⟨c5, 1, none⟩ (.int .i64 za.tok.1)).setCell ⟨c5, 2, none⟩ (.string za.tok.2)).setCell ⟨c5, 3, none⟩ (.slice A1 za.kids.length eA)) := ⟨_, rfl⟩
          rw [← hw] at hst hot hB hsz hHeld
          rw [← hw]
          have h5 := hst
          have h6 := (hot c6 (Ne.symm hcc)).trans h6
          have kA : KidsP (fun b => b ≠ c5 ∧ b ≠ c6) w_27 A1 za.kids := kA.kept (Nat.le_of_eq hsz.symm) (fun b hp _ => hot b hp.1) (fun b h _ => h)
          have kB : KidsP (fun b => b ≠ c5 ∧ b ≠ c6) w_27 B1 zb.kids := kB.kept (Nat.le_of_eq hsz.symm) (fun b hp _ => hot b hp.1) (fun b h _ => h)
          clear hw hst hot hsz
          refine wpAnyH_ready (rs := [7]) (by kernel_rfl) (by simp) ?_
          refine AllReadyH.cons (o := ⟨none, _, _, _, _, _⟩) rfl (fun K hK => ?_) AllReadyH.nil
          have q0 := Lib.cell_of_heap h6 0
          have q1 := Lib.cell_of_heap h6 1
          have q2 := Lib.cell_of_heap h6 2
          have q3 := Lib.cell_of_heap h6 3
          have r0 := frozen_block (j := 0) h6
          have r1 := frozen_block (j := 1) h6
          have r2 := frozen_block (j := 2) h6
          have r3 := frozen_block (j := 3) h6
          have hst := set4 (v0 := .int .i64 zb.kind) (v1 := .int .i64 zb.tok.1) (v2 := .string zb.tok.2) (v3 := .slice B1 zb.kids.length eB) h6
          have hsz : ((((w_27.setCell ⟨c6, 0, none⟩ (.int .i64 zb.kind)).setCell ⟨c6, 1, none⟩ (.int .i64 zb.tok.1)).setCell ⟨c6, 2, none⟩ (.string zb.tok.2)).setCell ⟨c6, 3, none⟩ (.slice B1 zb.kids.length eB)).heap.size = w_27.heap.size := size4
          have hB : Below w0.heap.size w0 ((((w_27.setCell ⟨c6, 0, none⟩ (.int .i64 zb.kind)).setCell ⟨c6, 1, none⟩ (.int .i64 zb.tok.1)).setCell ⟨c6, 2, none⟩ (.string zb.tok.2)).setCell ⟨c6, 3, none⟩ (.slice B1 zb.kids.length eB)) := below4 hB g6
          have hot : ∀ b, b ≠ c6 → ((((w_27.setCell ⟨c6, 0, none⟩ (.int .i64 zb.kind)).setCell ⟨c6, 1, none⟩ (.int .i64 zb.tok.1)).setCell ⟨c6, 2, none⟩ (.string zb.tok.2)).setCell ⟨c6, 3, none⟩ (.slice B1 zb.kids.length eB)).heap[b]? = w_27.heap[b]? := fun b hb => other4 hb
          go_simp
          refine hK.out _ _ ?_ (fun hHeld => ?_)
          · exact keptS hB bx1 bx2
          clear hK K q0 q1 q2 q3 r0 r1 r2 r3
          try simp only [Act.put, List.setIfInBounds_toArray, List.set_cons_zero, List.set_cons_succ]
          obtain ⟨w_28, hw⟩ : ∃ x, x = ((((w_27.setCell ⟨c6, 0, none⟩ (.int .i64 zb.kind)).setCell ⟨c6, 1, none⟩ (.int .i64 zb.tok.1)).setCell ⟨c6, 2, none⟩ (.string zb.tok.2)).setCell ⟨c6, 3, none⟩ (.slice B1 zb.kids.length eB)) := ⟨_, rfl⟩
          rw [← hw] at hst hot hB hsz hHeld
          rw [← hw]
          have h6 := hst
          have h5 := (hot c5 hcc).trans h5
          have kA : KidsP (fun b => b ≠ c5 ∧ b ≠ c6) w_28 A1 za.kids := kA.kept (Nat.le_of_eq hsz.symm) (fun b hp _ => hot b hp.2) (fun b h _ => h)
          have kB : KidsP (fun b => b ≠ c5 ∧ b ≠ c6) w_28 B1 zb.kids := kB.kept (Nat.le_of_eq hsz.symm) (fun b hp _ => hot b hp.2) (fun b h _ => h)
          clear hw hst hot hsz
          refine wpAnyH_done (by kernel_rfl) ?_ _
          go_wp2_with fail
          go_meet
          exact ⟨c5, c6, A1, eA, B1, eB, rfl, rfl, gA, gB, kA, kB, h5, h6, hcc, HB0.out.trans (hB.mono HB0.out.size)⟩
    · go_simp
      have hal : Below w_0.heap.size w_0 (w_0.alloc (.cells #[.int .i64 0, .int .i64 0, .string { data := #[] }, .slice none 0 0] 26)) := (Below.refl _ _).alloc (Nat.le_refl _) _
      refine hK.out _ _ ?_ (fun hHeld => ?_)
      · exact keptS (hB.trans (hal.mono hB.size)) bx1 bx2
      clear hK K
      try simp only [Act.put, List.setIfInBounds_toArray, List.set_cons_zero, List.set_cons_succ]
      obtain ⟨c5, hc⟩ : ∃ c, c = w_0.heap.size := ⟨_, rfl⟩
      obtain ⟨w_29, hw⟩ : ∃ x, x = w_0.alloc (.cells #[.int .i64 0, .int .i64 0, .string { data := #[] }, .slice none 0 0] 26) := ⟨_, rfl⟩
      rw [← hw] at hal
      have g5 : w0.heap.size ≤ c5 := by rw [hc]; exact hB.size
      have hB : Below w0.heap.size w0 w_29 := hB.trans (hal.mono hB.size)
      have h5 : w_29.heap[c5]? = some (.cells #[.int .i64 0, .int .i64 0, .string { data := #[] }, .slice none 0 0] 26 (0, 0)) := by rw [hw, hc]; exact heap_alloc_new _ _
      rw [← hw] at hHeld
      rw [← hw]
      rw [← hc]
      clear hw hc hal
      refine wpAnyH_ready (rs := [1, 5]) (by kernel_rfl) (by simp) ?_
      refine AllReadyH.cons (o := ⟨some 13, _, _, _, _, _⟩) rfl (fun K hK => ?_) (AllReadyH.cons (o := ⟨some 6, _, _, _, _, _⟩) rfl (fun K hK => ?_) AllReadyH.nil)
      · go_simp
        go_at_call 15
        with_reducible refine (HcutA.out _ hB).mono ?_
        rintro e w_30 ⟨vA, rfl, ⟨A1, eA, rfl, gA, kA⟩, hbC⟩
        have l5 : c5 < w_29.heap.size := (Array.getElem?_eq_some_iff.1 h5).1
        have kA : KidsP (fun b => b ≠ c5) w_30 A1 za.kids := kA.kept (Nat.le_refl _) (fun _ _ _ => rfl) (fun b hb _ => (fun e => by omega))
        have h5 := keepB h5 hbC
        have hB : Below w0.heap.size w0 w_30 := hB.trans (hbC.mono hB.size)
        refine hK.out _ _ ?_ (fun hHeld => ?_)
        · exact keptS hB bx1 bx2
        clear hK K hbC l5
        try simp only [Act.put, List.setIfInBounds_toArray, List.set_cons_zero, List.set_cons_succ]
        refine wpAnyH_ready (rs := [3, 5]) (by kernel_rfl) (by simp) ?_
        refine AllReadyH.cons (o := ⟨some 15, _, _, _, _, _⟩) rfl (fun K hK => ?_) (AllReadyH.cons (o := ⟨some 6, _, _, _, _, _⟩) rfl (fun K hK => ?_) AllReadyH.nil)
        · go_simp
          go_at_call 15
          with_reducible refine (HcutB.out _ hB).mono ?_
          rintro e w_31 ⟨vB, rfl, ⟨B1, eB, rfl, gB, kB⟩, hbC⟩
          have l5 : c5 < w_30.heap.size := (Array.getElem?_eq_some_iff.1 h5).1
          have kB : KidsP (fun b => b ≠ c5) w_31 B1 zb.kids := kB.kept (Nat.le_refl _) (fun _ _ _ => rfl) (fun b hb _ => (fun e => by omega))
          have h5 := keepB h5 hbC
          have kA : KidsP (fun b => b ≠ c5) w_31 A1 za.kids := kA.kept hbC.size (fun b _ hb => hbC.block b hb) (fun b h _ => h)
          have hB : Below w0.heap.size w0 w_31 := hB.trans (hbC.mono hB.size)
          refine hK.out _ _ ?_ (fun hHeld => ?_)
          · exact keptS hB bx1 bx2
          clear hK K hbC l5
          try simp only [Act.put, List.setIfInBounds_toArray, List.set_cons_zero, List.set_cons_succ]
          refine wpAnyH_ready (rs := [5]) (by kernel_rfl) (by simp) ?_
          refine AllReadyH.cons (o := ⟨some 6, _, _, _, _, _⟩) rfl (fun K hK => ?_) AllReadyH.nil
          go_simp
          have hal : Below w_31.heap.size w_31 (w_31.alloc (.cells #[.int .i64 0, .int .i64 0, .string { data := #[] }, .slice none 0 0] 26)) := (Below.refl _ _).alloc (Nat.le_refl _) _
          refine hK.out _ _ ?_ (fun hHeld => ?_)
          · exact keptS (hB.trans (hal.mono hB.size)) bx1 bx2
          clear hK K
          try simp only [Act.put, List.setIfInBounds_toArray, List.set_cons_zero, List.set_cons_succ]
          obtain ⟨c6, hc⟩ : ∃ c, c = w_31.heap.size := ⟨_, rfl⟩
          obtain ⟨w_32, hw⟩ : ∃ x, x = w_31.alloc (.cells #[.int .i64 0, .int .i64 0, .string { data := #[] }, .slice none 0 0] 26) := ⟨_, rfl⟩
          rw [← hw] at hal
          have g6 : w0.heap.size ≤ c6 := by rw [hc]; exact hB.size
          have hcc : c5 ≠ c6 := by have hlt : c5 < w_31.heap.size := (Array.getElem?_eq_some_iff.1 h5).1; omega
          have kA : KidsP (fun b => b ≠ c5 ∧ b ≠ c6) w_32 A1 za.kids := kA.kept hal.size (fun b _ hb => hal.block b hb) (fun b h hb => ⟨h, Nat.ne_of_lt (by rw [hc]; exact hb)⟩)
          have kB : KidsP (fun b => b ≠ c5 ∧ b ≠ c6) w_32 B1 zb.kids := kB.kept hal.size (fun b _ hb => hal.block b hb) (fun b h hb => ⟨h, Nat.ne_of_lt (by rw [hc]; exact hb)⟩)
          have h5 := keepB h5 hal
          have hB : Below w0.heap.size w0 w_32 := hB.trans (hal.mono hB.size)
          have h6 : w_32.heap[c6]? = some (.cells #[.int .i64 0, .int .i64 0, .string { data := #[] }, .slice none 0 0] 26 (0, 0)) := by rw [hw, hc]; exact heap_alloc_new _ _
          rw [← hw] at hHeld
          rw [← hw]
          rw [← hc]
          clear hw hc hal
          refine wpAnyH_ready (rs := [6]) (by kernel_rfl) (by simp) ?_
          refine AllReadyH.cons (o := ⟨none, _, _, _, _, _⟩) rfl (fun K hK => ?_) AllReadyH.nil
          have q0 := Lib.cell_of_heap h5 0
          have q1 := Lib.cell_of_heap h5 1
          have q2 := Lib.cell_of_heap h5 2
          have q3 := Lib.cell_of_heap h5 3
          have r0 := frozen_block (j := 0) h5
          have r1 := frozen_block (j := 1) h5
          have r2 := frozen_block (j := 2) h5
          have r3 := frozen_block (j := 3) h5
          have hst := set4 (v0 := .int .i64 za.kind) (v1 := .int .i64 za.tok.1) (v2 := .string za.tok.2) (v3 := .slice A1 za.kids.length eA) h5
          have hsz : ((((w_32.setCell ⟨c5, 0, none⟩ (.int .i64 za.kind)).setCell ⟨c5, 1, none⟩ (.int .i64 za.tok.1)).setCell ⟨c5, 2, none⟩ (.string za.tok.2)).setCell ⟨c5, 3, none⟩ (.slice A1 za.kids.length eA)).heap.size = w_32.heap.size := size4
          have hB : Below w0.heap.size w0 ((((w_32.setCell ⟨c5, 0, none⟩ (.int .i64 za.kind)).setCell ⟨c5, 1, none⟩ (.int .i64 za.tok.1)).setCell ⟨c5, 2, none⟩ (.string za.tok.2)).setCell ⟨c5, 3, none⟩ (.slice A1 za.kids.length eA)) := below4 hB g5
          have hot : ∀ b, b ≠ c5 → ((((w_32.setCell ⟨c5, 0, none⟩ (.int .i64 za.kind)).setCell ⟨c5, 1, none⟩ (.int .i64 za.tok.1)).setCell ⟨c5, 2, none⟩ (.string za.tok.2)).setCell ⟨c5, 3, none⟩ (.slice A1 za.kids.length eA)).heap[b]? = w_32.heap[b]? := fun b hb => other4 hb
          go_simp
          refine hK.out _ _ ?_ (fun hHeld => ?_)
          · exact keptS hB bx1 bx2
          clear hK K q0 q1 q2 q3 r0 r1 r2 r3
          try simp only [Act.put, List.setIfInBounds_toArray, List.set_cons_zero, List.set_cons_succ]
          obtain ⟨w_33, hw⟩ : ∃ x, x = ((((w_32.setCell ⟨c5, 0, none⟩ (.int .i64 za.kind)).setCell ⟨c5, 1, none⟩ (.int .i64 za.tok.1)).setCell ⟨c5, 2, none⟩ (.string za.tok.2)).setCell ⟨c5, 3, none⟩ (.slice A1 za.kids.length eA)) := ⟨_, rfl⟩
          rw [← hw] at hst hot hB hsz hHeld
          rw [← hw]
          have h5 := hst
          have h6 := (hot c6 (Ne.symm hcc)).trans h6
          have kA : KidsP (fun b => b ≠ c5 ∧ b ≠ c6) w_33 A1 za.kids := kA.kept (Nat.le_of_eq hsz.symm) (fun b hp _ => hot b hp.1) (fun b h _ => h)
          have kB : KidsP (fun b => b ≠ c5 ∧ b ≠ c6) w_33 B1 zb.kids := kB.kept (Nat.le_of_eq hsz.symm) (fun b hp _ => hot b hp.1) (fun b h _ => h)
          clear hw hst hot hsz
          refine wpAnyH_ready (rs := [7]) (by kernel_rfl) (by simp) ?_
          refine AllReadyH.cons (o := ⟨none, _, _, _, _, _⟩) rfl (fun K hK => ?_) AllReadyH.nil
          have q0 := Lib.cell_of_heap h6 0
          have q1 := Lib.cell_of_heap h6 1
          have q2 := Lib.cell_of_heap h6 2
          have q3 := Lib.cell_of_heap h6 3
          have r0 := frozen_block (j := 0) h6
          have r1 := frozen_block (j := 1) h6
          have r2 := frozen_block (j := 2) h6
          have r3 := frozen_block (j := 3) h6
          have hst := set4 (v0 := .int .i64 zb.kind) (v1 := .int .i64 zb.tok.1) (v2 := .string zb.tok.2) (v3 := .slice B1 zb.kids.length eB) h6
          have hsz : ((((w_33.setCell ⟨c6, 0, none⟩ (.int .i64 zb.kind)).setCell ⟨c6, 1, none⟩ (.int .i64 zb.tok.1)).setCell ⟨c6, 2, none⟩ (.string zb.tok.2)).setCell ⟨c6, 3, none⟩ (.slice B1 zb.kids.length eB)).heap.size = w_33.heap.size := size4
          have hB : Below w0.heap.size w0 ((((w_33.setCell ⟨c6, 0, none⟩ (.int .i64 zb.kind)).setCell ⟨c6, 1, none⟩ (.int .i64 zb.tok.1)).setCell ⟨c6, 2, none⟩ (.string zb.tok.2)).setCell ⟨c6, 3, none⟩ (.slice B1 zb.kids.length eB)) := below4 hB g6
          have hot : ∀ b, b ≠ c6 → ((((w_33.setCell ⟨c6, 0, none⟩ (.int .i64 zb.kind)).setCell ⟨c6, 1, none⟩ (.int .i64 zb.tok.1)).setCell ⟨c6, 2, none⟩ (.string zb.tok.2)).setCell ⟨c6, 3, none⟩ (.slice B1 zb.kids.length eB)).heap[b]? = w_33.heap[b]? := fun b hb => other4 hb
          go_simp
          refine hK.out _ _ ?_ (fun hHeld => ?_)
          · exact keptS hB bx1 bx2
          clear hK K q0 q1 q2 q3 r0 r1 r2 r3
          try simp only [Act.put, List.setIfInBounds_toArray, List.set_cons_zero, List.set_cons_succ]
          obtain ⟨w_34, hw⟩ : ∃ x, x = ((((w_33.setCell ⟨c6, 0, none⟩ (.int .i64 zb.kind)).setCell ⟨c6, 1, none⟩ (.int .i64 zb.tok.1)).setCell ⟨c6, 2, none⟩ (.string zb.tok.2)).setCell ⟨c6, 3, none⟩ (.slice B1 zb.kids.length eB)) := ⟨_, rfl⟩
          rw [← hw] at hst hot hB hsz hHeld
          rw [← hw]
          have h6 := hst
          have h5 := (hot c5 hcc).trans h5
          have kA : KidsP (fun b => b ≠ c5 ∧ b ≠ c6) w_34 A1 za.kids := kA.kept (Nat.le_of_eq hsz.symm) (fun b hp _ => hot b hp.2) (fun b h _ => h)
          have kB : KidsP (fun b => b ≠ c5 ∧ b ≠ c6) w_34 B1 zb.kids := kB.kept (Nat.le_of_eq hsz.symm) (fun b hp _ => hot b hp.2) (fun b h _ => h)
          clear hw hst hot hsz
          refine wpAnyH_done (by kernel_rfl) ?_ _
          go_wp2_with fail
          go_meet
          exact ⟨c5, c6, A1, eA, B1, eB, rfl, rfl, gA, gB, kA, kB, h5, h6, hcc, HB0.out.trans (hB.mono HB0.out.size)⟩
        · go_simp
          have hal : Below w_30.heap.size w_30 (w_30.alloc (.cells #[.int .i64 0, .int .i64 0, .string { data := #[] }, .slice none 0 0] 26)) := (Below.refl _ _).alloc (Nat.le_refl _) _
          refine hK.out _ _ ?_ (fun hHeld => ?_)
          · exact keptS (hB.trans (hal.mono hB.size)) bx1 bx2
          clear hK K
          try simp only [Act.put, List.setIfInBounds_toArray, List.set_cons_zero, List.set_cons_succ]
          obtain ⟨c6, hc⟩ : ∃ c, c = w_30.heap.size := ⟨_, rfl⟩
          obtain ⟨w_35, hw⟩ : ∃ x, x = w_30.alloc (.cells #[.int .i64 0, .int .i64 0, .string { data := #[] }, .slice none 0 0] 26) := ⟨_, rfl⟩
          rw [← hw] at hal
          have g6 : w0.heap.size ≤ c6 := by rw [hc]; exact hB.size
          have hcc : c5 ≠ c6 := by have hlt : c5 < w_30.heap.size := (Array.getElem?_eq_some_iff.1 h5).1; omega
          have kA : KidsP (fun b => b ≠ c5 ∧ b ≠ c6) w_35 A1 za.kids := kA.kept hal.size (fun b _ hb => hal.block b hb) (fun b h hb => ⟨h, Nat.ne_of_lt (by rw [hc]; exact hb)⟩)
          have h5 := keepB h5 hal
          have hB : Below w0.heap.size w0 w_35 := hB.trans (hal.mono hB.size)
          have h6 : w_35.heap[c6]? = some (.cells #[.int .i64 0, .int .i64 0, .string { data := #[] }, .slice none 0 0] 26 (0, 0)) := by rw [hw, hc]; exact heap_alloc_new _ _
          rw [← hw] at hHeld
          rw [← hw]
          rw [← hc]
          clear hw hc hal
          refine wpAnyH_ready (rs := [3]) (by kernel_rfl) (by simp) ?_
          refine AllReadyH.cons (o := ⟨some 15, _, _, _, _, _⟩) rfl (fun K hK => ?_) AllReadyH.nil
          go_simp
          go_at_call 15
          with_reducible refine (HcutB.out _ hB).mono ?_
          rintro e w_36 ⟨vB, rfl, ⟨B1, eB, rfl, gB, kB⟩, hbC⟩
          have l5 : c5 < w_35.heap.size := (Array.getElem?_eq_some_iff.1 h5).1
          have l6 : c6 < w_35.heap.size := (Array.getElem?_eq_some_iff.1 h6).1
          have kB : KidsP (fun b => b ≠ c5 ∧ b ≠ c6) w_36 B1 zb.kids := kB.kept (Nat.le_refl _) (fun _ _ _ => rfl) (fun b hb _ => ⟨fun e => by omega, fun e => by omega⟩)
          have h5 := keepB h5 hbC
          have h6 := keepB h6 hbC
          have kA : KidsP (fun b => b ≠ c5 ∧ b ≠ c6) w_36 A1 za.kids := kA.kept hbC.size (fun b _ hb => hbC.block b hb) (fun b h _ => h)
          have hB : Below w0.heap.size w0 w_36 := hB.trans (hbC.mono hB.size)
          refine hK.out _ _ ?_ (fun hHeld => ?_)
          · exact keptS hB bx1 bx2
          clear hK K hbC l5 l6
          try simp only [Act.put, List.setIfInBounds_toArray, List.set_cons_zero, List.set_cons_succ]
          refine wpAnyH_ready (rs := [6]) (by kernel_rfl) (by simp) ?_
          refine AllReadyH.cons (o := ⟨none, _, _, _, _, _⟩) rfl (fun K hK => ?_) AllReadyH.nil
          have q0 := Lib.cell_of_heap h5 0
          have q1 := Lib.cell_of_heap h5 1
          have q2 := Lib.cell_of_heap h5 2
          have q3 := Lib.cell_of_heap h5 3
          have r0 := frozen_block (j := 0) h5
          have r1 := frozen_block (j := 1) h5
          have r2 := frozen_block (j := 2) h5
          have r3 := frozen_block (j := 3) h5
          have hst := set4 (v0 := .int .i64 za.kind) (v1 := .int .i64 za.tok.1) (v2 := .string za.tok.2) (v3 := .slice A1 za.kids.length eA) h5
          have hsz : ((((w_36.setCell ⟨c5, 0, none⟩ (.int .i64 za.kind)).setCell ⟨c5, 1, none⟩ (.int .i64 za.tok.1)).setCell ⟨c5, 2, none⟩ (.string za.tok.2)).setCell ⟨c5, 3, none⟩ (.slice A1 za.kids.length eA)).heap.size = w_36.heap.size := size4
          have hB : Below w0.heap.size w0 ((((w_36.setCell ⟨c5, 0, none⟩ (.int .i64 za.kind)).setCell ⟨c5, 1, none⟩ (.int .i64 za.tok.1)).setCell ⟨c5, 2, none⟩ (.string za.tok.2)).setCell ⟨c5, 3, none⟩ (.slice A1 za.kids.length eA)) := below4 hB g5
          have hot : ∀ b, b ≠ c5 → ((((w_36.setCell ⟨c5, 0, none⟩ (.int .i64 za.kind)).setCell ⟨c5, 1, none⟩ (.int .i64 za.tok.1)).setCell ⟨c5, 2, none⟩ (.string za.tok.2)).setCell ⟨c5, 3, none⟩ (.slice A1 za.kids.length eA)).heap[b]? = w_36.heap[b]? := fun b hb => other4 hb
          go_simp
          refine hK.out _ _ ?_ (fun hHeld => ?_)
          · exact keptS hB bx1 bx2
          clear hK K q0 q1 q2 q3 r0 r1 r2 r3
          try simp only [Act.put, List.setIfInBounds_toArray, List.set_cons_zero, List.set_cons_succ]
          obtain ⟨w_37, hw⟩ : ∃ x, x = ((((w_36.setCell ⟨c5, 0, none⟩ (.int .i64 za.kind)).setCell ⟨c5, 1, none⟩ (.int .i64 za.tok.1)).setCell ⟨c5, 2, none⟩ (.string za.tok.2)).setCell ⟨c5, 3, none⟩ (.slice A1 za.kids.length eA)) := ⟨_, rfl⟩
          rw [← hw] at hst hot hB hsz hHeld
          rw [← hw]
          have h5 := hst
          have h6 := (hot c6 (Ne.symm hcc)).trans h6
          have kA : KidsP (fun b => b ≠ c5 ∧ b ≠ c6) w_37 A1 za.kids := kA.kept (Nat.le_of_eq hsz.symm) (fun b hp _ => hot b hp.1) (fun b h _ => h)
          have kB : KidsP (fun b => b ≠ c5 ∧ b ≠ c6) w_37 B1 zb.kids := kB.kept (Nat.le_of_eq hsz.symm) (fun b hp _ => hot b hp.1) (fun b h _ => h)
          clear hw hst hot hsz
          refine wpAnyH_ready (rs := [7]) (by kernel_rfl) (by simp) ?_
          refine AllReadyH.cons (o := ⟨none, _, _, _, _, _⟩) rfl (fun K hK => ?_) AllReadyH.nil
          have q0 := Lib.cell_of_heap h6 0
          have q1 := Lib.cell_of_heap h6 1
          have q2 := Lib.cell_of_heap h6 2
          have q3 := Lib.cell_of_heap h6 3
          have r0 := frozen_block (j := 0) h6
          have r1 := frozen_block (j := 1) h6
          have r2 := frozen_block (j := 2) h6
          have r3 := frozen_block (j := 3) h6
          have hst := set4 (v0 := .int .i64 zb.kind) (v1 := .int .i64 zb.tok.1) (v2 := .string zb.tok.2) (v3 := .slice B1 zb.kids.length eB) h6
          have hsz : ((((w_37.setCell ⟨c6, 0, none⟩ (.int .i64 zb.kind)).setCell ⟨c6, 1, none⟩ (.int .i64 zb.tok.1)).setCell ⟨c6, 2, none⟩ (.string zb.tok.2)).setCell ⟨c6, 3, none⟩ (.slice B1 zb.kids.length eB)).heap.size = w_37.heap.size := size4
          have hB : Below w0.heap.size w0 ((((w_37.setCell ⟨c6, 0, none⟩ (.int .i64 zb.kind)).setCell ⟨c6, 1, none⟩ (.int .i64 zb.tok.1)).setCell ⟨c6, 2, none⟩ (.string zb.tok.2)).setCell ⟨c6, 3, none⟩ (.slice B1 zb.kids.length eB)) := below4 hB g6
          have hot : ∀ b, b ≠ c6 → ((((w_37.setCell ⟨c6, 0, none⟩ (.int .i64 zb.kind)).setCell ⟨c6, 1, none⟩ (.int .i64 zb.tok.1)).setCell ⟨c6, 2, none⟩ (.string zb.tok.2)).setCell ⟨c6, 3, none⟩ (.slice B1 zb.kids.length eB)).heap[b]? = w_37.heap[b]? := fun b hb => other4 hb
          go_simp
          refine hK.out _ _ ?_ (fun hHeld => ?_)
          · exact keptS hB bx1 bx2
          clear hK K q0 q1 q2 q3 r0 r1 r2 r3
          try simp only [Act.put, List.setIfInBounds_toArray, List.set_cons_zero, List.set_cons_succ]
          obtain ⟨w_38, hw⟩ : ∃ x, x = ((((w_37.setCell ⟨c6, 0, none⟩ (.int .i64 zb.kind)).setCell ⟨c6, 1, none⟩ (.int .i64 zb.tok.1)).setCell ⟨c6, 2, none⟩ (.string zb.tok.2)).setCell ⟨c6, 3, none⟩ (.slice B1 zb.kids.length eB)) := ⟨_, rfl⟩
          rw [← hw] at hst hot hB hsz hHeld
          rw [← hw]
          have h6 := hst
          have h5 := (hot c5 hcc).trans h5
          have kA : KidsP (fun b => b ≠ c5 ∧ b ≠ c6) w_38 A1 za.kids := kA.kept (Nat.le_of_eq hsz.symm) (fun b hp _ => hot b hp.2) (fun b h _ => h)
          have kB : KidsP (fun b => b ≠ c5 ∧ b ≠ c6) w_38 B1 zb.kids := kB.kept (Nat.le_of_eq hsz.symm) (fun b hp _ => hot b hp.2) (fun b h _ => h)
          clear hw hst hot hsz
          refine wpAnyH_done (by kernel_rfl) ?_ _
          go_wp2_with fail
          go_meet
          exact ⟨c5, c6, A1, eA, B1, eB, rfl, rfl, gA, gB, kA, kB, h5, h6, hcc, HB0.out.trans (hB.mono HB0.out.size)⟩
      · go_simp
        have hal : Below w_29.heap.size w_29 (w_29.alloc (.cells #[.int .i64 0, .int .i64 0, .string { data := #[] }, .slice none 0 0] 26)) := (Below.refl _ _).alloc (Nat.le_refl _) _
        refine hK.out _ _ ?_ (fun hHeld => ?_)
        · exact keptS (hB.trans (hal.mono hB.size)) bx1 bx2
        clear hK K
        try simp only [Act.put, List.setIfInBounds_toArray, List.set_cons_zero, List.set_cons_succ]
        obtain ⟨c6, hc⟩ : ∃ c, c = w_29.heap.size := ⟨_, rfl⟩
        obtain ⟨w_39, hw⟩ : ∃ x, x = w_29.alloc (.cells #[.int .i64 0, .int .i64 0, .string { data := #[] }, .slice none 0 0] 26) := ⟨_, rfl⟩
        rw [← hw] at hal
        have g6 : w0.heap.size ≤ c6 := by rw [hc]; exact hB.size
        have hcc : c5 ≠ c6 := by have hlt : c5 < w_29.heap.size := (Array.getElem?_eq_some_iff.1 h5).1; omega
        have h5 := keepB h5 hal
        have hB : Below w0.heap.size w0 w_39 := hB.trans (hal.mono hB.size)
        have h6 : w_39.heap[c6]? = some (.cells #[.int .i64 0, .int .i64 0, .string { data := #[] }, .slice none 0 0] 26 (0, 0)) := by rw [hw, hc]; exact heap_alloc_new _ _
        rw [← hw] at hHeld
        rw [← hw]
        rw [← hc]
        clear hw hc hal
        refine wpAnyH_ready (rs := [1]) (by kernel_rfl) (by simp) ?_
        refine AllReadyH.cons (o := ⟨some 13, _, _, _, _, _⟩) rfl (fun K hK => ?_) AllReadyH.nil
        go_simp
        go_at_call 15
        with_reducible refine (HcutA.out _ hB).mono ?_
        rintro e w_40 ⟨vA, rfl, ⟨A1, eA, rfl, gA, kA⟩, hbC⟩
        have l5 : c5 < w_39.heap.size := (Array.getElem?_eq_some_iff.1 h5).1
        have l6 : c6 < w_39.heap.size := (Array.getElem?_eq_some_iff.1 h6).1
        have kA : KidsP (fun b => b ≠ c5 ∧ b ≠ c6) w_40 A1 za.kids := kA.kept (Nat.le_refl _) (fun _ _ _ => rfl) (fun b hb _ => ⟨fun e => by omega, fun e => by omega⟩)
        have h5 := keepB h5 hbC
        have h6 := keepB h6 hbC
        have hB : Below w0.heap.size w0 w_40 := hB.trans (hbC.mono hB.size)
        refine hK.out _ _ ?_ (fun hHeld => ?_)
        · exact keptS hB bx1 bx2
        clear hK K hbC l5 l6
        try simp only [Act.put, List.setIfInBounds_toArray, List.set_cons_zero, List.set_cons_succ]
        refine wpAnyH_ready (rs := [3]) (by kernel_rfl) (by simp) ?_
        refine AllReadyH.cons (o := ⟨some 15, _, _, _, _, _⟩) rfl (fun K hK => ?_) AllReadyH.nil
        go_simp
        go_at_call 15
        with_reducible refine (HcutB.out _ hB).mono ?_
        rintro e w_41 ⟨vB, rfl, ⟨B1, eB, rfl, gB, kB⟩, hbC⟩
        have l5 : c5 < w_40.heap.size := (Array.getElem?_eq_some_iff.1 h5).1
        have l6 : c6 < w_40.heap.size := (Array.getElem?_eq_some_iff.1 h6).1
        have kB : KidsP (fun b => b ≠ c5 ∧ b ≠ c6) w_41 B1 zb.kids := kB.kept (Nat.le_refl _) (fun _ _ _ => rfl) (fun b hb _ => ⟨fun e => by omega, fun e => by omega⟩)
        have h5 := keepB h5 hbC
        have h6 := keepB h6 hbC
        have kA : KidsP (fun b => b ≠ c5 ∧ b ≠ c6) w_41 A1 za.kids := kA.kept hbC.size (fun b _ hb => hbC.block b hb) (fun b h _ => h)
        have hB : Below w0.heap.size w0 w_41 := hB.trans (hbC.mono hB.size)
        refine hK.out _ _ ?_ (fun hHeld => ?_)
        · exact keptS hB bx1 bx2
        clear hK K hbC l5 l6
        try simp only [Act.put, List.setIfInBounds_toArray, List.set_cons_zero, List.set_cons_succ]
        refine wpAnyH_ready (rs := [6]) (by kernel_rfl) (by simp) ?_
        refine AllReadyH.cons (o := ⟨none, _, _, _, _, _⟩) rfl (fun K hK => ?_) AllReadyH.nil
        have q0 := Lib.cell_of_heap h5 0
        have q1 := Lib.cell_of_heap h5 1
        have q2 := Lib.cell_of_heap h5 2
        have q3 := Lib.cell_of_heap h5 3
        have r0 := frozen_block (j := 0) h5
        have r1 := frozen_block (j := 1) h5
        have r2 := frozen_block (j := 2) h5
        have r3 := frozen_block (j := 3) h5
        have hst := set4 (v0 := .int .i64 za.kind) (v1 := .int .i64 za.tok.1) (v2 := .string za.tok.2) (v3 := .slice A1 za.kids.length eA) h5
        have hsz : ((((w_41.setCell ⟨c5, 0, none⟩ (.int .i64 za.kind)).setCell ⟨c5, 1, none⟩ (.int .i64 za.tok.1)).setCell ⟨c5, 2, none⟩ (.string za.tok.2)).setCell ⟨c5, 3, none⟩ (.slice A1 za.kids.length eA)).heap.size = w_41.heap.size := size4
        have hB : Below w0.heap.size w0 ((((w_41.setCell ⟨c5, 0, none⟩ (.int .i64 za.kind)).setCell ⟨c5, 1, none⟩ (.int .i64 za.tok.1)).setCell ⟨c5, 2, none⟩ (.string za.tok.2)).setCell ⟨c5, 3, none⟩ (.slice A1 za.kids.length eA)) := below4 hB g5
        have hot : ∀ b, b ≠ c5 → ((((w_41.setCell ⟨c5, 0, none⟩ (.int .i64 za.kind)).setCell ⟨c5, 1, none⟩ (.int .i64 za.tok.1)).setCell ⟨c5, 2, none⟩ (.string za.tok.2)).setCell ⟨c5, 3, none⟩ (.slice A1 za.kids.length eA)).heap[b]? = w_41.heap[b]? := fun b hb => other4 hb
        go_simp
        refine hK.out _ _ ?_ (fun hHeld => ?_)
        · exact keptS hB bx1 bx2
        clear hK K q0 q1 q2 q3 r0 r1 r2 r3
        try simp only [Act.put, List.setIfInBounds_toArray, List.set_cons_zero, List.set_cons_succ]
        obtain ⟨w_42, hw⟩ : ∃ x, x = ((((w_41.setCell ⟨c5, 0, none⟩ (.int .i64 za.kind)).setCell ⟨c5, 1, none⟩ (.int .i64 za.tok.1)).setCell ⟨c5, 2, none⟩ (.string za.tok.2)).setCell ⟨c5, 3, none⟩ (.slice A1 za.kids.length eA)) := ⟨_, rfl⟩
        rw [← hw] at hst hot hB hsz hHeld
        rw [← hw]
        have h5 := hst
        have h6 := (hot c6 (Ne.symm hcc)).trans h6
        have kA : KidsP (fun b => b ≠ c5 ∧ b ≠ c6) w_42 A1 za.kids := kA.kept (Nat.le_of_eq hsz.symm) (fun b hp _ => hot b hp.1) (fun b h _ => h)
        have kB : KidsP (fun b => b ≠ c5 ∧ b ≠ c6) w_42 B1 zb.kids := kB.kept (Nat.le_of_eq hsz.symm) (fun b hp _ => hot b hp.1) (fun b h _ => h)
        clear hw hst hot hsz
        refine wpAnyH_ready (rs := [7]) (by kernel_rfl) (by simp) ?_
        refine AllReadyH.cons (o := ⟨none, _, _, _, _, _⟩) rfl (fun K hK => ?_) AllReadyH.nil
        have q0 := Lib.cell_of_heap h6 0
        have q1 := Lib.cell_of_heap h6 1
        have q2 := Lib.cell_of_heap h6 2
        have q3 := Lib.cell_of_heap h6 3
        have r0 := frozen_block (j := 0) h6
        have r1 := frozen_block (j := 1) h6
        have r2 := frozen_block (j := 2) h6
        have r3 := frozen_block (j := 3) h6
        have hst := set4 (v0 := .int .i64 zb.kind) (v1 := .int .i64 zb.tok.1) (v2 := .string zb.tok.2) (v3 := .slice B1 zb.kids.length eB) h6
        have hsz : ((((w_42.setCell ⟨c6, 0, none⟩ (.int .i64 zb.kind)).setCell ⟨c6, 1, none⟩ (.int .i64 zb.tok.1)).setCell ⟨c6, 2, none⟩ (.string zb.tok.2)).setCell ⟨c6, 3, none⟩ (.slice B1 zb.kids.length eB)).heap.size = w_42.heap.size := size4
        have hB : Below w0.heap.size w0 ((((w_42.setCell ⟨c6, 0, none⟩ (.int .i64 zb.kind)).setCell ⟨c6, 1, none⟩ (.int .i64 zb.tok.1)).setCell ⟨c6, 2, none⟩ (.string zb.tok.2)).setCell ⟨c6, 3, none⟩ (.slice B1 zb.kids.length eB)) := below4 hB g6
        have hot : ∀ b, b ≠ c6 → ((((w_42.setCell ⟨c6, 0, none⟩ (.int .i64 zb.kind)).setCell ⟨c6, 1, none⟩ (.int .i64 zb.tok.1)).setCell ⟨c6, 2, none⟩ (.string zb.tok.2)).setCell ⟨c6, 3, none⟩ (.slice B1 zb.kids.length eB)).heap[b]? = w_42.heap[b]? := fun b hb => other4 hb
        go_simp
        refine hK.out _ _ ?_ (fun hHeld => ?_)
        · exact keptS hB bx1 bx2
        clear hK K q0 q1 q2 q3 r0 r1 r2 r3
        try simp only [Act.put, List.setIfInBounds_toArray, List.set_cons_zero, List.set_cons_succ]
        obtain ⟨w_43, hw⟩ : ∃ x, x = ((((w_42.setCell ⟨c6, 0, none⟩ (.int .i64 zb.kind)).setCell ⟨c6, 1, none⟩ (.int .i64 zb.tok.1)).setCell ⟨c6, 2, none⟩ (.string zb.tok.2)).setCell ⟨c6, 3, none⟩ (.slice B1 zb.kids.length eB)) := ⟨_, rfl⟩
        rw [← hw] at hst hot hB hsz hHeld
        rw [← hw]
        have h6 := hst
        have h5 := (hot c5 hcc).trans h5
        have kA : KidsP (fun b => b ≠ c5 ∧ b ≠ c6) w_43 A1 za.kids := kA.kept (Nat.le_of_eq hsz.symm) (fun b hp _ => hot b hp.2) (fun b h _ => h)
        have kB : KidsP (fun b => b ≠ c5 ∧ b ≠ c6) w_43 B1 zb.kids := kB.kept (Nat.le_of_eq hsz.symm) (fun b hp _ => hot b hp.2) (fun b h _ => h)
        clear hw hst hot hsz
        refine wpAnyH_done (by kernel_rfl) ?_ _
        go_wp2_with fail
        go_meet
        exact ⟨c5, c6, A1, eA, B1, eB, rfl, rfl, gA, gB, kA, kB, h5, h6, hcc, HB0.out.trans (hB.mono HB0.out.size)⟩
    · go_simp
      have hal : Below w_0.heap.size w_0 (w_0.alloc (.cells #[.int .i64 0, .int .i64 0, .string { data := #[] }, .slice none 0 0] 26)) := (Below.refl _ _).alloc (Nat.le_refl _) _
      refine hK.out _ _ ?_ (fun hHeld => ?_)
      · exact keptS (hB.trans (hal.mono hB.size)) bx1 bx2
      clear hK K
      try simp only [Act.put, List.setIfInBounds_toArray, List.set_cons_zero, List.set_cons_succ]
      obtain ⟨c6, hc⟩ : ∃ c, c = w_0.heap.size := ⟨_, rfl⟩
      obtain ⟨w_44, hw⟩ : ∃ x, x = w_0.alloc (.cells #[.int .i64 0, .int .i64 0, .string { data := #[] }, .slice none 0 0] 26) := ⟨_, rfl⟩
      rw [← hw] at hal
      have g6 : w0.heap.size ≤ c6 := by rw [hc]; exact hB.size
      have hB : Below w0.heap.size w0 w_44 := hB.trans (hal.mono hB.size)
      have h6 : w_44.heap[c6]? = some (.cells #[.int .i64 0, .int .i64 0, .string { data := #[] }, .slice none 0 0] 26 (0, 0)) := by rw [hw, hc]; exact heap_alloc_new _ _
      rw [← hw] at hHeld
      rw [← hw]
      rw [← hc]
      clear hw hc hal
      refine wpAnyH_ready (rs := [1, 4]) (by kernel_rfl) (by simp) ?_
      refine AllReadyH.cons (o := ⟨some 13, _, _, _, _, _⟩) rfl (fun K hK => ?_) (AllReadyH.cons (o := ⟨some 5, _, _, _, _, _⟩) rfl (fun K hK => ?_) AllReadyH.nil)
      · go_simp
        go_at_call 15
        with_reducible refine (HcutA.out _ hB).mono ?_
        rintro e w_45 ⟨vA, rfl, ⟨A1, eA, rfl, gA, kA⟩, hbC⟩
        have l6 : c6 < w_44.heap.size := (Array.getElem?_eq_some_iff.1 h6).1
        have kA : KidsP (fun b => b ≠ c6) w_45 A1 za.kids := kA.kept (Nat.le_refl _) (fun _ _ _ => rfl) (fun b hb _ => (fun e => by omega))
        have h6 := keepB h6 hbC
        have hB : Below w0.heap.size w0 w_45 := hB.trans (hbC.mono hB.size)
        refine hK.out _ _ ?_ (fun hHeld => ?_)
        · exact keptS hB bx1 bx2
        clear hK K hbC l6
        try simp only [Act.put, List.setIfInBounds_toArray, List.set_cons_zero, List.set_cons_succ]
        refine wpAnyH_ready (rs := [3, 4]) (by kernel_rfl) (by simp) ?_
        refine AllReadyH.cons (o := ⟨some 15, _, _, _, _, _⟩) rfl (fun K hK => ?_) (AllReadyH.cons (o := ⟨some 5, _, _, _, _, _⟩) rfl (fun K hK => ?_) AllReadyH.nil)
        · go_simp
          go_at_call 15
          with_reducible refine (HcutB.out _ hB).mono ?_
          rintro e w_46 ⟨vB, rfl, ⟨B1, eB, rfl, gB, kB⟩, hbC⟩
          have l6 : c6 < w_45.heap.size := (Array.getElem?_eq_some_iff.1 h6).1
          have kB : KidsP (fun b => b ≠ c6) w_46 B1 zb.kids := kB.kept (Nat.le_refl _) (fun _ _ _ => rfl) (fun b hb _ => (fun e => by omega))
          have h6 := keepB h6 hbC
          have kA : KidsP (fun b => b ≠ c6) w_46 A1 za.kids := kA.kept hbC.size (fun b _ hb => hbC.block b hb) (fun b h _ => h)
          have hB : Below w0.heap.size w0 w_46 := hB.trans (hbC.mono hB.size)
          refine hK.out _ _ ?_ (fun hHeld => ?_)
          · exact keptS hB bx1 bx2
          clear hK K hbC l6
          try simp only [Act.put, List.setIfInBounds_toArray, List.set_cons_zero, List.set_cons_succ]
          refine wpAnyH_ready (rs := [4]) (by kernel_rfl) (by simp) ?_
          refine AllReadyH.cons (o := ⟨some 5, _, _, _, _, _⟩) rfl (fun K hK => ?_) AllReadyH.nil
          go_simp
          have hal : Below w_46.heap.size w_46 (w_46.alloc (.cells #[.int .i64 0, .int .i64 0, .string { data := #[] }, .slice none 0 0] 26)) := (Below.refl _ _).alloc (Nat.le_refl _) _
          refine hK.out _ _ ?_ (fun hHeld => ?_)
          · exact keptS (hB.trans (hal.mono hB.size)) bx1 bx2
          clear hK K
          try simp only [Act.put, List.setIfInBounds_toArray, List.set_cons_zero, List.set_cons_succ]
          obtain ⟨c5, hc⟩ : ∃ c, c = w_46.heap.size := ⟨_, rfl⟩
          obtain ⟨w_47, hw⟩ : ∃ x, x = w_46.alloc (.cells #[.int .i64 0, .int .i64 0, .string { data := #[] }, .slice none 0 0] 26) := ⟨_, rfl⟩
          rw [← hw] at hal
          have g5 : w0.heap.size ≤ c5 := by rw [hc]; exact hB.size
          have hcc : c5 ≠ c6 := by have hlt : c6 < w_46.heap.size := (Array.getElem?_eq_some_iff.1 h6).1; omega
          have kA : KidsP (fun b => b ≠ c5 ∧ b ≠ c6) w_47 A1 za.kids := kA.kept hal.size (fun b _ hb => hal.block b hb) (fun b h hb => ⟨Nat.ne_of_lt (by rw [hc]; exact hb), h⟩)
          have kB : KidsP (fun b => b ≠ c5 ∧ b ≠ c6) w_47 B1 zb.kids := kB.kept hal.size (fun b _ hb => hal.block b hb) (fun b h hb => ⟨Nat.ne_of_lt (by rw [hc]; exact hb), h⟩)
          have h6 := keepB h6 hal
          have hB : Below w0.heap.size w0 w_47 := hB.trans (hal.mono hB.size)
          have h5 : w_47.heap[c5]? = some (.cells #[.int .i64 0, .int .i64 0, .string { data := #[] }, .slice none 0 0] 26 (0, 0)) := by rw [hw, hc]; exact heap_alloc_new _ _
          rw [← hw] at hHeld
          rw [← hw]
          rw [← hc]
          clear hw hc hal
          refine wpAnyH_ready (rs := [6]) (by kernel_rfl) (by simp) ?_
          refine AllReadyH.cons (o := ⟨none, _, _, _, _, _⟩) rfl (fun K hK => ?_) AllReadyH.nil
          have q0 := Lib.cell_of_heap h5 0
          have q1 := Lib.cell_of_heap h5 1
          have q2 := Lib.cell_of_heap h5 2
          have q3 := Lib.cell_of_heap h5 3
          have r0 := frozen_block (j := 0) h5
          have r1 := frozen_block (j := 1) h5
          have r2 := frozen_block (j := 2) h5
          have r3 := frozen_block (j := 3) h5
          have hst := set4 (v0 := .int .i64 za.kind) (v1 := .int .i64 za.tok.1) (v2 := .string za.tok.2) (v3 := .slice A1 za.kids.length eA) h5
          have hsz : ((((w_47.setCell ⟨c5, 0, none⟩ (.int .i64 za.kind)).setCell ⟨c5, 1, none⟩ (.int .i64 za.tok.1)).setCell ⟨c5, 2, none⟩ (.string za.tok.2)).setCell ⟨c5, 3, none⟩ (.slice A1 za.kids.length eA)).heap.size = w_47.heap.size := size4
          have hB : Below w0.heap.size w0 ((((w_47.setCell ⟨c5, 0, none⟩ (.int .i64 za.kind)).setCell ⟨c5, 1, none⟩ (.int .i64 za.tok.1)).setCell ⟨c5, 2, none⟩ (.string za.tok.2)).setCell ⟨c5, 3, none⟩ (.slice A1 za.kids.length eA)) := below4 hB g5
          have hot : ∀ b, b ≠ c5 → ((((w_47.setCell ⟨c5, 0, none⟩ (.int .i64 za.kind)).setCell ⟨c5, 1, none⟩ (.int .i64 za.tok.1)).setCell ⟨c5, 2, none⟩ (.string za.tok.2)).setCell ⟨c5, 3, none⟩ (.slice A1 za.kids.length eA)).heap[b]? = w_47.heap[b]? := fun b hb => other4 hb
          go_simp
          refine hK.out _ _ ?_ (fun hHeld => ?_)
          · exact keptS hB bx1 bx2
          clear hK K q0 q1 q2 q3 r0 r1 r2 r3
          try simp only [Act.put, List.setIfInBounds_toArray, List.set_cons_zero, List.set_cons_succ]
          obtain ⟨w_48, hw⟩ : ∃ x, x = ((((w_47.setCell ⟨c5, 0, none⟩ (.int .i64 za.kind)).setCell ⟨c5, 1, none⟩ (.int .i64 za.tok.1)).setCell ⟨c5, 2, none⟩ (.string za.tok.2)).setCell ⟨c5, 3, none⟩ (.slice A1 za.kids.length eA)) := ⟨_, rfl⟩
          rw [← hw] at hst hot hB hsz hHeld
          rw [← hw]
          have h5 := hst
          have h6 := (hot c6 (Ne.symm hcc)).trans h6
          have kA : KidsP (fun b => b ≠ c5 ∧ b ≠ c6) w_48 A1 za.kids := kA.kept (Nat.le_of_eq hsz.symm) (fun b hp _ => hot b hp.1) (fun b h _ => h)
          have kB : KidsP (fun b => b ≠ c5 ∧ b ≠ c6) w_48 B1 zb.kids := kB.kept (Nat.le_of_eq hsz.symm) (fun b hp _ => hot b hp.1) (fun b h _ => h)
          clear hw hst hot hsz
          refine wpAnyH_ready (rs := [7]) (by kernel_rfl) (by simp) ?_
          refine AllReadyH.cons (o := ⟨none, _, _, _, _, _⟩) rfl (fun K hK => ?_) AllReadyH.nil
          have q0 := Lib.cell_of_heap h6 0
          have q1 := Lib.cell_of_heap h6 1
          have q2 := Lib.cell_of_heap h6 2
          have q3 := Lib.cell_of_heap h6 3
          have r0 := frozen_block (j := 0) h6
          have r1 := frozen_block (j := 1) h6
          have r2 := frozen_block (j := 2) h6
          have r3 := frozen_block (j := 3) h6
          have hst := set4 (v0 := .int .i64 zb.kind) (v1 := .int .i64 zb.tok.1) (v2 := .string zb.tok.2) (v3 := .slice B1 zb.kids.length eB) h6
          have hsz : ((((w_48.setCell ⟨c6, 0, none⟩ (.int .i64 zb.kind)).setCell ⟨c6, 1, none⟩ (.int .i64 zb.tok.1)).setCell ⟨c6, 2, none⟩ (.string zb.tok.2)).setCell ⟨c6, 3, none⟩ (.slice B1 zb.kids.length eB)).heap.size = w_48.heap.size := size4
          have hB : Below w0.heap.size w0 ((((w_48.setCell ⟨c6, 0, none⟩ (.int .i64 zb.kind)).setCell ⟨c6, 1, none⟩ (.int .i64 zb.tok.1)).setCell ⟨c6, 2, none⟩ (.string zb.tok.2)).setCell ⟨c6, 3, none⟩ (.slice B1 zb.kids.length eB)) := below4 hB g6
          have hot : ∀ b, b ≠ c6 → ((((w_48.setCell ⟨c6, 0, none⟩ (.int .i64 zb.kind)).setCell ⟨c6, 1, none⟩ (.int .i64 zb.tok.1)).setCell ⟨c6, 2, none⟩ (.string zb.tok.2)).setCell ⟨c6, 3, none⟩ (.slice B1 zb.kids.length eB)).heap[b]? = w_48.heap[b]? := fun b hb => other4 hb
          go_simp
          refine hK.out _ _ ?_ (fun hHeld => ?_)
          · exact keptS hB bx1 bx2
          clear hK K q0 q1 q2 q3 r0 r1 r2 r3
          try simp only [Act.put, List.setIfInBounds_toArray, List.set_cons_zero, List.set_cons_succ]
          obtain ⟨w_49, hw⟩ : ∃ x, x = ((((w_48.setCell ⟨c6, 0, none⟩ (.int .i64 zb.kind)).setCell ⟨c6, 1, none⟩ (.int .i64 zb.tok.1)).setCell ⟨c6, 2, none⟩ (.string zb.tok.2)).setCell ⟨c6, 3, none⟩ (.slice B1 zb.kids.length eB)) := ⟨_, rfl⟩
          rw [← hw] at hst hot hB hsz hHeld
          rw [← hw]
          have h6 := hst
          have h5 := (hot c5 hcc).trans h5
          have kA : KidsP (fun b => b ≠ c5 ∧ b ≠ c6) w_49 A1 za.kids := kA.kept (Nat.le_of_eq hsz.symm) (fun b hp _ => hot b hp.2) (fun b h _ => h)
          have kB : KidsP (fun b => b ≠ c5 ∧ b ≠ c6) w_49 B1 zb.kids := kB.kept (Nat.le_of_eq hsz.symm) (fun b hp _ => hot b hp.2) (fun b h _ => h)
          clear hw hst hot hsz
          refine wpAnyH_done (by kernel_rfl) ?_ _
          go_wp2_with fail
          go_meet
          exact ⟨c5, c6, A1, eA, B1, eB, rfl, rfl, gA, gB, kA, kB, h5, h6, hcc, HB0.out.trans (hB.mono HB0.out.size)⟩
        · go_simp
          have hal : Below w_45.heap.size w_45 (w_45.alloc (.cells #[.int .i64 0, .int .i64 0, .string { data := #[] }, .slice none 0 0] 26)) := (Below.refl _ _).alloc (Nat.le_refl _) _
          refine hK.out _ _ ?_ (fun hHeld => ?_)
          · exact keptS (hB.trans (hal.mono hB.size)) bx1 bx2
          clear hK K
          try simp only [Act.put, List.setIfInBounds_toArray, List.set_cons_zero, List.set_cons_succ]
          obtain ⟨c5, hc⟩ : ∃ c, c = w_45.heap.size := ⟨_, rfl⟩
          obtain ⟨w_50, hw⟩ : ∃ x, x = w_45.alloc (.cells #[.int .i64 0, .int .i64 0, .string { data := #[] }, .slice none 0 0] 26) := ⟨_, rfl⟩
          rw [← hw] at hal
          have g5 : w0.heap.size ≤ c5 := by rw [hc]; exact hB.size
          have hcc : c5 ≠ c6 := by have hlt : c6 < w_45.heap.size := (Array.getElem?_eq_some_iff.1 h6).1; omega
          have kA : KidsP (fun b => b ≠ c5 ∧ b ≠ c6) w_50 A1 za.kids := kA.kept hal.size (fun b _ hb => hal.block b hb) (fun b h hb => ⟨Nat.ne_of_lt (by rw [hc]; exact hb), h⟩)
          have h6 := keepB h6 hal
          have hB : Below w0.heap.size w0 w_50 := hB.trans (hal.mono hB.size)
          have h5 : w_50.heap[c5]? = some (.cells #[.int .i64 0, .int .i64 0, .string { data := #[] }, .slice none 0 0] 26 (0, 0)) := by rw [hw, hc]; exact heap_alloc_new _ _
          rw [← hw] at hHeld
          rw [← hw]
          rw [← hc]
          clear hw hc hal
          refine wpAnyH_ready (rs := [3]) (by kernel_rfl) (by simp) ?_
          refine AllReadyH.cons (o := ⟨some 15, _, _, _, _, _⟩) rfl (fun K hK => ?_) AllReadyH.nil
          go_simp
          go_at_call 15
          with_reducible refine (HcutB.out _ hB).mono ?_
          rintro e w_51 ⟨vB, rfl, ⟨B1, eB, rfl, gB, kB⟩, hbC⟩
          have l5 : c5 < w_50.heap.size := (Array.getElem?_eq_some_iff.1 h5).1
          have l6 : c6 < w_50.heap.size := (Array.getElem?_eq_some_iff.1 h6).1
          have kB : KidsP (fun b => b ≠ c5 ∧ b ≠ c6) w_51 B1 zb.kids := kB.kept (Nat.le_refl _) (fun _ _ _ => rfl) (fun b hb _ => ⟨fun e => by omega, fun e => by omega⟩)
          have h5 := keepB h5 hbC
          have h6 := keepB h6 hbC
          have kA : KidsP (fun b => b ≠ c5 ∧ b ≠ c6) w_51 A1 za.kids := kA.kept hbC.size (fun b _ hb => hbC.block b hb) (fun b h _ => h)
          have hB : Below w0.heap.size w0 w_51 := hB.trans (hbC.mono hB.size)
          refine hK.out _ _ ?_ (fun hHeld => ?_)
          · exact keptS hB bx1 bx2
          clear hK K hbC l5 l6
          try simp only [Act.put, List.setIfInBounds_toArray, List.set_cons_zero, List.set_cons_succ]
          refine wpAnyH_ready (rs := [6]) (by kernel_rfl) (by simp) ?_
          refine AllReadyH.cons (o := ⟨none, _, _, _, _, _⟩) rfl (fun K hK => ?_) AllReadyH.nil
          have q0 := Lib.cell_of_heap h5 0
          have q1 := Lib.cell_of_heap h5 1
          have q2 := Lib.cell_of_heap h5 2
          have q3 := Lib.cell_of_heap h5 3
          have r0 := frozen_block (j := 0) h5
          have r1 := frozen_block (j := 1) h5
          have r2 := frozen_block (j := 2) h5
          have r3 := frozen_block (j := 3) h5
          have hst := set4 (v0 := .int .i64 za.kind) (v1 := .int .i64 za.tok.1) (v2 := .string za.tok.2) (v3 := .slice A1 za.kids.length eA) h5
          have hsz : ((((w_51.setCell ⟨c5, 0, none⟩ (.int .i64 za.kind)).setCell ⟨c5, 1, none⟩ (.int .i64 za.tok.1)).setCell ⟨c5, 2, none⟩ (.string za.tok.2)).setCell ⟨c5, 3, none⟩ (.slice A1 za.kids.length eA)).heap.size = w_51.heap.size := size4
          have hB : Below w0.heap.size w0 ((((w_51.setCell ⟨c5, 0, none⟩ (.int .i64 za.kind)).setCell ⟨c5, 1, none⟩ (.int .i64 za.tok.1)).setCell ⟨c5, 2, none⟩ (.string za.tok.2)).setCell ⟨c5, 3, none⟩ (.slice A1 za.kids.length eA)) := below4 hB g5
          have hot : ∀ b, b ≠ c5 → ((((w_51.setCell ⟨c5, 0, none⟩ (.int .i64 za.kind)).setCell ⟨c5, 1, none⟩ (.int .i64 za.tok.1)).setCell ⟨c5, 2, none⟩ (.string za.tok.2)).setCell ⟨c5, 3, none⟩ (.slice A1 za.kids.length eA)).heap[b]? = w_51.heap[b]? := fun b hb => other4 hb
          go_simp
          refine hK.out _ _ ?_ (fun hHeld => ?_)
          · exact keptS hB bx1 bx2
          clear hK K q0 q1 q2 q3 r0 r1 r2 r3
          try simp only [Act.put, List.setIfInBounds_toArray, List.set_cons_zero, List.set_cons_succ]
          obtain ⟨w_52, hw⟩ : ∃ x, x = ((((w_51.setCell ⟨c5, 0, none⟩ (.int .i64 za.kind)).setCell ⟨c5, 1, none⟩ (.int .i64 za.tok.1)).setCell ⟨c5, 2, none⟩ (.string za.tok.2)).setCell ⟨c5, 3, none⟩ (.slice A1 za.kids.length eA)) := ⟨_, rfl⟩
          rw [← hw] at hst hot hB hsz hHeld
          rw [← hw]
          have h5 := hst
          have h6 := (hot c6 (Ne.symm hcc)).trans h6
          have kA : KidsP (fun b => b ≠ c5 ∧ b ≠ c6) w_52 A1 za.kids := kA.kept (Nat.le_of_eq hsz.symm) (fun b hp _ => hot b hp.1) (fun b h _ => h)
          have kB : KidsP (fun b => b ≠ c5 ∧ b ≠ c6) w_52 B1 zb.kids := kB.kept (Nat.le_of_eq hsz.symm) (fun b hp _ => hot b hp.1) (fun b h _ => h)
          clear hw hst hot hsz
          refine wpAnyH_ready (rs := [7]) (by kernel_rfl) (by simp) ?_
          refine AllReadyH.cons (o := ⟨none, _, _, _, _, _⟩) rfl (fun K hK => ?_) AllReadyH.nil
          have q0 := Lib.cell_of_heap h6 0
          have q1 := Lib.cell_of_heap h6 1
          have q2 := Lib.cell_of_heap h6 2
          have q3 := Lib.cell_of_heap h6 3
          have r0 := frozen_block (j := 0) h6
          have r1 := frozen_block (j := 1) h6
          have r2 := frozen_block (j := 2) h6
          have r3 := frozen_block (j := 3) h6
          have hst := set4 (v0 := .int .i64 zb.kind) (v1 := .int .i64 zb.tok.1) (v2 := .string zb.tok.2) (v3 := .slice B1 zb.kids.length eB) h6
          have hsz : ((((w_52.setCell ⟨c6, 0, none⟩ (.int .i64 zb.kind)).setCell ⟨c6, 1, none⟩ (.int .i64 zb.tok.1)).setCell ⟨c6, 2, none⟩ (.string zb.tok.2)).setCell ⟨c6, 3, none⟩ (.slice B1 zb.kids.length eB)).heap.size = w_52.heap.size := size4
          have hB : Below w0.heap.size w0 ((((w_52.setCell ⟨c6, 0, none⟩ (.int .i64 zb.kind)).setCell ⟨c6, 1, none⟩ (.int .i64 zb.tok.1)).setCell ⟨c6, 2, none⟩ (.string zb.tok.2)).setCell ⟨c6, 3, none⟩ (.slice B1 zb.kids.length eB)) := below4 hB g6
          have hot : ∀ b, b ≠ c6 → ((((w_52.setCell ⟨c6, 0, none⟩ (.int .i64 zb.kind)).setCell ⟨c6, 1, none⟩ (.int .i64 zb.tok.1)).setCell ⟨c6, 2, none⟩ (.string zb.tok.2)).setCell ⟨c6, 3, none⟩ (.slice B1 zb.kids.length eB)).heap[b]? = w_52.heap[b]? := fun b hb => other4 hb
          go_simp
          refine hK.out _ _ ?_ (fun hHeld => ?_)
          · exact keptS hB bx1 bx2
          clear hK K q0 q1 q2 q3 r0 r1 r2 r3
          try simp only [Act.put, List.setIfInBounds_toArray, List.set_cons_zero, List.set_cons_succ]
          obtain ⟨w_53, hw⟩ : ∃ x, x = ((((w_52.setCell ⟨c6, 0, none⟩ (.int .i64 zb.kind)).setCell ⟨c6, 1, none⟩ (.int .i64 zb.tok.1)).setCell ⟨c6, 2, none⟩ (.string zb.tok.2)).setCell ⟨c6, 3, none⟩ (.slice B1 zb.kids.length eB)) := ⟨_, rfl⟩
          rw [← hw] at hst hot hB hsz hHeld
          rw [← hw]
          have h6 := hst
          have h5 := (hot c5 hcc).trans h5
          have kA : KidsP (fun b => b ≠ c5 ∧ b ≠ c6) w_53 A1 za.kids := kA.kept (Nat.le_of_eq hsz.symm) (fun b hp _ => hot b hp.2) (fun b h _ => h)
          have kB : KidsP (fun b => b ≠ c5 ∧ b ≠ c6) w_53 B1 zb.kids := kB.kept (Nat.le_of_eq hsz.symm) (fun b hp _ => hot b hp.2) (fun b h _ => h)
          clear hw hst hot hsz
          refine wpAnyH_done (by kernel_rfl) ?_ _
          go_wp2_with fail
          go_meet
          exact ⟨c5, c6, A1, eA, B1, eB, rfl, rfl, gA, gB, kA, kB, h5, h6, hcc, HB0.out.trans (hB.mono HB0.out.size)⟩
      · go_simp
        have hal : Below w_44.heap.size w_44 (w_44.alloc (.cells #[.int .i64 0, .int .i64 0, .string { data := #[] }, .slice none 0 0] 26)) := (Below.refl _ _).alloc (Nat.le_refl _) _
        refine hK.out _ _ ?_ (fun hHeld => ?_)
        · exact keptS (hB.trans (hal.mono hB.size)) bx1 bx2
        clear hK K
        try simp only [Act.put, List.setIfInBounds_toArray, List.set_cons_zero, List.set_cons_succ]
        obtain ⟨c5, hc⟩ : ∃ c, c = w_44.heap.size := ⟨_, rfl⟩
        obtain ⟨w_54, hw⟩ : ∃ x, x = w_44.alloc (.cells #[.int .i64 0, .int .i64 0, .string { data := #[] }, .slice none 0 0] 26) := ⟨_, rfl⟩
        rw [← hw] at hal
        have g5 : w0.heap.size ≤ c5 := by rw [hc]; exact hB.size
        have hcc : c5 ≠ c6 := by have hlt : c6 < w_44.heap.size := (Array.getElem?_eq_some_iff.1 h6).1; omega
        have h6 := keepB h6 hal
        have hB : Below w0.heap.size w0 w_54 := hB.trans (hal.mono hB.size)
        have h5 : w_54.heap[c5]? = some (.cells #[.int .i64 0, .int .i64 0, .string { data := #[] }, .slice none 0 0] 26 (0, 0)) := by rw [hw, hc]; exact heap_alloc_new _ _
        rw [← hw] at hHeld
        rw [← hw]
        rw [← hc]
        clear hw hc hal
        refine wpAnyH_ready (rs := [1]) (by kernel_rfl) (by simp) ?_
        refine AllReadyH.cons (o := ⟨some 13, _, _, _, _, _⟩) rfl (fun K hK => ?_) AllReadyH.nil
        go_simp
        go_at_call 15
        with_reducible refine (HcutA.out _ hB).mono ?_
        rintro e w_55 ⟨vA, rfl, ⟨A1, eA, rfl, gA, kA⟩, hbC⟩
        have l5 : c5 < w_54.heap.size := (Array.getElem?_eq_some_iff.1 h5).1
        have l6 : c6 < w_54.heap.size := (Array.getElem?_eq_some_iff.1 h6).1
        have kA : KidsP (fun b => b ≠ c5 ∧ b ≠ c6) w_55 A1 za.kids := kA.kept (Nat.le_refl _) (fun _ _ _ => rfl) (fun b hb _ => ⟨fun e => by omega, fun e => by omega⟩)
        have h5 := keepB h5 hbC
        have h6 := keepB h6 hbC
        have hB : Below w0.heap.size w0 w_55 := hB.trans (hbC.mono hB.size)
        refine hK.out _ _ ?_ (fun hHeld => ?_)
        · exact keptS hB bx1 bx2
        clear hK K hbC l5 l6
        try simp only [Act.put, List.setIfInBounds_toArray, List.set_cons_zero, List.set_cons_succ]
        refine wpAnyH_ready (rs := [3]) (by kernel_rfl) (by simp) ?_
        refine AllReadyH.cons (o := ⟨some 15, _, _, _, _, _⟩) rfl (fun K hK => ?_) AllReadyH.nil
        go_simp
        go_at_call 15
        with_reducible refine (HcutB.out _ hB).mono ?_
        rintro e w_56 ⟨vB, rfl, ⟨B1, eB, rfl, gB, kB⟩, hbC⟩
        have l5 : c5 < w_55.heap.size := (Array.getElem?_eq_some_iff.1 h5).1
        have l6 : c6 < w_55.heap.size := (Array.getElem?_eq_some_iff.1 h6).1
        have kB : KidsP (fun b => b ≠ c5 ∧ b ≠ c6) w_56 B1 zb.kids := kB.kept (Nat.le_refl _) (fun _ _ _ => rfl) (fun b hb _ => ⟨fun e => by omega, fun e => by omega⟩)
        have h5 := keepB h5 hbC
        have h6 := keepB h6 hbC
        have kA : KidsP (fun b => b ≠ c5 ∧ b ≠ c6) w_56 A1 za.kids := kA.kept hbC.size (fun b _ hb => hbC.block b hb) (fun b h _ => h)
        have hB : Below w0.heap.size w0 w_56 := hB.trans (hbC.mono hB.size)
        refine hK.out _ _ ?_ (fun hHeld => ?_)
        · exact keptS hB bx1 bx2
        clear hK K hbC l5 l6
        try simp only [Act.put, List.setIfInBounds_toArray, List.set_cons_zero, List.set_cons_succ]
        refine wpAnyH_ready (rs := [6]) (by kernel_rfl) (by simp) ?_
        refine AllReadyH.cons (o := ⟨none, _, _, _, _, _⟩) rfl (fun K hK => ?_) AllReadyH.nil
        have q0 := Lib.cell_of_heap h5 0
        have q1 := Lib.cell_of_heap h5 1
        have q2 := Lib.cell_of_heap h5 2
        have q3 := Lib.cell_of_heap h5 3
        have r0 := frozen_block (j := 0) h5
        have r1 := frozen_block (j := 1) h5
        have r2 := frozen_block (j := 2) h5
        have r3 := frozen_block (j := 3) h5
        have hst := set4 (v0 := .int .i64 za.kind) (v1 := .int .i64 za.tok.1) (v2 := .string za.tok.2) (v3 := .slice A1 za.kids.length eA) h5
        have hsz : ((((w_56.setCell ⟨c5, 0, none⟩ (.int .i64 za.kind)).setCell ⟨c5, 1, none⟩ (.int .i64 za.tok.1)).setCell ⟨c5, 2, none⟩ (.string za.tok.2)).setCell ⟨c5, 3, none⟩ (.slice A1 za.kids.length eA)).heap.size = w_56.heap.size := size4
        have hB : Below w0.heap.size w0 ((((w_56.setCell ⟨c5, 0, none⟩ (.int .i64 za.kind)).setCell ⟨c5, 1, none⟩ (.int .i64 za.tok.1)).setCell ⟨c5, 2, none⟩ (.string za.tok.2)).setCell ⟨c5, 3, none⟩ (.slice A1 za.kids.length eA)) := below4 hB g5
        have hot : ∀ b, b ≠ c5 → ((((w_56.setCell ⟨c5, 0, none⟩ (.int .i64 za.kind)).setCell ⟨c5, 1, none⟩ (.int .i64 za.tok.1)).setCell ⟨c5, 2, none⟩ (.string za.tok.2)).setCell ⟨c5, 3, none⟩ (.slice A1 za.kids.length eA)).heap[b]? = w_56.heap[b]? := fun b hb => other4 hb
        go_simp
        refine hK.out _ _ ?_ (fun hHeld => ?_)
        · exact keptS hB bx1 bx2
        clear hK K q0 q1 q2 q3 r0 r1 r2 r3
        try simp only [Act.put, List.setIfInBounds_toArray, List.set_cons_zero, List.set_cons_succ]
        obtain ⟨w_57, hw⟩ : ∃ x, x = ((((w_56.setCell ⟨c5, 0, none⟩ (.int .i64 za.kind)).setCell ⟨c5, 1, none⟩ (.int .i64 za.tok.1)).setCell ⟨c5, 2, none⟩ (.string za.tok.2)).setCell ⟨c5, 3, none⟩ (.slice A1 za.kids.length eA)) := ⟨_, rfl⟩
        rw [← hw] at hst hot hB hsz hHeld
        rw [← hw]
        have h5 := hst
        have h6 := (hot c6 (Ne.symm hcc)).trans h6
        have kA : KidsP (fun b => b ≠ c5 ∧ b ≠ c6) w_57 A1 za.kids := kA.kept (Nat.le_of_eq hsz.symm) (fun b hp _ => hot b hp.1) (fun b h _ => h)
        have kB : KidsP (fun b => b ≠ c5 ∧ b ≠ c6) w_57 B1 zb.kids := kB.kept (Nat.le_of_eq hsz.symm) (fun b hp _ => hot b hp.1) (fun b h _ => h)
        clear hw hst hot hsz
        refine wpAnyH_ready (rs := [7]) (by kernel_rfl) (by simp) ?_
        refine AllReadyH.cons (o := ⟨none, _, _, _, _, _⟩) rfl (fun K hK => ?_) AllReadyH.nil
        have q0 := Lib.cell_of_heap h6 0
        have q1 := Lib.cell_of_heap h6 1
        have q2 := Lib.cell_of_heap h6 2
        have q3 := Lib.cell_of_heap h6 3
        have r0 := frozen_block (j := 0) h6
        have r1 := frozen_block (j := 1) h6
        have r2 := frozen_block (j := 2) h6
        have r3 := frozen_block (j := 3) h6
        have hst := set4 (v0 := .int .i64 zb.kind) (v1 := .int .i64 zb.tok.1) (v2 := .string zb.tok.2) (v3 := .slice B1 zb.kids.length eB) h6
        have hsz : ((((w_57.setCell ⟨c6, 0, none⟩ (.int .i64 zb.kind)).setCell ⟨c6, 1, none⟩ (.int .i64 zb.tok.1)).setCell ⟨c6, 2, none⟩ (.string zb.tok.2)).setCell ⟨c6, 3, none⟩ (.slice B1 zb.kids.length eB)).heap.size = w_57.heap.size := size4
        have hB : Below w0.heap.size w0 ((((w_57.setCell ⟨c6, 0, none⟩ (.int .i64 zb.kind)).setCell ⟨c6, 1, none⟩ (.int .i64 zb.tok.1)).setCell ⟨c6, 2, none⟩ (.string zb.tok.2)).setCell ⟨c6, 3, none⟩ (.slice B1 zb.kids.length eB)) := below4 hB g6
        have hot : ∀ b, b ≠ c6 → ((((w_57.setCell ⟨c6, 0, none⟩ (.int .i64 zb.kind)).setCell ⟨c6, 1, none⟩ (.int .i64 zb.tok.1)).setCell ⟨c6, 2, none⟩ (.string zb.tok.2)).setCell ⟨c6, 3, none⟩ (.slice B1 zb.kids.length eB)).heap[b]? = w_57.heap[b]? := fun b hb => other4 hb
        go_simp
        refine hK.out _ _ ?_ (fun hHeld => ?_)
        · exact keptS hB bx1 bx2
        clear hK K q0 q1 q2 q3 r0 r1 r2 r3
        try simp only [Act.put, List.setIfInBounds_toArray, List.set_cons_zero, List.set_cons_succ]
        obtain ⟨w_58, hw⟩ : ∃ x, x = ((((w_57.setCell ⟨c6, 0, none⟩ (.int .i64 zb.kind)).setCell ⟨c6, 1, none⟩ (.int .i64 zb.tok.1)).setCell ⟨c6, 2, none⟩ (.string zb.tok.2)).setCell ⟨c6, 3, none⟩ (.slice B1 zb.kids.length eB)) := ⟨_, rfl⟩
        rw [← hw] at hst hot hB hsz hHeld
        rw [← hw]
        have h6 := hst
        have h5 := (hot c5 hcc).trans h5
        have kA : KidsP (fun b => b ≠ c5 ∧ b ≠ c6) w_58 A1 za.kids := kA.kept (Nat.le_of_eq hsz.symm) (fun b hp _ => hot b hp.2) (fun b h _ => h)
        have kB : KidsP (fun b => b ≠ c5 ∧ b ≠ c6) w_58 B1 zb.kids := kB.kept (Nat.le_of_eq hsz.symm) (fun b hp _ => hot b hp.2) (fun b h _ => h)
        clear hw hst hot hsz
        refine wpAnyH_done (by kernel_rfl) ?_ _
        go_wp2_with fail
        go_meet
        exact ⟨c5, c6, A1, eA, B1, eB, rfl, rfl, gA, gB, kA, kB, h5, h6, hcc, HB0.out.trans (hB.mono HB0.out.size)⟩
  case rest =>
    obtain ⟨c5, c6, A1, eA, B1, eB, rfl, rfl, gA, gB, kA, kB, h5, h6, hcc, hB⟩ := hcut
    have KA := Lib.hid (show KeepZ za A1 eA c5 wc from ⟨h5, gA, kA.kept (Nat.le_refl _) (fun _ _ _ => rfl) (fun _ _ _ => trivial), HT.out.below hB⟩)
    have KB := Lib.hid (show KeepZ zb B1 eB c6 wc from ⟨h6, gB, kB.kept (Nat.le_refl _) (fun _ _ _ => rfl) (fun _ _ _ => trivial), HT.out.below hB⟩)
    have BW := Lib.hid hB
    have hda : deepN za < 60000 := Nat.lt_of_lt_of_le (atN_small_len za) (Nat.le_trans HZ.out.1.count (by decide))
    have HD := Lib.hid hda
    clear kA kB h5 h6 hB gA gB hda
    have hfa := fun W v (h : NodeV W v za) => RIsFormed_any za v W (Nat.le_trans HZ.out.1.count (by decide)) HZ.out.1.sm h
    have hfb := fun W v (h : NodeV W v zb) => RIsFormed_any zb v W (Nat.le_trans HZ.out.2.count (by decide)) HZ.out.2.sm h
    rw [rFormB_eq] at hfa hfb
    cases hqa : formedB za with
    | false =>
      have HE := Lib.hid (show formedB za = false ∨ formedB zb = false from Or.inl hqa)
      rw [hqa] at hfa
      clear hqa
      have HFA := Lib.hid hfa
      have HFB := Lib.hid hfb
      clear hfa hfb
      obtain ⟨q0, q1, q2, q3⟩ := cells_of_block KA.out.box
      obtain ⟨r0, r1, r2, r3⟩ := cells_of_block KB.out.box
      go_wp2_with fail
      refine (Changed_err za zb _ _ wc HZ.out.1.size HZ.out.2.size (Nat.lt_trans HD.out (by decide)) KA.out.tabs KA.out.node KB.out.node HE.out).mono ?_
      rintro e w3 ⟨rfl, hb3⟩
      have KA3 := Lib.hid (KA.out.below hb3)
      have KB3 := Lib.hid (KB.out.below hb3)
      have BW3 := Lib.hid (BW.out.trans (hb3.mono BW.out.size))
      clear hb3 q0 q1 q2 q3 r0 r1 r2 r3
      have hs1 : ∀ W, Below w3.heap.size w3 W → Calls Tryd.prog 32 #[(.agg #[.int .i64 za.kind, .int .i64 za.tok.1, .string za.tok.2, .slice A1 za.kids.length eA]), (.agg #[.int .i64 zb.kind, .int .i64 zb.tok.1, .string zb.tok.2, .slice B1 zb.kids.length eB])] W fun e w' => e = .returned (.bool (sameS za zb)) ∧ Below W.heap.size W w' := fun W h => by have hh := Same_node za zb _ _ W (smallN_of _ za HZ.out.1.size) (KA3.out.below h).node (KB3.out.below h).node; rw [sameT_S (depthN_of _ za (Nat.lt_trans HD.out (by decide)))] at hh; exact hh
      have hs2 : ∀ W, Below w3.heap.size w3 W → Calls Tryd.prog 33 #[(.agg #[.int .i64 za.kind, .int .i64 za.tok.1, .string za.tok.2, .slice A1 za.kids.length eA]), (.agg #[.int .i64 zb.kind, .int .i64 zb.tok.1, .string zb.tok.2, .slice B1 zb.kids.length eB])] W fun e w' => e = .returned (.bool (sameS za zb)) ∧ Below W.heap.size W w' := fun W h => RSame_S za zb _ _ W HZ.out.1.size (KA3.out.below h).node (KB3.out.below h).node
      have hs3 : ∀ W, Below w3.heap.size w3 W → Calls Tryd.prog 32 #[(.agg #[.int .i64 za.kind, .int .i64 za.tok.1, .string za.tok.2, .slice A1 za.kids.length eA]), (.agg #[.int .i64 za.kind, .int .i64 za.tok.1, .string za.tok.2, .slice A1 za.kids.length eA])] W fun e w' => e = .returned (.bool true) ∧ Below W.heap.size W w' := fun W h => by have hh := Same_node za za _ _ W (smallN_of _ za HZ.out.1.size) (KA3.out.below h).node (KA3.out.below h).node; rw [sameT_refl _ _ (depthN_of _ za (Nat.lt_trans HD.out (by decide)))] at hh; exact hh
      generalize sameS za zb = sq at hs1 hs2
      have HS1 := Lib.hid hs1
      have HS2 := Lib.hid hs2
      have HS3 := Lib.hid hs3
      clear hs1 hs2 hs3
      have bx1 := KA3.out.box
      have bx2 := KB3.out.box
      go_upto_region 3 with fail
      refine wp_region_held_drew (S := (fun W => Below w3.heap.size w3 W ∧ (W.cell? ⟨c5, 0, none⟩ = some (.int .i64 za.kind) ∧ W.cell? ⟨c5, 1, none⟩ = some (.int .i64 za.tok.1) ∧ W.cell? ⟨c5, 2, none⟩ = some (.string za.tok.2) ∧ W.cell? ⟨c5, 3, none⟩ = some (.slice A1 za.kids.length eA)) ∧ (W.cell? ⟨c6, 0, none⟩ = some (.int .i64 zb.kind) ∧ W.cell? ⟨c6, 1, none⟩ = some (.int .i64 zb.tok.1) ∧ W.cell? ⟨c6, 2, none⟩ = some (.string zb.tok.2) ∧ W.cell? ⟨c6, 3, none⟩ = some (.slice B1 zb.kids.length eB)))) (by kernel_rfl) ?_ (fun hHeld => ?_)
      · exact keptS (Below.drew (Below.refl _ _)) bx1 bx2
      have hB : Below w3.heap.size w3 w3.drew := Below.drew (Below.refl _ _)
      refine wpAnyH_take (i := 0) (oi := ⟨some 23, _, _, _, _, _⟩) (v := ?_) rfl (by kernel_rfl) (by kernel_rfl) (by kernel_rfl) (fun _ _ _ h => h) (Or.inl ⟨by rfl, ?hy⟩) (by assumption) ?_
      case hy => (intro w hSw; (try dsimp only at hSw); go_simp; (try with_reducible rfl))
      try simp only [Act.put, List.setIfInBounds_toArray, List.set_cons_zero, List.set_cons_succ]
      try simp only [bne_self_eq_false, Bool.not_true]
      refine wpAnyH_take (i := 1) (oi := ⟨some 24, _, _, _, _, _⟩) (v := ?_) rfl (by kernel_rfl) (by kernel_rfl) (by kernel_rfl) (fun _ _ _ h => h) (Or.inl ⟨by rfl, ?hy⟩) (by assumption) ?_
      case hy => (intro w hSw; (try dsimp only at hSw); go_simp; (try with_reducible rfl))
      try simp only [Act.put, List.setIfInBounds_toArray, List.set_cons_zero, List.set_cons_succ]
      try simp only [bne_self_eq_false, Bool.not_true]
      refine wpAnyH_take (i := 3) (oi := ⟨some 26, _, _, _, _, _⟩) (v := ?_) rfl (by kernel_rfl) (by kernel_rfl) (by kernel_rfl) (fun _ _ _ h => h) (Or.inl ⟨by rfl, ?hy⟩) (by assumption) ?_
      case hy => (intro w hSw; (try dsimp only at hSw); go_simp; (try with_reducible rfl))
      try simp only [Act.put, List.setIfInBounds_toArray, List.set_cons_zero, List.set_cons_succ]
      try simp only [bne_self_eq_false, Bool.not_true]
      refine wpAnyH_take (i := 4) (oi := ⟨some 27, _, _, _, _, _⟩) (v := ?_) rfl (by kernel_rfl) (by kernel_rfl) (by kernel_rfl) (fun _ _ _ h => h) (Or.inl ⟨by rfl, ?hy⟩) (by assumption) ?_
      case hy => (intro w hSw; (try dsimp only at hSw); go_simp; (try with_reducible rfl))
      try simp only [Act.put, List.setIfInBounds_toArray, List.set_cons_zero, List.set_cons_succ]
      try simp only [bne_self_eq_false, Bool.not_true]
      refine wpAnyH_ready (rs := [2]) (by kernel_rfl) (by simp) ?_
      refine AllReadyH.cons (o := ⟨some 25, _, _, _, _, _⟩) rfl (fun K hK => ?_) AllReadyH.nil
      go_simp
      go_at_call 32
      with_reducible refine (HS1.out _ hB).mono ?_
      rintro e wA ⟨rfl, hbC⟩
      have hB : Below w3.heap.size w3 wA := hB.trans (hbC.mono hB.size)
      refine hK.out _ _ ?_ (fun hHeld => ?_)
      · exact keptS hB bx1 bx2
      clear hK K hbC
      try simp only [Act.put, List.setIfInBounds_toArray, List.set_cons_zero, List.set_cons_succ]
      refine wpAnyH_ready (rs := [5]) (by kernel_rfl) (by simp) ?_
      refine AllReadyH.cons (o := ⟨some 28, _, _, _, _, _⟩) rfl (fun K hK => ?_) AllReadyH.nil
      go_simp
      go_at_call 33
      with_reducible refine (HS2.out _ hB).mono ?_
      rintro e wB ⟨rfl, hbC⟩
      have hB : Below w3.heap.size w3 wB := hB.trans (hbC.mono hB.size)
      refine hK.out _ _ ?_ (fun hHeld => ?_)
      · exact keptS hB bx1 bx2
      clear hK K hbC
      try simp only [Act.put, List.setIfInBounds_toArray, List.set_cons_zero, List.set_cons_succ]
      refine wpAnyH_take (i := 6) (oi := ⟨some 29, _, _, _, _, _⟩) (v := ?_) rfl (by kernel_rfl) (by kernel_rfl) (by kernel_rfl) (fun _ _ _ h => h) (Or.inl ⟨by rfl, ?hy⟩) (by assumption) ?_
      case hy => (intro w hSw; (try dsimp only at hSw); go_simp; (try with_reducible rfl))
      try simp only [Act.put, List.setIfInBounds_toArray, List.set_cons_zero, List.set_cons_succ]
      try simp only [bne_self_eq_false, Bool.not_true]
      refine wpAnyH_take (i := 7) (oi := ⟨some 30, _, _, _, _, _⟩) (v := ?_) rfl (by kernel_rfl) (by kernel_rfl) (by kernel_rfl) (fun _ _ _ h => h) (Or.inl ⟨by rfl, ?hy⟩) (by assumption) ?_
      case hy => (intro w hSw; (try dsimp only at hSw); go_simp; (try with_reducible rfl))
      try simp only [Act.put, List.setIfInBounds_toArray, List.set_cons_zero, List.set_cons_succ]
      try simp only [bne_self_eq_false, Bool.not_true]
      refine wpAnyH_take (i := 8) (oi := ⟨some 31, _, _, _, _, _⟩) (v := ?_) rfl (by kernel_rfl) (by kernel_rfl) (by kernel_rfl) (fun _ _ _ h => h) (Or.inl ⟨by rfl, ?hy⟩) (by assumption) ?_
      case hy => (intro w hSw; (try dsimp only at hSw); go_simp; (try with_reducible rfl))
      try simp only [Act.put, List.setIfInBounds_toArray, List.set_cons_zero, List.set_cons_succ]
      try simp only [bne_self_eq_false, Bool.not_true]
      refine wpAnyH_take (i := 9) (oi := ⟨some 32, _, _, _, _, _⟩) (v := ?_) rfl (by kernel_rfl) (by kernel_rfl) (by kernel_rfl) (fun _ _ _ h => h) (Or.inl ⟨by rfl, ?hy⟩) (by assumption) ?_
      case hy => (intro w hSw; (try dsimp only at hSw); go_simp; (try with_reducible rfl))
      try simp only [Act.put, List.setIfInBounds_toArray, List.set_cons_zero, List.set_cons_succ]
      try simp only [bne_self_eq_false, Bool.not_true]
      refine wpAnyH_ready (rs := [10]) (by kernel_rfl) (by simp) ?_
      refine AllReadyH.cons (o := ⟨some 33, _, _, _, _, _⟩) rfl (fun K hK => ?_) AllReadyH.nil
      go_simp
      go_at_call 32
      with_reducible refine (HS3.out _ hB).mono ?_
      rintro e wC ⟨rfl, hbC⟩
      have hB : Below w3.heap.size w3 wC := hB.trans (hbC.mono hB.size)
      refine hK.out _ _ ?_ (fun hHeld => ?_)
      · exact keptS hB bx1 bx2
      clear hK K hbC
      try simp only [Act.put, List.setIfInBounds_toArray, List.set_cons_zero, List.set_cons_succ]
      refine wpAnyH_take (i := 11) (oi := ⟨some 34, _, _, _, _, _⟩) (v := ?_) rfl (by kernel_rfl) (by kernel_rfl) (by kernel_rfl) (fun _ _ _ h => h) (Or.inl ⟨by rfl, ?hy⟩) (by assumption) ?_
      case hy => (intro w hSw; (try dsimp only at hSw); go_simp; (try with_reducible rfl))
      try simp only [Act.put, List.setIfInBounds_toArray, List.set_cons_zero, List.set_cons_succ]
      try simp only [bne_self_eq_false, Bool.not_true]
      refine wpAnyH_take (i := 12) (oi := ⟨some 35, _, _, _, _, _⟩) (v := ?_) rfl (by kernel_rfl) (by kernel_rfl) (by kernel_rfl) (fun _ _ _ h => h) (Or.inl ⟨by rfl, ?hy⟩) (by assumption) ?_
      case hy => (intro w hSw; (try dsimp only at hSw); go_simp; (try with_reducible rfl))
      try simp only [Act.put, List.setIfInBounds_toArray, List.set_cons_zero, List.set_cons_succ]
      try simp only [bne_self_eq_false, Bool.not_true]
      refine wpAnyH_done (by kernel_rfl) ?_ _
      have KAC := Lib.hid (KA3.out.below hB)
      have KBC := Lib.hid (KB3.out.below hB)
      have BWC := Lib.hid (BW3.out.trans (hB.mono BW3.out.size))
      clear hB hHeld bx1 bx2
      obtain ⟨q0, q1, q2, q3⟩ := cells_of_block KAC.out.box
      obtain ⟨r0, r1, r2, r3⟩ := cells_of_block KBC.out.box
      go_wp2_with fail
      refine (HFA.out _ _ KAC.out.node).mono ?_
      rintro e wD ⟨rfl, hb⟩
      have KAD := Lib.hid (KAC.out.below hb)
      have KBD := Lib.hid (KBC.out.below hb)
      have BWD := Lib.hid (BWC.out.trans (hb.mono BWC.out.size))
      clear hb q0 q1 q2 q3 r0 r1 r2 r3
      go_wp2_with fail
      refine (alive5_any wD KAD.out.tabs).mono ?_
      rintro e wZ ⟨rfl, hb⟩
      have BL := Lib.hid (BWD.out.trans (hb.mono BWD.out.size))
      clear hb
      go_wp2_with fail
      go_ret
      exact ⟨rfl, BL.out⟩
    | true =>
      have hpa : partsN za = true := by
        have := hqa
        unfold formedB at this
        simp only [Bool.and_eq_true] at this
        exact this.1.1
      cases hqb : formedB zb with
      | false =>
        have HE := Lib.hid (show formedB za = false ∨ formedB zb = false from Or.inr hqb)
        rw [hqa] at hfa
        rw [hqb] at hfb
        clear hqa hqb hpa
        have HFA := Lib.hid hfa
        have HFB := Lib.hid hfb
        clear hfa hfb
        obtain ⟨q0, q1, q2, q3⟩ := cells_of_block KA.out.box
        obtain ⟨r0, r1, r2, r3⟩ := cells_of_block KB.out.box
        go_wp2_with fail
        refine (Changed_err za zb _ _ wc HZ.out.1.size HZ.out.2.size (Nat.lt_trans HD.out (by decide)) KA.out.tabs KA.out.node KB.out.node HE.out).mono ?_
        rintro e w3 ⟨rfl, hb3⟩
        have KA3 := Lib.hid (KA.out.below hb3)
        have KB3 := Lib.hid (KB.out.below hb3)
        have BW3 := Lib.hid (BW.out.trans (hb3.mono BW.out.size))
        clear hb3 q0 q1 q2 q3 r0 r1 r2 r3
        have hs1 : ∀ W, Below w3.heap.size w3 W → Calls Tryd.prog 32 #[(.agg #[.int .i64 za.kind, .int .i64 za.tok.1, .string za.tok.2, .slice A1 za.kids.length eA]), (.agg #[.int .i64 zb.kind, .int .i64 zb.tok.1, .string zb.tok.2, .slice B1 zb.kids.length eB])] W fun e w' => e = .returned (.bool (sameS za zb)) ∧ Below W.heap.size W w' := fun W h => by have hh := Same_node za zb _ _ W (smallN_of _ za HZ.out.1.size) (KA3.out.below h).node (KB3.out.below h).node; rw [sameT_S (depthN_of _ za (Nat.lt_trans HD.out (by decide)))] at hh; exact hh
        have hs2 : ∀ W, Below w3.heap.size w3 W → Calls Tryd.prog 33 #[(.agg #[.int .i64 za.kind, .int .i64 za.tok.1, .string za.tok.2, .slice A1 za.kids.length eA]), (.agg #[.int .i64 zb.kind, .int .i64 zb.tok.1, .string zb.tok.2, .slice B1 zb.kids.length eB])] W fun e w' => e = .returned (.bool (sameS za zb)) ∧ Below W.heap.size W w' := fun W h => RSame_S za zb _ _ W HZ.out.1.size (KA3.out.below h).node (KB3.out.below h).node
        have hs3 : ∀ W, Below w3.heap.size w3 W → Calls Tryd.prog 32 #[(.agg #[.int .i64 za.kind, .int .i64 za.tok.1, .string za.tok.2, .slice A1 za.kids.length eA]), (.agg #[.int .i64 za.kind, .int .i64 za.tok.1, .string za.tok.2, .slice A1 za.kids.length eA])] W fun e w' => e = .returned (.bool true) ∧ Below W.heap.size W w' := fun W h => by have hh := Same_node za za _ _ W (smallN_of _ za HZ.out.1.size) (KA3.out.below h).node (KA3.out.below h).node; rw [sameT_refl _ _ (depthN_of _ za (Nat.lt_trans HD.out (by decide)))] at hh; exact hh
        generalize sameS za zb = sq at hs1 hs2
        have HS1 := Lib.hid hs1
        have HS2 := Lib.hid hs2
        have HS3 := Lib.hid hs3
        clear hs1 hs2 hs3
        have bx1 := KA3.out.box
        have bx2 := KB3.out.box
        go_upto_region 3 with fail
        refine wp_region_held_drew (S := (fun W => Below w3.heap.size w3 W ∧ (W.cell? ⟨c5, 0, none⟩ = some (.int .i64 za.kind) ∧ W.cell? ⟨c5, 1, none⟩ = some (.int .i64 za.tok.1) ∧ W.cell? ⟨c5, 2, none⟩ = some (.string za.tok.2) ∧ W.cell? ⟨c5, 3, none⟩ = some (.slice A1 za.kids.length eA)) ∧ (W.cell? ⟨c6, 0, none⟩ = some (.int .i64 zb.kind) ∧ W.cell? ⟨c6, 1, none⟩ = some (.int .i64 zb.tok.1) ∧ W.cell? ⟨c6, 2, none⟩ = some (.string zb.tok.2) ∧ W.cell? ⟨c6, 3, none⟩ = some (.slice B1 zb.kids.length eB)))) (by kernel_rfl) ?_ (fun hHeld => ?_)
        · exact keptS (Below.drew (Below.refl _ _)) bx1 bx2
        have hB : Below w3.heap.size w3 w3.drew := Below.drew (Below.refl _ _)
        refine wpAnyH_take (i := 0) (oi := ⟨some 23, _, _, _, _, _⟩) (v := ?_) rfl (by kernel_rfl) (by kernel_rfl) (by kernel_rfl) (fun _ _ _ h => h) (Or.inl ⟨by rfl, ?hy⟩) (by assumption) ?_
        case hy => (intro w hSw; (try dsimp only at hSw); go_simp; (try with_reducible rfl))
        try simp only [Act.put, List.setIfInBounds_toArray, List.set_cons_zero, List.set_cons_succ]
        try simp only [bne_self_eq_false, Bool.not_true]
        refine wpAnyH_take (i := 1) (oi := ⟨some 24, _, _, _, _, _⟩) (v := ?_) rfl (by kernel_rfl) (by kernel_rfl) (by kernel_rfl) (fun _ _ _ h => h) (Or.inl ⟨by rfl, ?hy⟩) (by assumption) ?_
        case hy => (intro w hSw; (try dsimp only at hSw); go_simp; (try with_reducible rfl))
        try simp only [Act.put, List.setIfInBounds_toArray, List.set_cons_zero, List.set_cons_succ]
        try simp only [bne_self_eq_false, Bool.not_true]
        refine wpAnyH_take (i := 3) (oi := ⟨some 26, _, _, _, _, _⟩) (v := ?_) rfl (by kernel_rfl) (by kernel_rfl) (by kernel_rfl) (fun _ _ _ h => h) (Or.inl ⟨by rfl, ?hy⟩) (by assumption) ?_
        case hy => (intro w hSw; (try dsimp only at hSw); go_simp; (try with_reducible rfl))
        try simp only [Act.put, List.setIfInBounds_toArray, List.set_cons_zero, List.set_cons_succ]
        try simp only [bne_self_eq_false, Bool.not_true]
        refine wpAnyH_take (i := 4) (oi := ⟨some 27, _, _, _, _, _⟩) (v := ?_) rfl (by kernel_rfl) (by kernel_rfl) (by kernel_rfl) (fun _ _ _ h => h) (Or.inl ⟨by rfl, ?hy⟩) (by assumption) ?_
        case hy => (intro w hSw; (try dsimp only at hSw); go_simp; (try with_reducible rfl))
        try simp only [Act.put, List.setIfInBounds_toArray, List.set_cons_zero, List.set_cons_succ]
        try simp only [bne_self_eq_false, Bool.not_true]
        refine wpAnyH_ready (rs := [2]) (by kernel_rfl) (by simp) ?_
        refine AllReadyH.cons (o := ⟨some 25, _, _, _, _, _⟩) rfl (fun K hK => ?_) AllReadyH.nil
        go_simp
        go_at_call 32
        with_reducible refine (HS1.out _ hB).mono ?_
        rintro e wA ⟨rfl, hbC⟩
        have hB : Below w3.heap.size w3 wA := hB.trans (hbC.mono hB.size)
        refine hK.out _ _ ?_ (fun hHeld => ?_)
        · exact keptS hB bx1 bx2
        clear hK K hbC
        try simp only [Act.put, List.setIfInBounds_toArray, List.set_cons_zero, List.set_cons_succ]
        refine wpAnyH_ready (rs := [5]) (by kernel_rfl) (by simp) ?_
        refine AllReadyH.cons (o := ⟨some 28, _, _, _, _, _⟩) rfl (fun K hK => ?_) AllReadyH.nil
        go_simp
        go_at_call 33
        with_reducible refine (HS2.out _ hB).mono ?_
        rintro e wB ⟨rfl, hbC⟩
        have hB : Below w3.heap.size w3 wB := hB.trans (hbC.mono hB.size)
        refine hK.out _ _ ?_ (fun hHeld => ?_)
        · exact keptS hB bx1 bx2
        clear hK K hbC
        try simp only [Act.put, List.setIfInBounds_toArray, List.set_cons_zero, List.set_cons_succ]
        refine wpAnyH_take (i := 6) (oi := ⟨some 29, _, _, _, _, _⟩) (v := ?_) rfl (by kernel_rfl) (by kernel_rfl) (by kernel_rfl) (fun _ _ _ h => h) (Or.inl ⟨by rfl, ?hy⟩) (by assumption) ?_
        case hy => (intro w hSw; (try dsimp only at hSw); go_simp; (try with_reducible rfl))
        try simp only [Act.put, List.setIfInBounds_toArray, List.set_cons_zero, List.set_cons_succ]
        try simp only [bne_self_eq_false, Bool.not_true]
        refine wpAnyH_take (i := 7) (oi := ⟨some 30, _, _, _, _, _⟩) (v := ?_) rfl (by kernel_rfl) (by kernel_rfl) (by kernel_rfl) (fun _ _ _ h => h) (Or.inl ⟨by rfl, ?hy⟩) (by assumption) ?_
        case hy => (intro w hSw; (try dsimp only at hSw); go_simp; (try with_reducible rfl))
        try simp only [Act.put, List.setIfInBounds_toArray, List.set_cons_zero, List.set_cons_succ]
        try simp only [bne_self_eq_false, Bool.not_true]
        refine wpAnyH_take (i := 8) (oi := ⟨some 31, _, _, _, _, _⟩) (v := ?_) rfl (by kernel_rfl) (by kernel_rfl) (by kernel_rfl) (fun _ _ _ h => h) (Or.inl ⟨by rfl, ?hy⟩) (by assumption) ?_
        case hy => (intro w hSw; (try dsimp only at hSw); go_simp; (try with_reducible rfl))
        try simp only [Act.put, List.setIfInBounds_toArray, List.set_cons_zero, List.set_cons_succ]
        try simp only [bne_self_eq_false, Bool.not_true]
        refine wpAnyH_take (i := 9) (oi := ⟨some 32, _, _, _, _, _⟩) (v := ?_) rfl (by kernel_rfl) (by kernel_rfl) (by kernel_rfl) (fun _ _ _ h => h) (Or.inl ⟨by rfl, ?hy⟩) (by assumption) ?_
        case hy => (intro w hSw; (try dsimp only at hSw); go_simp; (try with_reducible rfl))
        try simp only [Act.put, List.setIfInBounds_toArray, List.set_cons_zero, List.set_cons_succ]
        try simp only [bne_self_eq_false, Bool.not_true]
        refine wpAnyH_ready (rs := [10]) (by kernel_rfl) (by simp) ?_
        refine AllReadyH.cons (o := ⟨some 33, _, _, _, _, _⟩) rfl (fun K hK => ?_) AllReadyH.nil
        go_simp
        go_at_call 32
        with_reducible refine (HS3.out _ hB).mono ?_
        rintro e wC ⟨rfl, hbC⟩
        have hB : Below w3.heap.size w3 wC := hB.trans (hbC.mono hB.size)
        refine hK.out _ _ ?_ (fun hHeld => ?_)
        · exact keptS hB bx1 bx2
        clear hK K hbC
        try simp only [Act.put, List.setIfInBounds_toArray, List.set_cons_zero, List.set_cons_succ]
        refine wpAnyH_take (i := 11) (oi := ⟨some 34, _, _, _, _, _⟩) (v := ?_) rfl (by kernel_rfl) (by kernel_rfl) (by kernel_rfl) (fun _ _ _ h => h) (Or.inl ⟨by rfl, ?hy⟩) (by assumption) ?_
        case hy => (intro w hSw; (try dsimp only at hSw); go_simp; (try with_reducible rfl))
        try simp only [Act.put, List.setIfInBounds_toArray, List.set_cons_zero, List.set_cons_succ]
        try simp only [bne_self_eq_false, Bool.not_true]
        refine wpAnyH_take (i := 12) (oi := ⟨some 35, _, _, _, _, _⟩) (v := ?_) rfl (by kernel_rfl) (by kernel_rfl) (by kernel_rfl) (fun _ _ _ h => h) (Or.inl ⟨by rfl, ?hy⟩) (by assumption) ?_
        case hy => (intro w hSw; (try dsimp only at hSw); go_simp; (try with_reducible rfl))
        try simp only [Act.put, List.setIfInBounds_toArray, List.set_cons_zero, List.set_cons_succ]
        try simp only [bne_self_eq_false, Bool.not_true]
        refine wpAnyH_done (by kernel_rfl) ?_ _
        have KAC := Lib.hid (KA3.out.below hB)
        have KBC := Lib.hid (KB3.out.below hB)
        have BWC := Lib.hid (BW3.out.trans (hB.mono BW3.out.size))
        clear hB hHeld bx1 bx2
        obtain ⟨q0, q1, q2, q3⟩ := cells_of_block KAC.out.box
        obtain ⟨r0, r1, r2, r3⟩ := cells_of_block KBC.out.box
        go_wp2_with fail
        refine (HFA.out _ _ KAC.out.node).mono ?_
        rintro e wD ⟨rfl, hb⟩
        have KAD := Lib.hid (KAC.out.below hb)
        have KBD := Lib.hid (KBC.out.below hb)
        have BWD := Lib.hid (BWC.out.trans (hb.mono BWC.out.size))
        clear hb q0 q1 q2 q3 r0 r1 r2 r3
        obtain ⟨q0, q1, q2, q3⟩ := cells_of_block KAD.out.box
        obtain ⟨r0, r1, r2, r3⟩ := cells_of_block KBD.out.box
        go_wp2_with fail
        refine (HFB.out _ _ KBD.out.node).mono ?_
        rintro e wE ⟨rfl, hb⟩
        have KAE := Lib.hid (KAD.out.below hb)
        have KBE := Lib.hid (KBD.out.below hb)
        have BWE := Lib.hid (BWD.out.trans (hb.mono BWD.out.size))
        clear hb q0 q1 q2 q3 r0 r1 r2 r3
        go_wp2_with fail
        refine (alive5_any wE KAE.out.tabs).mono ?_
        rintro e wZ ⟨rfl, hb⟩
        have BL := Lib.hid (BWE.out.trans (hb.mono BWE.out.size))
        clear hb
        go_wp2_with fail
        go_ret
        exact ⟨rfl, BL.out⟩
      | true =>
        have hpb : partsN zb = true := by
          have := hqb
          unfold formedB at this
          simp only [Bool.and_eq_true] at this
          exact this.1.1
        have hch := Changed_ok za zb _ _ wc HZ.out.1.size HZ.out.2.size (Nat.lt_trans HD.out (by decide)) KA.out.tabs KA.out.node KB.out.node hqa hqb
        have hR := fun W va vb (h1 : NodeP (fun _ => True) W va za) (h2 : NodeP (fun _ => True) W vb zb) => RChanged_form za zb va vb W HZ.out.1.size HZ.out.2.size h1 h2 hpa hpb
        have hRl : (chR (deepN za + 1) za zb).1.length ≤ 1000000000 := by have h1 := chR_len (deepN za + 1) za zb; have h2 := HD.out; omega
        rw [hqa] at hfa
        rw [hqb] at hfb
        generalize chR (deepN za + 1) za zb = R at hch hR hRl
        obtain ⟨R1, R2⟩ := R
        simp only at hch hR hRl
        have e9 : (R2 == R2) = true := by simp
        have HFA := Lib.hid hfa
        have HFB := Lib.hid hfb
        have HC := Lib.hid hch
        have HR := Lib.hid hR
        have HL := Lib.hid hRl
        clear hfa hfb hch hR hRl hqa hqb hpa hpb
        obtain ⟨q0, q1, q2, q3⟩ := cells_of_block KA.out.box
        obtain ⟨r0, r1, r2, r3⟩ := cells_of_block KB.out.box
        go_wp2_with fail
        refine HC.out.mono ?_
        rintro e w3 ⟨⟨v3, rfl, hrow⟩, hb3⟩
        obtain ⟨Ap, cp, rfl, hI0⟩ := IntsR.of_own hrow
        have HI := Lib.hid hI0
        clear hrow hI0
        have KA3 := Lib.hid (KA.out.below hb3)
        have KB3 := Lib.hid (KB.out.below hb3)
        have BW3 := Lib.hid (BW.out.trans (hb3.mono BW.out.size))
        clear hb3 q0 q1 q2 q3 r0 r1 r2 r3
        have hs1 : ∀ W, Below w3.heap.size w3 W → Calls Tryd.prog 32 #[(.agg #[.int .i64 za.kind, .int .i64 za.tok.1, .string za.tok.2, .slice A1 za.kids.length eA]), (.agg #[.int .i64 zb.kind, .int .i64 zb.tok.1, .string zb.tok.2, .slice B1 zb.kids.length eB])] W fun e w' => e = .returned (.bool (sameS za zb)) ∧ Below W.heap.size W w' := fun W h => by have hh := Same_node za zb _ _ W (smallN_of _ za HZ.out.1.size) (KA3.out.below h).node (KB3.out.below h).node; rw [sameT_S (depthN_of _ za (Nat.lt_trans HD.out (by decide)))] at hh; exact hh
        have hs2 : ∀ W, Below w3.heap.size w3 W → Calls Tryd.prog 33 #[(.agg #[.int .i64 za.kind, .int .i64 za.tok.1, .string za.tok.2, .slice A1 za.kids.length eA]), (.agg #[.int .i64 zb.kind, .int .i64 zb.tok.1, .string zb.tok.2, .slice B1 zb.kids.length eB])] W fun e w' => e = .returned (.bool (sameS za zb)) ∧ Below W.heap.size W w' := fun W h => RSame_S za zb _ _ W HZ.out.1.size (KA3.out.below h).node (KB3.out.below h).node
        have hs3 : ∀ W, Below w3.heap.size w3 W → Calls Tryd.prog 32 #[(.agg #[.int .i64 za.kind, .int .i64 za.tok.1, .string za.tok.2, .slice A1 za.kids.length eA]), (.agg #[.int .i64 za.kind, .int .i64 za.tok.1, .string za.tok.2, .slice A1 za.kids.length eA])] W fun e w' => e = .returned (.bool true) ∧ Below W.heap.size W w' := fun W h => by have hh := Same_node za za _ _ W (smallN_of _ za HZ.out.1.size) (KA3.out.below h).node (KA3.out.below h).node; rw [sameT_refl _ _ (depthN_of _ za (Nat.lt_trans HD.out (by decide)))] at hh; exact hh
        generalize sameS za zb = sq at hs1 hs2
        have HS1 := Lib.hid hs1
        have HS2 := Lib.hid hs2
        have HS3 := Lib.hid hs3
        clear hs1 hs2 hs3
        have bx1 := KA3.out.box
        have bx2 := KB3.out.box
        go_upto_region 3 with fail
        refine wp_region_held_drew (S := (fun W => Below w3.heap.size w3 W ∧ (W.cell? ⟨c5, 0, none⟩ = some (.int .i64 za.kind) ∧ W.cell? ⟨c5, 1, none⟩ = some (.int .i64 za.tok.1) ∧ W.cell? ⟨c5, 2, none⟩ = some (.string za.tok.2) ∧ W.cell? ⟨c5, 3, none⟩ = some (.slice A1 za.kids.length eA)) ∧ (W.cell? ⟨c6, 0, none⟩ = some (.int .i64 zb.kind) ∧ W.cell? ⟨c6, 1, none⟩ = some (.int .i64 zb.tok.1) ∧ W.cell? ⟨c6, 2, none⟩ = some (.string zb.tok.2) ∧ W.cell? ⟨c6, 3, none⟩ = some (.slice B1 zb.kids.length eB)))) (by kernel_rfl) ?_ (fun hHeld => ?_)
        · exact keptS (Below.drew (Below.refl _ _)) bx1 bx2
        have hB : Below w3.heap.size w3 w3.drew := Below.drew (Below.refl _ _)
        refine wpAnyH_take (i := 0) (oi := ⟨some 23, _, _, _, _, _⟩) (v := ?_) rfl (by kernel_rfl) (by kernel_rfl) (by kernel_rfl) (fun _ _ _ h => h) (Or.inl ⟨by rfl, ?hy⟩) (by assumption) ?_
        case hy => (intro w hSw; (try dsimp only at hSw); go_simp; (try with_reducible rfl))
        try simp only [Act.put, List.setIfInBounds_toArray, List.set_cons_zero, List.set_cons_succ]
        try simp only [bne_self_eq_false, Bool.not_true]
        refine wpAnyH_take (i := 1) (oi := ⟨some 24, _, _, _, _, _⟩) (v := ?_) rfl (by kernel_rfl) (by kernel_rfl) (by kernel_rfl) (fun _ _ _ h => h) (Or.inl ⟨by rfl, ?hy⟩) (by assumption) ?_
        case hy => (intro w hSw; (try dsimp only at hSw); go_simp; (try with_reducible rfl))
        try simp only [Act.put, List.setIfInBounds_toArray, List.set_cons_zero, List.set_cons_succ]
        try simp only [bne_self_eq_false, Bool.not_true]
        refine wpAnyH_take (i := 3) (oi := ⟨some 26, _, _, _, _, _⟩) (v := ?_) rfl (by kernel_rfl) (by kernel_rfl) (by kernel_rfl) (fun _ _ _ h => h) (Or.inl ⟨by rfl, ?hy⟩) (by assumption) ?_
        case hy => (intro w hSw; (try dsimp only at hSw); go_simp; (try with_reducible rfl))
        try simp only [Act.put, List.setIfInBounds_toArray, List.set_cons_zero, List.set_cons_succ]
        try simp only [bne_self_eq_false, Bool.not_true]
        refine wpAnyH_take (i := 4) (oi := ⟨some 27, _, _, _, _, _⟩) (v := ?_) rfl (by kernel_rfl) (by kernel_rfl) (by kernel_rfl) (fun _ _ _ h => h) (Or.inl ⟨by rfl, ?hy⟩) (by assumption) ?_
        case hy => (intro w hSw; (try dsimp only at hSw); go_simp; (try with_reducible rfl))
        try simp only [Act.put, List.setIfInBounds_toArray, List.set_cons_zero, List.set_cons_succ]
        try simp only [bne_self_eq_false, Bool.not_true]
        refine wpAnyH_ready (rs := [2]) (by kernel_rfl) (by simp) ?_
        refine AllReadyH.cons (o := ⟨some 25, _, _, _, _, _⟩) rfl (fun K hK => ?_) AllReadyH.nil
        go_simp
        go_at_call 32
        with_reducible refine (HS1.out _ hB).mono ?_
        rintro e wA ⟨rfl, hbC⟩
        have hB : Below w3.heap.size w3 wA := hB.trans (hbC.mono hB.size)
        refine hK.out _ _ ?_ (fun hHeld => ?_)
        · exact keptS hB bx1 bx2
        clear hK K hbC
        try simp only [Act.put, List.setIfInBounds_toArray, List.set_cons_zero, List.set_cons_succ]
        refine wpAnyH_ready (rs := [5]) (by kernel_rfl) (by simp) ?_
        refine AllReadyH.cons (o := ⟨some 28, _, _, _, _, _⟩) rfl (fun K hK => ?_) AllReadyH.nil
        go_simp
        go_at_call 33
        with_reducible refine (HS2.out _ hB).mono ?_
        rintro e wB ⟨rfl, hbC⟩
        have hB : Below w3.heap.size w3 wB := hB.trans (hbC.mono hB.size)
        refine hK.out _ _ ?_ (fun hHeld => ?_)
        · exact keptS hB bx1 bx2
        clear hK K hbC
        try simp only [Act.put, List.setIfInBounds_toArray, List.set_cons_zero, List.set_cons_succ]
        refine wpAnyH_take (i := 6) (oi := ⟨some 29, _, _, _, _, _⟩) (v := ?_) rfl (by kernel_rfl) (by kernel_rfl) (by kernel_rfl) (fun _ _ _ h => h) (Or.inl ⟨by rfl, ?hy⟩) (by assumption) ?_
        case hy => (intro w hSw; (try dsimp only at hSw); go_simp; (try with_reducible rfl))
        try simp only [Act.put, List.setIfInBounds_toArray, List.set_cons_zero, List.set_cons_succ]
        try simp only [bne_self_eq_false, Bool.not_true]
        refine wpAnyH_take (i := 7) (oi := ⟨some 30, _, _, _, _, _⟩) (v := ?_) rfl (by kernel_rfl) (by kernel_rfl) (by kernel_rfl) (fun _ _ _ h => h) (Or.inl ⟨by rfl, ?hy⟩) (by assumption) ?_
        case hy => (intro w hSw; (try dsimp only at hSw); go_simp; (try with_reducible rfl))
        try simp only [Act.put, List.setIfInBounds_toArray, List.set_cons_zero, List.set_cons_succ]
        try simp only [bne_self_eq_false, Bool.not_true]
        refine wpAnyH_take (i := 8) (oi := ⟨some 31, _, _, _, _, _⟩) (v := ?_) rfl (by kernel_rfl) (by kernel_rfl) (by kernel_rfl) (fun _ _ _ h => h) (Or.inl ⟨by rfl, ?hy⟩) (by assumption) ?_
        case hy => (intro w hSw; (try dsimp only at hSw); go_simp; (try with_reducible rfl))
        try simp only [Act.put, List.setIfInBounds_toArray, List.set_cons_zero, List.set_cons_succ]
        try simp only [bne_self_eq_false, Bool.not_true]
        refine wpAnyH_take (i := 9) (oi := ⟨some 32, _, _, _, _, _⟩) (v := ?_) rfl (by kernel_rfl) (by kernel_rfl) (by kernel_rfl) (fun _ _ _ h => h) (Or.inl ⟨by rfl, ?hy⟩) (by assumption) ?_
        case hy => (intro w hSw; (try dsimp only at hSw); go_simp; (try with_reducible rfl))
        try simp only [Act.put, List.setIfInBounds_toArray, List.set_cons_zero, List.set_cons_succ]
        try simp only [bne_self_eq_false, Bool.not_true]
        refine wpAnyH_ready (rs := [10]) (by kernel_rfl) (by simp) ?_
        refine AllReadyH.cons (o := ⟨some 33, _, _, _, _, _⟩) rfl (fun K hK => ?_) AllReadyH.nil
        go_simp
        go_at_call 32
        with_reducible refine (HS3.out _ hB).mono ?_
        rintro e wC ⟨rfl, hbC⟩
        have hB : Below w3.heap.size w3 wC := hB.trans (hbC.mono hB.size)
        refine hK.out _ _ ?_ (fun hHeld => ?_)
        · exact keptS hB bx1 bx2
        clear hK K hbC
        try simp only [Act.put, List.setIfInBounds_toArray, List.set_cons_zero, List.set_cons_succ]
        refine wpAnyH_take (i := 11) (oi := ⟨some 34, _, _, _, _, _⟩) (v := ?_) rfl (by kernel_rfl) (by kernel_rfl) (by kernel_rfl) (fun _ _ _ h => h) (Or.inl ⟨by rfl, ?hy⟩) (by assumption) ?_
        case hy => (intro w hSw; (try dsimp only at hSw); go_simp; (try with_reducible rfl))
        try simp only [Act.put, List.setIfInBounds_toArray, List.set_cons_zero, List.set_cons_succ]
        try simp only [bne_self_eq_false, Bool.not_true]
        refine wpAnyH_take (i := 12) (oi := ⟨some 35, _, _, _, _, _⟩) (v := ?_) rfl (by kernel_rfl) (by kernel_rfl) (by kernel_rfl) (fun _ _ _ h => h) (Or.inl ⟨by rfl, ?hy⟩) (by assumption) ?_
        case hy => (intro w hSw; (try dsimp only at hSw); go_simp; (try with_reducible rfl))
        try simp only [Act.put, List.setIfInBounds_toArray, List.set_cons_zero, List.set_cons_succ]
        try simp only [bne_self_eq_false, Bool.not_true]
        refine wpAnyH_done (by kernel_rfl) ?_ _
        have KAC := Lib.hid (KA3.out.below hB)
        have KBC := Lib.hid (KB3.out.below hB)
        have BWC := Lib.hid (BW3.out.trans (hB.mono BW3.out.size))
        have hI3 := Lib.hid (HI.out.below hB)
        clear hB hHeld bx1 bx2
        obtain ⟨q0, q1, q2, q3⟩ := cells_of_block KAC.out.box
        obtain ⟨r0, r1, r2, r3⟩ := cells_of_block KBC.out.box
        go_wp2_with fail
        refine (HFA.out _ _ KAC.out.node).mono ?_
        rintro e wD ⟨rfl, hb⟩
        have KAD := Lib.hid (KAC.out.below hb)
        have KBD := Lib.hid (KBC.out.below hb)
        have BWD := Lib.hid (BWC.out.trans (hb.mono BWC.out.size))
        have hI4 := Lib.hid (hI3.out.below hb)
        clear hb q0 q1 q2 q3 r0 r1 r2 r3
        obtain ⟨q0, q1, q2, q3⟩ := cells_of_block KAD.out.box
        obtain ⟨r0, r1, r2, r3⟩ := cells_of_block KBD.out.box
        go_wp2_with fail
        refine (HFB.out _ _ KBD.out.node).mono ?_
        rintro e wE ⟨rfl, hb⟩
        have KAE := Lib.hid (KAD.out.below hb)
        have KBE := Lib.hid (KBD.out.below hb)
        have BWE := Lib.hid (BWD.out.trans (hb.mono BWD.out.size))
        have hI5 := Lib.hid (hI4.out.below hb)
        clear hb q0 q1 q2 q3 r0 r1 r2 r3
        obtain ⟨q0, q1, q2, q3⟩ := cells_of_block KAE.out.box
        obtain ⟨r0, r1, r2, r3⟩ := cells_of_block KBE.out.box
        go_wp2_with fail
        refine (HR.out _ _ _ KAE.out.nodeC KBE.out.nodeC).mono ?_
        rintro e wF ⟨⟨v4, rfl, hrow⟩, hb⟩
        have KAF := Lib.hid (KAE.out.below hb)
        have KBF := Lib.hid (KBE.out.below hb)
        have BWF := Lib.hid (BWE.out.trans (hb.mono BWE.out.size))
        have hI6 := hI5.out.below hb
        obtain ⟨Aq, cq, rfl, hJ⟩ := IntsR.of_own hrow
        have hi := Ints_any cp cq Ap Aq _ _ wF (by rw [List.length_map]; exact HL.out) hI6 hJ
        rw [decide_eq_true rfl] at hi
        simp only [List.length_map] at hi
        have HIN := Lib.hid hi
        clear hb hrow hI6 hJ hi q0 q1 q2 q3 r0 r1 r2 r3
        go_wp2_with fail
        refine (HIN.out).mono ?_
        rintro e wG ⟨rfl, hb⟩
        have KAG := Lib.hid (KAF.out.below hb)
        have KBG := Lib.hid (KBF.out.below hb)
        have BWG := Lib.hid (BWF.out.trans (hb.mono BWF.out.size))
        clear hb
        go_wp2_with fail
        refine (alive5_any wG KAG.out.tabs).mono ?_
        rintro e wZ ⟨rfl, hb⟩
        have BL := Lib.hid (BWG.out.trans (hb.mono BWG.out.size))
        clear hb
        go_wp2_with fail
        go_ret
        exact ⟨rfl, BL.out⟩
end Go.Proofs.YtgihkojlpaebiaaDoor.lawTreeSame
