/-
  TreePut: At of Put is what was put; Put of At changes nothing; where Changed says, the part of the new tree makes it of the old one. No condition: every input. (gen_wtq.py)
-/
import Derived.Test.YtpjlgahbbmlngaaDoorTreeLeavesp34
import Derived.Test.YtpjlgahbbmlngaaDoorTreePutp3
import Derived.Test.YtpjlgahbbmlngaaDoorTreePutp4
import Derived.Test.YtpjlgahbbmlngaaDoorTreeOwnp3
import Derived.Test.YtpjlgahbbmlngaaDoorTreeOwnp4
import Derived.Test.YtpjlgahbbmlngaaDoorTreeLeavesp35
import Derived.Test.YtpjlgahbbmlngaaDoorTreeLeavesp25
import Derived.Test.YtpjlgahbbmlngaaDoorTreeLeavesp33
import Derived.Test.YtpjlgahbbmlngaaDoorTreeLeavesp29
import Derived.Deep.RegionHeld3
import Derived.Deep.DeepCutAuto
namespace Go.Proofs.YtpjlgahbbmlngaaDoor.lawTreePut
set_option linter.unusedVariables false
set_option linter.unusedSimpArgs false
set_option linter.unnecessarySimpa false
open Go.ChangeShapes Go.WideShapes Go.RowKit

theorem keptN' {wr W : World} {b : Nat} {x0 x1 x2 x3 : Value} {t : Nat} (hb : Below wr.heap.size wr W) (h1 : wr.heap[b]? = some (.cells #[x0, x1, x2, x3] t (0, 0))) :
    W.cell? ⟨b, 0, none⟩ = some x0 ∧ W.cell? ⟨b, 1, none⟩ = some x1 ∧ W.cell? ⟨b, 2, none⟩ = some x2 ∧ W.cell? ⟨b, 3, none⟩ = some x3 := by
  have e1 := (hb.block b (Array.getElem?_eq_some_iff.1 h1).1).trans h1
  exact ⟨Lib.cell_of_heap e1 0, Lib.cell_of_heap e1 1, Lib.cell_of_heap e1 2, Lib.cell_of_heap e1 3⟩
theorem keptS {w w' : World} {b c : Nat} {x0 x1 x2 x3 y0 y1 y2 y3 : Value} (hb : Below w.heap.size w w') (h1 : w.heap[b]? = some (.cells #[x0, x1, x2, x3] 26 (0, 0))) (h2 : w.heap[c]? = some (.cells #[y0, y1, y2, y3] 26 (0, 0))) :
    Below w.heap.size w w' ∧ (w'.cell? ⟨b, 0, none⟩ = some x0 ∧ w'.cell? ⟨b, 1, none⟩ = some x1 ∧ w'.cell? ⟨b, 2, none⟩ = some x2 ∧ w'.cell? ⟨b, 3, none⟩ = some x3) ∧ (w'.cell? ⟨c, 0, none⟩ = some y0 ∧ w'.cell? ⟨c, 1, none⟩ = some y1 ∧ w'.cell? ⟨c, 2, none⟩ = some y2 ∧ w'.cell? ⟨c, 3, none⟩ = some y3) := by
  have e1 := keepB h1 hb
  have e2 := keepB h2 hb
  exact ⟨hb, ⟨Lib.cell_of_heap e1 0, Lib.cell_of_heap e1 1, Lib.cell_of_heap e1 2, Lib.cell_of_heap e1 3⟩, Lib.cell_of_heap e2 0, Lib.cell_of_heap e2 1, Lib.cell_of_heap e2 2, Lib.cell_of_heap e2 3⟩
theorem put_ok {W W' : World} {m : Nd} {e : Ending} (h : PutPost W m e W') (hf : formedB m = true) : ∃ A c, e = .returned (.tuple #[.agg #[.int .i64 m.kind, .int .i64 m.tok.1, .string m.tok.2, .slice A m.kids.length c], .int .i64 0]) ∧ m.kids.length ≤ c ∧ KidsP (fun k => W.heap.size ≤ k) W' A m.kids := by
  unfold PutPost at h
  rw [if_pos hf] at h
  obtain ⟨A, c, h1, h2, h3, _⟩ := h
  exact ⟨A, c, h1, h2, h3⟩
theorem put_no {W W' : World} {m : Nd} {e : Ending} (h : PutPost W m e W') (hf : formedB m = false) : e = .returned (.tuple #[.agg zeroCells, .int .i64 4]) := by
  unfold PutPost at h
  rw [if_neg (by rw [hf]; decide)] at h
  exact h

set_option maxRecDepth 100000 in
set_option maxHeartbeats 8000000 in
theorem walk (a0 : Nd) (va : Value) (hra : rawN a0) (b0 : Nd) (vb : Value) (hrb : rawN b0) (A9 : Option Addr) (c9 : Nat) (l9 : List Int) (hl9 : l9.length ≤ c9) (hc9 : c9 ≤ maxLen) (w : World) (hT : Tabs w) (hNa : NodeV w va a0) (hNb : NodeV w vb b0) (hE : IntsA w A9 l9) :
    Calls Tryd.prog 12 #[va, vb, .slice A9 l9.length c9] w fun e w' => e = .returned (.bool true) ∧ Below w.heap.size w w' := by
  have hna := hNa
  have hnb := hNb
  obtain ⟨A0, c0, rfl, _⟩ := hNa
  obtain ⟨B0, d0, rfl, _⟩ := hNb
  obtain ⟨w0, hw0⟩ : ∃ w0, w0 = (w.alloc (.cells #[.int .i64 a0.kind, .int .i64 a0.tok.1, .string a0.tok.2, .slice A0 a0.kids.length c0] 26)).alloc (.cells #[.int .i64 b0.kind, .int .i64 b0.tok.1, .string b0.tok.2, .slice B0 b0.kids.length d0] 26) := ⟨_, rfl⟩
  have hB0 : Below w.heap.size w w0 := by rw [hw0]; exact ((Below.refl _ _).alloc (Nat.le_refl _) _).alloc (by simp) _
  have bx1 : w0.heap[w.heap.size]? = some (.cells #[.int .i64 a0.kind, .int .i64 a0.tok.1, .string a0.tok.2, .slice A0 a0.kids.length c0] 26 (0, 0)) := by rw [hw0, alloc_old _ _ _ (by simp)]; exact alloc_at _ _ _ rfl
  have bx2 : w0.heap[w.heap.size + 1]? = some (.cells #[.int .i64 b0.kind, .int .i64 b0.tok.1, .string b0.tok.2, .slice B0 b0.kids.length d0] 26 (0, 0)) := by rw [hw0]; exact alloc_at _ _ _ (by simp)
  have hcutA := fun W (h : Below w0.heap.size w0 W) => Cut_any a0 _ W hra ((hna.below hB0).below h)
  have hcutB := fun W (h : Below w0.heap.size w0 W) => Cut_any b0 _ W hrb ((hnb.below hB0).below h)
  have hzA := SmZ.of_cut (most := 600) (by decide) (by decide) a0
  have hzB := SmZ.of_cut (most := 600) (by decide) (by decide) b0
  generalize cutM 600 a0 = za at hcutA hzA
  generalize cutM 600 b0 = zb at hcutB hzB
  have HSh := Lib.hid (fun W (h : IntsA W A9 l9) => short_any A9 c9 l9 W hl9 hc9 h)
  have hLl : (l9.take 40).length ≤ 40 := by rw [List.length_take]; omega
  generalize l9.take 40 = R at HSh hLl
  have HT := Lib.hid (show _ ∧ _ from ⟨hT, hE⟩)
  have HZ := Lib.hid (show _ ∧ _ ∧ _ from ⟨hzA, hzB, hLl⟩)
  have HcutA := Lib.hid hcutA
  have HcutB := Lib.hid hcutB
  have HB0 := Lib.hid hB0
  have HW := Lib.hid hw0
  clear hcutA hcutB hzA hzB hT hna hnb hra hrb hB0 hw0 hLl hl9 hc9 hE
  go_enter Tryd.func12, Tryd.ntmps12
  go_upto_region 1 with fail
  rw [← HW.out]
  go_cut [7, 8] (fun s5 s6 W => ∃ (c5 c6 : Nat) (A1 : Option Addr) (eA : Nat) (B1 : Option Addr) (eB : Nat), s5 = .pointer (some ⟨c5, 0, none⟩) ∧ s6 = .pointer (some ⟨c6, 0, none⟩) ∧ za.kids.length ≤ eA ∧ zb.kids.length ≤ eB ∧ KidsP (fun b => b ≠ c5 ∧ b ≠ c6) W A1 za.kids ∧ KidsP (fun b => b ≠ c5 ∧ b ≠ c6) W B1 zb.kids ∧ W.heap[c5]? = some (.cells (nodeCells za A1 eA) 26 (0, 0)) ∧ W.heap[c6]? = some (.cells (nodeCells zb B1 eB) 26 (0, 0)) ∧ c5 ≠ c6 ∧ Below w.heap.size w W)
  case first =>
    refine wp_region_held_drew (S := (fun W => Below w0.heap.size w0 W ∧ (W.cell? ⟨w.heap.size, 0, none⟩ = some (.int .i64 a0.kind) ∧ W.cell? ⟨w.heap.size, 1, none⟩ = some (.int .i64 a0.tok.1) ∧ W.cell? ⟨w.heap.size, 2, none⟩ = some (.string a0.tok.2) ∧ W.cell? ⟨w.heap.size, 3, none⟩ = some (.slice A0 a0.kids.length c0)) ∧ (W.cell? ⟨w.heap.size + 1, 0, none⟩ = some (.int .i64 b0.kind) ∧ W.cell? ⟨w.heap.size + 1, 1, none⟩ = some (.int .i64 b0.tok.1) ∧ W.cell? ⟨w.heap.size + 1, 2, none⟩ = some (.string b0.tok.2) ∧ W.cell? ⟨w.heap.size + 1, 3, none⟩ = some (.slice B0 b0.kids.length d0)))) (by kernel_rfl) ?_ (fun hHeld => ?_)
    · exact keptS (Below.drew (Below.refl _ _)) bx1 bx2
    obtain ⟨w_0, hw⟩ : ∃ x, x = w0.drew := ⟨_, rfl⟩
    have hB : Below w0.heap.size w0 w_0 := by rw [hw]; exact Below.drew (Below.refl _ _)
    rw [← hw] at hHeld
    rw [← hw]
    clear hw
    refine wpAnyH_take (i := 0) (oi := ⟨some 25, _, _, _, _, _⟩) (v := ?_) rfl (by kernel_rfl) (by kernel_rfl) (by kernel_rfl) (fun _ _ _ h => h) (Or.inl ⟨by rfl, ?hy⟩) (by assumption) ?_
    case hy => (intro w hSw; (try dsimp only at hSw); go_simp; (try with_reducible rfl))
    try simp only [Act.put, List.setIfInBounds_toArray, List.set_cons_zero, List.set_cons_succ]
    refine wpAnyH_take (i := 2) (oi := ⟨some 27, _, _, _, _, _⟩) (v := ?_) rfl (by kernel_rfl) (by kernel_rfl) (by kernel_rfl) (fun _ _ _ h => h) (Or.inl ⟨by rfl, ?hy⟩) (by assumption) ?_
    case hy => (intro w hSw; (try dsimp only at hSw); go_simp; (try with_reducible rfl))
    try simp only [Act.put, List.setIfInBounds_toArray, List.set_cons_zero, List.set_cons_succ]
    refine wpAnyH_ready (rs := [1, 4, 5]) (by kernel_rfl) (by simp) ?_
    refine AllReadyH.cons (o := ⟨some 26, _, _, _, _, _⟩) rfl (fun K hK => ?_) (AllReadyH.cons (o := ⟨some 7, _, _, _, _, _⟩) rfl (fun K hK => ?_) (AllReadyH.cons (o := ⟨some 8, _, _, _, _, _⟩) rfl (fun K hK => ?_) AllReadyH.nil))
    · go_simp
      go_at_call 15
      with_reducible refine (HcutA.out _ hB).mono ?_
      rintro e w_1 ⟨vA, rfl, ⟨A1, eA, rfl, gA, kA⟩, hbC⟩
      have kA : KidsP (fun b => True) w_1 A1 za.kids := kA.kept (Nat.le_refl _) (fun _ _ _ => rfl) (fun b hb _ => trivial)
      have hB : Below w0.heap.size w0 w_1 := hB.trans (hbC.mono hB.size)
      refine hK.out _ _ ?_ (fun hHeld => ?_)
      · exact keptS hB bx1 bx2
      clear hK K hbC
      try simp only [Act.put, List.setIfInBounds_toArray, List.set_cons_zero, List.set_cons_succ]
      refine wpAnyH_ready (rs := [3, 4, 5]) (by kernel_rfl) (by simp) ?_
      refine AllReadyH.cons (o := ⟨some 28, _, _, _, _, _⟩) rfl (fun K hK => ?_) (AllReadyH.cons (o := ⟨some 7, _, _, _, _, _⟩) rfl (fun K hK => ?_) (AllReadyH.cons (o := ⟨some 8, _, _, _, _, _⟩) rfl (fun K hK => ?_) AllReadyH.nil))
      · go_simp
        go_at_call 15
        with_reducible refine (HcutB.out _ hB).mono ?_
        rintro e w_2 ⟨vB, rfl, ⟨B1, eB, rfl, gB, kB⟩, hbC⟩
        have kB : KidsP (fun b => True) w_2 B1 zb.kids := kB.kept (Nat.le_refl _) (fun _ _ _ => rfl) (fun b hb _ => trivial)
        have kA : KidsP (fun b => True) w_2 A1 za.kids := kA.kept hbC.size (fun b _ hb => hbC.block b hb) (fun b h _ => h)
        have hB : Below w0.heap.size w0 w_2 := hB.trans (hbC.mono hB.size)
        refine hK.out _ _ ?_ (fun hHeld => ?_)
        · exact keptS hB bx1 bx2
        clear hK K hbC
        try simp only [Act.put, List.setIfInBounds_toArray, List.set_cons_zero, List.set_cons_succ]
        refine wpAnyH_ready (rs := [4, 5]) (by kernel_rfl) (by simp) ?_
        refine AllReadyH.cons (o := ⟨some 7, _, _, _, _, _⟩) rfl (fun K hK => ?_) (AllReadyH.cons (o := ⟨some 8, _, _, _, _, _⟩) rfl (fun K hK => ?_) AllReadyH.nil)
        · go_simp
          have hal : Below w_2.heap.size w_2 (w_2.alloc (.cells #[.int .i64 0, .int .i64 0, .string { data := #[] }, .slice none 0 0] 26)) := (Below.refl _ _).alloc (Nat.le_refl _) _
          refine hK.out _ _ ?_ (fun hHeld => ?_)
          · exact keptS (hB.trans (hal.mono hB.size)) bx1 bx2
          clear hK K
          try simp only [Act.put, List.setIfInBounds_toArray, List.set_cons_zero, List.set_cons_succ]
          obtain ⟨c5, hc⟩ : ∃ c, c = w_2.heap.size := ⟨_, rfl⟩
          obtain ⟨w_3, hw⟩ : ∃ x, x = w_2.alloc (.cells #[.int .i64 0, .int .i64 0, .string { data := #[] }, .slice none 0 0] 26) := ⟨_, rfl⟩
          rw [← hw] at hal
          have g5 : w0.heap.size ≤ c5 := by rw [hc]; exact hB.size
          have kA : KidsP (fun b => b ≠ c5) w_3 A1 za.kids := kA.kept hal.size (fun b _ hb => hal.block b hb) (fun b h hb => Nat.ne_of_lt (by rw [hc]; exact hb))
          have kB : KidsP (fun b => b ≠ c5) w_3 B1 zb.kids := kB.kept hal.size (fun b _ hb => hal.block b hb) (fun b h hb => Nat.ne_of_lt (by rw [hc]; exact hb))
          have hB : Below w0.heap.size w0 w_3 := hB.trans (hal.mono hB.size)
          have h5 : w_3.heap[c5]? = some (.cells #[.int .i64 0, .int .i64 0, .string { data := #[] }, .slice none 0 0] 26 (0, 0)) := by rw [hw, hc]; exact heap_alloc_new _ _
          rw [← hw] at hHeld
          rw [← hw]
          rw [← hc]
          clear hw hc hal
          refine wpAnyH_ready (rs := [5]) (by kernel_rfl) (by simp) ?_
          refine AllReadyH.cons (o := ⟨some 8, _, _, _, _, _⟩) rfl (fun K hK => ?_) AllReadyH.nil
          go_simp
          have hal : Below w_3.heap.size w_3 (w_3.alloc (.cells #[.int .i64 0, .int .i64 0, .string { data := #[] }, .slice none 0 0] 26)) := (Below.refl _ _).alloc (Nat.le_refl _) _
          refine hK.out _ _ ?_ (fun hHeld => ?_)
          · exact keptS (hB.trans (hal.mono hB.size)) bx1 bx2
          clear hK K
          try simp only [Act.put, List.setIfInBounds_toArray, List.set_cons_zero, List.set_cons_succ]
          obtain ⟨c6, hc⟩ : ∃ c, c = w_3.heap.size := ⟨_, rfl⟩
          obtain ⟨w_4, hw⟩ : ∃ x, x = w_3.alloc (.cells #[.int .i64 0, .int .i64 0, .string { data := #[] }, .slice none 0 0] 26) := ⟨_, rfl⟩
          rw [← hw] at hal
          have g6 : w0.heap.size ≤ c6 := by rw [hc]; exact hB.size
          have hcc : c5 ≠ c6 := by have hlt : c5 < w_3.heap.size := (Array.getElem?_eq_some_iff.1 h5).1; omega
          have kA : KidsP (fun b => b ≠ c5 ∧ b ≠ c6) w_4 A1 za.kids := kA.kept hal.size (fun b _ hb => hal.block b hb) (fun b h hb => ⟨h, Nat.ne_of_lt (by rw [hc]; exact hb)⟩)
          have kB : KidsP (fun b => b ≠ c5 ∧ b ≠ c6) w_4 B1 zb.kids := kB.kept hal.size (fun b _ hb => hal.block b hb) (fun b h hb => ⟨h, Nat.ne_of_lt (by rw [hc]; exact hb)⟩)
          have h5 := keepB h5 hal
          have hB : Below w0.heap.size w0 w_4 := hB.trans (hal.mono hB.size)
          have h6 : w_4.heap[c6]? = some (.cells #[.int .i64 0, .int .i64 0, .string { data := #[] }, .slice none 0 0] 26 (0, 0)) := by rw [hw, hc]; exact heap_alloc_new _ _
          rw [← hw] at hHeld
          rw [← hw]
          rw [← hc]
          clear hw hc hal
          refine wpAnyH_ready (rs := [6]) (by kernel_rfl) (by simp) ?_
          refine AllReadyH.cons (o := ⟨none, _, _, _, _, _⟩) rfl (fun K hK => ?_) AllReadyH.nil
          have q0 := Lib.cell_of_heap h5 0
          have q1 := Lib.cell_of_heap h5 1
          have q2 := Lib.cell_of_heap h5 2
          have q3 := Lib.cell_of_heap h5 3
          have r0 := frozen_block (j := 0) h5
          have r1 := frozen_block (j := 1) h5
          have r2 := frozen_block (j := 2) h5
          have r3 := frozen_block (j := 3) h5
          have hst := set4 (v0 := .int .i64 za.kind) (v1 := .int .i64 za.tok.1) (v2 := .string za.tok.2) (v3 := .slice A1 za.kids.length eA) h5
          have hsz : ((((w_4.setCell ⟨c5, 0, none⟩ (.int .i64 za.kind)).setCell ⟨c5, 1, none⟩ (.int .i64 za.tok.1)).setCell ⟨c5, 2, none⟩ (.string za.tok.2)).setCell ⟨c5, 3, none⟩ (.slice A1 za.kids.length eA)).heap.size = w_4.heap.size := size4
          have hB : Below w0.heap.size w0 ((((w_4.setCell ⟨c5, 0, none⟩ (.int .i64 za.kind)).setCell ⟨c5, 1, none⟩ (.int .i64 za.tok.1)).setCell ⟨c5, 2, none⟩ (.string za.tok.2)).setCell ⟨c5, 3, none⟩ (.slice A1 za.kids.length eA)) := below4 hB g5
          have hot : ∀ b, b ≠ c5 → ((((w_4.setCell ⟨c5, 0, none⟩ (.int .i64 za.kind)).setCell ⟨c5, 1, none⟩ (.int .i64 za.tok.1)).setCell ⟨c5, 2, none⟩ (.string za.tok.2)).setCell ⟨c5, 3, none⟩ (.slice A1 za.kids.length eA)).heap[b]? = w_4.heap[b]? := fun b hb => other4 hb
          go_simp
          refine hK.out _ _ ?_ (fun hHeld => ?_)
          · exact keptS hB bx1 bx2
          clear hK K q0 q1 q2 q3 r0 r1 r2 r3
          try simp only [Act.put, List.setIfInBounds_toArray, List.set_cons_zero, List.set_cons_succ]
          obtain ⟨w_5, hw⟩ : ∃ x, x = ((((w_4.setCell ⟨c5, 0, none⟩ (.int .i64 za.kind)).setCell ⟨c5, 1, none⟩ (.int .i64 za.tok.1)).setCell ⟨c5, 2, none⟩ (.string za.tok.2)).setCell ⟨c5, 3, none⟩ (.slice A1 za.kids.length eA)) := ⟨_, rfl⟩
          rw [← hw] at hst hot hB hsz hHeld
          rw [← hw]
          have h5 := hst
          have h6 := (hot c6 (Ne.symm hcc)).trans h6
          have kA : KidsP (fun b => b ≠ c5 ∧ b ≠ c6) w_5 A1 za.kids := kA.kept (Nat.le_of_eq hsz.symm) (fun b hp _ => hot b hp.1) (fun b h _ => h)
          have kB : KidsP (fun b => b ≠ c5 ∧ b ≠ c6) w_5 B1 zb.kids := kB.kept (Nat.le_of_eq hsz.symm) (fun b hp _ => hot b hp.1) (fun b h _ => h)
          clear hw hst hot hsz
          refine wpAnyH_ready (rs := [7]) (by kernel_rfl) (by simp) ?_
          refine AllReadyH.cons (o := ⟨none, _, _, _, _, _⟩) rfl (fun K hK => ?_) AllReadyH.nil
          have q0 := Lib.cell_of_heap h6 0
          have q1 := Lib.cell_of_heap h6 1
          have q2 := Lib.cell_of_heap h6 2
          have q3 := Lib.cell_of_heap h6 3
          have r0 := frozen_block (j := 0) h6
          have r1 := frozen_block (j := 1) h6
          have r2 := frozen_block (j := 2) h6
          have r3 := frozen_block (j := 3) h6
          have hst := set4 (v0 := .int .i64 zb.kind) (v1 := .int .i64 zb.tok.1) (v2 := .string zb.tok.2) (v3 := .slice B1 zb.kids.length eB) h6
          have hsz : ((((w_5.setCell ⟨c6, 0, none⟩ (.int .i64 zb.kind)).setCell ⟨c6, 1, none⟩ (.int .i64 zb.tok.1)).setCell ⟨c6, 2, none⟩ (.string zb.tok.2)).setCell ⟨c6, 3, none⟩ (.slice B1 zb.kids.length eB)).heap.size = w_5.heap.size := size4
          have hB : Below w0.heap.size w0 ((((w_5.setCell ⟨c6, 0, none⟩ (.int .i64 zb.kind)).setCell ⟨c6, 1, none⟩ (.int .i64 zb.tok.1)).setCell ⟨c6, 2, none⟩ (.string zb.tok.2)).setCell ⟨c6, 3, none⟩ (.slice B1 zb.kids.length eB)) := below4 hB g6
          have hot : ∀ b, b ≠ c6 → ((((w_5.setCell ⟨c6, 0, none⟩ (.int .i64 zb.kind)).setCell ⟨c6, 1, none⟩ (.int .i64 zb.tok.1)).setCell ⟨c6, 2, none⟩ (.string zb.tok.2)).setCell ⟨c6, 3, none⟩ (.slice B1 zb.kids.length eB)).heap[b]? = w_5.heap[b]? := fun b hb => other4 hb
          go_simp
          refine hK.out _ _ ?_ (fun hHeld => ?_)
          · exact keptS hB bx1 bx2
          clear hK K q0 q1 q2 q3 r0 r1 r2 r3
          try simp only [Act.put, List.setIfInBounds_toArray, List.set_cons_zero, List.set_cons_succ]
          obtain ⟨w_6, hw⟩ : ∃ x, x = ((((w_5.setCell ⟨c6, 0, none⟩ (.int .i64 zb.kind)).setCell ⟨c6, 1, none⟩ (.int .i64 zb.tok.1)).setCell ⟨c6, 2, none⟩ (.string zb.tok.2)).setCell ⟨c6, 3, none⟩ (.slice B1 zb.kids.length eB)) := ⟨_, rfl⟩
          rw [← hw] at hst hot hB hsz hHeld
          rw [← hw]
          have h6 := hst
          have h5 := (hot c5 hcc).trans h5
          have kA : KidsP (fun b => b ≠ c5 ∧ b ≠ c6) w_6 A1 za.kids := kA.kept (Nat.le_of_eq hsz.symm) (fun b hp _ => hot b hp.2) (fun b h _ => h)
          have kB : KidsP (fun b => b ≠ c5 ∧ b ≠ c6) w_6 B1 zb.kids := kB.kept (Nat.le_of_eq hsz.symm) (fun b hp _ => hot b hp.2) (fun b h _ => h)
          clear hw hst hot hsz
          refine wpAnyH_done (by kernel_rfl) ?_ _
          go_wp2_with fail
          go_meet
          exact ⟨c5, c6, A1, eA, B1, eB, rfl, rfl, gA, gB, kA, kB, h5, h6, hcc, HB0.out.trans (hB.mono HB0.out.size)⟩
        · go_simp
          have hal : Below w_2.heap.size w_2 (w_2.alloc (.cells #[.int .i64 0, .int .i64 0, .string { data := #[] }, .slice none 0 0] 26)) := (Below.refl _ _).alloc (Nat.le_refl _) _
          refine hK.out _ _ ?_ (fun hHeld => ?_)
          · exact keptS (hB.trans (hal.mono hB.size)) bx1 bx2
          clear hK K
          try simp only [Act.put, List.setIfInBounds_toArray, List.set_cons_zero, List.set_cons_succ]
          obtain ⟨c6, hc⟩ : ∃ c, c = w_2.heap.size := ⟨_, rfl⟩
          obtain ⟨w_7, hw⟩ : ∃ x, x = w_2.alloc (.cells #[.int .i64 0, .int .i64 0, .string { data := #[] }, .slice none 0 0] 26) := ⟨_, rfl⟩
          rw [← hw] at hal
          have g6 : w0.heap.size ≤ c6 := by rw [hc]; exact hB.size
          have kA : KidsP (fun b => b ≠ c6) w_7 A1 za.kids := kA.kept hal.size (fun b _ hb => hal.block b hb) (fun b h hb => Nat.ne_of_lt (by rw [hc]; exact hb))
          have kB : KidsP (fun b => b ≠ c6) w_7 B1 zb.kids := kB.kept hal.size (fun b _ hb => hal.block b hb) (fun b h hb => Nat.ne_of_lt (by rw [hc]; exact hb))
          have hB : Below w0.heap.size w0 w_7 := hB.trans (hal.mono hB.size)
          have h6 : w_7.heap[c6]? = some (.cells #[.int .i64 0, .int .i64 0, .string { data := #[] }, .slice none 0 0] 26 (0, 0)) := by rw [hw, hc]; exact heap_alloc_new _ _
          rw [← hw] at hHeld
          rw [← hw]
          rw [← hc]
          clear hw hc hal
          refine wpAnyH_ready (rs := [4]) (by kernel_rfl) (by simp) ?_
          refine AllReadyH.cons (o := ⟨some 7, _, _, _, _, _⟩) rfl (fun K hK => ?_) AllReadyH.nil
          go_simp
          have hal : Below w_7.heap.size w_7 (w_7.alloc (.cells #[.int .i64 0, .int .i64 0, .string { data := #[] }, .slice none 0 0] 26)) := (Below.refl _ _).alloc (Nat.le_refl _) _
          refine hK.out _ _ ?_ (fun hHeld => ?_)
          · exact keptS (hB.trans (hal.mono hB.size)) bx1 bx2
          clear hK K
          try simp only [Act.put, List.setIfInBounds_toArray, List.set_cons_zero, List.set_cons_succ]
          obtain ⟨c5, hc⟩ : ∃ c, c = w_7.heap.size := ⟨_, rfl⟩
          obtain ⟨w_8, hw⟩ : ∃ x, x = w_7.alloc (.cells #[.int .i64 0, .int .i64 0, .string { data := #[] }, .slice none 0 0] 26) := ⟨_, rfl⟩
          rw [← hw] at hal
          have g5 : w0.heap.size ≤ c5 := by rw [hc]; exact hB.size
          have hcc : c5 ≠ c6 := by have hlt : c6 < w_7.heap.size := (Array.getElem?_eq_some_iff.1 h6).1; omega
          have kA : KidsP (fun b => b ≠ c5 ∧ b ≠ c6) w_8 A1 za.kids := kA.kept hal.size (fun b _ hb => hal.block b hb) (fun b h hb => ⟨Nat.ne_of_lt (by rw [hc]; exact hb), h⟩)
          have kB : KidsP (fun b => b ≠ c5 ∧ b ≠ c6) w_8 B1 zb.kids := kB.kept hal.size (fun b _ hb => hal.block b hb) (fun b h hb => ⟨Nat.ne_of_lt (by rw [hc]; exact hb), h⟩)
          have h6 := keepB h6 hal
          have hB : Below w0.heap.size w0 w_8 := hB.trans (hal.mono hB.size)
          have h5 : w_8.heap[c5]? = some (.cells #[.int .i64 0, .int .i64 0, .string { data := #[] }, .slice none 0 0] 26 (0, 0)) := by rw [hw, hc]; exact heap_alloc_new _ _
          rw [← hw] at hHeld
          rw [← hw]
          rw [← hc]
          clear hw hc hal
          refine wpAnyH_ready (rs := [6]) (by kernel_rfl) (by simp) ?_
          refine AllReadyH.cons (o := ⟨none, _, _, _, _, _⟩) rfl (fun K hK => ?_) AllReadyH.nil
          have q0 := Lib.cell_of_heap h5 0
          have q1 := Lib.cell_of_heap h5 1
          have q2 := Lib.cell_of_heap h5 2
          have q3 := Lib.cell_of_heap h5 3
          have r0 := frozen_block (j := 0) h5
          have r1 := frozen_block (j := 1) h5
          have r2 := frozen_block (j := 2) h5
          have r3 := frozen_block (j := 3) h5
          have hst := set4 (v0 := .int .i64 za.kind) (v1 := .int .i64 za.tok.1) (v2 := .string za.tok.2) (v3 := .slice A1 za.kids.length eA) h5
          have hsz : ((((w_8.setCell ⟨c5, 0, none⟩ (.int .i64 za.kind)).setCell ⟨c5, 1, none⟩ (.int .i64 za.tok.1)).setCell ⟨c5, 2, none⟩ (.string za.tok.2)).setCell ⟨c5, 3, none⟩ (.slice A1 za.kids.length eA)).heap.size = w_8.heap.size := size4
          have hB : Below w0.heap.size w0 ((((w_8.setCell ⟨c5, 0, none⟩ (.int .i64 za.kind)).setCell ⟨c5, 1, none⟩ (.int .i64 za.tok.1)).setCell ⟨c5, 2, none⟩ (.string za.tok.2)).setCell ⟨c5, 3, none⟩ (.slice A1 za.kids.length eA)) := below4 hB g5
          have hot : ∀ b, b ≠ c5 → ((((w_8.setCell ⟨c5, 0, none⟩ (.int .i64 za.kind)).setCell ⟨c5, 1, none⟩ (.int .i64 za.tok.1)).setCell ⟨c5, 2, none⟩ (.string za.tok.2)).setCell ⟨c5, 3, none⟩ (.slice A1 za.kids.length eA)).heap[b]? = w_8.heap[b]? := fun b hb => other4 hb
          go_simp
          refine hK.out _ _ ?_ (fun hHeld => ?_)
          · exact keptS hB bx1 bx2
          clear hK K q0 q1 q2 q3 r0 r1 r2 r3
          try simp only [Act.put, List.setIfInBounds_toArray, List.set_cons_zero, List.set_cons_succ]
          obtain ⟨w_9, hw⟩ : ∃ x, x = ((((w_8.setCell ⟨c5, 0, none⟩ (.int .i64 za.kind)).setCell ⟨c5, 1, none⟩ (.int .i64 za.tok.1)).setCell ⟨c5, 2, none⟩ (.string za.tok.2)).setCell ⟨c5, 3, none⟩ (.slice A1 za.kids.length eA)) := ⟨_, rfl⟩
          rw [← hw] at hst hot hB hsz hHeld
          rw [← hw]
          have h5 := hst
          have h6 := (hot c6 (Ne.symm hcc)).trans h6
          have kA : KidsP (fun b => b ≠ c5 ∧ b ≠ c6) w_9 A1 za.kids := kA.kept (Nat.le_of_eq hsz.symm) (fun b hp _ => hot b hp.1) (fun b h _ => h)
          have kB : KidsP (fun b => b ≠ c5 ∧ b ≠ c6) w_9 B1 zb.kids := kB.kept (Nat.le_of_eq hsz.symm) (fun b hp _ => hot b hp.1) (fun b h _ => h)
          clear hw hst hot hsz
          refine wpAnyH_ready (rs := [7]) (by kernel_rfl) (by simp) ?_
          refine AllReadyH.cons (o := ⟨none, _, _, _, _, _⟩) rfl (fun K hK => ?_) AllReadyH.nil
          have q0 := Lib.cell_of_heap h6 0
          have q1 := Lib.cell_of_heap h6 1
          have q2 := Lib.cell_of_heap h6 2
          have q3 := Lib.cell_of_heap h6 3
          have r0 := frozen_block (j := 0) h6
          have r1 := frozen_block (j := 1) h6
          have r2 := frozen_block (j := 2) h6
          have r3 := frozen_block (j := 3) h6
          have hst := set4 (v0 := .int .i64 zb.kind) (v1 := .int .i64 zb.tok.1) (v2 := .string zb.tok.2) (v3 := .slice B1 zb.kids.length eB) h6
          have hsz : ((((w_9.setCell ⟨c6, 0, none⟩ (.int .i64 zb.kind)).setCell ⟨c6, 1, none⟩ (.int .i64 zb.tok.1)).setCell ⟨c6, 2, none⟩ (.string zb.tok.2)).setCell ⟨c6, 3, none⟩ (.slice B1 zb.kids.length eB)).heap.size = w_9.heap.size := size4
          have hB : Below w0.heap.size w0 ((((w_9.setCell ⟨c6, 0, none⟩ (.int .i64 zb.kind)).setCell ⟨c6, 1, none⟩ (.int .i64 zb.tok.1)).setCell ⟨c6, 2, none⟩ (.string zb.tok.2)).setCell ⟨c6, 3, none⟩ (.slice B1 zb.kids.length eB)) := below4 hB g6
          have hot : ∀ b, b ≠ c6 → ((((w_9.setCell ⟨c6, 0, none⟩ (.int .i64 zb.kind)).setCell ⟨c6, 1, none⟩ (.int .i64 zb.tok.1)).setCell ⟨c6, 2, none⟩ (.string zb.tok.2)).setCell ⟨c6, 3, none⟩ (.slice B1 zb.kids.length eB)).heap[b]? = w_9.heap[b]? := fun b hb => other4 hb
          go_simp
          refine hK.out _ _ ?_ (fun hHeld => ?_)
          · exact keptS hB bx1 bx2
          clear hK K q0 q1 q2 q3 r0 r1 r2 r3
          try simp only [Act.put, List.setIfInBounds_toArray, List.set_cons_zero, List.set_cons_succ]
          obtain ⟨w_10, hw⟩ : ∃ x, x = ((((w_9.setCell ⟨c6, 0, none⟩ (.int .i64 zb.kind)).setCell ⟨c6, 1, none⟩ (.int .i64 zb.tok.1)).setCell ⟨c6, 2, none⟩ (.string zb.tok.2)).setCell ⟨c6, 3, none⟩ (.slice B1 zb.kids.length eB)) := ⟨_, rfl⟩
          rw [← hw] at hst hot hB hsz hHeld
          rw [← hw]
          have h6 := hst
          have h5 := (hot c5 hcc).trans h5
          have kA : KidsP (fun b => b ≠ c5 ∧ b ≠ c6) w_10 A1 za.kids := kA.kept (Nat.le_of_eq hsz.symm) (fun b hp _ => hot b hp.2) (fun b h _ => h)
          have kB : KidsP (fun b => b ≠ c5 ∧ b ≠ c6) w_10 B1 zb.kids := kB.kept (Nat.le_of_eq hsz.symm) (fun b hp _ => hot b hp.2) (fun b h _ => h)
          clear hw hst hot hsz
          refine wpAnyH_done (by kernel_rfl) ?_ _
          go_wp2_with fail
          go_meet
          exact ⟨c5, c6, A1, eA, B1, eB, rfl, rfl, gA, gB, kA, kB, h5, h6, hcc, HB0.out.trans (hB.mono HB0.out.size)⟩
      · go_simp
        have hal : Below w_1.heap.size w_1 (w_1.alloc (.cells #[.int .i64 0, .int .i64 0, .string { data := #[] }, .slice none 0 0] 26)) := (Below.refl _ _).alloc (Nat.le_refl _) _
        refine hK.out _ _ ?_ (fun hHeld => ?_)
        · exact keptS (hB.trans (hal.mono hB.size)) bx1 bx2
        clear hK K
        try simp only [Act.put, List.setIfInBounds_toArray, List.set_cons_zero, List.set_cons_succ]
        obtain ⟨c5, hc⟩ : ∃ c, c = w_1.heap.size := ⟨_, rfl⟩
        obtain ⟨w_11, hw⟩ : ∃ x, x = w_1.alloc (.cells #[.int .i64 0, .int .i64 0, .string { data := #[] }, .slice none 0 0] 26) := ⟨_, rfl⟩
        rw [← hw] at hal
        have g5 : w0.heap.size ≤ c5 := by rw [hc]; exact hB.size
        have kA : KidsP (fun b => b ≠ c5) w_11 A1 za.kids := kA.kept hal.size (fun b _ hb => hal.block b hb) (fun b h hb => Nat.ne_of_lt (by rw [hc]; exact hb))
        have hB : Below w0.heap.size w0 w_11 := hB.trans (hal.mono hB.size)
        have h5 : w_11.heap[c5]? = some (.cells #[.int .i64 0, .int .i64 0, .string { data := #[] }, .slice none 0 0] 26 (0, 0)) := by rw [hw, hc]; exact heap_alloc_new _ _
        rw [← hw] at hHeld
        rw [← hw]
        rw [← hc]
        clear hw hc hal
        refine wpAnyH_ready (rs := [3, 5]) (by kernel_rfl) (by simp) ?_
        refine AllReadyH.cons (o := ⟨some 28, _, _, _, _, _⟩) rfl (fun K hK => ?_) (AllReadyH.cons (o := ⟨some 8, _, _, _, _, _⟩) rfl (fun K hK => ?_) AllReadyH.nil)
        · go_simp
          go_at_call 15
          with_reducible refine (HcutB.out _ hB).mono ?_
          rintro e w_12 ⟨vB, rfl, ⟨B1, eB, rfl, gB, kB⟩, hbC⟩
          have l5 : c5 < w_11.heap.size := (Array.getElem?_eq_some_iff.1 h5).1
          have kB : KidsP (fun b => b ≠ c5) w_12 B1 zb.kids := kB.kept (Nat.le_refl _) (fun _ _ _ => rfl) (fun b hb _ => (fun e => by omega))
          have h5 := keepB h5 hbC
          have kA : KidsP (fun b => b ≠ c5) w_12 A1 za.kids := kA.kept hbC.size (fun b _ hb => hbC.block b hb) (fun b h _ => h)
          have hB : Below w0.heap.size w0 w_12 := hB.trans (hbC.mono hB.size)
          refine hK.out _ _ ?_ (fun hHeld => ?_)
          · exact keptS hB bx1 bx2
          clear hK K hbC l5
          try simp only [Act.put, List.setIfInBounds_toArray, List.set_cons_zero, List.set_cons_succ]
          refine wpAnyH_ready (rs := [5]) (by kernel_rfl) (by simp) ?_
          refine AllReadyH.cons (o := ⟨some 8, _, _, _, _, _⟩) rfl (fun K hK => ?_) AllReadyH.nil
          go_simp
          have hal : Below w_12.heap.size w_12 (w_12.alloc (.cells #[.int .i64 0, .int .i64 0, .string { data := #[] }, .slice none 0 0] 26)) := (Below.refl _ _).alloc (Nat.le_refl _) _
          refine hK.out _ _ ?_ (fun hHeld => ?_)
          · exact keptS (hB.trans (hal.mono hB.size)) bx1 bx2
          clear hK K
          try simp only [Act.put, List.setIfInBounds_toArray, List.set_cons_zero, List.set_cons_succ]
          obtain ⟨c6, hc⟩ : ∃ c, c = w_12.heap.size := ⟨_, rfl⟩
          obtain ⟨w_13, hw⟩ : ∃ x, x = w_12.alloc (.cells #[.int .i64 0, .int .i64 0, .string { data := #[] }, .slice none 0 0] 26) := ⟨_, rfl⟩
          rw [← hw] at hal
          have g6 : w0.heap.size ≤ c6 := by rw [hc]; exact hB.size
          have hcc : c5 ≠ c6 := by have hlt : c5 < w_12.heap.size := (Array.getElem?_eq_some_iff.1 h5).1; omega
          have kA : KidsP (fun b => b ≠ c5 ∧ b ≠ c6) w_13 A1 za.kids := kA.kept hal.size (fun b _ hb => hal.block b hb) (fun b h hb => ⟨h, Nat.ne_of_lt (by rw [hc]; exact hb)⟩)
          have kB : KidsP (fun b => b ≠ c5 ∧ b ≠ c6) w_13 B1 zb.kids := kB.kept hal.size (fun b _ hb => hal.block b hb) (fun b h hb => ⟨h, Nat.ne_of_lt (by rw [hc]; exact hb)⟩)
          have h5 := keepB h5 hal
          have hB : Below w0.heap.size w0 w_13 := hB.trans (hal.mono hB.size)
          have h6 : w_13.heap[c6]? = some (.cells #[.int .i64 0, .int .i64 0, .string { data := #[] }, .slice none 0 0] 26 (0, 0)) := by rw [hw, hc]; exact heap_alloc_new _ _
          rw [← hw] at hHeld
          rw [← hw]
          rw [← hc]
          clear hw hc hal
          refine wpAnyH_ready (rs := [6]) (by kernel_rfl) (by simp) ?_
          refine AllReadyH.cons (o := ⟨none, _, _, _, _, _⟩) rfl (fun K hK => ?_) AllReadyH.nil
          have q0 := Lib.cell_of_heap h5 0
          have q1 := Lib.cell_of_heap h5 1
          have q2 := Lib.cell_of_heap h5 2
          have q3 := Lib.cell_of_heap h5 3
          have r0 := frozen_block (j := 0) h5
          have r1 := frozen_block (j := 1) h5
          have r2 := frozen_block (j := 2) h5
          have r3 := frozen_block (j := 3) h5
          have hst := set4 (v0 := .int .i64 za.kind) (v1 := .int .i64 za.tok.1) (v2 := .string za.tok.2) (v3 := .slice A1 za.kids.length eA) h5
          have hsz : ((((w_13.setCell ⟨c5, 0, none⟩ (.int .i64 za.kind)).setCell ⟨c5, 1, none⟩ (.int .i64 za.tok.1)).setCell ⟨c5, 2, none⟩ (.string za.tok.2)).setCell ⟨c5, 3, none⟩ (.slice A1 za.kids.length eA)).heap.size = w_13.heap.size := size4
          have hB : Below w0.heap.size w0 ((((w_13.setCell ⟨c5, 0, none⟩ (.int .i64 za.kind)).setCell ⟨c5, 1, none⟩ (.int .i64 za.tok.1)).setCell ⟨c5, 2, none⟩ (.string za.tok.2)).setCell ⟨c5, 3, none⟩ (.slice A1 za.kids.length eA)) := below4 hB g5
          have hot : ∀ b, b ≠ c5 → ((((w_13.setCell ⟨c5, 0, none⟩ (.int .i64 za.kind)).setCell ⟨c5, 1, none⟩ (.int .i64 za.tok.1)).setCell ⟨c5, 2, none⟩ (.string za.tok.2)).setCell ⟨c5, 3, none⟩ (.slice A1 za.kids.length eA)).heap[b]? = w_13.heap[b]? := fun b hb => other4 hb
          go_simp
          refine hK.out _ _ ?_ (fun hHeld => ?_)
          · exact keptS hB bx1 bx2
          clear hK K q0 q1 q2 q3 r0 r1 r2 r3
          try simp only [Act.put, List.setIfInBounds_toArray, List.set_cons_zero, List.set_cons_succ]
          obtain ⟨w_14, hw⟩ : ∃ x, x = ((((w_13.setCell ⟨c5, 0, none⟩ (.int .i64 za.kind)).setCell ⟨c5, 1, none⟩ (.int .i64 za.tok.1)).setCell ⟨c5, 2, none⟩ (.string za.tok.2)).setCell ⟨c5, 3, none⟩ (.slice A1 za.kids.length eA)) := ⟨_, rfl⟩
          rw [← hw] at hst hot hB hsz hHeld
          rw [← hw]
          have h5 := hst
          have h6 := (hot c6 (Ne.symm hcc)).trans h6
          have kA : KidsP (fun b => b ≠ c5 ∧ b ≠ c6) w_14 A1 za.kids := kA.kept (Nat.le_of_eq hsz.symm) (fun b hp _ => hot b hp.1) (fun b h _ => h)
          have kB : KidsP (fun b => b ≠ c5 ∧ b ≠ c6) w_14 B1 zb.kids := kB.kept (Nat.le_of_eq hsz.symm) (fun b hp _ => hot b hp.1) (fun b h _ => h)
          clear hw hst hot hsz
          refine wpAnyH_ready (rs := [7]) (by kernel_rfl) (by simp) ?_
          refine AllReadyH.cons (o := ⟨none, _, _, _, _, _⟩) rfl (fun K hK => ?_) AllReadyH.nil
          have q0 := Lib.cell_of_heap h6 0
          have q1 := Lib.cell_of_heap h6 1
          have q2 := Lib.cell_of_heap h6 2
          have q3 := Lib.cell_of_heap h6 3
          have r0 := frozen_block (j := 0) h6
          have r1 := frozen_block (j := 1) h6
          have r2 := frozen_block (j := 2) h6
          have r3 := frozen_block (j := 3) h6
          have hst := set4 (v0 := .int .i64 zb.kind) (v1 := .int .i64 zb.tok.1) (v2 := .string zb.tok.2) (v3 := .slice B1 zb.kids.length eB) h6
          have hsz : ((((w_14.setCell ⟨c6, 0, none⟩ (.int .i64 zb.kind)).setCell ⟨c6, 1, none⟩ (.int .i64 zb.tok.1)).setCell ⟨c6, 2, none⟩ (.string zb.tok.2)).setCell ⟨c6, 3, none⟩ (.slice B1 zb.kids.length eB)).heap.size = w_14.heap.size := size4
          have hB : Below w0.heap.size w0 ((((w_14.setCell ⟨c6, 0, none⟩ (.int .i64 zb.kind)).setCell ⟨c6, 1, none⟩ (.int .i64 zb.tok.1)).setCell ⟨c6, 2, none⟩ (.string zb.tok.2)).setCell ⟨c6, 3, none⟩ (.slice B1 zb.kids.length eB)) := below4 hB g6
          have hot : ∀ b, b ≠ c6 → ((((w_14.setCell ⟨c6, 0, none⟩ (.int .i64 zb.kind)).setCell ⟨c6, 1, none⟩ (.int .i64 zb.tok.1)).setCell ⟨c6, 2, none⟩ (.string zb.tok.2)).setCell ⟨c6, 3, none⟩ (.slice B1 zb.kids.length eB)).heap[b]? = w_14.heap[b]? := fun b hb => other4 hb
          go_simp
          refine hK.out _ _ ?_ (fun hHeld => ?_)
          · exact keptS hB bx1 bx2
          clear hK K q0 q1 q2 q3 r0 r1 r2 r3
          try simp only [Act.put, List.setIfInBounds_toArray, List.set_cons_zero, List.set_cons_succ]
          obtain ⟨w_15, hw⟩ : ∃ x, x = ((((w_14.setCell ⟨c6, 0, none⟩ (.int .i64 zb.kind)).setCell ⟨c6, 1, none⟩ (.int .i64 zb.tok.1)).setCell ⟨c6, 2, none⟩ (.string zb.tok.2)).setCell ⟨c6, 3, none⟩ (.slice B1 zb.kids.length eB)) := ⟨_, rfl⟩
          rw [← hw] at hst hot hB hsz hHeld
          rw [← hw]
          have h6 := hst
          have h5 := (hot c5 hcc).trans h5
          have kA : KidsP (fun b => b ≠ c5 ∧ b ≠ c6) w_15 A1 za.kids := kA.kept (Nat.le_of_eq hsz.symm) (fun b hp _ => hot b hp.2) (fun b h _ => h)
          have kB : KidsP (fun b => b ≠ c5 ∧ b ≠ c6) w_15 B1 zb.kids := kB.kept (Nat.le_of_eq hsz.symm) (fun b hp _ => hot b hp.2) (fun b h _ => h)
          clear hw hst hot hsz
          refine wpAnyH_done (by kernel_rfl) ?_ _
          go_wp2_with fail
          go_meet
          exact ⟨c5, c6, A1, eA, B1, eB, rfl, rfl, gA, gB, kA, kB, h5, h6, hcc, HB0.out.trans (hB.mono HB0.out.size)⟩
        · go_simp
          have hal : Below w_11.heap.size w_11 (w_11.alloc (.cells #[.int .i64 0, .int .i64 0, .string { data := #[] }, .slice none 0 0] 26)) := (Below.refl _ _).alloc (Nat.le_refl _) _
          refine hK.out _ _ ?_ (fun hHeld => ?_)
          · exact keptS (hB.trans (hal.mono hB.size)) bx1 bx2
          clear hK K
          try simp only [Act.put, List.setIfInBounds_toArray, List.set_cons_zero, List.set_cons_succ]
          obtain ⟨c6, hc⟩ : ∃ c, c = w_11.heap.size := ⟨_, rfl⟩
          obtain ⟨w_16, hw⟩ : ∃ x, x = w_11.alloc (.cells #[.int .i64 0, .int .i64 0, .string { data := #[] }, .slice none 0 0] 26) := ⟨_, rfl⟩
          rw [← hw] at hal
          have g6 : w0.heap.size ≤ c6 := by rw [hc]; exact hB.size
          have hcc : c5 ≠ c6 := by have hlt : c5 < w_11.heap.size := (Array.getElem?_eq_some_iff.1 h5).1; omega
          have kA : KidsP (fun b => b ≠ c5 ∧ b ≠ c6) w_16 A1 za.kids := kA.kept hal.size (fun b _ hb => hal.block b hb) (fun b h hb => ⟨h, Nat.ne_of_lt (by rw [hc]; exact hb)⟩)
          have h5 := keepB h5 hal
          have hB : Below w0.heap.size w0 w_16 := hB.trans (hal.mono hB.size)
          have h6 : w_16.heap[c6]? = some (.cells #[.int .i64 0, .int .i64 0, .string { data := #[] }, .slice none 0 0] 26 (0, 0)) := by rw [hw, hc]; exact heap_alloc_new _ _
          rw [← hw] at hHeld
          rw [← hw]
          rw [← hc]
          clear hw hc hal
          refine wpAnyH_ready (rs := [3]) (by kernel_rfl) (by simp) ?_
          refine AllReadyH.cons (o := ⟨some 28, _, _, _, _, _⟩) rfl (fun K hK => ?_) AllReadyH.nil
          go_simp
          go_at_call 15
          with_reducible refine (HcutB.out _ hB).mono ?_
          rintro e w_17 ⟨vB, rfl, ⟨B1, eB, rfl, gB, kB⟩, hbC⟩
          have l5 : c5 < w_16.heap.size := (Array.getElem?_eq_some_iff.1 h5).1
          have l6 : c6 < w_16.heap.size := (Array.getElem?_eq_some_iff.1 h6).1
          have kB : KidsP (fun b => b ≠ c5 ∧ b ≠ c6) w_17 B1 zb.kids := kB.kept (Nat.le_refl _) (fun _ _ _ => rfl) (fun b hb _ => ⟨fun e => by omega, fun e => by omega⟩)
          have h5 := keepB h5 hbC
          have h6 := keepB h6 hbC
          have kA : KidsP (fun b => b ≠ c5 ∧ b ≠ c6) w_17 A1 za.kids := kA.kept hbC.size (fun b _ hb => hbC.block b hb) (fun b h _ => h)
          have hB : Below w0.heap.size w0 w_17 := hB.trans (hbC.mono hB.size)
          refine hK.out _ _ ?_ (fun hHeld => ?_)
          · exact keptS hB bx1 bx2
          clear hK K hbC l5 l6
          try simp only [Act.put, List.setIfInBounds_toArray, List.set_cons_zero, List.set_cons_succ]
          refine wpAnyH_ready (rs := [6]) (by kernel_rfl) (by simp) ?_
          refine AllReadyH.cons (o := ⟨none, _, _, _, _, _⟩) rfl (fun K hK => ?_) AllReadyH.nil
          have q0 := Lib.cell_of_heap h5 0
          have q1 := Lib.cell_of_heap h5 1
          have q2 := Lib.cell_of_heap h5 2
          have q3 := Lib.cell_of_heap h5 3
          have r0 := frozen_block (j := 0) h5
          have r1 := frozen_block (j := 1) h5
          have r2 := frozen_block (j := 2) h5
          have r3 := frozen_block (j := 3) h5
          have hst := set4 (v0 := .int .i64 za.kind) (v1 := .int .i64 za.tok.1) (v2 := .string za.tok.2) (v3 := .slice A1 za.kids.length eA) h5
          have hsz : ((((w_17.setCell ⟨c5, 0, none⟩ (.int .i64 za.kind)).setCell ⟨c5, 1, none⟩ (.int .i64 za.tok.1)).setCell ⟨c5, 2, none⟩ (.string za.tok.2)).setCell ⟨c5, 3, none⟩ (.slice A1 za.kids.length eA)).heap.size = w_17.heap.size := size4
          have hB : Below w0.heap.size w0 ((((w_17.setCell ⟨c5, 0, none⟩ (.int .i64 za.kind)).setCell ⟨c5, 1, none⟩ (.int .i64 za.tok.1)).setCell ⟨c5, 2, none⟩ (.string za.tok.2)).setCell ⟨c5, 3, none⟩ (.slice A1 za.kids.length eA)) := below4 hB g5
          have hot : ∀ b, b ≠ c5 → ((((w_17.setCell ⟨c5, 0, none⟩ (.int .i64 za.kind)).setCell ⟨c5, 1, none⟩ (.int .i64 za.tok.1)).setCell ⟨c5, 2, none⟩ (.string za.tok.2)).setCell ⟨c5, 3, none⟩ (.slice A1 za.kids.length eA)).heap[b]? = w_17.heap[b]? := fun b hb => other4 hb
          go_simp
          refine hK.out _ _ ?_ (fun hHeld => ?_)
          · exact keptS hB bx1 bx2
          clear hK K q0 q1 q2 q3 r0 r1 r2 r3
          try simp only [Act.put, List.setIfInBounds_toArray, List.set_cons_zero, List.set_cons_succ]
          obtain ⟨w_18, hw⟩ : ∃ x, x = ((((w_17.setCell ⟨c5, 0, none⟩ (.int .i64 za.kind)).setCell ⟨c5, 1, none⟩ (.int .i64 za.tok.1)).setCell ⟨c5, 2, none⟩ (.string za.tok.2)).setCell ⟨c5, 3, none⟩ (.slice A1 za.kids.length eA)) := ⟨_, rfl⟩
          rw [← hw] at hst hot hB hsz hHeld
          rw [← hw]
          have h5 := hst
          have h6 := (hot c6 (Ne.symm hcc)).trans h6
          have kA : KidsP (fun b => b ≠ c5 ∧ b ≠ c6) w_18 A1 za.kids := kA.kept (Nat.le_of_eq hsz.symm) (fun b hp _ => hot b hp.1) (fun b h _ => h)
          have kB : KidsP (fun b => b ≠ c5 ∧ b ≠ c6) w_18 B1 zb.kids := kB.kept (Nat.le_of_eq hsz.symm) (fun b hp _ => hot b hp.1) (fun b h _ => h)
          clear hw hst hot hsz
          refine wpAnyH_ready (rs := [7]) (by kernel_rfl) (by simp) ?_
          refine AllReadyH.cons (o := ⟨none, _, _, _, _, _⟩) rfl (fun K hK => ?_) AllReadyH.nil
          have q0 := Lib.cell_of_heap h6 0
          have q1 := Lib.cell_of_heap h6 1
          have q2 := Lib.cell_of_heap h6 2
          have q3 := Lib.cell_of_heap h6 3
          have r0 := frozen_block (j := 0) h6
          have r1 := frozen_block (j := 1) h6
          have r2 := frozen_block (j := 2) h6
          have r3 := frozen_block (j := 3) h6
          have hst := set4 (v0 := .int .i64 zb.kind) (v1 := .int .i64 zb.tok.1) (v2 := .string zb.tok.2) (v3 := .slice B1 zb.kids.length eB) h6
          have hsz : ((((w_18.setCell ⟨c6, 0, none⟩ (.int .i64 zb.kind)).setCell ⟨c6, 1, none⟩ (.int .i64 zb.tok.1)).setCell ⟨c6, 2, none⟩ (.string zb.tok.2)).setCell ⟨c6, 3, none⟩ (.slice B1 zb.kids.length eB)).heap.size = w_18.heap.size := size4
          have hB : Below w0.heap.size w0 ((((w_18.setCell ⟨c6, 0, none⟩ (.int .i64 zb.kind)).setCell ⟨c6, 1, none⟩ (.int .i64 zb.tok.1)).setCell ⟨c6, 2, none⟩ (.string zb.tok.2)).setCell ⟨c6, 3, none⟩ (.slice B1 zb.kids.length eB)) := below4 hB g6
          have hot : ∀ b, b ≠ c6 → ((((w_18.setCell ⟨c6, 0, none⟩ (.int .i64 zb.kind)).setCell ⟨c6, 1, none⟩ (.int .i64 zb.tok.1)).setCell ⟨c6, 2, none⟩ (.string zb.tok.2)).setCell ⟨c6, 3, none⟩ (.slice B1 zb.kids.length eB)).heap[b]? = w_18.heap[b]? := fun b hb => other4 hb
          go_simp
          refine hK.out _ _ ?_ (fun hHeld => ?_)
          · exact keptS hB bx1 bx2
          clear hK K q0 q1 q2 q3 r0 r1 r2 r3
          try simp only [Act.put, List.setIfInBounds_toArray, List.set_cons_zero, List.set_cons_succ]
          obtain ⟨w_19, hw⟩ : ∃ x, x = ((((w_18.setCell ⟨c6, 0, none⟩ (.int .i64 zb.kind)).setCell ⟨c6, 1, none⟩ (.int .i64 zb.tok.1)).setCell ⟨c6, 2, none⟩ (.string zb.tok.2)).setCell ⟨c6, 3, none⟩ (.slice B1 zb.kids.length eB)) := ⟨_, rfl⟩
          rw [← hw] at hst hot hB hsz hHeld
          rw [← hw]
          have h6 := hst
          have h5 := (hot c5 hcc).trans h5
          have kA : KidsP (fun b => b ≠ c5 ∧ b ≠ c6) w_19 A1 za.kids := kA.kept (Nat.le_of_eq hsz.symm) (fun b hp _ => hot b hp.2) (fun b h _ => h)
          have kB : KidsP (fun b => b ≠ c5 ∧ b ≠ c6) w_19 B1 zb.kids := kB.kept (Nat.le_of_eq hsz.symm) (fun b hp _ => hot b hp.2) (fun b h _ => h)
          clear hw hst hot hsz
          refine wpAnyH_done (by kernel_rfl) ?_ _
          go_wp2_with fail
          go_meet
          exact ⟨c5, c6, A1, eA, B1, eB, rfl, rfl, gA, gB, kA, kB, h5, h6, hcc, HB0.out.trans (hB.mono HB0.out.size)⟩
      · go_simp
        have hal : Below w_1.heap.size w_1 (w_1.alloc (.cells #[.int .i64 0, .int .i64 0, .string { data := #[] }, .slice none 0 0] 26)) := (Below.refl _ _).alloc (Nat.le_refl _) _
        refine hK.out _ _ ?_ (fun hHeld => ?_)
        · exact keptS (hB.trans (hal.mono hB.size)) bx1 bx2
        clear hK K
        try simp only [Act.put, List.setIfInBounds_toArray, List.set_cons_zero, List.set_cons_succ]
        obtain ⟨c6, hc⟩ : ∃ c, c = w_1.heap.size := ⟨_, rfl⟩
        obtain ⟨w_20, hw⟩ : ∃ x, x = w_1.alloc (.cells #[.int .i64 0, .int .i64 0, .string { data := #[] }, .slice none 0 0] 26) := ⟨_, rfl⟩
        rw [← hw] at hal
        have g6 : w0.heap.size ≤ c6 := by rw [hc]; exact hB.size
        have kA : KidsP (fun b => b ≠ c6) w_20 A1 za.kids := kA.kept hal.size (fun b _ hb => hal.block b hb) (fun b h hb => Nat.ne_of_lt (by rw [hc]; exact hb))
        have hB : Below w0.heap.size w0 w_20 := hB.trans (hal.mono hB.size)
        have h6 : w_20.heap[c6]? = some (.cells #[.int .i64 0, .int .i64 0, .string { data := #[] }, .slice none 0 0] 26 (0, 0)) := by rw [hw, hc]; exact heap_alloc_new _ _
        rw [← hw] at hHeld
        rw [← hw]
        rw [← hc]
        clear hw hc hal
        refine wpAnyH_ready (rs := [3, 4]) (by kernel_rfl) (by simp) ?_
        refine AllReadyH.cons (o := ⟨some 28, _, _, _, _, _⟩) rfl (fun K hK => ?_) (AllReadyH.cons (o := ⟨some 7, _, _, _, _, _⟩) rfl (fun K hK => ?_) AllReadyH.nil)
        · go_simp
          go_at_call 15
          with_reducible refine (HcutB.out _ hB).mono ?_
          rintro e w_21 ⟨vB, rfl, ⟨B1, eB, rfl, gB, kB⟩, hbC⟩
          have l6 : c6 < w_20.heap.size := (Array.getElem?_eq_some_iff.1 h6).1
          have kB : KidsP (fun b => b ≠ c6) w_21 B1 zb.kids := kB.kept (Nat.le_refl _) (fun _ _ _ => rfl) (fun b hb _ => (fun e => by omega))
          have h6 := keepB h6 hbC
          have kA : KidsP (fun b => b ≠ c6) w_21 A1 za.kids := kA.kept hbC.size (fun b _ hb => hbC.block b hb) (fun b h _ => h)
          have hB : Below w0.heap.size w0 w_21 := hB.trans (hbC.mono hB.size)
          refine hK.out _ _ ?_ (fun hHeld => ?_)
          · exact keptS hB bx1 bx2
          clear hK K hbC l6
          try simp only [Act.put, List.setIfInBounds_toArray, List.set_cons_zero, List.set_cons_succ]
          refine wpAnyH_ready (rs := [4]) (by kernel_rfl) (by simp) ?_
          refine AllReadyH.cons (o := ⟨some 7, _, _, _, _, _⟩) rfl (fun K hK => ?_) AllReadyH.nil
          go_simp
          have hal : Below w_21.heap.size w_21 (w_21.alloc (.cells #[.int .i64 0, .int .i64 0, .string { data := #[] }, .slice none 0 0] 26)) := (Below.refl _ _).alloc (Nat.le_refl _) _
          refine hK.out _ _ ?_ (fun hHeld => ?_)
          · exact keptS (hB.trans (hal.mono hB.size)) bx1 bx2
          clear hK K
          try simp only [Act.put, List.setIfInBounds_toArray, List.set_cons_zero, List.set_cons_succ]
          obtain ⟨c5, hc⟩ : ∃ c, c = w_21.heap.size := ⟨_, rfl⟩
          obtain ⟨w_22, hw⟩ : ∃ x, x = w_21.alloc (.cells #[.int .i64 0, .int .i64 0, .string { data := #[] }, .slice none 0 0] 26) := ⟨_, rfl⟩
          rw [← hw] at hal
          have g5 : w0.heap.size ≤ c5 := by rw [hc]; exact hB.size
          have hcc : c5 ≠ c6 := by have hlt : c6 < w_21.heap.size := (Array.getElem?_eq_some_iff.1 h6).1; omega
          have kA : KidsP (fun b => b ≠ c5 ∧ b ≠ c6) w_22 A1 za.kids := kA.kept hal.size (fun b _ hb => hal.block b hb) (fun b h hb => ⟨Nat.ne_of_lt (by rw [hc]; exact hb), h⟩)
          have kB : KidsP (fun b => b ≠ c5 ∧ b ≠ c6) w_22 B1 zb.kids := kB.kept hal.size (fun b _ hb => hal.block b hb) (fun b h hb => ⟨Nat.ne_of_lt (by rw [hc]; exact hb), h⟩)
          have h6 := keepB h6 hal
          have hB : Below w0.heap.size w0 w_22 := hB.trans (hal.mono hB.size)
          have h5 : w_22.heap[c5]? = some (.cells #[.int .i64 0, .int .i64 0, .string { data := #[] }, .slice none 0 0] 26 (0, 0)) := by rw [hw, hc]; exact heap_alloc_new _ _
          rw [← hw] at hHeld
          rw [← hw]
          rw [← hc]
          clear hw hc hal
          refine wpAnyH_ready (rs := [6]) (by kernel_rfl) (by simp) ?_
          refine AllReadyH.cons (o := ⟨none, _, _, _, _, _⟩) rfl (fun K hK => ?_) AllReadyH.nil
          have q0 := Lib.cell_of_heap h5 0
          have q1 := Lib.cell_of_heap h5 1
          have q2 := Lib.cell_of_heap h5 2
          have q3 := Lib.cell_of_heap h5 3
          have r0 := frozen_block (j := 0) h5
          have r1 := frozen_block (j := 1) h5
          have r2 := frozen_block (j := 2) h5
          have r3 := frozen_block (j := 3) h5
          have hst := set4 (v0 := .int .i64 za.kind) (v1 := .int .i64 za.tok.1) (v2 := .string za.tok.2) (v3 := .slice A1 za.kids.length eA) h5
          have hsz : ((((w_22.setCell ⟨c5, 0, none⟩ (.int .i64 za.kind)).setCell ⟨c5, 1, none⟩ (.int .i64 za.tok.1)).setCell ⟨c5, 2, none⟩ (.string za.tok.2)).setCell ⟨c5, 3, none⟩ (.slice A1 za.kids.length eA)).heap.size = w_22.heap.size := size4
          have hB : Below w0.heap.size w0 ((((w_22.setCell ⟨c5, 0, none⟩ (.int .i64 za.kind)).setCell ⟨c5, 1, none⟩ (.int .i64 za.tok.1)).setCell ⟨c5, 2, none⟩ (.string za.tok.2)).setCell ⟨c5, 3, none⟩ (.slice A1 za.kids.length eA)) := below4 hB g5
          have hot : ∀ b, b ≠ c5 → ((((w_22.setCell ⟨c5, 0, none⟩ (.int .i64 za.kind)).setCell ⟨c5, 1, none⟩ (.int .i64 za.tok.1)).setCell ⟨c5, 2, none⟩ (.string za.tok.2)).setCell ⟨c5, 3, none⟩ (.slice A1 za.kids.length eA)).heap[b]? = w_22.heap[b]? := fun b hb => other4 hb
          go_simp
          refine hK.out _ _ ?_ (fun hHeld => ?_)
          · exact keptS hB bx1 bx2
          clear hK K q0 q1 q2 q3 r0 r1 r2 r3
          try simp only [Act.put, List.setIfInBounds_toArray, List.set_cons_zero, List.set_cons_succ]
          obtain ⟨w_23, hw⟩ : ∃ x, x = ((((w_22.setCell ⟨c5, 0, none⟩ (.int .i64 za.kind)).setCell ⟨c5, 1, none⟩ (.int .i64 za.tok.1)).setCell ⟨c5, 2, none⟩ (.string za.tok.2)).setCell ⟨c5, 3, none⟩ (.slice A1 za.kids.length eA)) := ⟨_, rfl⟩
          rw [← hw] at hst hot hB hsz hHeld
          rw [← hw]
          have h5 := hst
          have h6 := (hot c6 (Ne.symm hcc)).trans h6
          have kA : KidsP (fun b => b ≠ c5 ∧ b ≠ c6) w_23 A1 za.kids := kA.kept (Nat.le_of_eq hsz.symm) (fun b hp _ => hot b hp.1) (fun b h _ => h)
          have kB : KidsP (fun b => b ≠ c5 ∧ b ≠ c6) w_23 B1 zb.kids := kB.kept (Nat.le_of_eq hsz.symm) (fun b hp _ => hot b hp.1) (fun b h _ => h)
          clear hw hst hot hsz
          refine wpAnyH_ready (rs := [7]) (by kernel_rfl) (by simp) ?_
          refine AllReadyH.cons (o := ⟨none, _, _, _, _, _⟩) rfl (fun K hK => ?_) AllReadyH.nil
          have q0 := Lib.cell_of_heap h6 0
          have q1 := Lib.cell_of_heap h6 1
          have q2 := Lib.cell_of_heap h6 2
          have q3 := Lib.cell_of_heap h6 3
          have r0 := frozen_block (j := 0) h6
          have r1 := frozen_block (j := 1) h6
          have r2 := frozen_block (j := 2) h6
          have r3 := frozen_block (j := 3) h6
          have hst := set4 (v0 := .int .i64 zb.kind) (v1 := .int .i64 zb.tok.1) (v2 := .string zb.tok.2) (v3 := .slice B1 zb.kids.length eB) h6
          have hsz : ((((w_23.setCell ⟨c6, 0, none⟩ (.int .i64 zb.kind)).setCell ⟨c6, 1, none⟩ (.int .i64 zb.tok.1)).setCell ⟨c6, 2, none⟩ (.string zb.tok.2)).setCell ⟨c6, 3, none⟩ (.slice B1 zb.kids.length eB)).heap.size = w_23.heap.size := size4
          have hB : Below w0.heap.size w0 ((((w_23.setCell ⟨c6, 0, none⟩ (.int .i64 zb.kind)).setCell ⟨c6, 1, none⟩ (.int .i64 zb.tok.1)).setCell ⟨c6, 2, none⟩ (.string zb.tok.2)).setCell ⟨c6, 3, none⟩ (.slice B1 zb.kids.length eB)) := below4 hB g6
          have hot : ∀ b, b ≠ c6 → ((((w_23.setCell ⟨c6, 0, none⟩ (.int .i64 zb.kind)).setCell ⟨c6, 1, none⟩ (.int .i64 zb.tok.1)).setCell ⟨c6, 2, none⟩ (.string zb.tok.2)).setCell ⟨c6, 3, none⟩ (.slice B1 zb.kids.length eB)).heap[b]? = w_23.heap[b]? := fun b hb => other4 hb
          go_simp
          refine hK.out _ _ ?_ (fun hHeld => ?_)
          · exact keptS hB bx1 bx2
          clear hK K q0 q1 q2 q3 r0 r1 r2 r3
          try simp only [Act.put, List.setIfInBounds_toArray, List.set_cons_zero, List.set_cons_succ]
          obtain ⟨w_24, hw⟩ : ∃ x, x = ((((w_23.setCell ⟨c6, 0, none⟩ (.int .i64 zb.kind)).setCell ⟨c6, 1, none⟩ (.int .i64 zb.tok.1)).setCell ⟨c6, 2, none⟩ (.string zb.tok.2)).setCell ⟨c6, 3, none⟩ (.slice B1 zb.kids.length eB)) := ⟨_, rfl⟩
          rw [← hw] at hst hot hB hsz hHeld
          rw [← hw]
          have h6 := hst
          have h5 := (hot c5 hcc).trans h5
          have kA : KidsP (fun b => b ≠ c5 ∧ b ≠ c6) w_24 A1 za.kids := kA.kept (Nat.le_of_eq hsz.symm) (fun b hp _ => hot b hp.2) (fun b h _ => h)
          have kB : KidsP (fun b => b ≠ c5 ∧ b ≠ c6) w_24 B1 zb.kids := kB.kept (Nat.le_of_eq hsz.symm) (fun b hp _ => hot b hp.2) (fun b h _ => h)
          clear hw hst hot hsz
          refine wpAnyH_done (by kernel_rfl) ?_ _
          go_wp2_with fail
          go_meet
          exact ⟨c5, c6, A1, eA, B1, eB, rfl, rfl, gA, gB, kA, kB, h5, h6, hcc, HB0.out.trans (hB.mono HB0.out.size)⟩
        · go_simp
          have hal : Below w_20.heap.size w_20 (w_20.alloc (.cells #[.int .i64 0, .int .i64 0, .string { data := #[] }, .slice none 0 0] 26)) := (Below.refl _ _).alloc (Nat.le_refl _) _
          refine hK.out _ _ ?_ (fun hHeld => ?_)
          · exact keptS (hB.trans (hal.mono hB.size)) bx1 bx2
          clear hK K
          try simp only [Act.put, List.setIfInBounds_toArray, List.set_cons_zero, List.set_cons_succ]
          obtain ⟨c5, hc⟩ : ∃ c, c = w_20.heap.size := ⟨_, rfl⟩
          obtain ⟨w_25, hw⟩ : ∃ x, x = w_20.alloc (.cells #[.int .i64 0, .int .i64 0, .string { data := #[] }, .slice none 0 0] 26) := ⟨_, rfl⟩
          rw [← hw] at hal
          have g5 : w0.heap.size ≤ c5 := by rw [hc]; exact hB.size
          have hcc : c5 ≠ c6 := by have hlt : c6 < w_20.heap.size := (Array.getElem?_eq_some_iff.1 h6).1; omega
          have kA : KidsP (fun b => b ≠ c5 ∧ b ≠ c6) w_25 A1 za.kids := kA.kept hal.size (fun b _ hb => hal.block b hb) (fun b h hb => ⟨Nat.ne_of_lt (by rw [hc]; exact hb), h⟩)
          have h6 := keepB h6 hal
          have hB : Below w0.heap.size w0 w_25 := hB.trans (hal.mono hB.size)
          have h5 : w_25.heap[c5]? = some (.cells #[.int .i64 0, .int .i64 0, .string { data := #[] }, .slice none 0 0] 26 (0, 0)) := by rw [hw, hc]; exact heap_alloc_new _ _
          rw [← hw] at hHeld
          rw [← hw]
          rw [← hc]
          clear hw hc hal
          refine wpAnyH_ready (rs := [3]) (by kernel_rfl) (by simp) ?_
          refine AllReadyH.cons (o := ⟨some 28, _, _, _, _, _⟩) rfl (fun K hK => ?_) AllReadyH.nil
          go_simp
          go_at_call 15
          with_reducible refine (HcutB.out _ hB).mono ?_
          rintro e w_26 ⟨vB, rfl, ⟨B1, eB, rfl, gB, kB⟩, hbC⟩
          have l5 : c5 < w_25.heap.size := (Array.getElem?_eq_some_iff.1 h5).1
          have l6 : c6 < w_25.heap.size := (Array.getElem?_eq_some_iff.1 h6).1
          have kB : KidsP (fun b => b ≠ c5 ∧ b ≠ c6) w_26 B1 zb.kids := kB.kept (Nat.le_refl _) (fun _ _ _ => rfl) (fun b hb _ => ⟨fun e => by omega, fun e => by omega⟩)
          have h5 := keepB h5 hbC
          have h6 := keepB h6 hbC
          have kA : KidsP (fun b => b ≠ c5 ∧ b ≠ c6) w_26 A1 za.kids := kA.kept hbC.size (fun b _ hb => hbC.block b hb) (fun b h _ => h)
          have hB : Below w0.heap.size w0 w_26 := hB.trans (hbC.mono hB.size)
          refine hK.out _ _ ?_ (fun hHeld => ?_)
          · exact keptS hB bx1 bx2
          clear hK K hbC l5 l6
          try simp only [Act.put, List.setIfInBounds_toArray, List.set_cons_zero, List.set_cons_succ]
          refine wpAnyH_ready (rs := [6]) (by kernel_rfl) (by simp) ?_
          refine AllReadyH.cons (o := ⟨none, _, _, _, _, _⟩) rfl (fun K hK => ?_) AllReadyH.nil
          have q0 := Lib.cell_of_heap h5 0
          have q1 := Lib.cell_of_heap h5 1
          have q2 := Lib.cell_of_heap h5 2
          have q3 := Lib.cell_of_heap h5 3
          have r0 := frozen_block (j := 0) h5
          have r1 := frozen_block (j := 1) h5
          have r2 := frozen_block (j := 2) h5
          have r3 := frozen_block (j := 3) h5
          have hst := set4 (v0 := .int .i64 za.kind) (v1 := .int .i64 za.tok.1) (v2 := .string za.tok.2) (v3 := .slice A1 za.kids.length eA) h5
          have hsz : ((((w_26.setCell ⟨c5, 0, none⟩ (.int .i64 za.kind)).setCell ⟨c5, 1, none⟩ (.int .i64 za.tok.1)).setCell ⟨c5, 2, none⟩ (.string za.tok.2)).setCell ⟨c5, 3, none⟩ (.slice A1 za.kids.length eA)).heap.size = w_26.heap.size := size4
          have hB : Below w0.heap.size w0 ((((w_26.setCell ⟨c5, 0, none⟩ (.int .i64 za.kind)).setCell ⟨c5, 1, none⟩ (.int .i64 za.tok.1)).setCell ⟨c5, 2, none⟩ (.string za.tok.2)).setCell ⟨c5, 3, none⟩ (.slice A1 za.kids.length eA)) := below4 hB g5
          have hot : ∀ b, b ≠ c5 → ((((w_26.setCell ⟨c5, 0, none⟩ (.int .i64 za.kind)).setCell ⟨c5, 1, none⟩ (.int .i64 za.tok.1)).setCell ⟨c5, 2, none⟩ (.string za.tok.2)).setCell ⟨c5, 3, none⟩ (.slice A1 za.kids.length eA)).heap[b]? = w_26.heap[b]? := fun b hb => other4 hb
          go_simp
          refine hK.out _ _ ?_ (fun hHeld => ?_)
          · exact keptS hB bx1 bx2
          clear hK K q0 q1 q2 q3 r0 r1 r2 r3
          try simp only [Act.put, List.setIfInBounds_toArray, List.set_cons_zero, List.set_cons_succ]
          obtain ⟨w_27, hw⟩ : ∃ x, x = ((((w_26.setCell ⟨c5, 0, none⟩ (.int .i64 za.kind)).setCell ⟨c5, 1, none⟩ (.int .i64 za.tok.1)).setCell ⟨c5, 2, none⟩ (.string za.tok.2)).setCell ⟨c5, 3, none⟩ (.slice A1 za.kids.length eA)) := ⟨_, rfl⟩
          rw [← hw] at hst hot hB hsz hHeld
          rw [← hw]
          have h5 := hst
          have h6 := (hot c6 (Ne.symm hcc)).trans h6
          have kA : KidsP (fun b => b ≠ c5 ∧ b ≠ c6) w_27 A1 za.kids := kA.kept (Nat.le_of_eq hsz.symm) (fun b hp _ => hot b hp.1) (fun b h _ => h)
          have kB : KidsP (fun b => b ≠ c5 ∧ b ≠ c6) w_27 B1 zb.kids := kB.kept (Nat.le_of_eq hsz.symm) (fun b hp _ => hot b hp.1) (fun b h _ => h)
          clear hw hst hot hsz
          refine wpAnyH_ready (rs := [7]) (by kernel_rfl) (by simp) ?_
          refine AllReadyH.cons (o := ⟨none, _, _, _, _, _⟩) rfl (fun K hK => ?_) AllReadyH.nil
          have q0 := Lib.cell_of_heap h6 0
          have q1 := Lib.cell_of_heap h6 1
          have q2 := Lib.cell_of_heap h6 2
          have q3 := Lib.cell_of_heap h6 3
          have r0 := frozen_block (j := 0) h6
          have r1 := frozen_block (j := 1) h6
          have r2 := frozen_block (j := 2) h6
          have r3 := frozen_block (j := 3) h6
          have hst := set4 (v0 := .int .i64 zb.kind) (v1 := .int .i64 zb.tok.1) (v2 := .string zb.tok.2) (v3 := .slice B1 zb.kids.length eB) h6
          have hsz : ((((w_27.setCell ⟨c6, 0, none⟩ (.int .i64 zb.kind)).setCell ⟨c6, 1, none⟩ (.int .i64 zb.tok.1)).setCell ⟨c6, 2, none⟩ (.string zb.tok.2)).setCell ⟨c6, 3, none⟩ (.slice B1 zb.kids.length eB)).heap.size = w_27.heap.size := size4
          have hB : Below w0.heap.size w0 ((((w_27.setCell ⟨c6, 0, none⟩ (.int .i64 zb.kind)).setCell ⟨c6, 1, none⟩ (.int .i64 zb.tok.1)).setCell ⟨c6, 2, none⟩ (.string zb.tok.2)).setCell ⟨c6, 3, none⟩ (.slice B1 zb.kids.length eB)) := below4 hB g6
          have hot : ∀ b, b ≠ c6 → ((((w_27.setCell ⟨c6, 0, none⟩ (.int .i64 zb.kind)).setCell ⟨c6, 1, none⟩ (.int .i64 zb.tok.1)).setCell ⟨c6, 2, none⟩ (.string zb.tok.2)).setCell ⟨c6, 3, none⟩ (.slice B1 zb.kids.length eB)).heap[b]? = w_27.heap[b]? := fun b hb => other4 hb
          go_simp
          refine hK.out _ _ ?_ (fun hHeld => ?_)
          · exact keptS hB bx1 bx2
          clear hK K q0 q1 q2 q3 r0 r1 r2 r3
          try simp only [Act.put, List.setIfInBounds_toArray, List.set_cons_zero, List.set_cons_succ]
          obtain ⟨w_28, hw⟩ : ∃ x, x = ((((w_27.setCell ⟨c6, 0, none⟩ (.int .i64 zb.kind)).setCell ⟨c6, 1, none⟩ (.int .i64 zb.tok.1)).setCell ⟨c6, 2, none⟩ (.string zb.tok.2)).setCell ⟨c6, 3, none⟩ (.slice B1 zb.kids.length eB)) := ⟨_, rfl⟩
          rw [← hw] at hst hot hB hsz hHeld
          rw [← hw]
          have h6 := hst
          have h5 := (hot c5 hcc).trans h5
          have kA : KidsP (fun b => b ≠ c5 ∧ b ≠ c6) w_28 A1 za.kids := kA.kept (Nat.le_of_eq hsz.symm) (fun b hp _ => hot b hp.2) (fun b h _ => h)
          have kB : KidsP (fun b => b ≠ c5 ∧ b ≠ c6) w_28 B1 zb.kids := kB.kept (Nat.le_of_eq hsz.symm) (fun b hp _ => hot b hp.2) (fun b h _ => h)
          clear hw hst hot hsz
          refine wpAnyH_done (by kernel_rfl) ?_ _
          go_wp2_with fail
          go_meet
          exact ⟨c5, c6, A1, eA, B1, eB, rfl, rfl, gA, gB, kA, kB, h5, h6, hcc, HB0.out.trans (hB.mono HB0.out.size)⟩
    · go_simp
      have hal : Below w_0.heap.size w_0 (w_0.alloc (.cells #[.int .i64 0, .int .i64 0, .string { data := #[] }, .slice none 0 0] 26)) := (Below.refl _ _).alloc (Nat.le_refl _) _
      refine hK.out _ _ ?_ (fun hHeld => ?_)
      · exact keptS (hB.trans (hal.mono hB.size)) bx1 bx2
      clear hK K
      try simp only [Act.put, List.setIfInBounds_toArray, List.set_cons_zero, List.set_cons_succ]
      obtain ⟨c5, hc⟩ : ∃ c, c = w_0.heap.size := ⟨_, rfl⟩
      obtain ⟨w_29, hw⟩ : ∃ x, x = w_0.alloc (.cells #[.int .i64 0, .int .i64 0, .string { data := #[] }, .slice none 0 0] 26) := ⟨_, rfl⟩
      rw [← hw] at hal
      have g5 : w0.heap.size ≤ c5 := by rw [hc]; exact hB.size
      have hB : Below w0.heap.size w0 w_29 := hB.trans (hal.mono hB.size)
      have h5 : w_29.heap[c5]? = some (.cells #[.int .i64 0, .int .i64 0, .string { data := #[] }, .slice none 0 0] 26 (0, 0)) := by rw [hw, hc]; exact heap_alloc_new _ _
      rw [← hw] at hHeld
      rw [← hw]
      rw [← hc]
      clear hw hc hal
      refine wpAnyH_ready (rs := [1, 5]) (by kernel_rfl) (by simp) ?_
      refine AllReadyH.cons (o := ⟨some 26, _, _, _, _, _⟩) rfl (fun K hK => ?_) (AllReadyH.cons (o := ⟨some 8, _, _, _, _, _⟩) rfl (fun K hK => ?_) AllReadyH.nil)
      · go_simp
        go_at_call 15
        with_reducible refine (HcutA.out _ hB).mono ?_
        rintro e w_30 ⟨vA, rfl, ⟨A1, eA, rfl, gA, kA⟩, hbC⟩
        have l5 : c5 < w_29.heap.size := (Array.getElem?_eq_some_iff.1 h5).1
        have kA : KidsP (fun b => b ≠ c5) w_30 A1 za.kids := kA.kept (Nat.le_refl _) (fun _ _ _ => rfl) (fun b hb _ => (fun e => by omega))
        have h5 := keepB h5 hbC
        have hB : Below w0.heap.size w0 w_30 := hB.trans (hbC.mono hB.size)
        refine hK.out _ _ ?_ (fun hHeld => ?_)
        · exact keptS hB bx1 bx2
        clear hK K hbC l5
        try simp only [Act.put, List.setIfInBounds_toArray, List.set_cons_zero, List.set_cons_succ]
        refine wpAnyH_ready (rs := [3, 5]) (by kernel_rfl) (by simp) ?_
        refine AllReadyH.cons (o := ⟨some 28, _, _, _, _, _⟩) rfl (fun K hK => ?_) (AllReadyH.cons (o := ⟨some 8, _, _, _, _, _⟩) rfl (fun K hK => ?_) AllReadyH.nil)
        · go_simp
          go_at_call 15
          with_reducible refine (HcutB.out _ hB).mono ?_
          rintro e w_31 ⟨vB, rfl, ⟨B1, eB, rfl, gB, kB⟩, hbC⟩
          have l5 : c5 < w_30.heap.size := (Array.getElem?_eq_some_iff.1 h5).1
          have kB : KidsP (fun b => b ≠ c5) w_31 B1 zb.kids := kB.kept (Nat.le_refl _) (fun _ _ _ => rfl) (fun b hb _ => (fun e => by omega))
          have h5 := keepB h5 hbC
          have kA : KidsP (fun b => b ≠ c5) w_31 A1 za.kids := kA.kept hbC.size (fun b _ hb => hbC.block b hb) (fun b h _ => h)
          have hB : Below w0.heap.size w0 w_31 := hB.trans (hbC.mono hB.size)
          refine hK.out _ _ ?_ (fun hHeld => ?_)
          · exact keptS hB bx1 bx2
          clear hK K hbC l5
          try simp only [Act.put, List.setIfInBounds_toArray, List.set_cons_zero, List.set_cons_succ]
          refine wpAnyH_ready (rs := [5]) (by kernel_rfl) (by simp) ?_
          refine AllReadyH.cons (o := ⟨some 8, _, _, _, _, _⟩) rfl (fun K hK => ?_) AllReadyH.nil
          go_simp
          have hal : Below w_31.heap.size w_31 (w_31.alloc (.cells #[.int .i64 0, .int .i64 0, .string { data := #[] }, .slice none 0 0] 26)) := (Below.refl _ _).alloc (Nat.le_refl _) _
          refine hK.out _ _ ?_ (fun hHeld => ?_)
          · exact keptS (hB.trans (hal.mono hB.size)) bx1 bx2
          clear hK K
          try simp only [Act.put, List.setIfInBounds_toArray, List.set_cons_zero, List.set_cons_succ]
          obtain ⟨c6, hc⟩ : ∃ c, c = w_31.heap.size := ⟨_, rfl⟩
          obtain ⟨w_32, hw⟩ : ∃ x, x = w_31.alloc (.cells #[.int .i64 0, .int .i64 0, .string { data := #[] }, .slice none 0 0] 26) := ⟨_, rfl⟩
          rw [← hw] at hal
          have g6 : w0.heap.size ≤ c6 := by rw [hc]; exact hB.size
          have hcc : c5 ≠ c6 := by have hlt : c5 < w_31.heap.size := (Array.getElem?_eq_some_iff.1 h5).1; omega
          have kA : KidsP (fun b => b ≠ c5 ∧ b ≠ c6) w_32 A1 za.kids := kA.kept hal.size (fun b _ hb => hal.block b hb) (fun b h hb => ⟨h, Nat.ne_of_lt (by rw [hc]; exact hb)⟩)
          have kB : KidsP (fun b => b ≠ c5 ∧ b ≠ c6) w_32 B1 zb.kids := kB.kept hal.size (fun b _ hb => hal.block b hb) (fun b h hb => ⟨h, Nat.ne_of_lt (by rw [hc]; exact hb)⟩)
          have h5 := keepB h5 hal
          have hB : Below w0.heap.size w0 w_32 := hB.trans (hal.mono hB.size)
          have h6 : w_32.heap[c6]? = some (.cells #[.int .i64 0, .int .i64 0, .string { data := #[] }, .slice none 0 0] 26 (0, 0)) := by rw [hw, hc]; exact heap_alloc_new _ _
          rw [← hw] at hHeld
          rw [← hw]
          rw [← hc]
          clear hw hc hal
          refine wpAnyH_ready (rs := [6]) (by kernel_rfl) (by simp) ?_
          refine AllReadyH.cons (o := ⟨none, _, _, _, _, _⟩) rfl (fun K hK => ?_) AllReadyH.nil
          have q0 := Lib.cell_of_heap h5 0
          have q1 := Lib.cell_of_heap h5 1
          have q2 := Lib.cell_of_heap h5 2
          have q3 := Lib.cell_of_heap h5 3
          have r0 := frozen_block (j := 0) h5
          have r1 := frozen_block (j := 1) h5
          have r2 := frozen_block (j := 2) h5
          have r3 := frozen_block (j := 3) h5
          have hst := set4 (v0 := .int .i64 za.kind) (v1 := .int .i64 za.tok.1) (v2 := .string za.tok.2) (v3 := .slice A1 za.kids.length eA) h5
          have hsz : ((((w_32.setCell ⟨c5, 0, none⟩ (.int .i64 za.kind)).setCell ⟨c5, 1, none⟩ (.int .i64 za.tok.1)).setCell ⟨c5, 2, none⟩ (.string za.tok.2)).setCell ⟨c5, 3, none⟩ (.slice A1 za.kids.length eA)).heap.size = w_32.heap.size := size4
          have hB : Below w0.heap.size w0 ((((w_32.setCell ⟨c5, 0, none⟩ (.int .i64 za.kind)).setCell ⟨c5, 1, none⟩ (.int .i64 za.tok.1)).setCell ⟨c5, 2, none⟩ (.string za.tok.2)).setCell ⟨c5, 3, none⟩ (.slice A1 za.kids.length eA)) := below4 hB g5
          have hot : ∀ b, b ≠ c5 → ((((w_32.setCell ⟨c5, 0, none⟩ (.int .i64 za.kind)).setCell ⟨c5, 1, none⟩ (.int .i64 za.tok.1)).setCell ⟨c5, 2, none⟩ (.string za.tok.2)).setCell ⟨c5, 3, none⟩ (.slice A1 za.kids.length eA)).heap[b]? = w_32.heap[b]? := fun b hb => other4 hb
          go_simp
          refine hK.out _ _ ?_ (fun hHeld => ?_)
          · exact keptS hB bx1 bx2
          clear hK K q0 q1 q2 q3 r0 r1 r2 r3
          try simp only [Act.put, List.setIfInBounds_toArray, List.set_cons_zero, List.set_cons_succ]
          obtain ⟨w_33, hw⟩ : ∃ x, x = ((((w_32.setCell ⟨c5, 0, none⟩ (.int .i64 za.kind)).setCell ⟨c5, 1, none⟩ (.int .i64 za.tok.1)).setCell ⟨c5, 2, none⟩ (.string za.tok.2)).setCell ⟨c5, 3, none⟩ (.slice A1 za.kids.length eA)) := ⟨_, rfl⟩
          rw [← hw] at hst hot hB hsz hHeld
          rw [← hw]
          have h5 := hst
          have h6 := (hot c6 (Ne.symm hcc)).trans h6
          have kA : KidsP (fun b => b ≠ c5 ∧ b ≠ c6) w_33 A1 za.kids := kA.kept (Nat.le_of_eq hsz.symm) (fun b hp _ => hot b hp.1) (fun b h _ => h)
          have kB : KidsP (fun b => b ≠ c5 ∧ b ≠ c6) w_33 B1 zb.kids := kB.kept (Nat.le_of_eq hsz.symm) (fun b hp _ => hot b hp.1) (fun b h _ => h)
          clear hw hst hot hsz
          refine wpAnyH_ready (rs := [7]) (by kernel_rfl) (by simp) ?_
          refine AllReadyH.cons (o := ⟨none, _, _, _, _, _⟩) rfl (fun K hK => ?_) AllReadyH.nil
          have q0 := Lib.cell_of_heap h6 0
          have q1 := Lib.cell_of_heap h6 1
          have q2 := Lib.cell_of_heap h6 2
          have q3 := Lib.cell_of_heap h6 3
          have r0 := frozen_block (j := 0) h6
          have r1 := frozen_block (j := 1) h6
          have r2 := frozen_block (j := 2) h6
          have r3 := frozen_block (j := 3) h6
          have hst := set4 (v0 := .int .i64 zb.kind) (v1 := .int .i64 zb.tok.1) (v2 := .string zb.tok.2) (v3 := .slice B1 zb.kids.length eB) h6
          have hsz : ((((w_33.setCell ⟨c6, 0, none⟩ (.int .i64 zb.kind)).setCell ⟨c6, 1, none⟩ (.int .i64 zb.tok.1)).setCell ⟨c6, 2, none⟩ (.string zb.tok.2)).setCell ⟨c6, 3, none⟩ (.slice B1 zb.kids.length eB)).heap.size = w_33.heap.size := size4
          have hB : Below w0.heap.size w0 ((((w_33.setCell ⟨c6, 0, none⟩ (.int .i64 zb.kind)).setCell ⟨c6, 1, none⟩ (.int .i64 zb.tok.1)).setCell ⟨c6, 2, none⟩ (.string zb.tok.2)).setCell ⟨c6, 3, none⟩ (.slice B1 zb.kids.length eB)) := below4 hB g6
          have hot : ∀ b, b ≠ c6 → ((((w_33.setCell ⟨c6, 0, none⟩ (.int .i64 zb.kind)).setCell ⟨c6, 1, none⟩ (.int .i64 zb.tok.1)).setCell ⟨c6, 2, none⟩ (.string zb.tok.2)).setCell ⟨c6, 3, none⟩ (.slice B1 zb.kids.length eB)).heap[b]? = w_33.heap[b]? := fun b hb => other4 hb
          go_simp
          refine hK.out _ _ ?_ (fun hHeld => ?_)
          · exact keptS hB bx1 bx2
          clear hK K q0 q1 q2 q3 r0 r1 r2 r3
          try simp only [Act.put, List.setIfInBounds_toArray, List.set_cons_zero, List.set_cons_succ]
          obtain ⟨w_34, hw⟩ : ∃ x, x = ((((w_33.setCell ⟨c6, 0, none⟩ (.int .i64 zb.kind)).setCell ⟨c6, 1, none⟩ (.int .i64 zb.tok.1)).setCell ⟨c6, 2, none⟩ (.string zb.tok.2)).setCell ⟨c6, 3, none⟩ (.slice B1 zb.kids.length eB)) := ⟨_, rfl⟩
          rw [← hw] at hst hot hB hsz hHeld
          rw [← hw]
          have h6 := hst
          have h5 := (hot c5 hcc).trans h5
          have kA : KidsP (fun b => b ≠ c5 ∧ b ≠ c6) w_34 A1 za.kids := kA.kept (Nat.le_of_eq hsz.symm) (fun b hp _ => hot b hp.2) (fun b h _ => h)
          have kB : KidsP (fun b => b ≠ c5 ∧ b ≠ c6) w_34 B1 zb.kids := kB.kept (Nat.le_of_eq hsz.symm) (fun b hp _ => hot b hp.2) (fun b h _ => h)
          clear hw hst hot hsz
          refine wpAnyH_done (by kernel_rfl) ?_ _
          go_wp2_with fail
          go_meet
          exact ⟨c5, c6, A1, eA, B1, eB, rfl, rfl, gA, gB, kA, kB, h5, h6, hcc, HB0.out.trans (hB.mono HB0.out.size)⟩
        · go_simp
          have hal : Below w_30.heap.size w_30 (w_30.alloc (.cells #[.int .i64 0, .int .i64 0, .string { data := #[] }, .slice none 0 0] 26)) := (Below.refl _ _).alloc (Nat.le_refl _) _
          refine hK.out _ _ ?_ (fun hHeld => ?_)
          · exact keptS (hB.trans (hal.mono hB.size)) bx1 bx2
          clear hK K
          try simp only [Act.put, List.setIfInBounds_toArray, List.set_cons_zero, List.set_cons_succ]
          obtain ⟨c6, hc⟩ : ∃ c, c = w_30.heap.size := ⟨_, rfl⟩
          obtain ⟨w_35, hw⟩ : ∃ x, x = w_30.alloc (.cells #[.int .i64 0, .int .i64 0, .string { data := #[] }, .slice none 0 0] 26) := ⟨_, rfl⟩
          rw [← hw] at hal
          have g6 : w0.heap.size ≤ c6 := by rw [hc]; exact hB.size
          have hcc : c5 ≠ c6 := by have hlt : c5 < w_30.heap.size := (Array.getElem?_eq_some_iff.1 h5).1; omega
          have kA : KidsP (fun b => b ≠ c5 ∧ b ≠ c6) w_35 A1 za.kids := kA.kept hal.size (fun b _ hb => hal.block b hb) (fun b h hb => ⟨h, Nat.ne_of_lt (by rw [hc]; exact hb)⟩)
          have h5 := keepB h5 hal
          have hB : Below w0.heap.size w0 w_35 := hB.trans (hal.mono hB.size)
          have h6 : w_35.heap[c6]? = some (.cells #[.int .i64 0, .int .i64 0, .string { data := #[] }, .slice none 0 0] 26 (0, 0)) := by rw [hw, hc]; exact heap_alloc_new _ _
          rw [← hw] at hHeld
          rw [← hw]
          rw [← hc]
          clear hw hc hal
          refine wpAnyH_ready (rs := [3]) (by kernel_rfl) (by simp) ?_
          refine AllReadyH.cons (o := ⟨some 28, _, _, _, _, _⟩) rfl (fun K hK => ?_) AllReadyH.nil
          go_simp
          go_at_call 15
          with_reducible refine (HcutB.out _ hB).mono ?_
          rintro e w_36 ⟨vB, rfl, ⟨B1, eB, rfl, gB, kB⟩, hbC⟩
          have l5 : c5 < w_35.heap.size := (Array.getElem?_eq_some_iff.1 h5).1
          have l6 : c6 < w_35.heap.size := (Array.getElem?_eq_some_iff.1 h6).1
          have kB : KidsP (fun b => b ≠ c5 ∧ b ≠ c6) w_36 B1 zb.kids := kB.kept (Nat.le_refl _) (fun _ _ _ => rfl) (fun b hb _ => ⟨fun e => by omega, fun e => by omega⟩)
          have h5 := keepB h5 hbC
          have h6 := keepB h6 hbC
          have kA : KidsP (fun b => b ≠ c5 ∧ b ≠ c6) w_36 A1 za.kids := kA.kept hbC.size (fun b _ hb => hbC.block b hb) (fun b h _ => h)
          have hB : Below w0.heap.size w0 w_36 := hB.trans (hbC.mono hB.size)
          refine hK.out _ _ ?_ (fun hHeld => ?_)
          · exact keptS hB bx1 bx2
          clear hK K hbC l5 l6
          try simp only [Act.put, List.setIfInBounds_toArray, List.set_cons_zero, List.set_cons_succ]
          refine wpAnyH_ready (rs := [6]) (by kernel_rfl) (by simp) ?_
          refine AllReadyH.cons (o := ⟨none, _, _, _, _, _⟩) rfl (fun K hK => ?_) AllReadyH.nil
          have q0 := Lib.cell_of_heap h5 0
          have q1 := Lib.cell_of_heap h5 1
          have q2 := Lib.cell_of_heap h5 2
          have q3 := Lib.cell_of_heap h5 3
          have r0 := frozen_block (j := 0) h5
          have r1 := frozen_block (j := 1) h5
          have r2 := frozen_block (j := 2) h5
          have r3 := frozen_block (j := 3) h5
          have hst := set4 (v0 := .int .i64 za.kind) (v1 := .int .i64 za.tok.1) (v2 := .string za.tok.2) (v3 := .slice A1 za.kids.length eA) h5
          have hsz : ((((w_36.setCell ⟨c5, 0, none⟩ (.int .i64 za.kind)).setCell ⟨c5, 1, none⟩ (.int .i64 za.tok.1)).setCell ⟨c5, 2, none⟩ (.string za.tok.2)).setCell ⟨c5, 3, none⟩ (.slice A1 za.kids.length eA)).heap.size = w_36.heap.size := size4
          have hB : Below w0.heap.size w0 ((((w_36.setCell ⟨c5, 0, none⟩ (.int .i64 za.kind)).setCell ⟨c5, 1, none⟩ (.int .i64 za.tok.1)).setCell ⟨c5, 2, none⟩ (.string za.tok.2)).setCell ⟨c5, 3, none⟩ (.slice A1 za.kids.length eA)) := below4 hB g5
          have hot : ∀ b, b ≠ c5 → ((((w_36.setCell ⟨c5, 0, none⟩ (.int .i64 za.kind)).setCell ⟨c5, 1, none⟩ (.int .i64 za.tok.1)).setCell ⟨c5, 2, none⟩ (.string za.tok.2)).setCell ⟨c5, 3, none⟩ (.slice A1 za.kids.length eA)).heap[b]? = w_36.heap[b]? := fun b hb => other4 hb
          go_simp
          refine hK.out _ _ ?_ (fun hHeld => ?_)
          · exact keptS hB bx1 bx2
          clear hK K q0 q1 q2 q3 r0 r1 r2 r3
          try simp only [Act.put, List.setIfInBounds_toArray, List.set_cons_zero, List.set_cons_succ]
          obtain ⟨w_37, hw⟩ : ∃ x, x = ((((w_36.setCell ⟨c5, 0, none⟩ (.int .i64 za.kind)).setCell ⟨c5, 1, none⟩ (.int .i64 za.tok.1)).setCell ⟨c5, 2, none⟩ (.string za.tok.2)).setCell ⟨c5, 3, none⟩ (.slice A1 za.kids.length eA)) := ⟨_, rfl⟩
          rw [← hw] at hst hot hB hsz hHeld
          rw [← hw]
          have h5 := hst
          have h6 := (hot c6 (Ne.symm hcc)).trans h6
          have kA : KidsP (fun b => b ≠ c5 ∧ b ≠ c6) w_37 A1 za.kids := kA.kept (Nat.le_of_eq hsz.symm) (fun b hp _ => hot b hp.1) (fun b h _ => h)
          have kB : KidsP (fun b => b ≠ c5 ∧ b ≠ c6) w_37 B1 zb.kids := kB.kept (Nat.le_of_eq hsz.symm) (fun b hp _ => hot b hp.1) (fun b h _ => h)
          clear hw hst hot hsz
          refine wpAnyH_ready (rs := [7]) (by kernel_rfl) (by simp) ?_
          refine AllReadyH.cons (o := ⟨none, _, _, _, _, _⟩) rfl (fun K hK => ?_) AllReadyH.nil
          have q0 := Lib.cell_of_heap h6 0
          have q1 := Lib.cell_of_heap h6 1
          have q2 := Lib.cell_of_heap h6 2
          have q3 := Lib.cell_of_heap h6 3
          have r0 := frozen_block (j := 0) h6
          have r1 := frozen_block (j := 1) h6
          have r2 := frozen_block (j := 2) h6
          have r3 := frozen_block (j := 3) h6
          have hst := set4 (v0 := .int .i64 zb.kind) (v1 := .int .i64 zb.tok.1) (v2 := .string zb.tok.2) (v3 := .slice B1 zb.kids.length eB) h6
          have hsz : ((((w_37.setCell ⟨c6, 0, none⟩ (.int .i64 zb.kind)).setCell ⟨c6, 1, none⟩ (.int .i64 zb.tok.1)).setCell ⟨c6, 2, none⟩ (.string zb.tok.2)).setCell ⟨c6, 3, none⟩ (.slice B1 zb.kids.length eB)).heap.size = w_37.heap.size := size4
          have hB : Below w0.heap.size w0 ((((w_37.setCell ⟨c6, 0, none⟩ (.int .i64 zb.kind)).setCell ⟨c6, 1, none⟩ (.int .i64 zb.tok.1)).setCell ⟨c6, 2, none⟩ (.string zb.tok.2)).setCell ⟨c6, 3, none⟩ (.slice B1 zb.kids.length eB)) := below4 hB g6
          have hot : ∀ b, b ≠ c6 → ((((w_37.setCell ⟨c6, 0, none⟩ (.int .i64 zb.kind)).setCell ⟨c6, 1, none⟩ (.int .i64 zb.tok.1)).setCell ⟨c6, 2, none⟩ (.string zb.tok.2)).setCell ⟨c6, 3, none⟩ (.slice B1 zb.kids.length eB)).heap[b]? = w_37.heap[b]? := fun b hb => other4 hb
          go_simp
          refine hK.out _ _ ?_ (fun hHeld => ?_)
          · exact keptS hB bx1 bx2
          clear hK K q0 q1 q2 q3 r0 r1 r2 r3
          try simp only [Act.put, List.setIfInBounds_toArray, List.set_cons_zero, List.set_cons_succ]
          obtain ⟨w_38, hw⟩ : ∃ x, x = ((((w_37.setCell ⟨c6, 0, none⟩ (.int .i64 zb.kind)).setCell ⟨c6, 1, none⟩ (.int .i64 zb.tok.1)).setCell ⟨c6, 2, none⟩ (.string zb.tok.2)).setCell ⟨c6, 3, none⟩ (.slice B1 zb.kids.length eB)) := ⟨_, rfl⟩
          rw [← hw] at hst hot hB hsz hHeld
          rw [← hw]
          have h6 := hst
          have h5 := (hot c5 hcc).trans h5
          have kA : KidsP (fun b => b ≠ c5 ∧ b ≠ c6) w_38 A1 za.kids := kA.kept (Nat.le_of_eq hsz.symm) (fun b hp _ => hot b hp.2) (fun b h _ => h)
          have kB : KidsP (fun b => b ≠ c5 ∧ b ≠ c6) w_38 B1 zb.kids := kB.kept (Nat.le_of_eq hsz.symm) (fun b hp _ => hot b hp.2) (fun b h _ => h)
          clear hw hst hot hsz
          refine wpAnyH_done (by kernel_rfl) ?_ _
          go_wp2_with fail
          go_meet
          exact ⟨c5, c6, A1, eA, B1, eB, rfl, rfl, gA, gB, kA, kB, h5, h6, hcc, HB0.out.trans (hB.mono HB0.out.size)⟩
      · go_simp
        have hal : Below w_29.heap.size w_29 (w_29.alloc (.cells #[.int .i64 0, .int .i64 0, .string { data := #[] }, .slice none 0 0] 26)) := (Below.refl _ _).alloc (Nat.le_refl _) _
        refine hK.out _ _ ?_ (fun hHeld => ?_)
        · exact keptS (hB.trans (hal.mono hB.size)) bx1 bx2
        clear hK K
        try simp only [Act.put, List.setIfInBounds_toArray, List.set_cons_zero, List.set_cons_succ]
        obtain ⟨c6, hc⟩ : ∃ c, c = w_29.heap.size := ⟨_, rfl⟩
        obtain ⟨w_39, hw⟩ : ∃ x, x = w_29.alloc (.cells #[.int .i64 0, .int .i64 0, .string { data := #[] }, .slice none 0 0] 26) := ⟨_, rfl⟩
        rw [← hw] at hal
        have g6 : w0.heap.size ≤ c6 := by rw [hc]; exact hB.size
        have hcc : c5 ≠ c6 := by have hlt : c5 < w_29.heap.size := (Array.getElem?_eq_some_iff.1 h5).1; omega
        have h5 := keepB h5 hal
        have hB : Below w0.heap.size w0 w_39 := hB.trans (hal.mono hB.size)
        have h6 : w_39.heap[c6]? = some (.cells #[.int .i64 0, .int .i64 0, .string { data := #[] }, .slice none 0 0] 26 (0, 0)) := by rw [hw, hc]; exact heap_alloc_new _ _
        rw [← hw] at hHeld
        rw [← hw]
        rw [← hc]
        clear hw hc hal
        refine wpAnyH_ready (rs := [1]) (by kernel_rfl) (by simp) ?_
        refine AllReadyH.cons (o := ⟨some 26, _, _, _, _, _⟩) rfl (fun K hK => ?_) AllReadyH.nil
        go_simp
        go_at_call 15
        with_reducible refine (HcutA.out _ hB).mono ?_
        rintro e w_40 ⟨vA, rfl, ⟨A1, eA, rfl, gA, kA⟩, hbC⟩
        have l5 : c5 < w_39.heap.size := (Array.getElem?_eq_some_iff.1 h5).1
        have l6 : c6 < w_39.heap.size := (Array.getElem?_eq_some_iff.1 h6).1
        have kA : KidsP (fun b => b ≠ c5 ∧ b ≠ c6) w_40 A1 za.kids := kA.kept (Nat.le_refl _) (fun _ _ _ => rfl) (fun b hb _ => ⟨fun e => by omega, fun e => by omega⟩)
        have h5 := keepB h5 hbC
        have h6 := keepB h6 hbC
        have hB : Below w0.heap.size w0 w_40 := hB.trans (hbC.mono hB.size)
        refine hK.out _ _ ?_ (fun hHeld => ?_)
        · exact keptS hB bx1 bx2
        clear hK K hbC l5 l6
        try simp only [Act.put, List.setIfInBounds_toArray, List.set_cons_zero, List.set_cons_succ]
        refine wpAnyH_ready (rs := [3]) (by kernel_rfl) (by simp) ?_
        refine AllReadyH.cons (o := ⟨some 28, _, _, _, _, _⟩) rfl (fun K hK => ?_) AllReadyH.nil
        go_simp
        go_at_call 15
        with_reducible refine (HcutB.out _ hB).mono ?_
        rintro e w_41 ⟨vB, rfl, ⟨B1, eB, rfl, gB, kB⟩, hbC⟩
        have l5 : c5 < w_40.heap.size := (Array.getElem?_eq_some_iff.1 h5).1
        have l6 : c6 < w_40.heap.size := (Array.getElem?_eq_some_iff.1 h6).1
        have kB : KidsP (fun b => b ≠ c5 ∧ b ≠ c6) w_41 B1 zb.kids := kB.kept (Nat.le_refl _) (fun _ _ _ => rfl) (fun b hb _ => ⟨fun e => by omega, fun e => by omega⟩)
        have h5 := keepB h5 hbC
        have h6 := keepB h6 hbC
        have kA : KidsP (fun b => b ≠ c5 ∧ b ≠ c6) w_41 A1 za.kids := kA.kept hbC.size (fun b _ hb => hbC.block b hb) (fun b h _ => h)
        have hB : Below w0.heap.size w0 w_41 := hB.trans (hbC.mono hB.size)
        refine hK.out _ _ ?_ (fun hHeld => ?_)
        · exact keptS hB bx1 bx2
        clear hK K hbC l5 l6
        try simp only [Act.put, List.setIfInBounds_toArray, List.set_cons_zero, List.set_cons_succ]
        refine wpAnyH_ready (rs := [6]) (by kernel_rfl) (by simp) ?_
        refine AllReadyH.cons (o := ⟨none, _, _, _, _, _⟩) rfl (fun K hK => ?_) AllReadyH.nil
        have q0 := Lib.cell_of_heap h5 0
        have q1 := Lib.cell_of_heap h5 1
        have q2 := Lib.cell_of_heap h5 2
        have q3 := Lib.cell_of_heap h5 3
        have r0 := frozen_block (j := 0) h5
        have r1 := frozen_block (j := 1) h5
        have r2 := frozen_block (j := 2) h5
        have r3 := frozen_block (j := 3) h5
        have hst := set4 (v0 := .int .i64 za.kind) (v1 := .int .i64 za.tok.1) (v2 := .string za.tok.2) (v3 := .slice A1 za.kids.length eA) h5
        have hsz : ((((w_41.setCell ⟨c5, 0, none⟩ (.int .i64 za.kind)).setCell ⟨c5, 1, none⟩ (.int .i64 za.tok.1)).setCell ⟨c5, 2, none⟩ (.string za.tok.2)).setCell ⟨c5, 3, none⟩ (.slice A1 za.kids.length eA)).heap.size = w_41.heap.size := size4
        have hB : Below w0.heap.size w0 ((((w_41.setCell ⟨c5, 0, none⟩ (.int .i64 za.kind)).setCell ⟨c5, 1, none⟩ (.int .i64 za.tok.1)).setCell ⟨c5, 2, none⟩ (.string za.tok.2)).setCell ⟨c5, 3, none⟩ (.slice A1 za.kids.length eA)) := below4 hB g5
        have hot : ∀ b, b ≠ c5 → ((((w_41.setCell ⟨c5, 0, none⟩ (.int .i64 za.kind)).setCell ⟨c5, 1, none⟩ (.int .i64 za.tok.1)).setCell ⟨c5, 2, none⟩ (.string za.tok.2)).setCell ⟨c5, 3, none⟩ (.slice A1 za.kids.length eA)).heap[b]? = w_41.heap[b]? := fun b hb => other4 hb
        go_simp
        refine hK.out _ _ ?_ (fun hHeld => ?_)
        · exact keptS hB bx1 bx2
        clear hK K q0 q1 q2 q3 r0 r1 r2 r3
        try simp only [Act.put, List.setIfInBounds_toArray, List.set_cons_zero, List.set_cons_succ]
        obtain ⟨w_42, hw⟩ : ∃ x, x = ((((w_41.setCell ⟨c5, 0, none⟩ (.int .i64 za.kind)).setCell ⟨c5, 1, none⟩ (.int .i64 za.tok.1)).setCell ⟨c5, 2, none⟩ (.string za.tok.2)).setCell ⟨c5, 3, none⟩ (.slice A1 za.kids.length eA)) := ⟨_, rfl⟩
        rw [← hw] at hst hot hB hsz hHeld
        rw [← hw]
        have h5 := hst
        have h6 := (hot c6 (Ne.symm hcc)).trans h6
        have kA : KidsP (fun b => b ≠ c5 ∧ b ≠ c6) w_42 A1 za.kids := kA.kept (Nat.le_of_eq hsz.symm) (fun b hp _ => hot b hp.1) (fun b h _ => h)
        have kB : KidsP (fun b => b ≠ c5 ∧ b ≠ c6) w_42 B1 zb.kids := kB.kept (Nat.le_of_eq hsz.symm) (fun b hp _ => hot b hp.1) (fun b h _ => h)
        clear hw hst hot hsz
        refine wpAnyH_ready (rs := [7]) (by kernel_rfl) (by simp) ?_
        refine AllReadyH.cons (o := ⟨none, _, _, _, _, _⟩) rfl (fun K hK => ?_) AllReadyH.nil
        have q0 := Lib.cell_of_heap h6 0
        have q1 := Lib.cell_of_heap h6 1
        have q2 := Lib.cell_of_heap h6 2
        have q3 := Lib.cell_of_heap h6 3
        have r0 := frozen_block (j := 0) h6
        have r1 := frozen_block (j := 1) h6
        have r2 := frozen_block (j := 2) h6
        have r3 := frozen_block (j := 3) h6
        have hst := set4 (v0 := .int .i64 zb.kind) (v1 := .int .i64 zb.tok.1) (v2 := .string zb.tok.2) (v3 := .slice B1 zb.kids.length eB) h6
        have hsz : ((((w_42.setCell ⟨c6, 0, none⟩ (.int .i64 zb.kind)).setCell ⟨c6, 1, none⟩ (.int .i64 zb.tok.1)).setCell ⟨c6, 2, none⟩ (.string zb.tok.2)).setCell ⟨c6, 3, none⟩ (.slice B1 zb.kids.length eB)).heap.size = w_42.heap.size := size4
        have hB : Below w0.heap.size w0 ((((w_42.setCell ⟨c6, 0, none⟩ (.int .i64 zb.kind)).setCell ⟨c6, 1, none⟩ (.int .i64 zb.tok.1)).setCell ⟨c6, 2, none⟩ (.string zb.tok.2)).setCell ⟨c6, 3, none⟩ (.slice B1 zb.kids.length eB)) := below4 hB g6
        have hot : ∀ b, b ≠ c6 → ((((w_42.setCell ⟨c6, 0, none⟩ (.int .i64 zb.kind)).setCell ⟨c6, 1, none⟩ (.int .i64 zb.tok.1)).setCell ⟨c6, 2, none⟩ (.string zb.tok.2)).setCell ⟨c6, 3, none⟩ (.slice B1 zb.kids.length eB)).heap[b]? = w_42.heap[b]? := fun b hb => other4 hb
        go_simp
        refine hK.out _ _ ?_ (fun hHeld => ?_)
        · exact keptS hB bx1 bx2
        clear hK K q0 q1 q2 q3 r0 r1 r2 r3
        try simp only [Act.put, List.setIfInBounds_toArray, List.set_cons_zero, List.set_cons_succ]
        obtain ⟨w_43, hw⟩ : ∃ x, x = ((((w_42.setCell ⟨c6, 0, none⟩ (.int .i64 zb.kind)).setCell ⟨c6, 1, none⟩ (.int .i64 zb.tok.1)).setCell ⟨c6, 2, none⟩ (.string zb.tok.2)).setCell ⟨c6, 3, none⟩ (.slice B1 zb.kids.length eB)) := ⟨_, rfl⟩
        rw [← hw] at hst hot hB hsz hHeld
        rw [← hw]
        have h6 := hst
        have h5 := (hot c5 hcc).trans h5
        have kA : KidsP (fun b => b ≠ c5 ∧ b ≠ c6) w_43 A1 za.kids := kA.kept (Nat.le_of_eq hsz.symm) (fun b hp _ => hot b hp.2) (fun b h _ => h)
        have kB : KidsP (fun b => b ≠ c5 ∧ b ≠ c6) w_43 B1 zb.kids := kB.kept (Nat.le_of_eq hsz.symm) (fun b hp _ => hot b hp.2) (fun b h _ => h)
        clear hw hst hot hsz
        refine wpAnyH_done (by kernel_rfl) ?_ _
        go_wp2_with fail
        go_meet
        exact ⟨c5, c6, A1, eA, B1, eB, rfl, rfl, gA, gB, kA, kB, h5, h6, hcc, HB0.out.trans (hB.mono HB0.out.size)⟩
    · go_simp
      have hal : Below w_0.heap.size w_0 (w_0.alloc (.cells #[.int .i64 0, .int .i64 0, .string { data := #[] }, .slice none 0 0] 26)) := (Below.refl _ _).alloc (Nat.le_refl _) _
      refine hK.out _ _ ?_ (fun hHeld => ?_)
      · exact keptS (hB.trans (hal.mono hB.size)) bx1 bx2
      clear hK K
      try simp only [Act.put, List.setIfInBounds_toArray, List.set_cons_zero, List.set_cons_succ]
      obtain ⟨c6, hc⟩ : ∃ c, c = w_0.heap.size := ⟨_, rfl⟩
      obtain ⟨w_44, hw⟩ : ∃ x, x = w_0.alloc (.cells #[.int .i64 0, .int .i64 0, .string { data := #[] }, .slice none 0 0] 26) := ⟨_, rfl⟩
      rw [← hw] at hal
      have g6 : w0.heap.size ≤ c6 := by rw [hc]; exact hB.size
      have hB : Below w0.heap.size w0 w_44 := hB.trans (hal.mono hB.size)
      have h6 : w_44.heap[c6]? = some (.cells #[.int .i64 0, .int .i64 0, .string { data := #[] }, .slice none 0 0] 26 (0, 0)) := by rw [hw, hc]; exact heap_alloc_new _ _
      rw [← hw] at hHeld
      rw [← hw]
      rw [← hc]
      clear hw hc hal
      refine wpAnyH_ready (rs := [1, 4]) (by kernel_rfl) (by simp) ?_
      refine AllReadyH.cons (o := ⟨some 26, _, _, _, _, _⟩) rfl (fun K hK => ?_) (AllReadyH.cons (o := ⟨some 7, _, _, _, _, _⟩) rfl (fun K hK => ?_) AllReadyH.nil)
      · go_simp
        go_at_call 15
        with_reducible refine (HcutA.out _ hB).mono ?_
        rintro e w_45 ⟨vA, rfl, ⟨A1, eA, rfl, gA, kA⟩, hbC⟩
        have l6 : c6 < w_44.heap.size := (Array.getElem?_eq_some_iff.1 h6).1
        have kA : KidsP (fun b => b ≠ c6) w_45 A1 za.kids := kA.kept (Nat.le_refl _) (fun _ _ _ => rfl) (fun b hb _ => (fun e => by omega))
        have h6 := keepB h6 hbC
        have hB : Below w0.heap.size w0 w_45 := hB.trans (hbC.mono hB.size)
        refine hK.out _ _ ?_ (fun hHeld => ?_)
        · exact keptS hB bx1 bx2
        clear hK K hbC l6
        try simp only [Act.put, List.setIfInBounds_toArray, List.set_cons_zero, List.set_cons_succ]
        refine wpAnyH_ready (rs := [3, 4]) (by kernel_rfl) (by simp) ?_
        refine AllReadyH.cons (o := ⟨some 28, _, _, _, _, _⟩) rfl (fun K hK => ?_) (AllReadyH.cons (o := ⟨some 7, _, _, _, _, _⟩) rfl (fun K hK => ?_) AllReadyH.nil)
        · go_simp
          go_at_call 15
          with_reducible refine (HcutB.out _ hB).mono ?_
          rintro e w_46 ⟨vB, rfl, ⟨B1, eB, rfl, gB, kB⟩, hbC⟩
          have l6 : c6 < w_45.heap.size := (Array.getElem?_eq_some_iff.1 h6).1
          have kB : KidsP (fun b => b ≠ c6) w_46 B1 zb.kids := kB.kept (Nat.le_refl _) (fun _ _ _ => rfl) (fun b hb _ => (fun e => by omega))
          have h6 := keepB h6 hbC
          have kA : KidsP (fun b => b ≠ c6) w_46 A1 za.kids := kA.kept hbC.size (fun b _ hb => hbC.block b hb) (fun b h _ => h)
          have hB : Below w0.heap.size w0 w_46 := hB.trans (hbC.mono hB.size)
          refine hK.out _ _ ?_ (fun hHeld => ?_)
          · exact keptS hB bx1 bx2
          clear hK K hbC l6
          try simp only [Act.put, List.setIfInBounds_toArray, List.set_cons_zero, List.set_cons_succ]
          refine wpAnyH_ready (rs := [4]) (by kernel_rfl) (by simp) ?_
          refine AllReadyH.cons (o := ⟨some 7, _, _, _, _, _⟩) rfl (fun K hK => ?_) AllReadyH.nil
          go_simp
          have hal : Below w_46.heap.size w_46 (w_46.alloc (.cells #[.int .i64 0, .int .i64 0, .string { data := #[] }, .slice none 0 0] 26)) := (Below.refl _ _).alloc (Nat.le_refl _) _
          refine hK.out _ _ ?_ (fun hHeld => ?_)
          · exact keptS (hB.trans (hal.mono hB.size)) bx1 bx2
          clear hK K
          try simp only [Act.put, List.setIfInBounds_toArray, List.set_cons_zero, List.set_cons_succ]
          obtain ⟨c5, hc⟩ : ∃ c, c = w_46.heap.size := ⟨_, rfl⟩
          obtain ⟨w_47, hw⟩ : ∃ x, x = w_46.alloc (.cells #[.int .i64 0, .int .i64 0, .string { data := #[] }, .slice none 0 0] 26) := ⟨_, rfl⟩
          rw [← hw] at hal
          have g5 : w0.heap.size ≤ c5 := by rw [hc]; exact hB.size
          have hcc : c5 ≠ c6 := by have hlt : c6 < w_46.heap.size := (Array.getElem?_eq_some_iff.1 h6).1; omega
          have kA : KidsP (fun b => b ≠ c5 ∧ b ≠ c6) w_47 A1 za.kids := kA.kept hal.size (fun b _ hb => hal.block b hb) (fun b h hb => ⟨Nat.ne_of_lt (by rw [hc]; exact hb), h⟩)
          have kB : KidsP (fun b => b ≠ c5 ∧ b ≠ c6) w_47 B1 zb.kids := kB.kept hal.size (fun b _ hb => hal.block b hb) (fun b h hb => ⟨Nat.ne_of_lt (by rw [hc]; exact hb), h⟩)
          have h6 := keepB h6 hal
          have hB : Below w0.heap.size w0 w_47 := hB.trans (hal.mono hB.size)
          have h5 : w_47.heap[c5]? = some (.cells #[.int .i64 0, .int .i64 0, .string { data := #[] }, .slice none 0 0] 26 (0, 0)) := by rw [hw, hc]; exact heap_alloc_new _ _
          rw [← hw] at hHeld
          rw [← hw]
          rw [← hc]
          clear hw hc hal
          refine wpAnyH_ready (rs := [6]) (by kernel_rfl) (by simp) ?_
          refine AllReadyH.cons (o := ⟨none, _, _, _, _, _⟩) rfl (fun K hK => ?_) AllReadyH.nil
          have q0 := Lib.cell_of_heap h5 0
          have q1 := Lib.cell_of_heap h5 1
          have q2 := Lib.cell_of_heap h5 2
          have q3 := Lib.cell_of_heap h5 3
          have r0 := frozen_block (j := 0) h5
          have r1 := frozen_block (j := 1) h5
          have r2 := frozen_block (j := 2) h5
          have r3 := frozen_block (j := 3) h5
          have hst := set4 (v0 := .int .i64 za.kind) (v1 := .int .i64 za.tok.1) (v2 := .string za.tok.2) (v3 := .slice A1 za.kids.length eA) h5
          have hsz : ((((w_47.setCell ⟨c5, 0, none⟩ (.int .i64 za.kind)).setCell ⟨c5, 1, none⟩ (.int .i64 za.tok.1)).setCell ⟨c5, 2, none⟩ (.string za.tok.2)).setCell ⟨c5, 3, none⟩ (.slice A1 za.kids.length eA)).heap.size = w_47.heap.size := size4
          have hB : Below w0.heap.size w0 ((((w_47.setCell ⟨c5, 0, none⟩ (.int .i64 za.kind)).setCell ⟨c5, 1, none⟩ (.int .i64 za.tok.1)).setCell ⟨c5, 2, none⟩ (.string za.tok.2)).setCell ⟨c5, 3, none⟩ (.slice A1 za.kids.length eA)) := below4 hB g5
          have hot : ∀ b, b ≠ c5 → ((((w_47.setCell ⟨c5, 0, none⟩ (.int .i64 za.kind)).setCell ⟨c5, 1, none⟩ (.int .i64 za.tok.1)).setCell ⟨c5, 2, none⟩ (.string za.tok.2)).setCell ⟨c5, 3, none⟩ (.slice A1 za.kids.length eA)).heap[b]? = w_47.heap[b]? := fun b hb => other4 hb
          go_simp
          refine hK.out _ _ ?_ (fun hHeld => ?_)
          · exact keptS hB bx1 bx2
          clear hK K q0 q1 q2 q3 r0 r1 r2 r3
          try simp only [Act.put, List.setIfInBounds_toArray, List.set_cons_zero, List.set_cons_succ]
          obtain ⟨w_48, hw⟩ : ∃ x, x = ((((w_47.setCell ⟨c5, 0, none⟩ (.int .i64 za.kind)).setCell ⟨c5, 1, none⟩ (.int .i64 za.tok.1)).setCell ⟨c5, 2, none⟩ (.string za.tok.2)).setCell ⟨c5, 3, none⟩ (.slice A1 za.kids.length eA)) := ⟨_, rfl⟩
          rw [← hw] at hst hot hB hsz hHeld
          rw [← hw]
          have h5 := hst
          have h6 := (hot c6 (Ne.symm hcc)).trans h6
          have kA : KidsP (fun b => b ≠ c5 ∧ b ≠ c6) w_48 A1 za.kids := kA.kept (Nat.le_of_eq hsz.symm) (fun b hp _ => hot b hp.1) (fun b h _ => h)
          have kB : KidsP (fun b => b ≠ c5 ∧ b ≠ c6) w_48 B1 zb.kids := kB.kept (Nat.le_of_eq hsz.symm) (fun b hp _ => hot b hp.1) (fun b h _ => h)
          clear hw hst hot hsz
          refine wpAnyH_ready (rs := [7]) (by kernel_rfl) (by simp) ?_
          refine AllReadyH.cons (o := ⟨none, _, _, _, _, _⟩) rfl (fun K hK => ?_) AllReadyH.nil
          have q0 := Lib.cell_of_heap h6 0
          have q1 := Lib.cell_of_heap h6 1
          have q2 := Lib.cell_of_heap h6 2
          have q3 := Lib.cell_of_heap h6 3
          have r0 := frozen_block (j := 0) h6
          have r1 := frozen_block (j := 1) h6
          have r2 := frozen_block (j := 2) h6
          have r3 := frozen_block (j := 3) h6
          have hst := set4 (v0 := .int .i64 zb.kind) (v1 := .int .i64 zb.tok.1) (v2 := .string zb.tok.2) (v3 := .slice B1 zb.kids.length eB) h6
          have hsz : ((((w_48.setCell ⟨c6, 0, none⟩ (.int .i64 zb.kind)).setCell ⟨c6, 1, none⟩ (.int .i64 zb.tok.1)).setCell ⟨c6, 2, none⟩ (.string zb.tok.2)).setCell ⟨c6, 3, none⟩ (.slice B1 zb.kids.length eB)).heap.size = w_48.heap.size := size4
          have hB : Below w0.heap.size w0 ((((w_48.setCell ⟨c6, 0, none⟩ (.int .i64 zb.kind)).setCell ⟨c6, 1, none⟩ (.int .i64 zb.tok.1)).setCell ⟨c6, 2, none⟩ (.string zb.tok.2)).setCell ⟨c6, 3, none⟩ (.slice B1 zb.kids.length eB)) := below4 hB g6
          have hot : ∀ b, b ≠ c6 → ((((w_48.setCell ⟨c6, 0, none⟩ (.int .i64 zb.kind)).setCell ⟨c6, 1, none⟩ (.int .i64 zb.tok.1)).setCell ⟨c6, 2, none⟩ (.string zb.tok.2)).setCell ⟨c6, 3, none⟩ (.slice B1 zb.kids.length eB)).heap[b]? = w_48.heap[b]? := fun b hb => other4 hb
          go_simp
          refine hK.out _ _ ?_ (fun hHeld => ?_)
          · exact keptS hB bx1 bx2
          clear hK K q0 q1 q2 q3 r0 r1 r2 r3
          try simp only [Act.put, List.setIfInBounds_toArray, List.set_cons_zero, List.set_cons_succ]
          obtain ⟨w_49, hw⟩ : ∃ x, x = ((((w_48.setCell ⟨c6, 0, none⟩ (.int .i64 zb.kind)).setCell ⟨c6, 1, none⟩ (.int .i64 zb.tok.1)).setCell ⟨c6, 2, none⟩ (.string zb.tok.2)).setCell ⟨c6, 3, none⟩ (.slice B1 zb.kids.length eB)) := ⟨_, rfl⟩
          rw [← hw] at hst hot hB hsz hHeld
          rw [← hw]
          have h6 := hst
          have h5 := (hot c5 hcc).trans h5
          have kA : KidsP (fun b => b ≠ c5 ∧ b ≠ c6) w_49 A1 za.kids := kA.kept (Nat.le_of_eq hsz.symm) (fun b hp _ => hot b hp.2) (fun b h _ => h)
          have kB : KidsP (fun b => b ≠ c5 ∧ b ≠ c6) w_49 B1 zb.kids := kB.kept (Nat.le_of_eq hsz.symm) (fun b hp _ => hot b hp.2) (fun b h _ => h)
          clear hw hst hot hsz
          refine wpAnyH_done (by kernel_rfl) ?_ _
          go_wp2_with fail
          go_meet
          exact ⟨c5, c6, A1, eA, B1, eB, rfl, rfl, gA, gB, kA, kB, h5, h6, hcc, HB0.out.trans (hB.mono HB0.out.size)⟩
        · go_simp
          have hal : Below w_45.heap.size w_45 (w_45.alloc (.cells #[.int .i64 0, .int .i64 0, .string { data := #[] }, .slice none 0 0] 26)) := (Below.refl _ _).alloc (Nat.le_refl _) _
          refine hK.out _ _ ?_ (fun hHeld => ?_)
          · exact keptS (hB.trans (hal.mono hB.size)) bx1 bx2
          clear hK K
          try simp only [Act.put, List.setIfInBounds_toArray, List.set_cons_zero, List.set_cons_succ]
          obtain ⟨c5, hc⟩ : ∃ c, c = w_45.heap.size := ⟨_, rfl⟩
          obtain ⟨w_50, hw⟩ : ∃ x, x = w_45.alloc (.cells #[.int .i64 0, .int .i64 0, .string { data := #[] }, .slice none 0 0] 26) := ⟨_, rfl⟩
          rw [← hw] at hal
          have g5 : w0.heap.size ≤ c5 := by rw [hc]; exact hB.size
          have hcc : c5 ≠ c6 := by have hlt : c6 < w_45.heap.size := (Array.getElem?_eq_some_iff.1 h6).1; omega
          have kA : KidsP (fun b => b ≠ c5 ∧ b ≠ c6) w_50 A1 za.kids := kA.kept hal.size (fun b _ hb => hal.block b hb) (fun b h hb => ⟨Nat.ne_of_lt (by rw [hc]; exact hb), h⟩)
          have h6 := keepB h6 hal
          have hB : Below w0.heap.size w0 w_50 := hB.trans (hal.mono hB.size)
          have h5 : w_50.heap[c5]? = some (.cells #[.int .i64 0, .int .i64 0, .string { data := #[] }, .slice none 0 0] 26 (0, 0)) := by rw [hw, hc]; exact heap_alloc_new _ _
          rw [← hw] at hHeld
          rw [← hw]
          rw [← hc]
          clear hw hc hal
          refine wpAnyH_ready (rs := [3]) (by kernel_rfl) (by simp) ?_
          refine AllReadyH.cons (o := ⟨some 28, _, _, _, _, _⟩) rfl (fun K hK => ?_) AllReadyH.nil
          go_simp
          go_at_call 15
          with_reducible refine (HcutB.out _ hB).mono ?_
          rintro e w_51 ⟨vB, rfl, ⟨B1, eB, rfl, gB, kB⟩, hbC⟩
          have l5 : c5 < w_50.heap.size := (Array.getElem?_eq_some_iff.1 h5).1
          have l6 : c6 < w_50.heap.size := (Array.getElem?_eq_some_iff.1 h6).1
          have kB : KidsP (fun b => b ≠ c5 ∧ b ≠ c6) w_51 B1 zb.kids := kB.kept (Nat.le_refl _) (fun _ _ _ => rfl) (fun b hb _ => ⟨fun e => by omega, fun e => by omega⟩)
          have h5 := keepB h5 hbC
          have h6 := keepB h6 hbC
          have kA : KidsP (fun b => b ≠ c5 ∧ b ≠ c6) w_51 A1 za.kids := kA.kept hbC.size (fun b _ hb => hbC.block b hb) (fun b h _ => h)
          have hB : Below w0.heap.size w0 w_51 := hB.trans (hbC.mono hB.size)
          refine hK.out _ _ ?_ (fun hHeld => ?_)
          · exact keptS hB bx1 bx2
          clear hK K hbC l5 l6
          try simp only [Act.put, List.setIfInBounds_toArray, List.set_cons_zero, List.set_cons_succ]
          refine wpAnyH_ready (rs := [6]) (by kernel_rfl) (by simp) ?_
          refine AllReadyH.cons (o := ⟨none, _, _, _, _, _⟩) rfl (fun K hK => ?_) AllReadyH.nil
          have q0 := Lib.cell_of_heap h5 0
          have q1 := Lib.cell_of_heap h5 1
          have q2 := Lib.cell_of_heap h5 2
          have q3 := Lib.cell_of_heap h5 3
          have r0 := frozen_block (j := 0) h5
          have r1 := frozen_block (j := 1) h5
          have r2 := frozen_block (j := 2) h5
          have r3 := frozen_block (j := 3) h5
          have hst := set4 (v0 := .int .i64 za.kind) (v1 := .int .i64 za.tok.1) (v2 := .string za.tok.2) (v3 := .slice A1 za.kids.length eA) h5
          have hsz : ((((w_51.setCell ⟨c5, 0, none⟩ (.int .i64 za.kind)).setCell ⟨c5, 1, none⟩ (.int .i64 za.tok.1)).setCell ⟨c5, 2, none⟩ (.string za.tok.2)).setCell ⟨c5, 3, none⟩ (.slice A1 za.kids.length eA)).heap.size = w_51.heap.size := size4
          have hB : Below w0.heap.size w0 ((((w_51.setCell ⟨c5, 0, none⟩ (.int .i64 za.kind)).setCell ⟨c5, 1, none⟩ (.int .i64 za.tok.1)).setCell ⟨c5, 2, none⟩ (.string za.tok.2)).setCell ⟨c5, 3, none⟩ (.slice A1 za.kids.length eA)) := below4 hB g5
          have hot : ∀ b, b ≠ c5 → ((((w_51.setCell ⟨c5, 0, none⟩ (.int .i64 za.kind)).setCell ⟨c5, 1, none⟩ (.int .i64 za.tok.1)).setCell ⟨c5, 2, none⟩ (.string za.tok.2)).setCell ⟨c5, 3, none⟩ (.slice A1 za.kids.length eA)).heap[b]? = w_51.heap[b]? := fun b hb => other4 hb
          go_simp
          refine hK.out _ _ ?_ (fun hHeld => ?_)
          · exact keptS hB bx1 bx2
          clear hK K q0 q1 q2 q3 r0 r1 r2 r3
          try simp only [Act.put, List.setIfInBounds_toArray, List.set_cons_zero, List.set_cons_succ]
          obtain ⟨w_52, hw⟩ : ∃ x, x = ((((w_51.setCell ⟨c5, 0, none⟩ (.int .i64 za.kind)).setCell ⟨c5, 1, none⟩ (.int .i64 za.tok.1)).setCell ⟨c5, 2, none⟩ (.string za.tok.2)).setCell ⟨c5, 3, none⟩ (.slice A1 za.kids.length eA)) := ⟨_, rfl⟩
          rw [← hw] at hst hot hB hsz hHeld
          rw [← hw]
          have h5 := hst
          have h6 := (hot c6 (Ne.symm hcc)).trans h6
          have kA : KidsP (fun b => b ≠ c5 ∧ b ≠ c6) w_52 A1 za.kids := kA.kept (Nat.le_of_eq hsz.symm) (fun b hp _ => hot b hp.1) (fun b h _ => h)
          have kB : KidsP (fun b => b ≠ c5 ∧ b ≠ c6) w_52 B1 zb.kids := kB.kept (Nat.le_of_eq hsz.symm) (fun b hp _ => hot b hp.1) (fun b h _ => h)
          clear hw hst hot hsz
          refine wpAnyH_ready (rs := [7]) (by kernel_rfl) (by simp) ?_
          refine AllReadyH.cons (o := ⟨none, _, _, _, _, _⟩) rfl (fun K hK => ?_) AllReadyH.nil
          have q0 := Lib.cell_of_heap h6 0
          have q1 := Lib.cell_of_heap h6 1
          have q2 := Lib.cell_of_heap h6 2
          have q3 := Lib.cell_of_heap h6 3
          have r0 := frozen_block (j := 0) h6
          have r1 := frozen_block (j := 1) h6
          have r2 := frozen_block (j := 2) h6
          have r3 := frozen_block (j := 3) h6
          have hst := set4 (v0 := .int .i64 zb.kind) (v1 := .int .i64 zb.tok.1) (v2 := .string zb.tok.2) (v3 := .slice B1 zb.kids.length eB) h6
          have hsz : ((((w_52.setCell ⟨c6, 0, none⟩ (.int .i64 zb.kind)).setCell ⟨c6, 1, none⟩ (.int .i64 zb.tok.1)).setCell ⟨c6, 2, none⟩ (.string zb.tok.2)).setCell ⟨c6, 3, none⟩ (.slice B1 zb.kids.length eB)).heap.size = w_52.heap.size := size4
          have hB : Below w0.heap.size w0 ((((w_52.setCell ⟨c6, 0, none⟩ (.int .i64 zb.kind)).setCell ⟨c6, 1, none⟩ (.int .i64 zb.tok.1)).setCell ⟨c6, 2, none⟩ (.string zb.tok.2)).setCell ⟨c6, 3, none⟩ (.slice B1 zb.kids.length eB)) := below4 hB g6
          have hot : ∀ b, b ≠ c6 → ((((w_52.setCell ⟨c6, 0, none⟩ (.int .i64 zb.kind)).setCell ⟨c6, 1, none⟩ (.int .i64 zb.tok.1)).setCell ⟨c6, 2, none⟩ (.string zb.tok.2)).setCell ⟨c6, 3, none⟩ (.slice B1 zb.kids.length eB)).heap[b]? = w_52.heap[b]? := fun b hb => other4 hb
          go_simp
          refine hK.out _ _ ?_ (fun hHeld => ?_)
          · exact keptS hB bx1 bx2
          clear hK K q0 q1 q2 q3 r0 r1 r2 r3
          try simp only [Act.put, List.setIfInBounds_toArray, List.set_cons_zero, List.set_cons_succ]
          obtain ⟨w_53, hw⟩ : ∃ x, x = ((((w_52.setCell ⟨c6, 0, none⟩ (.int .i64 zb.kind)).setCell ⟨c6, 1, none⟩ (.int .i64 zb.tok.1)).setCell ⟨c6, 2, none⟩ (.string zb.tok.2)).setCell ⟨c6, 3, none⟩ (.slice B1 zb.kids.length eB)) := ⟨_, rfl⟩
          rw [← hw] at hst hot hB hsz hHeld
          rw [← hw]
          have h6 := hst
          have h5 := (hot c5 hcc).trans h5
          have kA : KidsP (fun b => b ≠ c5 ∧ b ≠ c6) w_53 A1 za.kids := kA.kept (Nat.le_of_eq hsz.symm) (fun b hp _ => hot b hp.2) (fun b h _ => h)
          have kB : KidsP (fun b => b ≠ c5 ∧ b ≠ c6) w_53 B1 zb.kids := kB.kept (Nat.le_of_eq hsz.symm) (fun b hp _ => hot b hp.2) (fun b h _ => h)
          clear hw hst hot hsz
          refine wpAnyH_done (by kernel_rfl) ?_ _
          go_wp2_with fail
          go_meet
          exact ⟨c5, c6, A1, eA, B1, eB, rfl, rfl, gA, gB, kA, kB, h5, h6, hcc, HB0.out.trans (hB.mono HB0.out.size)⟩
      · go_simp
        have hal : Below w_44.heap.size w_44 (w_44.alloc (.cells #[.int .i64 0, .int .i64 0, .string { data := #[] }, .slice none 0 0] 26)) := (Below.refl _ _).alloc (Nat.le_refl _) _
        refine hK.out _ _ ?_ (fun hHeld => ?_)
        · exact keptS (hB.trans (hal.mono hB.size)) bx1 bx2
        clear hK K
        try simp only [Act.put, List.setIfInBounds_toArray, List.set_cons_zero, List.set_cons_succ]
        obtain ⟨c5, hc⟩ : ∃ c, c = w_44.heap.size := ⟨_, rfl⟩
        obtain ⟨w_54, hw⟩ : ∃ x, x = w_44.alloc (.cells #[.int .i64 0, .int .i64 0, .string { data := #[] }, .slice none 0 0] 26) := ⟨_, rfl⟩
        rw [← hw] at hal
        have g5 : w0.heap.size ≤ c5 := by rw [hc]; exact hB.size
        have hcc : c5 ≠ c6 := by have hlt : c6 < w_44.heap.size := (Array.getElem?_eq_some_iff.1 h6).1; omega
        have h6 := keepB h6 hal
        have hB : Below w0.heap.size w0 w_54 := hB.trans (hal.mono hB.size)
        have h5 : w_54.heap[c5]? = some (.cells #[.int .i64 0, .int .i64 0, .string { data := #[] }, .slice none 0 0] 26 (0, 0)) := by rw [hw, hc]; exact heap_alloc_new _ _
        rw [← hw] at hHeld
        rw [← hw]
        rw [← hc]
        clear hw hc hal
        refine wpAnyH_ready (rs := [1]) (by kernel_rfl) (by simp) ?_
        refine AllReadyH.cons (o := ⟨some 26, _, _, _, _, _⟩) rfl (fun K hK => ?_) AllReadyH.nil
        go_simp
        go_at_call 15
        with_reducible refine (HcutA.out _ hB).mono ?_
        rintro e w_55 ⟨vA, rfl, ⟨A1, eA, rfl, gA, kA⟩, hbC⟩
        have l5 : c5 < w_54.heap.size := (Array.getElem?_eq_some_iff.1 h5).1
        have l6 : c6 < w_54.heap.size := (Array.getElem?_eq_some_iff.1 h6).1
        have kA : KidsP (fun b => b ≠ c5 ∧ b ≠ c6) w_55 A1 za.kids := kA.kept (Nat.le_refl _) (fun _ _ _ => rfl) (fun b hb _ => ⟨fun e => by omega, fun e => by omega⟩)
        have h5 := keepB h5 hbC
        have h6 := keepB h6 hbC
        have hB : Below w0.heap.size w0 w_55 := hB.trans (hbC.mono hB.size)
        refine hK.out _ _ ?_ (fun hHeld => ?_)
        · exact keptS hB bx1 bx2
        clear hK K hbC l5 l6
        try simp only [Act.put, List.setIfInBounds_toArray, List.set_cons_zero, List.set_cons_succ]
        refine wpAnyH_ready (rs := [3]) (by kernel_rfl) (by simp) ?_
        refine AllReadyH.cons (o := ⟨some 28, _, _, _, _, _⟩) rfl (fun K hK => ?_) AllReadyH.nil
        go_simp
        go_at_call 15
        with_reducible refine (HcutB.out _ hB).mono ?_
        rintro e w_56 ⟨vB, rfl, ⟨B1, eB, rfl, gB, kB⟩, hbC⟩
        have l5 : c5 < w_55.heap.size := (Array.getElem?_eq_some_iff.1 h5).1
        have l6 : c6 < w_55.heap.size := (Array.getElem?_eq_some_iff.1 h6).1
        have kB : KidsP (fun b => b ≠ c5 ∧ b ≠ c6) w_56 B1 zb.kids := kB.kept (Nat.le_refl _) (fun _ _ _ => rfl) (fun b hb _ => ⟨fun e => by omega, fun e => by omega⟩)
        have h5 := keepB h5 hbC
        have h6 := keepB h6 hbC
        have kA : KidsP (fun b => b ≠ c5 ∧ b ≠ c6) w_56 A1 za.kids := kA.kept hbC.size (fun b _ hb => hbC.block b hb) (fun b h _ => h)
        have hB : Below w0.heap.size w0 w_56 := hB.trans (hbC.mono hB.size)
        refine hK.out _ _ ?_ (fun hHeld => ?_)
        · exact keptS hB bx1 bx2
        clear hK K hbC l5 l6
        try simp only [Act.put, List.setIfInBounds_toArray, List.set_cons_zero, List.set_cons_succ]
        refine wpAnyH_ready (rs := [6]) (by kernel_rfl) (by simp) ?_
        refine AllReadyH.cons (o := ⟨none, _, _, _, _, _⟩) rfl (fun K hK => ?_) AllReadyH.nil
        have q0 := Lib.cell_of_heap h5 0
        have q1 := Lib.cell_of_heap h5 1
        have q2 := Lib.cell_of_heap h5 2
        have q3 := Lib.cell_of_heap h5 3
        have r0 := frozen_block (j := 0) h5
        have r1 := frozen_block (j := 1) h5
        have r2 := frozen_block (j := 2) h5
        have r3 := frozen_block (j := 3) h5
        have hst := set4 (v0 := .int .i64 za.kind) (v1 := .int .i64 za.tok.1) (v2 := .string za.tok.2) (v3 := .slice A1 za.kids.length eA) h5
        have hsz : ((((w_56.setCell ⟨c5, 0, none⟩ (.int .i64 za.kind)).setCell ⟨c5, 1, none⟩ (.int .i64 za.tok.1)).setCell ⟨c5, 2, none⟩ (.string za.tok.2)).setCell ⟨c5, 3, none⟩ (.slice A1 za.kids.length eA)).heap.size = w_56.heap.size := size4
        have hB : Below w0.heap.size w0 ((((w_56.setCell ⟨c5, 0, none⟩ (.int .i64 za.kind)).setCell ⟨c5, 1, none⟩ (.int .i64 za.tok.1)).setCell ⟨c5, 2, none⟩ (.string za.tok.2)).setCell ⟨c5, 3, none⟩ (.slice A1 za.kids.length eA)) := below4 hB g5
        have hot : ∀ b, b ≠ c5 → ((((w_56.setCell ⟨c5, 0, none⟩ (.int .i64 za.kind)).setCell ⟨c5, 1, none⟩ (.int .i64 za.tok.1)).setCell ⟨c5, 2, none⟩ (.string za.tok.2)).setCell ⟨c5, 3, none⟩ (.slice A1 za.kids.length eA)).heap[b]? = w_56.heap[b]? := fun b hb => other4 hb
        go_simp
        refine hK.out _ _ ?_ (fun hHeld => ?_)
        · exact keptS hB bx1 bx2
        clear hK K q0 q1 q2 q3 r0 r1 r2 r3
        try simp only [Act.put, List.setIfInBounds_toArray, List.set_cons_zero, List.set_cons_succ]
        obtain ⟨w_57, hw⟩ : ∃ x, x = ((((w_56.setCell ⟨c5, 0, none⟩ (.int .i64 za.kind)).setCell ⟨c5, 1, none⟩ (.int .i64 za.tok.1)).setCell ⟨c5, 2, none⟩ (.string za.tok.2)).setCell ⟨c5, 3, none⟩ (.slice A1 za.kids.length eA)) := ⟨_, rfl⟩
        rw [← hw] at hst hot hB hsz hHeld
        rw [← hw]
        have h5 := hst
        have h6 := (hot c6 (Ne.symm hcc)).trans h6
        have kA : KidsP (fun b => b ≠ c5 ∧ b ≠ c6) w_57 A1 za.kids := kA.kept (Nat.le_of_eq hsz.symm) (fun b hp _ => hot b hp.1) (fun b h _ => h)
        have kB : KidsP (fun b => b ≠ c5 ∧ b ≠ c6) w_57 B1 zb.kids := kB.kept (Nat.le_of_eq hsz.symm) (fun b hp _ => hot b hp.1) (fun b h _ => h)
        clear hw hst hot hsz
        refine wpAnyH_ready (rs := [7]) (by kernel_rfl) (by simp) ?_
        refine AllReadyH.cons (o := ⟨none, _, _, _, _, _⟩) rfl (fun K hK => ?_) AllReadyH.nil
        have q0 := Lib.cell_of_heap h6 0
        have q1 := Lib.cell_of_heap h6 1
        have q2 := Lib.cell_of_heap h6 2
        have q3 := Lib.cell_of_heap h6 3
        have r0 := frozen_block (j := 0) h6
        have r1 := frozen_block (j := 1) h6
        have r2 := frozen_block (j := 2) h6
        have r3 := frozen_block (j := 3) h6
        have hst := set4 (v0 := .int .i64 zb.kind) (v1 := .int .i64 zb.tok.1) (v2 := .string zb.tok.2) (v3 := .slice B1 zb.kids.length eB) h6
        have hsz : ((((w_57.setCell ⟨c6, 0, none⟩ (.int .i64 zb.kind)).setCell ⟨c6, 1, none⟩ (.int .i64 zb.tok.1)).setCell ⟨c6, 2, none⟩ (.string zb.tok.2)).setCell ⟨c6, 3, none⟩ (.slice B1 zb.kids.length eB)).heap.size = w_57.heap.size := size4
        have hB : Below w0.heap.size w0 ((((w_57.setCell ⟨c6, 0, none⟩ (.int .i64 zb.kind)).setCell ⟨c6, 1, none⟩ (.int .i64 zb.tok.1)).setCell ⟨c6, 2, none⟩ (.string zb.tok.2)).setCell ⟨c6, 3, none⟩ (.slice B1 zb.kids.length eB)) := below4 hB g6
        have hot : ∀ b, b ≠ c6 → ((((w_57.setCell ⟨c6, 0, none⟩ (.int .i64 zb.kind)).setCell ⟨c6, 1, none⟩ (.int .i64 zb.tok.1)).setCell ⟨c6, 2, none⟩ (.string zb.tok.2)).setCell ⟨c6, 3, none⟩ (.slice B1 zb.kids.length eB)).heap[b]? = w_57.heap[b]? := fun b hb => other4 hb
        go_simp
        refine hK.out _ _ ?_ (fun hHeld => ?_)
        · exact keptS hB bx1 bx2
        clear hK K q0 q1 q2 q3 r0 r1 r2 r3
        try simp only [Act.put, List.setIfInBounds_toArray, List.set_cons_zero, List.set_cons_succ]
        obtain ⟨w_58, hw⟩ : ∃ x, x = ((((w_57.setCell ⟨c6, 0, none⟩ (.int .i64 zb.kind)).setCell ⟨c6, 1, none⟩ (.int .i64 zb.tok.1)).setCell ⟨c6, 2, none⟩ (.string zb.tok.2)).setCell ⟨c6, 3, none⟩ (.slice B1 zb.kids.length eB)) := ⟨_, rfl⟩
        rw [← hw] at hst hot hB hsz hHeld
        rw [← hw]
        have h6 := hst
        have h5 := (hot c5 hcc).trans h5
        have kA : KidsP (fun b => b ≠ c5 ∧ b ≠ c6) w_58 A1 za.kids := kA.kept (Nat.le_of_eq hsz.symm) (fun b hp _ => hot b hp.2) (fun b h _ => h)
        have kB : KidsP (fun b => b ≠ c5 ∧ b ≠ c6) w_58 B1 zb.kids := kB.kept (Nat.le_of_eq hsz.symm) (fun b hp _ => hot b hp.2) (fun b h _ => h)
        clear hw hst hot hsz
        refine wpAnyH_done (by kernel_rfl) ?_ _
        go_wp2_with fail
        go_meet
        exact ⟨c5, c6, A1, eA, B1, eB, rfl, rfl, gA, gB, kA, kB, h5, h6, hcc, HB0.out.trans (hB.mono HB0.out.size)⟩
  case rest =>
    obtain ⟨c5, c6, A1, eA, B1, eB, rfl, rfl, gA, gB, kA, kB, h5, h6, hcc, hB⟩ := hcut
    have KA := Lib.hid (show KeepZ za A1 eA c5 wc from ⟨h5, gA, kA.kept (Nat.le_refl _) (fun _ _ _ => rfl) (fun _ _ _ => trivial), HT.out.1.below hB⟩)
    have KB := Lib.hid (show KeepZ zb B1 eB c6 wc from ⟨h6, gB, kB.kept (Nat.le_refl _) (fun _ _ _ => rfl) (fun _ _ _ => trivial), HT.out.1.below hB⟩)
    have E1 := Lib.hid (HT.out.2.below hB)
    have BW := Lib.hid hB
    clear kA kB h5 h6 hB gA gB hcc
    have hfa := fun W v (t : Tabs W) (h : NodeV W v za) => IsFormed_any za v W HZ.out.1.size t h
    have hfb := fun W v (t : Tabs W) (h : NodeV W v zb) => IsFormed_any zb v W HZ.out.2.1.size t h
    cases hqa : formedB za with
    | false =>
      rw [hqa] at hfa
      have HFA := Lib.hid hfa
      clear hqa hfa hfb
      obtain ⟨q0, q1, q2, q3⟩ := cells_of_block KA.out.box
      go_wp2_with fail
      try clear q0 q1 q2 q3
      try clear r0 r1 r2 r3
      refine (HFA.out _ _ KA.out.tabs KA.out.node).mono ?_
      rintro e w3 ⟨rfl, hb⟩
      have KA := Lib.hid (KA.out.below hb)
      have KB := Lib.hid (KB.out.below hb)
      have E1 := Lib.hid (E1.out.below hb)
      have BW := Lib.hid (BW.out.trans (hb.mono BW.out.size))
      clear hb
      go_wp2_with fail
      refine (alive5_any w3 KA.out.tabs).mono ?_
      rintro e w4 ⟨rfl, hb⟩
      have BL := Lib.hid (BW.out.trans (hb.mono BW.out.size))
      clear hb
      go_wp2_with fail
      go_ret
      exact ⟨rfl, BL.out⟩
    | true =>
      rw [hqa] at hfa
      have HFA := Lib.hid hfa
      cases hqb : formedB zb with
      | false =>
        rw [hqb] at hfb
        have HFB := Lib.hid hfb
        clear hqa hqb hfa hfb
        obtain ⟨q0, q1, q2, q3⟩ := cells_of_block KA.out.box
        go_wp2_with fail
        try clear q0 q1 q2 q3
        try clear r0 r1 r2 r3
        refine (HFA.out _ _ KA.out.tabs KA.out.node).mono ?_
        rintro e w3 ⟨rfl, hb⟩
        have KA := Lib.hid (KA.out.below hb)
        have KB := Lib.hid (KB.out.below hb)
        have E1 := Lib.hid (E1.out.below hb)
        have BW := Lib.hid (BW.out.trans (hb.mono BW.out.size))
        clear hb
        obtain ⟨q0, q1, q2, q3⟩ := cells_of_block KB.out.box
        go_wp2_with fail
        try clear q0 q1 q2 q3
        try clear r0 r1 r2 r3
        refine (HFB.out _ _ KB.out.tabs KB.out.node).mono ?_
        rintro e w4 ⟨rfl, hb⟩
        have KA := Lib.hid (KA.out.below hb)
        have KB := Lib.hid (KB.out.below hb)
        have E1 := Lib.hid (E1.out.below hb)
        have BW := Lib.hid (BW.out.trans (hb.mono BW.out.size))
        clear hb
        go_wp2_with fail
        refine (alive5_any w4 KA.out.tabs).mono ?_
        rintro e w5 ⟨rfl, hb⟩
        have BL := Lib.hid (BW.out.trans (hb.mono BW.out.size))
        clear hb
        go_wp2_with fail
        go_ret
        exact ⟨rfl, BL.out⟩
      | true =>
        rw [hqb] at hfb
        have HFB := Lib.hid hfb
        obtain ⟨x, b, hgo⟩ : ∃ x b, goR za (intL (posN za R)) 0 = some (x, b) := posN_goR R za 0
        have hpl := posN_len R za
        have hpos := fun W v Ar cr (h : NodeP (fun _ => True) W v za) (hi : IntsR W Ar R) => position_any za v R Ar cr W HZ.out.1.size h (by have := HZ.out.2.2; omega) hi
        generalize posN za R = p at hgo hpl hpos
        have hpp : p.length ≤ 40 := Nat.le_trans hpl HZ.out.2.2
        have hli : (intL p).length ≤ 1000000000 := by simp only [intL, List.length_map]; omega
        have hat := goR_at p za x 0 b hgo
        have hfx := formed_part hqa (Nat.le_trans HZ.out.1.count (by decide)) hgo
        have hself := putN_self p za x hat
        have hca := HZ.out.1.count
        have hcb := HZ.out.2.1.count
        have hcx : countN x ≤ 600 := by have := (goR_facts hgo).1; omega
        obtain ⟨nw, hnw⟩ : ∃ m, m = putN za p zb := ⟨_, rfl⟩
        have hcn : countN nw ≤ 1200 := by have := putN_count za p zb; rw [hnw]; omega
        have hsn : sumS nw := by
          have h1 := putN_sum za p zb
          have h2 := shN_sum HZ.out.1.sh
          have h3 := shN_sum HZ.out.2.1.sh
          rw [← hnw] at h1
          unfold sumS; omega
        have hatn : atN nw p = some zb := by rw [hnw]; exact atN_putN p za x zb hat
        obtain ⟨bn, hgn⟩ := goR_of_at p nw zb 0 hatn
        have hfar := fun h => chR_far (deepN za + 1) p za x zb (Nat.lt_succ_self _) hat h
        rw [← hnw] at hfar
        have hch2 := chR_two (deepN za + 1) za nw (Nat.lt_succ_self _)
        have hchp := chR_put (deepN za + 1) za nw (Nat.lt_succ_self _)
        have hda : deepN za < 60000 := Nat.lt_of_lt_of_le (atN_small_len za) (Nat.le_trans hca (by decide))
        have HPos := Lib.hid hpos
        have HG := Lib.hid (show _ ∧ _ ∧ _ ∧ _ ∧ _ ∧ _ from ⟨hqa, hqb, hgo, hfx, hli, hself⟩)
        have HN := Lib.hid (show _ ∧ _ ∧ _ ∧ _ ∧ _ ∧ _ from ⟨hnw, hcn, hsn, hgn, hda, hcx⟩)
        have HC := Lib.hid (show _ ∧ _ ∧ _ from ⟨hch2, hchp, hfar⟩)
        clear hqa hqb hgo hfx hli hself hnw hcn hsn hgn hda hcx hch2 hchp hfar hfa hfb hpl hpp hat hca hcb hatn hpos
        obtain ⟨q0, q1, q2, q3⟩ := cells_of_block KA.out.box
        go_wp2_with fail
        try clear q0 q1 q2 q3
        try clear r0 r1 r2 r3
        refine (HFA.out _ _ KA.out.tabs KA.out.node).mono ?_
        rintro e w3 ⟨rfl, hb⟩
        have KA := Lib.hid (KA.out.below hb)
        have KB := Lib.hid (KB.out.below hb)
        have E1 := Lib.hid (E1.out.below hb)
        have BW := Lib.hid (BW.out.trans (hb.mono BW.out.size))
        clear hb
        obtain ⟨q0, q1, q2, q3⟩ := cells_of_block KB.out.box
        go_wp2_with fail
        try clear q0 q1 q2 q3
        try clear r0 r1 r2 r3
        refine (HFB.out _ _ KB.out.tabs KB.out.node).mono ?_
        rintro e w4 ⟨rfl, hb⟩
        have KA := Lib.hid (KA.out.below hb)
        have KB := Lib.hid (KB.out.below hb)
        have E1 := Lib.hid (E1.out.below hb)
        have BW := Lib.hid (BW.out.trans (hb.mono BW.out.size))
        clear hb
        go_upto_region 4 with fail
        refine wp_region_held_drew (S := (fun W => W.cell? ⟨c5, 0, none⟩ = some (.int .i64 za.kind) ∧ W.cell? ⟨c5, 1, none⟩ = some (.int .i64 za.tok.1) ∧ W.cell? ⟨c5, 2, none⟩ = some (.string za.tok.2) ∧ W.cell? ⟨c5, 3, none⟩ = some (.slice A1 za.kids.length eA))) (by kernel_rfl) ?_ (fun hHeld => ?_)
        · exact keptN' (Below.drew (Below.refl _ _)) KA.out.box
        obtain ⟨w5, hw⟩ : ∃ x, x = w4.drew := ⟨_, rfl⟩
        have hb : Below w4.heap.size w4 w5 := by rw [hw]; exact Below.drew (Below.refl _ _)
        rw [← hw] at hHeld
        rw [← hw]
        have KA := Lib.hid (KA.out.below hb)
        have KB := Lib.hid (KB.out.below hb)
        have E1 := Lib.hid (E1.out.below hb)
        have BW := Lib.hid (BW.out.trans (hb.mono BW.out.size))
        clear hw hb
        refine wpAnyH_take (i := 0) (oi := ⟨some 38, _, _, _, _, _⟩) (v := ?_) rfl (by kernel_rfl) (by kernel_rfl) (by kernel_rfl) (fun _ _ _ h => h) (Or.inl ⟨by rfl, ?hy⟩) (by assumption) ?_
        case hy => (intro w hSw; (try dsimp only at hSw); go_simp; (try with_reducible rfl))
        try simp only [Act.put, List.setIfInBounds_toArray, List.set_cons_zero, List.set_cons_succ]
        refine wpAnyH_take (i := 1) (oi := ⟨some 39, _, _, _, _, _⟩) (v := ?_) rfl (by kernel_rfl) (by kernel_rfl) (by kernel_rfl) (fun _ _ _ h => h) (Or.inl ⟨by rfl, ?hy⟩) (by assumption) ?_
        case hy => (intro w hSw; (try dsimp only at hSw); go_simp; (try with_reducible rfl))
        try simp only [Act.put, List.setIfInBounds_toArray, List.set_cons_zero, List.set_cons_succ]
        refine wpAnyH_ready (rs := [2]) (by kernel_rfl) (by simp) ?_
        refine AllReadyH.cons (o := ⟨some 40, _, _, _, _, _⟩) rfl (fun K hK => ?_) AllReadyH.nil
        go_simp
        go_at_call 36
        with_reducible refine (HSh.out w5 E1.out).mono ?_
        rintro e w6 ⟨v2, rfl, hrow, hb⟩
        obtain ⟨Ar, cr, rfl, _, hI⟩ := IntsR.of_ownI hrow
        have KA := Lib.hid (KA.out.below hb)
        have KB := Lib.hid (KB.out.below hb)
        have E1 := Lib.hid (E1.out.below hb)
        have BW := Lib.hid (BW.out.trans (hb.mono BW.out.size))
        refine hK.out _ _ ?_ (fun hHeld => ?_)
        · exact keptN' (Below.refl _ _) KA.out.box
        clear hK hb hrow
        try simp only [Act.put, List.setIfInBounds_toArray, List.set_cons_zero, List.set_cons_succ]
        refine wpAnyH_ready (rs := [3]) (by kernel_rfl) (by simp) ?_
        refine AllReadyH.cons (o := ⟨some 41, _, _, _, _, _⟩) rfl (fun K hK => ?_) AllReadyH.nil
        go_simp
        go_at_call 54
        with_reducible refine (HPos.out w6 _ Ar cr KA.out.nodeC hI).mono ?_
        rintro e w7 ⟨v6, rfl, hrow, hb⟩
        have KA := Lib.hid (KA.out.below hb)
        have KB := Lib.hid (KB.out.below hb)
        have BW := Lib.hid (BW.out.trans (hb.mono BW.out.size))
        refine hK.out _ _ ?_ (fun hHeld => ?_)
        · exact keptN' (Below.refl _ _) KA.out.box
        clear hK hb hI E1
        try simp only [Act.put, List.setIfInBounds_toArray, List.set_cons_zero, List.set_cons_succ]
        refine wpAnyH_take (i := 4) (oi := ⟨some 9, _, _, _, _, _⟩) (v := ?_) rfl (by kernel_rfl) (by kernel_rfl) (by kernel_rfl) (fun _ _ _ h => h) (Or.inl ⟨by rfl, ?hy⟩) (by assumption) ?_
        case hy => (intro w hSw; (try dsimp only at hSw); go_simp; (try with_reducible rfl))
        try simp only [Act.put, List.setIfInBounds_toArray, List.set_cons_zero, List.set_cons_succ]
        refine wpAnyH_done (by kernel_rfl) ?_ _
        obtain ⟨Ap, cp, hv, hI⟩ := IntsR.of_own hrow
        have hv2 : v6 = .slice Ap (intL p).length cp := by simpa [intL] using hv
        clear hv
        subst hv2
        have IP := Lib.hid (show IntsR w7 Ap (intL p) from hI)
        clear hrow hI
        obtain ⟨q0, q1, q2, q3⟩ := cells_of_block KA.out.box
        go_wp2_with fail
        try clear q0 q1 q2 q3
        try clear r0 r1 r2 r3
        refine (At_okU za x b _ (intL p) Ap cp w7 HZ.out.1.size HZ.out.1.sum KA.out.tabs KA.out.nodeC HG.out.2.2.2.2.1 IP.out HG.out.1 HG.out.2.2.1).mono ?_
        rintro e w8 ⟨⟨A2, c2, rfl, hc2, hk2, _⟩, hb⟩
        have KA := Lib.hid (KA.out.below hb)
        have KB := Lib.hid (KB.out.below hb)
        have IP := Lib.hid (IP.out.below hb)
        have BW := Lib.hid (BW.out.trans (hb.mono BW.out.size))
        clear hb
        have KX := Lib.hid (KeepZ.of hc2 hk2 KA.out.tabs)
        clear hc2 hk2
        go_upto_region 6 with fail
        have hb := allocB w8 (.cells (nodeCells x A2 c2) 26)
        have KA := Lib.hid (KA.out.below hb)
        have KB := Lib.hid (KB.out.below hb)
        have IP := Lib.hid (IP.out.below hb)
        have BW := Lib.hid (BW.out.trans (hb.mono BW.out.size))
        obtain ⟨w8a, hw⟩ : ∃ u, u = w8.alloc (.cells (nodeCells x A2 c2) 26) := ⟨_, rfl⟩
        obtain ⟨b8, hbb⟩ : ∃ x, x = w8.heap.size := ⟨_, rfl⟩
        rw [← hw] at BW KX KA KB IP
        rw [← hbb] at KX
        rw [show w8.alloc (.cells #[.int .i64 x.kind, .int .i64 x.tok.1, .string x.tok.2, .slice A2 x.kids.length c2] 26) = w8a from hw.symm]
        rw [← hbb]
        clear hw hbb hb
        obtain ⟨q0, q1, q2, q3⟩ := cells_of_block KA.out.box
        obtain ⟨r0, r1, r2, r3⟩ := cells_of_block KX.out.box
        go_wp2_with fail
        try clear q0 q1 q2 q3
        try clear r0 r1 r2 r3
        refine (Put_res za x x p b _ _ Ap cp w8a (by have h1 := HZ.out.1.count; have h2 := HN.out.2.2.2.2.2; omega) HZ.out.1.sum KA.out.tabs KA.out.nodeC KX.out.node HG.out.2.2.2.2.1 IP.out HG.out.1 HG.out.2.2.2.1 HG.out.2.2.1).mono ?_
        rintro e w9 ⟨hpost, hb⟩
        have KA := Lib.hid (KA.out.below hb)
        have KB := Lib.hid (KB.out.below hb)
        have IP := Lib.hid (IP.out.below hb)
        have KX := Lib.hid (KX.out.below hb)
        have BW := Lib.hid (BW.out.trans (hb.mono BW.out.size))
        rw [HG.out.2.2.2.2.2] at hpost
        obtain ⟨A3, c3, rfl, hc3, hk3⟩ := put_ok hpost HG.out.1
        clear hpost
        clear hb
        have KS := Lib.hid (KeepZ.of hc3 hk3 KA.out.tabs)
        clear hc3 hk3
        go_upto_region 7 with fail
        have hb := allocB w9 (.cells (nodeCells za A3 c3) 26)
        have KA := Lib.hid (KA.out.below hb)
        have KB := Lib.hid (KB.out.below hb)
        have IP := Lib.hid (IP.out.below hb)
        have KX := Lib.hid (KX.out.below hb)
        have BW := Lib.hid (BW.out.trans (hb.mono BW.out.size))
        obtain ⟨w9a, hw⟩ : ∃ u, u = w9.alloc (.cells (nodeCells za A3 c3) 26) := ⟨_, rfl⟩
        obtain ⟨b9, hbb⟩ : ∃ x, x = w9.heap.size := ⟨_, rfl⟩
        rw [← hw] at BW KS KA KB IP KX
        rw [← hbb] at KS
        rw [show w9.alloc (.cells #[.int .i64 za.kind, .int .i64 za.tok.1, .string za.tok.2, .slice A3 za.kids.length c3] 26) = w9a from hw.symm]
        rw [← hbb]
        clear hw hbb hb
        obtain ⟨q0, q1, q2, q3⟩ := cells_of_block KA.out.box
        obtain ⟨r0, r1, r2, r3⟩ := cells_of_block KS.out.box
        go_wp2_with fail
        try clear q0 q1 q2 q3
        try clear r0 r1 r2 r3
        have hsm : Calls Tryd.prog 32 #[(.agg #[.int .i64 za.kind, .int .i64 za.tok.1, .string za.tok.2, .slice A3 za.kids.length c3]), (.agg #[.int .i64 za.kind, .int .i64 za.tok.1, .string za.tok.2, .slice A1 za.kids.length eA])] w9a fun e w' => e = .returned (.bool true) ∧ Below w9a.heap.size w9a w' := by
          have hh := Same_node za za _ _ w9a (smallN_of _ za HZ.out.1.size) KS.out.node KA.out.node
          rw [sameT_refl _ _ (depthN_of _ za (Nat.lt_trans HN.out.2.2.2.2.1 (by decide)))] at hh
          exact hh
        refine (hsm).mono ?_
        rintro e wA ⟨rfl, hb⟩
        have KA := Lib.hid (KA.out.below hb)
        have KB := Lib.hid (KB.out.below hb)
        have IP := Lib.hid (IP.out.below hb)
        have BW := Lib.hid (BW.out.trans (hb.mono BW.out.size))
        clear hb
        clear KS KX hsm
        obtain ⟨q0, q1, q2, q3⟩ := cells_of_block KA.out.box
        obtain ⟨r0, r1, r2, r3⟩ := cells_of_block KB.out.box
        go_wp2_with fail
        try clear q0 q1 q2 q3
        try clear r0 r1 r2 r3
        cases hfn : formedB nw with
        | false =>
          refine (Put_res za x zb p b _ _ Ap cp wA (by have h1 := HZ.out.1.count; have h2 := HZ.out.2.1.count; omega) HZ.out.1.sum KA.out.tabs KA.out.nodeC KB.out.node HG.out.2.2.2.2.1 IP.out HG.out.1 HG.out.2.1 HG.out.2.2.1).mono ?_
          rintro e wB ⟨hpost, hb⟩
          have KA := Lib.hid (KA.out.below hb)
          have KB := Lib.hid (KB.out.below hb)
          have IP := Lib.hid (IP.out.below hb)
          have BW := Lib.hid (BW.out.trans (hb.mono BW.out.size))
          rw [← HN.out.1] at hpost
          obtain rfl := put_no hpost hfn
          clear hpost hfn
          clear hb
          go_wp2_with fail
          obtain ⟨wC, hw⟩ : ∃ u, u = wB.alloc (.cells (nodeCells zeroNd none 0) 26) := ⟨_, rfl⟩
          have hb : Below wB.heap.size wB wC := by rw [hw]; exact allocB _ _
          have KA := Lib.hid (KA.out.below hb)
          have KB := Lib.hid (KB.out.below hb)
          have IP := Lib.hid (IP.out.below hb)
          have BW := Lib.hid (BW.out.trans (hb.mono BW.out.size))
          try rw [show wB.alloc (.cells #[.int .i64 0, .int .i64 0, .string { data := #[] }, .slice none 0 0] 26) = wC from hw.symm]
          clear hb hw
          refine (alive5_any wC KA.out.tabs).mono ?_
          rintro e wD ⟨rfl, hb⟩
          have BL := Lib.hid (BW.out.trans (hb.mono BW.out.size))
          clear hb
          go_wp2_with fail
          go_ret
          exact ⟨rfl, BL.out⟩
        | true =>
          refine (Put_res za x zb p b _ _ Ap cp wA (by have h1 := HZ.out.1.count; have h2 := HZ.out.2.1.count; omega) HZ.out.1.sum KA.out.tabs KA.out.nodeC KB.out.node HG.out.2.2.2.2.1 IP.out HG.out.1 HG.out.2.1 HG.out.2.2.1).mono ?_
          rintro e wB ⟨hpost, hb⟩
          have KA := Lib.hid (KA.out.below hb)
          have KB := Lib.hid (KB.out.below hb)
          have IP := Lib.hid (IP.out.below hb)
          have BW := Lib.hid (BW.out.trans (hb.mono BW.out.size))
          rw [← HN.out.1] at hpost
          obtain ⟨A4, c4, rfl, hc4, hk4⟩ := put_ok hpost hfn
          clear hpost
          clear hb
          have KN := Lib.hid (KeepZ.of hc4 hk4 KA.out.tabs)
          clear hc4 hk4
          go_upto_region 10 with fail
          have hb := allocB wB (.cells (nodeCells nw A4 c4) 26)
          have KA := Lib.hid (KA.out.below hb)
          have KB := Lib.hid (KB.out.below hb)
          have IP := Lib.hid (IP.out.below hb)
          have BW := Lib.hid (BW.out.trans (hb.mono BW.out.size))
          obtain ⟨wBa, hw⟩ : ∃ u, u = wB.alloc (.cells (nodeCells nw A4 c4) 26) := ⟨_, rfl⟩
          obtain ⟨b10, hbb⟩ : ∃ x, x = wB.heap.size := ⟨_, rfl⟩
          rw [← hw] at BW KN KA KB IP
          rw [← hbb] at KN
          rw [show wB.alloc (.cells #[.int .i64 nw.kind, .int .i64 nw.tok.1, .string nw.tok.2, .slice A4 nw.kids.length c4] 26) = wBa from hw.symm]
          rw [← hbb]
          clear hw hbb hb
          have hszn : sizeN nw := by have := HN.out.2.1; unfold sizeN; omega
          have HF := Lib.hid (show _ ∧ _ from ⟨hfn, hszn⟩)
          clear hfn hszn
          obtain ⟨q0, q1, q2, q3⟩ := cells_of_block KN.out.box
          go_wp2_with fail
          try clear q0 q1 q2 q3
          try clear r0 r1 r2 r3
          refine (At_okU nw zb bn _ (intL p) Ap cp wBa HF.out.2 HN.out.2.2.1 KN.out.tabs KN.out.nodeC HG.out.2.2.2.2.1 IP.out HF.out.1 HN.out.2.2.2.1).mono ?_
          rintro e wE ⟨⟨A5, c5x, rfl, hc5, hk5, _⟩, hb⟩
          have KA := Lib.hid (KA.out.below hb)
          have KB := Lib.hid (KB.out.below hb)
          have IP := Lib.hid (IP.out.below hb)
          have KN := Lib.hid (KN.out.below hb)
          have BW := Lib.hid (BW.out.trans (hb.mono BW.out.size))
          clear hb
          have KB2 := Lib.hid (KeepZ.of hc5 hk5 KA.out.tabs)
          clear hc5 hk5
          go_upto_region 13 with fail
          have hb := allocB wE (.cells (nodeCells zb A5 c5x) 26)
          have KA := Lib.hid (KA.out.below hb)
          have KB := Lib.hid (KB.out.below hb)
          have IP := Lib.hid (IP.out.below hb)
          have KN := Lib.hid (KN.out.below hb)
          have BW := Lib.hid (BW.out.trans (hb.mono BW.out.size))
          obtain ⟨wEa, hw⟩ : ∃ u, u = wE.alloc (.cells (nodeCells zb A5 c5x) 26) := ⟨_, rfl⟩
          obtain ⟨b11, hbb⟩ : ∃ x, x = wE.heap.size := ⟨_, rfl⟩
          rw [← hw] at BW KB2 KA KB IP KN
          rw [← hbb] at KB2
          rw [show wE.alloc (.cells #[.int .i64 zb.kind, .int .i64 zb.tok.1, .string zb.tok.2, .slice A5 zb.kids.length c5x] 26) = wEa from hw.symm]
          rw [← hbb]
          clear hw hbb hb
          obtain ⟨q0, q1, q2, q3⟩ := cells_of_block KB.out.box
          obtain ⟨r0, r1, r2, r3⟩ := cells_of_block KB2.out.box
          go_wp2_with fail
          try clear q0 q1 q2 q3
          try clear r0 r1 r2 r3
          have hsm : Calls Tryd.prog 32 #[(.agg #[.int .i64 zb.kind, .int .i64 zb.tok.1, .string zb.tok.2, .slice A5 zb.kids.length c5x]), (.agg #[.int .i64 zb.kind, .int .i64 zb.tok.1, .string zb.tok.2, .slice B1 zb.kids.length eB])] wEa fun e w' => e = .returned (.bool true) ∧ Below wEa.heap.size wEa w' := by
            have hh := Same_node zb zb _ _ wEa (smallN_of _ zb HZ.out.2.1.size) KB2.out.node KB.out.node
            rw [sameT_refl _ _ (depthN_of _ zb (Nat.lt_of_lt_of_le (atN_small_len zb) (Nat.le_trans HZ.out.2.1.count (by decide))))] at hh
            exact hh
          refine (hsm).mono ?_
          rintro e wF ⟨rfl, hb⟩
          have KA := Lib.hid (KA.out.below hb)
          have IP := Lib.hid (IP.out.below hb)
          have KN := Lib.hid (KN.out.below hb)
          have BW := Lib.hid (BW.out.trans (hb.mono BW.out.size))
          clear hb
          clear KB KB2 hsm
          obtain ⟨q0, q1, q2, q3⟩ := cells_of_block KA.out.box
          obtain ⟨r0, r1, r2, r3⟩ := cells_of_block KN.out.box
          go_wp2_with fail
          try clear q0 q1 q2 q3
          try clear r0 r1 r2 r3
          have hch := Changed_ok za nw _ _ wF HZ.out.1.size HF.out.2 (Nat.lt_trans HN.out.2.2.2.2.1 (by decide)) KA.out.tabs KA.out.node KN.out.node HG.out.1 HF.out.1
          rw [HC.out.1] at hch
          refine (hch).mono ?_
          rintro e wG ⟨⟨v8, rfl, hrow⟩, hb⟩
          have KA := Lib.hid (KA.out.below hb)
          have IP := Lib.hid (IP.out.below hb)
          have KN := Lib.hid (KN.out.below hb)
          have BW := Lib.hid (BW.out.trans (hb.mono BW.out.size))
          obtain ⟨Aq, cq, hv, hI⟩ := IntsR.of_own hrow
          have hv2 : v8 = .slice Aq (intL (chR (deepN za + 1) za nw).1).length cq := by simpa [intL] using hv
          clear hv
          subst hv2
          have IQ := Lib.hid (show IntsR wG Aq (intL (chR (deepN za + 1) za nw).1) from hI)
          clear hrow hI hch
          clear hb
          have hlq : (intL (chR (deepN za + 1) za nw).1).length ≤ 1000000000 := by have h1 := chR_len (deepN za + 1) za nw; have h2 := HN.out.2.2.2.2.1; simp only [intL, List.length_map]; omega
          have hsm : Calls Tryd.prog 32 #[(.agg #[.int .i64 za.kind, .int .i64 za.tok.1, .string za.tok.2, .slice A1 za.kids.length eA]), (.agg #[.int .i64 nw.kind, .int .i64 nw.tok.1, .string nw.tok.2, .slice A4 nw.kids.length c4])] wG fun e w' => e = .returned (.bool (sameS za nw)) ∧ Below wG.heap.size wG w' := by
            have hh := Same_node za nw _ _ wG (smallN_of _ za HZ.out.1.size) KA.out.node KN.out.node
            rw [sameT_S (depthN_of _ za (Nat.lt_trans HN.out.2.2.2.2.1 (by decide)))] at hh
            exact hh
          have HLQ := Lib.hid hlq
          have hchp := HC.out.2.1
          have hfar := HC.out.2.2
          clear hlq
          generalize (chR (deepN za + 1) za nw).1 = q at IQ HLQ hchp hfar ⊢
          cases hsq : sameS za nw with
          | true =>
            rw [hsq] at hsm
            have HSM := Lib.hid hsm
            clear hchp hfar hsm hsq
            obtain ⟨q0, q1, q2, q3⟩ := cells_of_block KA.out.box
            obtain ⟨r0, r1, r2, r3⟩ := cells_of_block KN.out.box
            go_wp2_with fail
            try clear q0 q1 q2 q3
            try clear r0 r1 r2 r3
            refine (HSM.out).mono ?_
            rintro e wH ⟨rfl, hb⟩
            have KA := Lib.hid (KA.out.below hb)
            have IP := Lib.hid (IP.out.below hb)
            have KN := Lib.hid (KN.out.below hb)
            have IQ := Lib.hid (IQ.out.below hb)
            have BW := Lib.hid (BW.out.trans (hb.mono BW.out.size))
            clear hb
            go_wp2_with fail
            refine (alive5_any wH KA.out.tabs).mono ?_
            rintro e wI ⟨rfl, hb⟩
            have BL := Lib.hid (BW.out.trans (hb.mono BW.out.size))
            clear hb
            go_wp2_with fail
            go_ret
            exact ⟨rfl, BL.out⟩
          | false =>
            rw [hsq] at hsm
            have HSM := Lib.hid hsm
            obtain ⟨z2, v, h1, h2, h3⟩ := hchp hsq
            have h4 := hfar hsq
            obtain ⟨b1, hg1⟩ := goR_of_at q za z2 0 h1
            obtain ⟨b2, hg2⟩ := goR_of_at q nw v 0 h2
            have hfv := formed_part HF.out.1 (Nat.le_trans HN.out.2.1 (by decide)) hg2
            have hcv : countN v ≤ 1200 := by have := (goR_facts hg2).1; have := HN.out.2.1; omega
            have h5 : ((intL p).length : Int) ≤ ((intL q).length : Int) := by simp only [intL, List.length_map]; omega
            have HQ := Lib.hid (show _ ∧ _ ∧ _ ∧ _ ∧ _ from ⟨hg1, hg2, h3, hfv, hcv⟩)
            have H5 := Lib.hid h5
            clear hchp hfar hsm hsq h1 h2 h3 h4 h5 hg1 hg2 hfv hcv
            obtain ⟨q0, q1, q2, q3⟩ := cells_of_block KA.out.box
            obtain ⟨r0, r1, r2, r3⟩ := cells_of_block KN.out.box
            go_wp2_with fail
            try clear q0 q1 q2 q3
            try clear r0 r1 r2 r3
            refine (HSM.out).mono ?_
            rintro e wH ⟨rfl, hb⟩
            have KA := Lib.hid (KA.out.below hb)
            have IP := Lib.hid (IP.out.below hb)
            have KN := Lib.hid (KN.out.below hb)
            have IQ := Lib.hid (IQ.out.below hb)
            have BW := Lib.hid (BW.out.trans (hb.mono BW.out.size))
            clear hb
            obtain ⟨q0, q1, q2, q3⟩ := cells_of_block KN.out.box
            go_wp2_with fail
            try clear q0 q1 q2 q3
            try clear r0 r1 r2 r3
            refine (At_okU nw v b2 _ (intL q) Aq cq wH HF.out.2 HN.out.2.2.1 KN.out.tabs KN.out.nodeC HLQ.out IQ.out HF.out.1 HQ.out.2.1).mono ?_
            rintro e wI ⟨⟨A6, c6x, rfl, hc6, hk6, _⟩, hb⟩
            have KA := Lib.hid (KA.out.below hb)
            have IP := Lib.hid (IP.out.below hb)
            have KN := Lib.hid (KN.out.below hb)
            have IQ := Lib.hid (IQ.out.below hb)
            have BW := Lib.hid (BW.out.trans (hb.mono BW.out.size))
            clear hb
            have KV := Lib.hid (KeepZ.of hc6 hk6 KA.out.tabs)
            clear hc6 hk6
            go_upto_region 21 with fail
            have hb := allocB wI (.cells (nodeCells v A6 c6x) 26)
            have KA := Lib.hid (KA.out.below hb)
            have IP := Lib.hid (IP.out.below hb)
            have KN := Lib.hid (KN.out.below hb)
            have IQ := Lib.hid (IQ.out.below hb)
            have BW := Lib.hid (BW.out.trans (hb.mono BW.out.size))
            obtain ⟨wIa, hw⟩ : ∃ u, u = wI.alloc (.cells (nodeCells v A6 c6x) 26) := ⟨_, rfl⟩
            obtain ⟨b12, hbb⟩ : ∃ x, x = wI.heap.size := ⟨_, rfl⟩
            rw [← hw] at BW KV KA IP KN IQ
            rw [← hbb] at KV
            rw [show wI.alloc (.cells #[.int .i64 v.kind, .int .i64 v.tok.1, .string v.tok.2, .slice A6 v.kids.length c6x] 26) = wIa from hw.symm]
            rw [← hbb]
            clear hw hbb hb
            obtain ⟨q0, q1, q2, q3⟩ := cells_of_block KA.out.box
            obtain ⟨r0, r1, r2, r3⟩ := cells_of_block KV.out.box
            go_wp2_with fail
            try clear q0 q1 q2 q3
            try clear r0 r1 r2 r3
            refine (Put_res za z2 v q b1 _ _ Aq cq wIa (by have h1 := HZ.out.1.count; have h2 := HQ.out.2.2.2.2; omega) HZ.out.1.sum KA.out.tabs KA.out.nodeC KV.out.node HLQ.out IQ.out HG.out.1 HQ.out.2.2.2.1 HQ.out.1).mono ?_
            rintro e wJ ⟨hpost, hb⟩
            have KA := Lib.hid (KA.out.below hb)
            have IP := Lib.hid (IP.out.below hb)
            have KN := Lib.hid (KN.out.below hb)
            have IQ := Lib.hid (IQ.out.below hb)
            have KV := Lib.hid (KV.out.below hb)
            have BW := Lib.hid (BW.out.trans (hb.mono BW.out.size))
            rw [HQ.out.2.2.1] at hpost
            obtain ⟨A7, c7, rfl, hc7, hk7⟩ := put_ok hpost HF.out.1
            clear hpost
            clear hb
            have KW := Lib.hid (KeepZ.of hc7 hk7 KA.out.tabs)
            clear hc7 hk7
            go_upto_region 22 with fail
            have hb := allocB wJ (.cells (nodeCells nw A7 c7) 26)
            have KA := Lib.hid (KA.out.below hb)
            have IP := Lib.hid (IP.out.below hb)
            have KN := Lib.hid (KN.out.below hb)
            have IQ := Lib.hid (IQ.out.below hb)
            have KV := Lib.hid (KV.out.below hb)
            have BW := Lib.hid (BW.out.trans (hb.mono BW.out.size))
            obtain ⟨wJa, hw⟩ : ∃ u, u = wJ.alloc (.cells (nodeCells nw A7 c7) 26) := ⟨_, rfl⟩
            obtain ⟨b13, hbb⟩ : ∃ x, x = wJ.heap.size := ⟨_, rfl⟩
            rw [← hw] at BW KW KA IP KN IQ KV
            rw [← hbb] at KW
            rw [show wJ.alloc (.cells #[.int .i64 nw.kind, .int .i64 nw.tok.1, .string nw.tok.2, .slice A7 nw.kids.length c7] 26) = wJa from hw.symm]
            rw [← hbb]
            clear hw hbb hb
            obtain ⟨q0, q1, q2, q3⟩ := cells_of_block KN.out.box
            obtain ⟨r0, r1, r2, r3⟩ := cells_of_block KW.out.box
            go_wp2_with fail
            try clear q0 q1 q2 q3
            try clear r0 r1 r2 r3
            have hsm : Calls Tryd.prog 32 #[(.agg #[.int .i64 nw.kind, .int .i64 nw.tok.1, .string nw.tok.2, .slice A7 nw.kids.length c7]), (.agg #[.int .i64 nw.kind, .int .i64 nw.tok.1, .string nw.tok.2, .slice A4 nw.kids.length c4])] wJa fun e w' => e = .returned (.bool true) ∧ Below wJa.heap.size wJa w' := by
              have hh := Same_node nw nw _ _ wJa (smallN_of _ nw HF.out.2) KW.out.node KN.out.node
              rw [sameT_refl _ _ (depthN_of _ nw (Nat.lt_of_lt_of_le (atN_small_len nw) (Nat.le_trans HN.out.2.1 (by decide))))] at hh
              exact hh
            refine (hsm).mono ?_
            rintro e wK ⟨rfl, hb⟩
            have KA := Lib.hid (KA.out.below hb)
            have BW := Lib.hid (BW.out.trans (hb.mono BW.out.size))
            clear hb
            clear hsm
            have h5 := H5.out
            have h6 : decide (((intL p).length : Int) ≤ ((intL q).length : Int)) = true := decide_eq_true h5
            have h7 : ¬ ((intL q).length : Int) < ((intL p).length : Int) := by omega
            go_wp2_with fail
            refine (alive5_any wK KA.out.tabs).mono ?_
            rintro e wL ⟨rfl, hb⟩
            have BL := Lib.hid (BW.out.trans (hb.mono BW.out.size))
            clear hb
            go_wp2_with fail
            go_ret
            exact ⟨rfl, BL.out⟩
end Go.Proofs.YtpjlgahbbmlngaaDoor.lawTreePut
