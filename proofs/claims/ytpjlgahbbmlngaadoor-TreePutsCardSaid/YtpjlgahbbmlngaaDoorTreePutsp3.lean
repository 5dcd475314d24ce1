/-
  TreePuts: Put is the specification's, or the error. No condition: every input. (gen_wtx.py)
-/
import Derived.Test.YtpjlgahbbmlngaaDoorTreeLeavesp34
import Derived.Test.YtpjlgahbbmlngaaDoorTreePutsp1
import Derived.Test.YtpjlgahbbmlngaaDoorTreePutsp2
import Derived.Test.YtpjlgahbbmlngaaDoorTreeLeavesp35
import Derived.Test.YtpjlgahbbmlngaaDoorTreeLeavesp26
import Derived.Test.YtpjlgahbbmlngaaDoorTreeOwnp3
import Derived.Test.YtpjlgahbbmlngaaDoorTreeLeavesp25
import Derived.Test.YtpjlgahbbmlngaaDoorTreeLeavesp33
import Derived.Test.YtpjlgahbbmlngaaDoorTreeLeavesp29
import Derived.Deep.RegionHeld3
import Derived.Deep.DeepCutAuto
namespace Go.Proofs.YtpjlgahbbmlngaaDoor.lawTreePuts
set_option linter.unusedVariables false
set_option linter.unusedSimpArgs false
set_option linter.unnecessarySimpa false
open Go.ChangeShapes Go.WideShapes Go.RowKit

theorem keptN' {wr W : World} {b : Nat} {x0 x1 x2 x3 : Value} {t : Nat} (hb : Below wr.heap.size wr W) (h1 : wr.heap[b]? = some (.cells #[x0, x1, x2, x3] t (0, 0))) :
    W.cell? ⟨b, 0, none⟩ = some x0 ∧ W.cell? ⟨b, 1, none⟩ = some x1 ∧ W.cell? ⟨b, 2, none⟩ = some x2 ∧ W.cell? ⟨b, 3, none⟩ = some x3 := by
  have e1 := (hb.block b (Array.getElem?_eq_some_iff.1 h1).1).trans h1
  exact ⟨Lib.cell_of_heap e1 0, Lib.cell_of_heap e1 1, Lib.cell_of_heap e1 2, Lib.cell_of_heap e1 3⟩
theorem keptS {w w' : World} {b c : Nat} {x0 x1 x2 x3 y0 y1 y2 y3 : Value} (hb : Below w.heap.size w w') (h1 : w.heap[b]? = some (.cells #[x0, x1, x2, x3] 26 (0, 0))) (h2 : w.heap[c]? = some (.cells #[y0, y1, y2, y3] 26 (0, 0))) :
    Below w.heap.size w w' ∧ (w'.cell? ⟨b, 0, none⟩ = some x0 ∧ w'.cell? ⟨b, 1, none⟩ = some x1 ∧ w'.cell? ⟨b, 2, none⟩ = some x2 ∧ w'.cell? ⟨b, 3, none⟩ = some x3) ∧ (w'.cell? ⟨c, 0, none⟩ = some y0 ∧ w'.cell? ⟨c, 1, none⟩ = some y1 ∧ w'.cell? ⟨c, 2, none⟩ = some y2 ∧ w'.cell? ⟨c, 3, none⟩ = some y3) := by
  have e1 := keepB h1 hb
  have e2 := keepB h2 hb
  exact ⟨hb, ⟨Lib.cell_of_heap e1 0, Lib.cell_of_heap e1 1, Lib.cell_of_heap e1 2, Lib.cell_of_heap e1 3⟩, Lib.cell_of_heap e2 0, Lib.cell_of_heap e2 1, Lib.cell_of_heap e2 2, Lib.cell_of_heap e2 3⟩
theorem put_ok {W W' : World} {m : Nd} {e : Ending} (h : PutPost W m e W') (hf : formedB m = true) : ∃ A c, e = .returned (.tuple #[.agg #[.int .i64 m.kind, .int .i64 m.tok.1, .string m.tok.2, .slice A m.kids.length c], .int .i64 0]) ∧ m.kids.length ≤ c ∧ KidsP (fun k => W.heap.size ≤ k) W' A m.kids := by
  unfold PutPost at h
  rw [if_pos hf] at h
  obtain ⟨A, c, h1, h2, h3, _⟩ := h
  exact ⟨A, c, h1, h2, h3⟩
theorem put_no {W W' : World} {m : Nd} {e : Ending} (h : PutPost W m e W') (hf : formedB m = false) : e = .returned (.tuple #[.agg zeroCells, .int .i64 4]) := by
  unfold PutPost at h
  rw [if_neg (by rw [hf]; decide)] at h
  exact h

set_option maxRecDepth 100000 in
set_option maxHeartbeats 8000000 in
theorem walk (a0 : Nd) (va : Value) (hra : rawN a0) (A9 : Option Addr) (c9 : Nat) (l9 : List Int) (hl9 : l9.length ≤ c9) (hc9 : c9 ≤ maxLen) (b0 : Nd) (vb : Value) (hrb : rawN b0) (w : World) (hT : Tabs w) (hNa : NodeV w va a0) (hE : IntsA w A9 l9) (hNb : NodeV w vb b0) :
    Calls Tryd.prog 8 #[va, .slice A9 l9.length c9, vb] w fun e w' => e = .returned (.bool true) ∧ Below w.heap.size w w' := by
  have hna := hNa
  have hnb := hNb
  obtain ⟨A0, c0, rfl, _⟩ := hNa
  obtain ⟨B0, d0, rfl, _⟩ := hNb
  obtain ⟨w0, hw0⟩ : ∃ w0, w0 = (w.alloc (.cells #[.int .i64 a0.kind, .int .i64 a0.tok.1, .string a0.tok.2, .slice A0 a0.kids.length c0] 26)).alloc (.cells #[.int .i64 b0.kind, .int .i64 b0.tok.1, .string b0.tok.2, .slice B0 b0.kids.length d0] 26) := ⟨_, rfl⟩
  have hB0 : Below w.heap.size w w0 := by rw [hw0]; exact ((Below.refl _ _).alloc (Nat.le_refl _) _).alloc (by simp) _
  have bx1 : w0.heap[w.heap.size]? = some (.cells #[.int .i64 a0.kind, .int .i64 a0.tok.1, .string a0.tok.2, .slice A0 a0.kids.length c0] 26 (0, 0)) := by rw [hw0, alloc_old _ _ _ (by simp)]; exact alloc_at _ _ _ rfl
  have bx2 : w0.heap[w.heap.size + 1]? = some (.cells #[.int .i64 b0.kind, .int .i64 b0.tok.1, .string b0.tok.2, .slice B0 b0.kids.length d0] 26 (0, 0)) := by rw [hw0]; exact alloc_at _ _ _ (by simp)
  have hcutA := fun W (h : Below w0.heap.size w0 W) => Cut_any a0 _ W hra ((hna.below hB0).below h)
  have hcutB := fun W (h : Below w0.heap.size w0 W) => Cut_any b0 _ W hrb ((hnb.below hB0).below h)
  have hzA := SmZ.of_cut (most := 600) (by decide) (by decide) a0
  have hzB := SmZ.of_cut (most := 600) (by decide) (by decide) b0
  generalize cutM 600 a0 = za at hcutA hzA
  generalize cutM 600 b0 = zb at hcutB hzB
  have HSh := Lib.hid (fun W (h : IntsA W A9 l9) => short_any A9 c9 l9 W hl9 hc9 h)
  have hLl : (l9.take 40).length ≤ 40 := by rw [List.length_take]; omega
  generalize l9.take 40 = R at HSh hLl
  have HT := Lib.hid (show _ ∧ _ from ⟨hT, hE⟩)
  have HZ := Lib.hid (show _ ∧ _ ∧ _ from ⟨hzA, hzB, hLl⟩)
  have hEA := fun W (h : Below w0.heap.size w0 W) => (hE.below hB0).below h
  have HEA := Lib.hid hEA
  clear hEA
  have HcutA := Lib.hid hcutA
  have HcutB := Lib.hid hcutB
  have HB0 := Lib.hid hB0
  have HW := Lib.hid hw0
  clear hcutA hcutB hzA hzB hT hna hnb hra hrb hB0 hw0 hLl hl9 hc9 hE
  go_enter Tryd.func8, Tryd.ntmps8
  go_upto_region 1 with fail
  rw [← HW.out]
  go_cut [7, 8, 9] (fun s5 s8 s6 W => ∃ (c5 c6 : Nat) (A1 : Option Addr) (eA : Nat) (B1 : Option Addr) (eB : Nat) (Ar : Option Addr) (cr : Nat), s5 = .pointer (some ⟨c5, 0, none⟩) ∧ s8 = .slice Ar R.length cr ∧ s6 = .pointer (some ⟨c6, 0, none⟩) ∧ za.kids.length ≤ eA ∧ zb.kids.length ≤ eB ∧ R.length ≤ cr ∧ KidsP (fun b => b ≠ c5 ∧ b ≠ c6) W A1 za.kids ∧ KidsP (fun b => b ≠ c5 ∧ b ≠ c6) W B1 zb.kids ∧ IntsP (fun b => b ≠ c5 ∧ b ≠ c6) W Ar R ∧ W.heap[c5]? = some (.cells (nodeCells za A1 eA) 26 (0, 0)) ∧ W.heap[c6]? = some (.cells (nodeCells zb B1 eB) 26 (0, 0)) ∧ Below w.heap.size w W)
  case first =>
    refine wp_region_held_drew (S := (fun W => Below w0.heap.size w0 W ∧ (W.cell? ⟨w.heap.size, 0, none⟩ = some (.int .i64 a0.kind) ∧ W.cell? ⟨w.heap.size, 1, none⟩ = some (.int .i64 a0.tok.1) ∧ W.cell? ⟨w.heap.size, 2, none⟩ = some (.string a0.tok.2) ∧ W.cell? ⟨w.heap.size, 3, none⟩ = some (.slice A0 a0.kids.length c0)) ∧ (W.cell? ⟨w.heap.size + 1, 0, none⟩ = some (.int .i64 b0.kind) ∧ W.cell? ⟨w.heap.size + 1, 1, none⟩ = some (.int .i64 b0.tok.1) ∧ W.cell? ⟨w.heap.size + 1, 2, none⟩ = some (.string b0.tok.2) ∧ W.cell? ⟨w.heap.size + 1, 3, none⟩ = some (.slice B0 b0.kids.length d0)))) (by kernel_rfl) ?_ (fun hHeld => ?_)
    · exact keptS (Below.drew (Below.refl _ _)) bx1 bx2
    obtain ⟨w_0, hw⟩ : ∃ x, x = w0.drew := ⟨_, rfl⟩
    have hB : Below w0.heap.size w0 w_0 := by rw [hw]; exact Below.drew (Below.refl _ _)
    rw [← hw] at hHeld
    rw [← hw]
    clear hw
    refine wpAnyH_take (i := 0) (oi := ⟨some 13, _, _, _, _, _⟩) (v := ?_) rfl (by kernel_rfl) (by kernel_rfl) (by kernel_rfl) (fun _ _ _ h => h) (Or.inl ⟨by rfl, ?hy⟩) (by assumption) ?_
    case hy => (intro w hSw; (try dsimp only at hSw); go_simp; (try with_reducible rfl))
    try simp only [Act.put, List.setIfInBounds_toArray, List.set_cons_zero, List.set_cons_succ]
    refine wpAnyH_take (i := 2) (oi := ⟨some 15, _, _, _, _, _⟩) (v := ?_) rfl (by kernel_rfl) (by kernel_rfl) (by kernel_rfl) (fun _ _ _ h => h) (Or.inl ⟨by rfl, ?hy⟩) (by assumption) ?_
    case hy => (intro w hSw; (try dsimp only at hSw); go_simp; (try with_reducible rfl))
    try simp only [Act.put, List.setIfInBounds_toArray, List.set_cons_zero, List.set_cons_succ]
    refine wpAnyH_take (i := 4) (oi := ⟨some 17, _, _, _, _, _⟩) (v := ?_) rfl (by kernel_rfl) (by kernel_rfl) (by kernel_rfl) (fun _ _ _ h => h) (Or.inl ⟨by rfl, ?hy⟩) (by assumption) ?_
    case hy => (intro w hSw; (try dsimp only at hSw); go_simp; (try with_reducible rfl))
    try simp only [Act.put, List.setIfInBounds_toArray, List.set_cons_zero, List.set_cons_succ]
    refine wpAnyH_ready (rs := [1, 6, 7]) (by kernel_rfl) (by simp) ?_
    refine AllReadyH.cons (o := ⟨some 14, _, _, _, _, _⟩) rfl (fun K hK => ?_) (AllReadyH.cons (o := ⟨some 7, _, _, _, _, _⟩) rfl (fun K hK => ?_) (AllReadyH.cons (o := ⟨some 9, _, _, _, _, _⟩) rfl (fun K hK => ?_) AllReadyH.nil))
    · go_simp
      go_at_call 15
      with_reducible refine (HcutA.out _ hB).mono ?_
      rintro e w_1 ⟨vA, rfl, ⟨A1, eA, rfl, gA, kA⟩, hbC⟩
      have kA : KidsP (fun b => True) w_1 A1 za.kids := kA.kept (Nat.le_refl _) (fun _ _ _ => rfl) (fun b hb _ => trivial)
      have hB : Below w0.heap.size w0 w_1 := hB.trans (hbC.mono hB.size)
      refine hK.out _ _ ?_ (fun hHeld => ?_)
      · exact keptS hB bx1 bx2
      clear hK K hbC
      try simp only [Act.put, List.setIfInBounds_toArray, List.set_cons_zero, List.set_cons_succ]
      refine wpAnyH_ready (rs := [3, 6, 7]) (by kernel_rfl) (by simp) ?_
      refine AllReadyH.cons (o := ⟨some 16, _, _, _, _, _⟩) rfl (fun K hK => ?_) (AllReadyH.cons (o := ⟨some 7, _, _, _, _, _⟩) rfl (fun K hK => ?_) (AllReadyH.cons (o := ⟨some 9, _, _, _, _, _⟩) rfl (fun K hK => ?_) AllReadyH.nil))
      · go_simp
        go_at_call 36
        with_reducible refine (HSh.out _ (HEA.out _ hB)).mono ?_
        rintro e w_2 ⟨vH, rfl, hrow, hbC⟩
        obtain ⟨Ar, cr, rfl, gH, kH⟩ := IntsP.of_own hrow
        have kH : IntsP (fun b => True) w_2 Ar R := kH.kept (Nat.le_refl _) (fun _ _ _ => rfl) (fun b hb _ => trivial)
        have kA : KidsP (fun b => True) w_2 A1 za.kids := kA.kept hbC.size (fun b _ hb => hbC.block b hb) (fun b h _ => h)
        have hB : Below w0.heap.size w0 w_2 := hB.trans (hbC.mono hB.size)
        refine hK.out _ _ ?_ (fun hHeld => ?_)
        · exact keptS hB bx1 bx2
        clear hK K hbC hrow
        try simp only [Act.put, List.setIfInBounds_toArray, List.set_cons_zero, List.set_cons_succ]
        refine wpAnyH_ready (rs := [5, 6, 7]) (by kernel_rfl) (by simp) ?_
        refine AllReadyH.cons (o := ⟨some 18, _, _, _, _, _⟩) rfl (fun K hK => ?_) (AllReadyH.cons (o := ⟨some 7, _, _, _, _, _⟩) rfl (fun K hK => ?_) (AllReadyH.cons (o := ⟨some 9, _, _, _, _, _⟩) rfl (fun K hK => ?_) AllReadyH.nil))
        · go_simp
          go_at_call 15
          with_reducible refine (HcutB.out _ hB).mono ?_
          rintro e w_3 ⟨vB, rfl, ⟨B1, eB, rfl, gB, kB⟩, hbC⟩
          have kB : KidsP (fun b => True) w_3 B1 zb.kids := kB.kept (Nat.le_refl _) (fun _ _ _ => rfl) (fun b hb _ => trivial)
          have kA : KidsP (fun b => True) w_3 A1 za.kids := kA.kept hbC.size (fun b _ hb => hbC.block b hb) (fun b h _ => h)
          have kH : IntsP (fun b => True) w_3 Ar R := kH.kept hbC.size (fun b _ hb => hbC.block b hb) (fun b h _ => h)
          have hB : Below w0.heap.size w0 w_3 := hB.trans (hbC.mono hB.size)
          refine hK.out _ _ ?_ (fun hHeld => ?_)
          · exact keptS hB bx1 bx2
          clear hK K hbC
          try simp only [Act.put, List.setIfInBounds_toArray, List.set_cons_zero, List.set_cons_succ]
          refine wpAnyH_ready (rs := [6, 7]) (by kernel_rfl) (by simp) ?_
          refine AllReadyH.cons (o := ⟨some 7, _, _, _, _, _⟩) rfl (fun K hK => ?_) (AllReadyH.cons (o := ⟨some 9, _, _, _, _, _⟩) rfl (fun K hK => ?_) AllReadyH.nil)
          · go_simp
            have hal : Below w_3.heap.size w_3 (w_3.alloc (.cells #[.int .i64 0, .int .i64 0, .string { data := #[] }, .slice none 0 0] 26)) := (Below.refl _ _).alloc (Nat.le_refl _) _
            refine hK.out _ _ ?_ (fun hHeld => ?_)
            · exact keptS (hB.trans (hal.mono hB.size)) bx1 bx2
            clear hK K
            try simp only [Act.put, List.setIfInBounds_toArray, List.set_cons_zero, List.set_cons_succ]
            obtain ⟨c5, hc⟩ : ∃ c, c = w_3.heap.size := ⟨_, rfl⟩
            obtain ⟨w_4, hw⟩ : ∃ x, x = w_3.alloc (.cells #[.int .i64 0, .int .i64 0, .string { data := #[] }, .slice none 0 0] 26) := ⟨_, rfl⟩
            rw [← hw] at hal
            have g5 : w0.heap.size ≤ c5 := by rw [hc]; exact hB.size
            have kA : KidsP (fun b => b ≠ c5) w_4 A1 za.kids := kA.kept hal.size (fun b _ hb => hal.block b hb) (fun b h hb => Nat.ne_of_lt (by rw [hc]; exact hb))
            have kB : KidsP (fun b => b ≠ c5) w_4 B1 zb.kids := kB.kept hal.size (fun b _ hb => hal.block b hb) (fun b h hb => Nat.ne_of_lt (by rw [hc]; exact hb))
            have kH : IntsP (fun b => b ≠ c5) w_4 Ar R := kH.kept hal.size (fun b _ hb => hal.block b hb) (fun b h hb => Nat.ne_of_lt (by rw [hc]; exact hb))
            have hB : Below w0.heap.size w0 w_4 := hB.trans (hal.mono hB.size)
            have h5 : w_4.heap[c5]? = some (.cells #[.int .i64 0, .int .i64 0, .string { data := #[] }, .slice none 0 0] 26 (0, 0)) := by rw [hw, hc]; exact heap_alloc_new _ _
            rw [← hw] at hHeld
            rw [← hw]
            rw [← hc]
            clear hw hc hal
            refine wpAnyH_ready (rs := [7]) (by kernel_rfl) (by simp) ?_
            refine AllReadyH.cons (o := ⟨some 9, _, _, _, _, _⟩) rfl (fun K hK => ?_) AllReadyH.nil
            go_simp
            have hal : Below w_4.heap.size w_4 (w_4.alloc (.cells #[.int .i64 0, .int .i64 0, .string { data := #[] }, .slice none 0 0] 26)) := (Below.refl _ _).alloc (Nat.le_refl _) _
            refine hK.out _ _ ?_ (fun hHeld => ?_)
            · exact keptS (hB.trans (hal.mono hB.size)) bx1 bx2
            clear hK K
            try simp only [Act.put, List.setIfInBounds_toArray, List.set_cons_zero, List.set_cons_succ]
            obtain ⟨c6, hc⟩ : ∃ c, c = w_4.heap.size := ⟨_, rfl⟩
            obtain ⟨w_5, hw⟩ : ∃ x, x = w_4.alloc (.cells #[.int .i64 0, .int .i64 0, .string { data := #[] }, .slice none 0 0] 26) := ⟨_, rfl⟩
            rw [← hw] at hal
            have g6 : w0.heap.size ≤ c6 := by rw [hc]; exact hB.size
            have hcc : c5 ≠ c6 := by have hlt : c5 < w_4.heap.size := (Array.getElem?_eq_some_iff.1 h5).1; omega
            have kA : KidsP (fun b => b ≠ c5 ∧ b ≠ c6) w_5 A1 za.kids := kA.kept hal.size (fun b _ hb => hal.block b hb) (fun b h hb => ⟨h, Nat.ne_of_lt (by rw [hc]; exact hb)⟩)
            have kB : KidsP (fun b => b ≠ c5 ∧ b ≠ c6) w_5 B1 zb.kids := kB.kept hal.size (fun b _ hb => hal.block b hb) (fun b h hb => ⟨h, Nat.ne_of_lt (by rw [hc]; exact hb)⟩)
            have kH : IntsP (fun b => b ≠ c5 ∧ b ≠ c6) w_5 Ar R := kH.kept hal.size (fun b _ hb => hal.block b hb) (fun b h hb => ⟨h, Nat.ne_of_lt (by rw [hc]; exact hb)⟩)
            have h5 := keepB h5 hal
            have hB : Below w0.heap.size w0 w_5 := hB.trans (hal.mono hB.size)
            have h6 : w_5.heap[c6]? = some (.cells #[.int .i64 0, .int .i64 0, .string { data := #[] }, .slice none 0 0] 26 (0, 0)) := by rw [hw, hc]; exact heap_alloc_new _ _
            rw [← hw] at hHeld
            rw [← hw]
            rw [← hc]
            clear hw hc hal
            refine wpAnyH_ready (rs := [8]) (by kernel_rfl) (by simp) ?_
            refine AllReadyH.cons (o := ⟨none, _, _, _, _, _⟩) rfl (fun K hK => ?_) AllReadyH.nil
            have q0 := Lib.cell_of_heap h5 0
            have q1 := Lib.cell_of_heap h5 1
            have q2 := Lib.cell_of_heap h5 2
            have q3 := Lib.cell_of_heap h5 3
            have r0 := frozen_block (j := 0) h5
            have r1 := frozen_block (j := 1) h5
            have r2 := frozen_block (j := 2) h5
            have r3 := frozen_block (j := 3) h5
            have hst := set4 (v0 := .int .i64 za.kind) (v1 := .int .i64 za.tok.1) (v2 := .string za.tok.2) (v3 := .slice A1 za.kids.length eA) h5
            have hsz : ((((w_5.setCell ⟨c5, 0, none⟩ (.int .i64 za.kind)).setCell ⟨c5, 1, none⟩ (.int .i64 za.tok.1)).setCell ⟨c5, 2, none⟩ (.string za.tok.2)).setCell ⟨c5, 3, none⟩ (.slice A1 za.kids.length eA)).heap.size = w_5.heap.size := size4
            have hB : Below w0.heap.size w0 ((((w_5.setCell ⟨c5, 0, none⟩ (.int .i64 za.kind)).setCell ⟨c5, 1, none⟩ (.int .i64 za.tok.1)).setCell ⟨c5, 2, none⟩ (.string za.tok.2)).setCell ⟨c5, 3, none⟩ (.slice A1 za.kids.length eA)) := below4 hB g5
            have hot : ∀ b, b ≠ c5 → ((((w_5.setCell ⟨c5, 0, none⟩ (.int .i64 za.kind)).setCell ⟨c5, 1, none⟩ (.int .i64 za.tok.1)).setCell ⟨c5, 2, none⟩ (.string za.tok.2)).setCell ⟨c5, 3, none⟩ (.slice A1 za.kids.length eA)).heap[b]? = w_5.heap[b]? := fun b hb => other4 hb
            go_simp
            refine hK.out _ _ ?_ (fun hHeld => ?_)
            · exact keptS hB bx1 bx2
            clear hK K q0 q1 q2 q3 r0 r1 r2 r3
            try simp only [Act.put, List.setIfInBounds_toArray, List.set_cons_zero, List.set_cons_succ]
            obtain ⟨w_6, hw⟩ : ∃ x, x = ((((w_5.setCell ⟨c5, 0, none⟩ (.int .i64 za.kind)).setCell ⟨c5, 1, none⟩ (.int .i64 za.tok.1)).setCell ⟨c5, 2, none⟩ (.string za.tok.2)).setCell ⟨c5, 3, none⟩ (.slice A1 za.kids.length eA)) := ⟨_, rfl⟩
            rw [← hw] at hst hot hB hsz hHeld
            rw [← hw]
            have h5 := hst
            have h6 := (hot c6 (Ne.symm hcc)).trans h6
            have kA : KidsP (fun b => b ≠ c5 ∧ b ≠ c6) w_6 A1 za.kids := kA.kept (Nat.le_of_eq hsz.symm) (fun b hp _ => hot b hp.1) (fun b h _ => h)
            have kB : KidsP (fun b => b ≠ c5 ∧ b ≠ c6) w_6 B1 zb.kids := kB.kept (Nat.le_of_eq hsz.symm) (fun b hp _ => hot b hp.1) (fun b h _ => h)
            have kH : IntsP (fun b => b ≠ c5 ∧ b ≠ c6) w_6 Ar R := kH.kept (Nat.le_of_eq hsz.symm) (fun b hp _ => hot b hp.1) (fun b h _ => h)
            clear hw hst hot hsz
            refine wpAnyH_take (i := 9) (oi := ⟨some 8, _, _, _, _, _⟩) (v := ?_) rfl (by kernel_rfl) (by kernel_rfl) (by kernel_rfl) (fun _ _ _ h => h) (Or.inl ⟨by rfl, ?hy⟩) (by assumption) ?_
            case hy => (intro w hSw; (try dsimp only at hSw); go_simp; (try with_reducible rfl))
            try simp only [Act.put, List.setIfInBounds_toArray, List.set_cons_zero, List.set_cons_succ]
            refine wpAnyH_ready (rs := [10]) (by kernel_rfl) (by simp) ?_
            refine AllReadyH.cons (o := ⟨none, _, _, _, _, _⟩) rfl (fun K hK => ?_) AllReadyH.nil
            have q0 := Lib.cell_of_heap h6 0
            have q1 := Lib.cell_of_heap h6 1
            have q2 := Lib.cell_of_heap h6 2
            have q3 := Lib.cell_of_heap h6 3
            have r0 := frozen_block (j := 0) h6
            have r1 := frozen_block (j := 1) h6
            have r2 := frozen_block (j := 2) h6
            have r3 := frozen_block (j := 3) h6
            have hst := set4 (v0 := .int .i64 zb.kind) (v1 := .int .i64 zb.tok.1) (v2 := .string zb.tok.2) (v3 := .slice B1 zb.kids.length eB) h6
            have hsz : ((((w_6.setCell ⟨c6, 0, none⟩ (.int .i64 zb.kind)).setCell ⟨c6, 1, none⟩ (.int .i64 zb.tok.1)).setCell ⟨c6, 2, none⟩ (.string zb.tok.2)).setCell ⟨c6, 3, none⟩ (.slice B1 zb.kids.length eB)).heap.size = w_6.heap.size := size4
            have hB : Below w0.heap.size w0 ((((w_6.setCell ⟨c6, 0, none⟩ (.int .i64 zb.kind)).setCell ⟨c6, 1, none⟩ (.int .i64 zb.tok.1)).setCell ⟨c6, 2, none⟩ (.string zb.tok.2)).setCell ⟨c6, 3, none⟩ (.slice B1 zb.kids.length eB)) := below4 hB g6
            have hot : ∀ b, b ≠ c6 → ((((w_6.setCell ⟨c6, 0, none⟩ (.int .i64 zb.kind)).setCell ⟨c6, 1, none⟩ (.int .i64 zb.tok.1)).setCell ⟨c6, 2, none⟩ (.string zb.tok.2)).setCell ⟨c6, 3, none⟩ (.slice B1 zb.kids.length eB)).heap[b]? = w_6.heap[b]? := fun b hb => other4 hb
            go_simp
            refine hK.out _ _ ?_ (fun hHeld => ?_)
            · exact keptS hB bx1 bx2
            clear hK K q0 q1 q2 q3 r0 r1 r2 r3
            try simp only [Act.put, List.setIfInBounds_toArray, List.set_cons_zero, List.set_cons_succ]
            obtain ⟨w_7, hw⟩ : ∃ x, x = ((((w_6.setCell ⟨c6, 0, none⟩ (.int .i64 zb.kind)).setCell ⟨c6, 1, none⟩ (.int .i64 zb.tok.1)).setCell ⟨c6, 2, none⟩ (.string zb.tok.2)).setCell ⟨c6, 3, none⟩ (.slice B1 zb.kids.length eB)) := ⟨_, rfl⟩
            rw [← hw] at hst hot hB hsz hHeld
            rw [← hw]
            have h6 := hst
            have h5 := (hot c5 hcc).trans h5
            have kA : KidsP (fun b => b ≠ c5 ∧ b ≠ c6) w_7 A1 za.kids := kA.kept (Nat.le_of_eq hsz.symm) (fun b hp _ => hot b hp.2) (fun b h _ => h)
            have kB : KidsP (fun b => b ≠ c5 ∧ b ≠ c6) w_7 B1 zb.kids := kB.kept (Nat.le_of_eq hsz.symm) (fun b hp _ => hot b hp.2) (fun b h _ => h)
            have kH : IntsP (fun b => b ≠ c5 ∧ b ≠ c6) w_7 Ar R := kH.kept (Nat.le_of_eq hsz.symm) (fun b hp _ => hot b hp.2) (fun b h _ => h)
            clear hw hst hot hsz
            refine wpAnyH_done (by kernel_rfl) ?_ _
            go_wp2_with fail
            go_meet
            exact ⟨c5, c6, A1, eA, B1, eB, Ar, cr, rfl, rfl, rfl, gA, gB, gH, kA, kB, kH, h5, h6, HB0.out.trans (hB.mono HB0.out.size)⟩
          · go_simp
            have hal : Below w_3.heap.size w_3 (w_3.alloc (.cells #[.int .i64 0, .int .i64 0, .string { data := #[] }, .slice none 0 0] 26)) := (Below.refl _ _).alloc (Nat.le_refl _) _
            refine hK.out _ _ ?_ (fun hHeld => ?_)
            · exact keptS (hB.trans (hal.mono hB.size)) bx1 bx2
            clear hK K
            try simp only [Act.put, List.setIfInBounds_toArray, List.set_cons_zero, List.set_cons_succ]
            obtain ⟨c6, hc⟩ : ∃ c, c = w_3.heap.size := ⟨_, rfl⟩
            obtain ⟨w_8, hw⟩ : ∃ x, x = w_3.alloc (.cells #[.int .i64 0, .int .i64 0, .string { data := #[] }, .slice none 0 0] 26) := ⟨_, rfl⟩
            rw [← hw] at hal
            have g6 : w0.heap.size ≤ c6 := by rw [hc]; exact hB.size
            have kA : KidsP (fun b => b ≠ c6) w_8 A1 za.kids := kA.kept hal.size (fun b _ hb => hal.block b hb) (fun b h hb => Nat.ne_of_lt (by rw [hc]; exact hb))
            have kB : KidsP (fun b => b ≠ c6) w_8 B1 zb.kids := kB.kept hal.size (fun b _ hb => hal.block b hb) (fun b h hb => Nat.ne_of_lt (by rw [hc]; exact hb))
            have kH : IntsP (fun b => b ≠ c6) w_8 Ar R := kH.kept hal.size (fun b _ hb => hal.block b hb) (fun b h hb => Nat.ne_of_lt (by rw [hc]; exact hb))
            have hB : Below w0.heap.size w0 w_8 := hB.trans (hal.mono hB.size)
            have h6 : w_8.heap[c6]? = some (.cells #[.int .i64 0, .int .i64 0, .string { data := #[] }, .slice none 0 0] 26 (0, 0)) := by rw [hw, hc]; exact heap_alloc_new _ _
            rw [← hw] at hHeld
            rw [← hw]
            rw [← hc]
            clear hw hc hal
            refine wpAnyH_ready (rs := [6]) (by kernel_rfl) (by simp) ?_
            refine AllReadyH.cons (o := ⟨some 7, _, _, _, _, _⟩) rfl (fun K hK => ?_) AllReadyH.nil
            go_simp
            have hal : Below w_8.heap.size w_8 (w_8.alloc (.cells #[.int .i64 0, .int .i64 0, .string { data := #[] }, .slice none 0 0] 26)) := (Below.refl _ _).alloc (Nat.le_refl _) _
            refine hK.out _ _ ?_ (fun hHeld => ?_)
            · exact keptS (hB.trans (hal.mono hB.size)) bx1 bx2
            clear hK K
            try simp only [Act.put, List.setIfInBounds_toArray, List.set_cons_zero, List.set_cons_succ]
            obtain ⟨c5, hc⟩ : ∃ c, c = w_8.heap.size := ⟨_, rfl⟩
            obtain ⟨w_9, hw⟩ : ∃ x, x = w_8.alloc (.cells #[.int .i64 0, .int .i64 0, .string { data := #[] }, .slice none 0 0] 26) := ⟨_, rfl⟩
            rw [← hw] at hal
            have g5 : w0.heap.size ≤ c5 := by rw [hc]; exact hB.size
            have hcc : c5 ≠ c6 := by have hlt : c6 < w_8.heap.size := (Array.getElem?_eq_some_iff.1 h6).1; omega
            have kA : KidsP (fun b => b ≠ c5 ∧ b ≠ c6) w_9 A1 za.kids := kA.kept hal.size (fun b _ hb => hal.block b hb) (fun b h hb => ⟨Nat.ne_of_lt (by rw [hc]; exact hb), h⟩)
            have kB : KidsP (fun b => b ≠ c5 ∧ b ≠ c6) w_9 B1 zb.kids := kB.kept hal.size (fun b _ hb => hal.block b hb) (fun b h hb => ⟨Nat.ne_of_lt (by rw [hc]; exact hb), h⟩)
            have kH : IntsP (fun b => b ≠ c5 ∧ b ≠ c6) w_9 Ar R := kH.kept hal.size (fun b _ hb => hal.block b hb) (fun b h hb => ⟨Nat.ne_of_lt (by rw [hc]; exact hb), h⟩)
            have h6 := keepB h6 hal
            have hB : Below w0.heap.size w0 w_9 := hB.trans (hal.mono hB.size)
            have h5 : w_9.heap[c5]? = some (.cells #[.int .i64 0, .int .i64 0, .string { data := #[] }, .slice none 0 0] 26 (0, 0)) := by rw [hw, hc]; exact heap_alloc_new _ _
            rw [← hw] at hHeld
            rw [← hw]
            rw [← hc]
            clear hw hc hal
            refine wpAnyH_ready (rs := [8]) (by kernel_rfl) (by simp) ?_
            refine AllReadyH.cons (o := ⟨none, _, _, _, _, _⟩) rfl (fun K hK => ?_) AllReadyH.nil
            have q0 := Lib.cell_of_heap h5 0
            have q1 := Lib.cell_of_heap h5 1
            have q2 := Lib.cell_of_heap h5 2
            have q3 := Lib.cell_of_heap h5 3
            have r0 := frozen_block (j := 0) h5
            have r1 := frozen_block (j := 1) h5
            have r2 := frozen_block (j := 2) h5
            have r3 := frozen_block (j := 3) h5
            have hst := set4 (v0 := .int .i64 za.kind) (v1 := .int .i64 za.tok.1) (v2 := .string za.tok.2) (v3 := .slice A1 za.kids.length eA) h5
            have hsz : ((((w_9.setCell ⟨c5, 0, none⟩ (.int .i64 za.kind)).setCell ⟨c5, 1, none⟩ (.int .i64 za.tok.1)).setCell ⟨c5, 2, none⟩ (.string za.tok.2)).setCell ⟨c5, 3, none⟩ (.slice A1 za.kids.length eA)).heap.size = w_9.heap.size := size4
            have hB : Below w0.heap.size w0 ((((w_9.setCell ⟨c5, 0, none⟩ (.int .i64 za.kind)).setCell ⟨c5, 1, none⟩ (.int .i64 za.tok.1)).setCell ⟨c5, 2, none⟩ (.string za.tok.2)).setCell ⟨c5, 3, none⟩ (.slice A1 za.kids.length eA)) := below4 hB g5
            have hot : ∀ b, b ≠ c5 → ((((w_9.setCell ⟨c5, 0, none⟩ (.int .i64 za.kind)).setCell ⟨c5, 1, none⟩ (.int .i64 za.tok.1)).setCell ⟨c5, 2, none⟩ (.string za.tok.2)).setCell ⟨c5, 3, none⟩ (.slice A1 za.kids.length eA)).heap[b]? = w_9.heap[b]? := fun b hb => other4 hb
            go_simp
            refine hK.out _ _ ?_ (fun hHeld => ?_)
            · exact keptS hB bx1 bx2
            clear hK K q0 q1 q2 q3 r0 r1 r2 r3
            try simp only [Act.put, List.setIfInBounds_toArray, List.set_cons_zero, List.set_cons_succ]
            obtain ⟨w_10, hw⟩ : ∃ x, x = ((((w_9.setCell ⟨c5, 0, none⟩ (.int .i64 za.kind)).setCell ⟨c5, 1, none⟩ (.int .i64 za.tok.1)).setCell ⟨c5, 2, none⟩ (.string za.tok.2)).setCell ⟨c5, 3, none⟩ (.slice A1 za.kids.length eA)) := ⟨_, rfl⟩
            rw [← hw] at hst hot hB hsz hHeld
            rw [← hw]
            have h5 := hst
            have h6 := (hot c6 (Ne.symm hcc)).trans h6
            have kA : KidsP (fun b => b ≠ c5 ∧ b ≠ c6) w_10 A1 za.kids := kA.kept (Nat.le_of_eq hsz.symm) (fun b hp _ => hot b hp.1) (fun b h _ => h)
            have kB : KidsP (fun b => b ≠ c5 ∧ b ≠ c6) w_10 B1 zb.kids := kB.kept (Nat.le_of_eq hsz.symm) (fun b hp _ => hot b hp.1) (fun b h _ => h)
            have kH : IntsP (fun b => b ≠ c5 ∧ b ≠ c6) w_10 Ar R := kH.kept (Nat.le_of_eq hsz.symm) (fun b hp _ => hot b hp.1) (fun b h _ => h)
            clear hw hst hot hsz
            refine wpAnyH_take (i := 9) (oi := ⟨some 8, _, _, _, _, _⟩) (v := ?_) rfl (by kernel_rfl) (by kernel_rfl) (by kernel_rfl) (fun _ _ _ h => h) (Or.inl ⟨by rfl, ?hy⟩) (by assumption) ?_
            case hy => (intro w hSw; (try dsimp only at hSw); go_simp; (try with_reducible rfl))
            try simp only [Act.put, List.setIfInBounds_toArray, List.set_cons_zero, List.set_cons_succ]
            refine wpAnyH_ready (rs := [10]) (by kernel_rfl) (by simp) ?_
            refine AllReadyH.cons (o := ⟨none, _, _, _, _, _⟩) rfl (fun K hK => ?_) AllReadyH.nil
            have q0 := Lib.cell_of_heap h6 0
            have q1 := Lib.cell_of_heap h6 1
            have q2 := Lib.cell_of_heap h6 2
            have q3 := Lib.cell_of_heap h6 3
            have r0 := frozen_block (j := 0) h6
            have r1 := frozen_block (j := 1) h6
            have r2 := frozen_block (j := 2) h6
            have r3 := frozen_block (j := 3) h6
            have hst := set4 (v0 := .int .i64 zb.kind) (v1 := .int .i64 zb.tok.1) (v2 := .string zb.tok.2) (v3 := .slice B1 zb.kids.length eB) h6
            have hsz : ((((w_10.setCell ⟨c6, 0, none⟩ (.int .i64 zb.kind)).setCell ⟨c6, 1, none⟩ (.int .i64 zb.tok.1)).setCell ⟨c6, 2, none⟩ (.string zb.tok.2)).setCell ⟨c6, 3, none⟩ (.slice B1 zb.kids.length eB)).heap.size = w_10.heap.size := size4
            have hB : Below w0.heap.size w0 ((((w_10.setCell ⟨c6, 0, none⟩ (.int .i64 zb.kind)).setCell ⟨c6, 1, none⟩ (.int .i64 zb.tok.1)).setCell ⟨c6, 2, none⟩ (.string zb.tok.2)).setCell ⟨c6, 3, none⟩ (.slice B1 zb.kids.length eB)) := below4 hB g6
            have hot : ∀ b, b ≠ c6 → ((((w_10.setCell ⟨c6, 0, none⟩ (.int .i64 zb.kind)).setCell ⟨c6, 1, none⟩ (.int .i64 zb.tok.1)).setCell ⟨c6, 2, none⟩ (.string zb.tok.2)).setCell ⟨c6, 3, none⟩ (.slice B1 zb.kids.length eB)).heap[b]? = w_10.heap[b]? := fun b hb => other4 hb
            go_simp
            refine hK.out _ _ ?_ (fun hHeld => ?_)
            · exact keptS hB bx1 bx2
            clear hK K q0 q1 q2 q3 r0 r1 r2 r3
            try simp only [Act.put, List.setIfInBounds_toArray, List.set_cons_zero, List.set_cons_succ]
            obtain ⟨w_11, hw⟩ : ∃ x, x = ((((w_10.setCell ⟨c6, 0, none⟩ (.int .i64 zb.kind)).setCell ⟨c6, 1, none⟩ (.int .i64 zb.tok.1)).setCell ⟨c6, 2, none⟩ (.string zb.tok.2)).setCell ⟨c6, 3, none⟩ (.slice B1 zb.kids.length eB)) := ⟨_, rfl⟩
            rw [← hw] at hst hot hB hsz hHeld
            rw [← hw]
            have h6 := hst
            have h5 := (hot c5 hcc).trans h5
            have kA : KidsP (fun b => b ≠ c5 ∧ b ≠ c6) w_11 A1 za.kids := kA.kept (Nat.le_of_eq hsz.symm) (fun b hp _ => hot b hp.2) (fun b h _ => h)
            have kB : KidsP (fun b => b ≠ c5 ∧ b ≠ c6) w_11 B1 zb.kids := kB.kept (Nat.le_of_eq hsz.symm) (fun b hp _ => hot b hp.2) (fun b h _ => h)
            have kH : IntsP (fun b => b ≠ c5 ∧ b ≠ c6) w_11 Ar R := kH.kept (Nat.le_of_eq hsz.symm) (fun b hp _ => hot b hp.2) (fun b h _ => h)
            clear hw hst hot hsz
            refine wpAnyH_done (by kernel_rfl) ?_ _
            go_wp2_with fail
            go_meet
            exact ⟨c5, c6, A1, eA, B1, eB, Ar, cr, rfl, rfl, rfl, gA, gB, gH, kA, kB, kH, h5, h6, HB0.out.trans (hB.mono HB0.out.size)⟩
        · go_simp
          have hal : Below w_2.heap.size w_2 (w_2.alloc (.cells #[.int .i64 0, .int .i64 0, .string { data := #[] }, .slice none 0 0] 26)) := (Below.refl _ _).alloc (Nat.le_refl _) _
          refine hK.out _ _ ?_ (fun hHeld => ?_)
          · exact keptS (hB.trans (hal.mono hB.size)) bx1 bx2
          clear hK K
          try simp only [Act.put, List.setIfInBounds_toArray, List.set_cons_zero, List.set_cons_succ]
          obtain ⟨c5, hc⟩ : ∃ c, c = w_2.heap.size := ⟨_, rfl⟩
          obtain ⟨w_12, hw⟩ : ∃ x, x = w_2.alloc (.cells #[.int .i64 0, .int .i64 0, .string { data := #[] }, .slice none 0 0] 26) := ⟨_, rfl⟩
          rw [← hw] at hal
          have g5 : w0.heap.size ≤ c5 := by rw [hc]; exact hB.size
          have kA : KidsP (fun b => b ≠ c5) w_12 A1 za.kids := kA.kept hal.size (fun b _ hb => hal.block b hb) (fun b h hb => Nat.ne_of_lt (by rw [hc]; exact hb))
          have kH : IntsP (fun b => b ≠ c5) w_12 Ar R := kH.kept hal.size (fun b _ hb => hal.block b hb) (fun b h hb => Nat.ne_of_lt (by rw [hc]; exact hb))
          have hB : Below w0.heap.size w0 w_12 := hB.trans (hal.mono hB.size)
          have h5 : w_12.heap[c5]? = some (.cells #[.int .i64 0, .int .i64 0, .string { data := #[] }, .slice none 0 0] 26 (0, 0)) := by rw [hw, hc]; exact heap_alloc_new _ _
          rw [← hw] at hHeld
          rw [← hw]
          rw [← hc]
          clear hw hc hal
          refine wpAnyH_ready (rs := [5, 7]) (by kernel_rfl) (by simp) ?_
          refine AllReadyH.cons (o := ⟨some 18, _, _, _, _, _⟩) rfl (fun K hK => ?_) (AllReadyH.cons (o := ⟨some 9, _, _, _, _, _⟩) rfl (fun K hK => ?_) AllReadyH.nil)
          · go_simp
            go_at_call 15
            with_reducible refine (HcutB.out _ hB).mono ?_
            rintro e w_13 ⟨vB, rfl, ⟨B1, eB, rfl, gB, kB⟩, hbC⟩
            have l5 : c5 < w_12.heap.size := (Array.getElem?_eq_some_iff.1 h5).1
            have kB : KidsP (fun b => b ≠ c5) w_13 B1 zb.kids := kB.kept (Nat.le_refl _) (fun _ _ _ => rfl) (fun b hb _ => (fun e => by omega))
            have h5 := keepB h5 hbC
            have kA : KidsP (fun b => b ≠ c5) w_13 A1 za.kids := kA.kept hbC.size (fun b _ hb => hbC.block b hb) (fun b h _ => h)
            have kH : IntsP (fun b => b ≠ c5) w_13 Ar R := kH.kept hbC.size (fun b _ hb => hbC.block b hb) (fun b h _ => h)
            have hB : Below w0.heap.size w0 w_13 := hB.trans (hbC.mono hB.size)
            refine hK.out _ _ ?_ (fun hHeld => ?_)
            · exact keptS hB bx1 bx2
            clear hK K hbC l5
            try simp only [Act.put, List.setIfInBounds_toArray, List.set_cons_zero, List.set_cons_succ]
            refine wpAnyH_ready (rs := [7]) (by kernel_rfl) (by simp) ?_
            refine AllReadyH.cons (o := ⟨some 9, _, _, _, _, _⟩) rfl (fun K hK => ?_) AllReadyH.nil
            go_simp
            have hal : Below w_13.heap.size w_13 (w_13.alloc (.cells #[.int .i64 0, .int .i64 0, .string { data := #[] }, .slice none 0 0] 26)) := (Below.refl _ _).alloc (Nat.le_refl _) _
            refine hK.out _ _ ?_ (fun hHeld => ?_)
            · exact keptS (hB.trans (hal.mono hB.size)) bx1 bx2
            clear hK K
            try simp only [Act.put, List.setIfInBounds_toArray, List.set_cons_zero, List.set_cons_succ]
            obtain ⟨c6, hc⟩ : ∃ c, c = w_13.heap.size := ⟨_, rfl⟩
            obtain ⟨w_14, hw⟩ : ∃ x, x = w_13.alloc (.cells #[.int .i64 0, .int .i64 0, .string { data := #[] }, .slice none 0 0] 26) := ⟨_, rfl⟩
            rw [← hw] at hal
            have g6 : w0.heap.size ≤ c6 := by rw [hc]; exact hB.size
            have hcc : c5 ≠ c6 := by have hlt : c5 < w_13.heap.size := (Array.getElem?_eq_some_iff.1 h5).1; omega
            have kA : KidsP (fun b => b ≠ c5 ∧ b ≠ c6) w_14 A1 za.kids := kA.kept hal.size (fun b _ hb => hal.block b hb) (fun b h hb => ⟨h, Nat.ne_of_lt (by rw [hc]; exact hb)⟩)
            have kB : KidsP (fun b => b ≠ c5 ∧ b ≠ c6) w_14 B1 zb.kids := kB.kept hal.size (fun b _ hb => hal.block b hb) (fun b h hb => ⟨h, Nat.ne_of_lt (by rw [hc]; exact hb)⟩)
            have kH : IntsP (fun b => b ≠ c5 ∧ b ≠ c6) w_14 Ar R := kH.kept hal.size (fun b _ hb => hal.block b hb) (fun b h hb => ⟨h, Nat.ne_of_lt (by rw [hc]; exact hb)⟩)
            have h5 := keepB h5 hal
            have hB : Below w0.heap.size w0 w_14 := hB.trans (hal.mono hB.size)
            have h6 : w_14.heap[c6]? = some (.cells #[.int .i64 0, .int .i64 0, .string { data := #[] }, .slice none 0 0] 26 (0, 0)) := by rw [hw, hc]; exact heap_alloc_new _ _
            rw [← hw] at hHeld
            rw [← hw]
            rw [← hc]
            clear hw hc hal
            refine wpAnyH_ready (rs := [8]) (by kernel_rfl) (by simp) ?_
            refine AllReadyH.cons (o := ⟨none, _, _, _, _, _⟩) rfl (fun K hK => ?_) AllReadyH.nil
            have q0 := Lib.cell_of_heap h5 0
            have q1 := Lib.cell_of_heap h5 1
            have q2 := Lib.cell_of_heap h5 2
            have q3 := Lib.cell_of_heap h5 3
            have r0 := frozen_block (j := 0) h5
            have r1 := frozen_block (j := 1) h5
            have r2 := frozen_block (j := 2) h5
            have r3 := frozen_block (j := 3) h5
            have hst := set4 (v0 := .int .i64 za.kind) (v1 := .int .i64 za.tok.1) (v2 := .string za.tok.2) (v3 := .slice A1 za.kids.length eA) h5
            have hsz : ((((w_14.setCell ⟨c5, 0, none⟩ (.int .i64 za.kind)).setCell ⟨c5, 1, none⟩ (.int .i64 za.tok.1)).setCell ⟨c5, 2, none⟩ (.string za.tok.2)).setCell ⟨c5, 3, none⟩ (.slice A1 za.kids.length eA)).heap.size = w_14.heap.size := size4
            have hB : Below w0.heap.size w0 ((((w_14.setCell ⟨c5, 0, none⟩ (.int .i64 za.kind)).setCell ⟨c5, 1, none⟩ (.int .i64 za.tok.1)).setCell ⟨c5, 2, none⟩ (.string za.tok.2)).setCell ⟨c5, 3, none⟩ (.slice A1 za.kids.length eA)) := below4 hB g5
            have hot : ∀ b, b ≠ c5 → ((((w_14.setCell ⟨c5, 0, none⟩ (.int .i64 za.kind)).setCell ⟨c5, 1, none⟩ (.int .i64 za.tok.1)).setCell ⟨c5, 2, none⟩ (.string za.tok.2)).setCell ⟨c5, 3, none⟩ (.slice A1 za.kids.length eA)).heap[b]? = w_14.heap[b]? := fun b hb => other4 hb
            go_simp
            refine hK.out _ _ ?_ (fun hHeld => ?_)
            · exact keptS hB bx1 bx2
            clear hK K q0 q1 q2 q3 r0 r1 r2 r3
            try simp only [Act.put, List.setIfInBounds_toArray, List.set_cons_zero, List.set_cons_succ]
            obtain ⟨w_15, hw⟩ : ∃ x, x = ((((w_14.setCell ⟨c5, 0, none⟩ (.int .i64 za.kind)).setCell ⟨c5, 1, none⟩ (.int .i64 za.tok.1)).setCell ⟨c5, 2, none⟩ (.string za.tok.2)).setCell ⟨c5, 3, none⟩ (.slice A1 za.kids.length eA)) := ⟨_, rfl⟩
            rw [← hw] at hst hot hB hsz hHeld
            rw [← hw]
            have h5 := hst
            have h6 := (hot c6 (Ne.symm hcc)).trans h6
            have kA : KidsP (fun b => b ≠ c5 ∧ b ≠ c6) w_15 A1 za.kids := kA.kept (Nat.le_of_eq hsz.symm) (fun b hp _ => hot b hp.1) (fun b h _ => h)
            have kB : KidsP (fun b => b ≠ c5 ∧ b ≠ c6) w_15 B1 zb.kids := kB.kept (Nat.le_of_eq hsz.symm) (fun b hp _ => hot b hp.1) (fun b h _ => h)
            have kH : IntsP (fun b => b ≠ c5 ∧ b ≠ c6) w_15 Ar R := kH.kept (Nat.le_of_eq hsz.symm) (fun b hp _ => hot b hp.1) (fun b h _ => h)
            clear hw hst hot hsz
            refine wpAnyH_take (i := 9) (oi := ⟨some 8, _, _, _, _, _⟩) (v := ?_) rfl (by kernel_rfl) (by kernel_rfl) (by kernel_rfl) (fun _ _ _ h => h) (Or.inl ⟨by rfl, ?hy⟩) (by assumption) ?_
            case hy => (intro w hSw; (try dsimp only at hSw); go_simp; (try with_reducible rfl))
            try simp only [Act.put, List.setIfInBounds_toArray, List.set_cons_zero, List.set_cons_succ]
            refine wpAnyH_ready (rs := [10]) (by kernel_rfl) (by simp) ?_
            refine AllReadyH.cons (o := ⟨none, _, _, _, _, _⟩) rfl (fun K hK => ?_) AllReadyH.nil
            have q0 := Lib.cell_of_heap h6 0
            have q1 := Lib.cell_of_heap h6 1
            have q2 := Lib.cell_of_heap h6 2
            have q3 := Lib.cell_of_heap h6 3
            have r0 := frozen_block (j := 0) h6
            have r1 := frozen_block (j := 1) h6
            have r2 := frozen_block (j := 2) h6
            have r3 := frozen_block (j := 3) h6
            have hst := set4 (v0 := .int .i64 zb.kind) (v1 := .int .i64 zb.tok.1) (v2 := .string zb.tok.2) (v3 := .slice B1 zb.kids.length eB) h6
            have hsz : ((((w_15.setCell ⟨c6, 0, none⟩ (.int .i64 zb.kind)).setCell ⟨c6, 1, none⟩ (.int .i64 zb.tok.1)).setCell ⟨c6, 2, none⟩ (.string zb.tok.2)).setCell ⟨c6, 3, none⟩ (.slice B1 zb.kids.length eB)).heap.size = w_15.heap.size := size4
            have hB : Below w0.heap.size w0 ((((w_15.setCell ⟨c6, 0, none⟩ (.int .i64 zb.kind)).setCell ⟨c6, 1, none⟩ (.int .i64 zb.tok.1)).setCell ⟨c6, 2, none⟩ (.string zb.tok.2)).setCell ⟨c6, 3, none⟩ (.slice B1 zb.kids.length eB)) := below4 hB g6
            have hot : ∀ b, b ≠ c6 → ((((w_15.setCell ⟨c6, 0, none⟩ (.int .i64 zb.kind)).setCell ⟨c6, 1, none⟩ (.int .i64 zb.tok.1)).setCell ⟨c6, 2, none⟩ (.string zb.tok.2)).setCell ⟨c6, 3, none⟩ (.slice B1 zb.kids.length eB)).heap[b]? = w_15.heap[b]? := fun b hb => other4 hb
            go_simp
            refine hK.out _ _ ?_ (fun hHeld => ?_)
            · exact keptS hB bx1 bx2
            clear hK K q0 q1 q2 q3 r0 r1 r2 r3
            try simp only [Act.put, List.setIfInBounds_toArray, List.set_cons_zero, List.set_cons_succ]
            obtain ⟨w_16, hw⟩ : ∃ x, x = ((((w_15.setCell ⟨c6, 0, none⟩ (.int .i64 zb.kind)).setCell ⟨c6, 1, none⟩ (.int .i64 zb.tok.1)).setCell ⟨c6, 2, none⟩ (.string zb.tok.2)).setCell ⟨c6, 3, none⟩ (.slice B1 zb.kids.length eB)) := ⟨_, rfl⟩
            rw [← hw] at hst hot hB hsz hHeld
            rw [← hw]
            have h6 := hst
            have h5 := (hot c5 hcc).trans h5
            have kA : KidsP (fun b => b ≠ c5 ∧ b ≠ c6) w_16 A1 za.kids := kA.kept (Nat.le_of_eq hsz.symm) (fun b hp _ => hot b hp.2) (fun b h _ => h)
            have kB : KidsP (fun b => b ≠ c5 ∧ b ≠ c6) w_16 B1 zb.kids := kB.kept (Nat.le_of_eq hsz.symm) (fun b hp _ => hot b hp.2) (fun b h _ => h)
            have kH : IntsP (fun b => b ≠ c5 ∧ b ≠ c6) w_16 Ar R := kH.kept (Nat.le_of_eq hsz.symm) (fun b hp _ => hot b hp.2) (fun b h _ => h)
            clear hw hst hot hsz
            refine wpAnyH_done (by kernel_rfl) ?_ _
            go_wp2_with fail
            go_meet
            exact ⟨c5, c6, A1, eA, B1, eB, Ar, cr, rfl, rfl, rfl, gA, gB, gH, kA, kB, kH, h5, h6, HB0.out.trans (hB.mono HB0.out.size)⟩
          · go_simp
            have hal : Below w_12.heap.size w_12 (w_12.alloc (.cells #[.int .i64 0, .int .i64 0, .string { data := #[] }, .slice none 0 0] 26)) := (Below.refl _ _).alloc (Nat.le_refl _) _
            refine hK.out _ _ ?_ (fun hHeld => ?_)
            · exact keptS (hB.trans (hal.mono hB.size)) bx1 bx2
            clear hK K
            try simp only [Act.put, List.setIfInBounds_toArray, List.set_cons_zero, List.set_cons_succ]
            obtain ⟨c6, hc⟩ : ∃ c, c = w_12.heap.size := ⟨_, rfl⟩
            obtain ⟨w_17, hw⟩ : ∃ x, x = w_12.alloc (.cells #[.int .i64 0, .int .i64 0, .string { data := #[] }, .slice none 0 0] 26) := ⟨_, rfl⟩
            rw [← hw] at hal
            have g6 : w0.heap.size ≤ c6 := by rw [hc]; exact hB.size
            have hcc : c5 ≠ c6 := by have hlt : c5 < w_12.heap.size := (Array.getElem?_eq_some_iff.1 h5).1; omega
            have kA : KidsP (fun b => b ≠ c5 ∧ b ≠ c6) w_17 A1 za.kids := kA.kept hal.size (fun b _ hb => hal.block b hb) (fun b h hb => ⟨h, Nat.ne_of_lt (by rw [hc]; exact hb)⟩)
            have kH : IntsP (fun b => b ≠ c5 ∧ b ≠ c6) w_17 Ar R := kH.kept hal.size (fun b _ hb => hal.block b hb) (fun b h hb => ⟨h, Nat.ne_of_lt (by rw [hc]; exact hb)⟩)
            have h5 := keepB h5 hal
            have hB : Below w0.heap.size w0 w_17 := hB.trans (hal.mono hB.size)
            have h6 : w_17.heap[c6]? = some (.cells #[.int .i64 0, .int .i64 0, .string { data := #[] }, .slice none 0 0] 26 (0, 0)) := by rw [hw, hc]; exact heap_alloc_new _ _
            rw [← hw] at hHeld
            rw [← hw]
            rw [← hc]
            clear hw hc hal
            refine wpAnyH_ready (rs := [5]) (by kernel_rfl) (by simp) ?_
            refine AllReadyH.cons (o := ⟨some 18, _, _, _, _, _⟩) rfl (fun K hK => ?_) AllReadyH.nil
            go_simp
            go_at_call 15
            with_reducible refine (HcutB.out _ hB).mono ?_
            rintro e w_18 ⟨vB, rfl, ⟨B1, eB, rfl, gB, kB⟩, hbC⟩
            have l5 : c5 < w_17.heap.size := (Array.getElem?_eq_some_iff.1 h5).1
            have l6 : c6 < w_17.heap.size := (Array.getElem?_eq_some_iff.1 h6).1
            have kB : KidsP (fun b => b ≠ c5 ∧ b ≠ c6) w_18 B1 zb.kids := kB.kept (Nat.le_refl _) (fun _ _ _ => rfl) (fun b hb _ => ⟨fun e => by omega, fun e => by omega⟩)
            have h5 := keepB h5 hbC
            have h6 := keepB h6 hbC
            have kA : KidsP (fun b => b ≠ c5 ∧ b ≠ c6) w_18 A1 za.kids := kA.kept hbC.size (fun b _ hb => hbC.block b hb) (fun b h _ => h)
            have kH : IntsP (fun b => b ≠ c5 ∧ b ≠ c6) w_18 Ar R := kH.kept hbC.size (fun b _ hb => hbC.block b hb) (fun b h _ => h)
            have hB : Below w0.heap.size w0 w_18 := hB.trans (hbC.mono hB.size)
            refine hK.out _ _ ?_ (fun hHeld => ?_)
            · exact keptS hB bx1 bx2
            clear hK K hbC l5 l6
            try simp only [Act.put, List.setIfInBounds_toArray, List.set_cons_zero, List.set_cons_succ]
            refine wpAnyH_ready (rs := [8]) (by kernel_rfl) (by simp) ?_
            refine AllReadyH.cons (o := ⟨none, _, _, _, _, _⟩) rfl (fun K hK => ?_) AllReadyH.nil
            have q0 := Lib.cell_of_heap h5 0
            have q1 := Lib.cell_of_heap h5 1
            have q2 := Lib.cell_of_heap h5 2
            have q3 := Lib.cell_of_heap h5 3
            have r0 := frozen_block (j := 0) h5
            have r1 := frozen_block (j := 1) h5
            have r2 := frozen_block (j := 2) h5
            have r3 := frozen_block (j := 3) h5
            have hst := set4 (v0 := .int .i64 za.kind) (v1 := .int .i64 za.tok.1) (v2 := .string za.tok.2) (v3 := .slice A1 za.kids.length eA) h5
            have hsz : ((((w_18.setCell ⟨c5, 0, none⟩ (.int .i64 za.kind)).setCell ⟨c5, 1, none⟩ (.int .i64 za.tok.1)).setCell ⟨c5, 2, none⟩ (.string za.tok.2)).setCell ⟨c5, 3, none⟩ (.slice A1 za.kids.length eA)).heap.size = w_18.heap.size := size4
            have hB : Below w0.heap.size w0 ((((w_18.setCell ⟨c5, 0, none⟩ (.int .i64 za.kind)).setCell ⟨c5, 1, none⟩ (.int .i64 za.tok.1)).setCell ⟨c5, 2, none⟩ (.string za.tok.2)).setCell ⟨c5, 3, none⟩ (.slice A1 za.kids.length eA)) := below4 hB g5
            have hot : ∀ b, b ≠ c5 → ((((w_18.setCell ⟨c5, 0, none⟩ (.int .i64 za.kind)).setCell ⟨c5, 1, none⟩ (.int .i64 za.tok.1)).setCell ⟨c5, 2, none⟩ (.string za.tok.2)).setCell ⟨c5, 3, none⟩ (.slice A1 za.kids.length eA)).heap[b]? = w_18.heap[b]? := fun b hb => other4 hb
            go_simp
            refine hK.out _ _ ?_ (fun hHeld => ?_)
            · exact keptS hB bx1 bx2
            clear hK K q0 q1 q2 q3 r0 r1 r2 r3
            try simp only [Act.put, List.setIfInBounds_toArray, List.set_cons_zero, List.set_cons_succ]
            obtain ⟨w_19, hw⟩ : ∃ x, x = ((((w_18.setCell ⟨c5, 0, none⟩ (.int .i64 za.kind)).setCell ⟨c5, 1, none⟩ (.int .i64 za.tok.1)).setCell ⟨c5, 2, none⟩ (.string za.tok.2)).setCell ⟨c5, 3, none⟩ (.slice A1 za.kids.length eA)) := ⟨_, rfl⟩
            rw [← hw] at hst hot hB hsz hHeld
            rw [← hw]
            have h5 := hst
            have h6 := (hot c6 (Ne.symm hcc)).trans h6
            have kA : KidsP (fun b => b ≠ c5 ∧ b ≠ c6) w_19 A1 za.kids := kA.kept (Nat.le_of_eq hsz.symm) (fun b hp _ => hot b hp.1) (fun b h _ => h)
            have kB : KidsP (fun b => b ≠ c5 ∧ b ≠ c6) w_19 B1 zb.kids := kB.kept (Nat.le_of_eq hsz.symm) (fun b hp _ => hot b hp.1) (fun b h _ => h)
            have kH : IntsP (fun b => b ≠ c5 ∧ b ≠ c6) w_19 Ar R := kH.kept (Nat.le_of_eq hsz.symm) (fun b hp _ => hot b hp.1) (fun b h _ => h)
            clear hw hst hot hsz
            refine wpAnyH_take (i := 9) (oi := ⟨some 8, _, _, _, _, _⟩) (v := ?_) rfl (by kernel_rfl) (by kernel_rfl) (by kernel_rfl) (fun _ _ _ h => h) (Or.inl ⟨by rfl, ?hy⟩) (by assumption) ?_
            case hy => (intro w hSw; (try dsimp only at hSw); go_simp; (try with_reducible rfl))
            try simp only [Act.put, List.setIfInBounds_toArray, List.set_cons_zero, List.set_cons_succ]
            refine wpAnyH_ready (rs := [10]) (by kernel_rfl) (by simp) ?_
            refine AllReadyH.cons (o := ⟨none, _, _, _, _, _⟩) rfl (fun K hK => ?_) AllReadyH.nil
            have q0 := Lib.cell_of_heap h6 0
            have q1 := Lib.cell_of_heap h6 1
            have q2 := Lib.cell_of_heap h6 2
            have q3 := Lib.cell_of_heap h6 3
            have r0 := frozen_block (j := 0) h6
            have r1 := frozen_block (j := 1) h6
            have r2 := frozen_block (j := 2) h6
            have r3 := frozen_block (j := 3) h6
            have hst := set4 (v0 := .int .i64 zb.kind) (v1 := .int .i64 zb.tok.1) (v2 := .string zb.tok.2) (v3 := .slice B1 zb.kids.length eB) h6
            have hsz : ((((w_19.setCell ⟨c6, 0, none⟩ (.int .i64 zb.kind)).setCell ⟨c6, 1, none⟩ (.int .i64 zb.tok.1)).setCell ⟨c6, 2, none⟩ (.string zb.tok.2)).setCell ⟨c6, 3, none⟩ (.slice B1 zb.kids.length eB)).heap.size = w_19.heap.size := size4
            have hB : Below w0.heap.size w0 ((((w_19.setCell ⟨c6, 0, none⟩ (.int .i64 zb.kind)).setCell ⟨c6, 1, none⟩ (.int .i64 zb.tok.1)).setCell ⟨c6, 2, none⟩ (.string zb.tok.2)).setCell ⟨c6, 3, none⟩ (.slice B1 zb.kids.length eB)) := below4 hB g6
            have hot : ∀ b, b ≠ c6 → ((((w_19.setCell ⟨c6, 0, none⟩ (.int .i64 zb.kind)).setCell ⟨c6, 1, none⟩ (.int .i64 zb.tok.1)).setCell ⟨c6, 2, none⟩ (.string zb.tok.2)).setCell ⟨c6, 3, none⟩ (.slice B1 zb.kids.length eB)).heap[b]? = w_19.heap[b]? := fun b hb => other4 hb
            go_simp
            refine hK.out _ _ ?_ (fun hHeld => ?_)
            · exact keptS hB bx1 bx2
            clear hK K q0 q1 q2 q3 r0 r1 r2 r3
            try simp only [Act.put, List.setIfInBounds_toArray, List.set_cons_zero, List.set_cons_succ]
            obtain ⟨w_20, hw⟩ : ∃ x, x = ((((w_19.setCell ⟨c6, 0, none⟩ (.int .i64 zb.kind)).setCell ⟨c6, 1, none⟩ (.int .i64 zb.tok.1)).setCell ⟨c6, 2, none⟩ (.string zb.tok.2)).setCell ⟨c6, 3, none⟩ (.slice B1 zb.kids.length eB)) := ⟨_, rfl⟩
            rw [← hw] at hst hot hB hsz hHeld
            rw [← hw]
            have h6 := hst
            have h5 := (hot c5 hcc).trans h5
            have kA : KidsP (fun b => b ≠ c5 ∧ b ≠ c6) w_20 A1 za.kids := kA.kept (Nat.le_of_eq hsz.symm) (fun b hp _ => hot b hp.2) (fun b h _ => h)
            have kB : KidsP (fun b => b ≠ c5 ∧ b ≠ c6) w_20 B1 zb.kids := kB.kept (Nat.le_of_eq hsz.symm) (fun b hp _ => hot b hp.2) (fun b h _ => h)
            have kH : IntsP (fun b => b ≠ c5 ∧ b ≠ c6) w_20 Ar R := kH.kept (Nat.le_of_eq hsz.symm) (fun b hp _ => hot b hp.2) (fun b h _ => h)
            clear hw hst hot hsz
            refine wpAnyH_done (by kernel_rfl) ?_ _
            go_wp2_with fail
            go_meet
            exact ⟨c5, c6, A1, eA, B1, eB, Ar, cr, rfl, rfl, rfl, gA, gB, gH, kA, kB, kH, h5, h6, HB0.out.trans (hB.mono HB0.out.size)⟩
        · go_simp
          have hal : Below w_2.heap.size w_2 (w_2.alloc (.cells #[.int .i64 0, .int .i64 0, .string { data := #[] }, .slice none 0 0] 26)) := (Below.refl _ _).alloc (Nat.le_refl _) _
          refine hK.out _ _ ?_ (fun hHeld => ?_)
          · exact keptS (hB.trans (hal.mono hB.size)) bx1 bx2
          clear hK K
          try simp only [Act.put, List.setIfInBounds_toArray, List.set_cons_zero, List.set_cons_succ]
          obtain ⟨c6, hc⟩ : ∃ c, c = w_2.heap.size := ⟨_, rfl⟩
          obtain ⟨w_21, hw⟩ : ∃ x, x = w_2.alloc (.cells #[.int .i64 0, .int .i64 0, .string { data := #[] }, .slice none 0 0] 26) := ⟨_, rfl⟩
          rw [← hw] at hal
          have g6 : w0.heap.size ≤ c6 := by rw [hc]; exact hB.size
          have kA : KidsP (fun b => b ≠ c6) w_21 A1 za.kids := kA.kept hal.size (fun b _ hb => hal.block b hb) (fun b h hb => Nat.ne_of_lt (by rw [hc]; exact hb))
          have kH : IntsP (fun b => b ≠ c6) w_21 Ar R := kH.kept hal.size (fun b _ hb => hal.block b hb) (fun b h hb => Nat.ne_of_lt (by rw [hc]; exact hb))
          have hB : Below w0.heap.size w0 w_21 := hB.trans (hal.mono hB.size)
          have h6 : w_21.heap[c6]? = some (.cells #[.int .i64 0, .int .i64 0, .string { data := #[] }, .slice none 0 0] 26 (0, 0)) := by rw [hw, hc]; exact heap_alloc_new _ _
          rw [← hw] at hHeld
          rw [← hw]
          rw [← hc]
          clear hw hc hal
          refine wpAnyH_ready (rs := [5, 6]) (by kernel_rfl) (by simp) ?_
          refine AllReadyH.cons (o := ⟨some 18, _, _, _, _, _⟩) rfl (fun K hK => ?_) (AllReadyH.cons (o := ⟨some 7, _, _, _, _, _⟩) rfl (fun K hK => ?_) AllReadyH.nil)
          · go_simp
            go_at_call 15
            with_reducible refine (HcutB.out _ hB).mono ?_
            rintro e w_22 ⟨vB, rfl, ⟨B1, eB, rfl, gB, kB⟩, hbC⟩
            have l6 : c6 < w_21.heap.size := (Array.getElem?_eq_some_iff.1 h6).1
            have kB : KidsP (fun b => b ≠ c6) w_22 B1 zb.kids := kB.kept (Nat.le_refl _) (fun _ _ _ => rfl) (fun b hb _ => (fun e => by omega))
            have h6 := keepB h6 hbC
            have kA : KidsP (fun b => b ≠ c6) w_22 A1 za.kids := kA.kept hbC.size (fun b _ hb => hbC.block b hb) (fun b h _ => h)
            have kH : IntsP (fun b => b ≠ c6) w_22 Ar R := kH.kept hbC.size (fun b _ hb => hbC.block b hb) (fun b h _ => h)
            have hB : Below w0.heap.size w0 w_22 := hB.trans (hbC.mono hB.size)
            refine hK.out _ _ ?_ (fun hHeld => ?_)
            · exact keptS hB bx1 bx2
            clear hK K hbC l6
            try simp only [Act.put, List.setIfInBounds_toArray, List.set_cons_zero, List.set_cons_succ]
            refine wpAnyH_ready (rs := [6]) (by kernel_rfl) (by simp) ?_
            refine AllReadyH.cons (o := ⟨some 7, _, _, _, _, _⟩) rfl (fun K hK => ?_) AllReadyH.nil
            go_simp
            have hal : Below w_22.heap.size w_22 (w_22.alloc (.cells #[.int .i64 0, .int .i64 0, .string { data := #[] }, .slice none 0 0] 26)) := (Below.refl _ _).alloc (Nat.le_refl _) _
            refine hK.out _ _ ?_ (fun hHeld => ?_)
            · exact keptS (hB.trans (hal.mono hB.size)) bx1 bx2
            clear hK K
            try simp only [Act.put, List.setIfInBounds_toArray, List.set_cons_zero, List.set_cons_succ]
            obtain ⟨c5, hc⟩ : ∃ c, c = w_22.heap.size := ⟨_, rfl⟩
            obtain ⟨w_23, hw⟩ : ∃ x, x = w_22.alloc (.cells #[.int .i64 0, .int .i64 0, .string { data := #[] }, .slice none 0 0] 26) := ⟨_, rfl⟩
            rw [← hw] at hal
            have g5 : w0.heap.size ≤ c5 := by rw [hc]; exact hB.size
            have hcc : c5 ≠ c6 := by have hlt : c6 < w_22.heap.size := (Array.getElem?_eq_some_iff.1 h6).1; omega
            have kA : KidsP (fun b => b ≠ c5 ∧ b ≠ c6) w_23 A1 za.kids := kA.kept hal.size (fun b _ hb => hal.block b hb) (fun b h hb => ⟨Nat.ne_of_lt (by rw [hc]; exact hb), h⟩)
            have kB : KidsP (fun b => b ≠ c5 ∧ b ≠ c6) w_23 B1 zb.kids := kB.kept hal.size (fun b _ hb => hal.block b hb) (fun b h hb => ⟨Nat.ne_of_lt (by rw [hc]; exact hb), h⟩)
            have kH : IntsP (fun b => b ≠ c5 ∧ b ≠ c6) w_23 Ar R := kH.kept hal.size (fun b _ hb => hal.block b hb) (fun b h hb => ⟨Nat.ne_of_lt (by rw [hc]; exact hb), h⟩)
            have h6 := keepB h6 hal
            have hB : Below w0.heap.size w0 w_23 := hB.trans (hal.mono hB.size)
            have h5 : w_23.heap[c5]? = some (.cells #[.int .i64 0, .int .i64 0, .string { data := #[] }, .slice none 0 0] 26 (0, 0)) := by rw [hw, hc]; exact heap_alloc_new _ _
            rw [← hw] at hHeld
            rw [← hw]
            rw [← hc]
            clear hw hc hal
            refine wpAnyH_ready (rs := [8]) (by kernel_rfl) (by simp) ?_
            refine AllReadyH.cons (o := ⟨none, _, _, _, _, _⟩) rfl (fun K hK => ?_) AllReadyH.nil
            have q0 := Lib.cell_of_heap h5 0
            have q1 := Lib.cell_of_heap h5 1
            have q2 := Lib.cell_of_heap h5 2
            have q3 := Lib.cell_of_heap h5 3
            have r0 := frozen_block (j := 0) h5
            have r1 := frozen_block (j := 1) h5
            have r2 := frozen_block (j := 2) h5
            have r3 := frozen_block (j := 3) h5
            have hst := set4 (v0 := .int .i64 za.kind) (v1 := .int .i64 za.tok.1) (v2 := .string za.tok.2) (v3 := .slice A1 za.kids.length eA) h5
            have hsz : ((((w_23.setCell ⟨c5, 0, none⟩ (.int .i64 za.kind)).setCell ⟨c5, 1, none⟩ (.int .i64 za.tok.1)).setCell ⟨c5, 2, none⟩ (.string za.tok.2)).setCell ⟨c5, 3, none⟩ (.slice A1 za.kids.length eA)).heap.size = w_23.heap.size := size4
            have hB : Below w0.heap.size w0 ((((w_23.setCell ⟨c5, 0, none⟩ (.int .i64 za.kind)).setCell ⟨c5, 1, none⟩ (.int .i64 za.tok.1)).setCell ⟨c5, 2, none⟩ (.string za.tok.2)).setCell ⟨c5, 3, none⟩ (.slice A1 za.kids.length eA)) := below4 hB g5
            have hot : ∀ b, b ≠ c5 → ((((w_23.setCell ⟨c5, 0, none⟩ (.int .i64 za.kind)).setCell ⟨c5, 1, none⟩ (.int .i64 za.tok.1)).setCell ⟨c5, 2, none⟩ (.string za.tok.2)).setCell ⟨c5, 3, none⟩ (.slice A1 za.kids.length eA)).heap[b]? = w_23.heap[b]? := fun b hb => other4 hb
            go_simp
            refine hK.out _ _ ?_ (fun hHeld => ?_)
            · exact keptS hB bx1 bx2
            clear hK K q0 q1 q2 q3 r0 r1 r2 r3
            try simp only [Act.put, List.setIfInBounds_toArray, List.set_cons_zero, List.set_cons_succ]
            obtain ⟨w_24, hw⟩ : ∃ x, x = ((((w_23.setCell ⟨c5, 0, none⟩ (.int .i64 za.kind)).setCell ⟨c5, 1, none⟩ (.int .i64 za.tok.1)).setCell ⟨c5, 2, none⟩ (.string za.tok.2)).setCell ⟨c5, 3, none⟩ (.slice A1 za.kids.length eA)) := ⟨_, rfl⟩
            rw [← hw] at hst hot hB hsz hHeld
            rw [← hw]
            have h5 := hst
            have h6 := (hot c6 (Ne.symm hcc)).trans h6
            have kA : KidsP (fun b => b ≠ c5 ∧ b ≠ c6) w_24 A1 za.kids := kA.kept (Nat.le_of_eq hsz.symm) (fun b hp _ => hot b hp.1) (fun b h _ => h)
            have kB : KidsP (fun b => b ≠ c5 ∧ b ≠ c6) w_24 B1 zb.kids := kB.kept (Nat.le_of_eq hsz.symm) (fun b hp _ => hot b hp.1) (fun b h _ => h)
            have kH : IntsP (fun b => b ≠ c5 ∧ b ≠ c6) w_24 Ar R := kH.kept (Nat.le_of_eq hsz.symm) (fun b hp _ => hot b hp.1) (fun b h _ => h)
            clear hw hst hot hsz
            refine wpAnyH_take (i := 9) (oi := ⟨some 8, _, _, _, _, _⟩) (v := ?_) rfl (by kernel_rfl) (by kernel_rfl) (by kernel_rfl) (fun _ _ _ h => h) (Or.inl ⟨by rfl, ?hy⟩) (by assumption) ?_
            case hy => (intro w hSw; (try dsimp only at hSw); go_simp; (try with_reducible rfl))
            try simp only [Act.put, List.setIfInBounds_toArray, List.set_cons_zero, List.set_cons_succ]
            refine wpAnyH_ready (rs := [10]) (by kernel_rfl) (by simp) ?_
            refine AllReadyH.cons (o := ⟨none, _, _, _, _, _⟩) rfl (fun K hK => ?_) AllReadyH.nil
            have q0 := Lib.cell_of_heap h6 0
            have q1 := Lib.cell_of_heap h6 1
            have q2 := Lib.cell_of_heap h6 2
            have q3 := Lib.cell_of_heap h6 3
            have r0 := frozen_block (j := 0) h6
            have r1 := frozen_block (j := 1) h6
            have r2 := frozen_block (j := 2) h6
            have r3 := frozen_block (j := 3) h6
            have hst := set4 (v0 := .int .i64 zb.kind) (v1 := .int .i64 zb.tok.1) (v2 := .string zb.tok.2) (v3 := .slice B1 zb.kids.length eB) h6
            have hsz : ((((w_24.setCell ⟨c6, 0, none⟩ (.int .i64 zb.kind)).setCell ⟨c6, 1, none⟩ (.int .i64 zb.tok.1)).setCell ⟨c6, 2, none⟩ (.string zb.tok.2)).setCell ⟨c6, 3, none⟩ (.slice B1 zb.kids.length eB)).heap.size = w_24.heap.size := size4
            have hB : Below w0.heap.size w0 ((((w_24.setCell ⟨c6, 0, none⟩ (.int .i64 zb.kind)).setCell ⟨c6, 1, none⟩ (.int .i64 zb.tok.1)).setCell ⟨c6, 2, none⟩ (.string zb.tok.2)).setCell ⟨c6, 3, none⟩ (.slice B1 zb.kids.length eB)) := below4 hB g6
            have hot : ∀ b, b ≠ c6 → ((((w_24.setCell ⟨c6, 0, none⟩ (.int .i64 zb.kind)).setCell ⟨c6, 1, none⟩ (.int .i64 zb.tok.1)).setCell ⟨c6, 2, none⟩ (.string zb.tok.2)).setCell ⟨c6, 3, none⟩ (.slice B1 zb.kids.length eB)).heap[b]? = w_24.heap[b]? := fun b hb => other4 hb
            go_simp
            refine hK.out _ _ ?_ (fun hHeld => ?_)
            · exact keptS hB bx1 bx2
            clear hK K q0 q1 q2 q3 r0 r1 r2 r3
            try simp only [Act.put, List.setIfInBounds_toArray, List.set_cons_zero, List.set_cons_succ]
            obtain ⟨w_25, hw⟩ : ∃ x, x = ((((w_24.setCell ⟨c6, 0, none⟩ (.int .i64 zb.kind)).setCell ⟨c6, 1, none⟩ (.int .i64 zb.tok.1)).setCell ⟨c6, 2, none⟩ (.string zb.tok.2)).setCell ⟨c6, 3, none⟩ (.slice B1 zb.kids.length eB)) := ⟨_, rfl⟩
            rw [← hw] at hst hot hB hsz hHeld
            rw [← hw]
            have h6 := hst
            have h5 := (hot c5 hcc).trans h5
            have kA : KidsP (fun b => b ≠ c5 ∧ b ≠ c6) w_25 A1 za.kids := kA.kept (Nat.le_of_eq hsz.symm) (fun b hp _ => hot b hp.2) (fun b h _ => h)
            have kB : KidsP (fun b => b ≠ c5 ∧ b ≠ c6) w_25 B1 zb.kids := kB.kept (Nat.le_of_eq hsz.symm) (fun b hp _ => hot b hp.2) (fun b h _ => h)
            have kH : IntsP (fun b => b ≠ c5 ∧ b ≠ c6) w_25 Ar R := kH.kept (Nat.le_of_eq hsz.symm) (fun b hp _ => hot b hp.2) (fun b h _ => h)
            clear hw hst hot hsz
            refine wpAnyH_done (by kernel_rfl) ?_ _
            go_wp2_with fail
            go_meet
            exact ⟨c5, c6, A1, eA, B1, eB, Ar, cr, rfl, rfl, rfl, gA, gB, gH, kA, kB, kH, h5, h6, HB0.out.trans (hB.mono HB0.out.size)⟩
          · go_simp
            have hal : Below w_21.heap.size w_21 (w_21.alloc (.cells #[.int .i64 0, .int .i64 0, .string { data := #[] }, .slice none 0 0] 26)) := (Below.refl _ _).alloc (Nat.le_refl _) _
            refine hK.out _ _ ?_ (fun hHeld => ?_)
            · exact keptS (hB.trans (hal.mono hB.size)) bx1 bx2
            clear hK K
            try simp only [Act.put, List.setIfInBounds_toArray, List.set_cons_zero, List.set_cons_succ]
            obtain ⟨c5, hc⟩ : ∃ c, c = w_21.heap.size := ⟨_, rfl⟩
            obtain ⟨w_26, hw⟩ : ∃ x, x = w_21.alloc (.cells #[.int .i64 0, .int .i64 0, .string { data := #[] }, .slice none 0 0] 26) := ⟨_, rfl⟩
            rw [← hw] at hal
            have g5 : w0.heap.size ≤ c5 := by rw [hc]; exact hB.size
            have hcc : c5 ≠ c6 := by have hlt : c6 < w_21.heap.size := (Array.getElem?_eq_some_iff.1 h6).1; omega
            have kA : KidsP (fun b => b ≠ c5 ∧ b ≠ c6) w_26 A1 za.kids := kA.kept hal.size (fun b _ hb => hal.block b hb) (fun b h hb => ⟨Nat.ne_of_lt (by rw [hc]; exact hb), h⟩)
            have kH : IntsP (fun b => b ≠ c5 ∧ b ≠ c6) w_26 Ar R := kH.kept hal.size (fun b _ hb => hal.block b hb) (fun b h hb => ⟨Nat.ne_of_lt (by rw [hc]; exact hb), h⟩)
            have h6 := keepB h6 hal
            have hB : Below w0.heap.size w0 w_26 := hB.trans (hal.mono hB.size)
            have h5 : w_26.heap[c5]? = some (.cells #[.int .i64 0, .int .i64 0, .string { data := #[] }, .slice none 0 0] 26 (0, 0)) := by rw [hw, hc]; exact heap_alloc_new _ _
            rw [← hw] at hHeld
            rw [← hw]
            rw [← hc]
            clear hw hc hal
            refine wpAnyH_ready (rs := [5]) (by kernel_rfl) (by simp) ?_
            refine AllReadyH.cons (o := ⟨some 18, _, _, _, _, _⟩) rfl (fun K hK => ?_) AllReadyH.nil
            go_simp
            go_at_call 15
            with_reducible refine (HcutB.out _ hB).mono ?_
            rintro e w_27 ⟨vB, rfl, ⟨B1, eB, rfl, gB, kB⟩, hbC⟩
            have l5 : c5 < w_26.heap.size := (Array.getElem?_eq_some_iff.1 h5).1
            have l6 : c6 < w_26.heap.size := (Array.getElem?_eq_some_iff.1 h6).1
            have kB : KidsP (fun b => b ≠ c5 ∧ b ≠ c6) w_27 B1 zb.kids := kB.kept (Nat.le_refl _) (fun _ _ _ => rfl) (fun b hb _ => ⟨fun e => by omega, fun e => by omega⟩)
            have h5 := keepB h5 hbC
            have h6 := keepB h6 hbC
            have kA : KidsP (fun b => b ≠ c5 ∧ b ≠ c6) w_27 A1 za.kids := kA.kept hbC.size (fun b _ hb => hbC.block b hb) (fun b h _ => h)
            have kH : IntsP (fun b => b ≠ c5 ∧ b ≠ c6) w_27 Ar R := kH.kept hbC.size (fun b _ hb => hbC.block b hb) (fun b h _ => h)
            have hB : Below w0.heap.size w0 w_27 := hB.trans (hbC.mono hB.size)
            refine hK.out _ _ ?_ (fun hHeld => ?_)
            · exact keptS hB bx1 bx2
            clear hK K hbC l5 l6
            try simp only [Act.put, List.setIfInBounds_toArray, List.set_cons_zero, List.set_cons_succ]
            refine wpAnyH_ready (rs := [8]) (by kernel_rfl) (by simp) ?_
            refine AllReadyH.cons (o := ⟨none, _, _, _, _, _⟩) rfl (fun K hK => ?_) AllReadyH.nil
            have q0 := Lib.cell_of_heap h5 0
            have q1 := Lib.cell_of_heap h5 1
            have q2 := Lib.cell_of_heap h5 2
            have q3 := Lib.cell_of_heap h5 3
            have r0 := frozen_block (j := 0) h5
            have r1 := frozen_block (j := 1) h5
            have r2 := frozen_block (j := 2) h5
            have r3 := frozen_block (j := 3) h5
            have hst := set4 (v0 := .int .i64 za.kind) (v1 := .int .i64 za.tok.1) (v2 := .string za.tok.2) (v3 := .slice A1 za.kids.length eA) h5
            have hsz : ((((w_27.setCell ⟨c5, 0, none⟩ (.int .i64 za.kind)).setCell ⟨c5, 1, none⟩ (.int .i64 za.tok.1)).setCell ⟨c5, 2, none⟩ (.string za.tok.2)).setCell ⟨c5, 3, none⟩ (.slice A1 za.kids.length eA)).heap.size = w_27.heap.size := size4
            have hB : Below w0.heap.size w0 ((((w_27.setCell ⟨c5, 0, none⟩ (.int .i64 za.kind)).setCell ⟨c5, 1, none⟩ (.int .i64 za.tok.1)).setCell ⟨c5, 2, none⟩ (.string za.tok.2)).setCell ⟨c5, 3, none⟩ (.slice A1 za.kids.length eA)) := below4 hB g5
            have hot : ∀ b, b ≠ c5 → ((((w_27.setCell ⟨c5, 0, none⟩ (.int .i64 za.kind)).setCell ⟨c5, 1, none⟩ (.int .i64 za.tok.1)).setCell ⟨c5, 2, none⟩ (.string za.tok.2)).setCell ⟨c5, 3, none⟩ (.slice A1 za.kids.length eA)).heap[b]? = w_27.heap[b]? := fun b hb => other4 hb
            go_simp
            refine hK.out _ _ ?_ (fun hHeld => ?_)
            · exact keptS hB bx1 bx2
            clear hK K q0 q1 q2 q3 r0 r1 r2 r3
            try simp only [Act.put, List.setIfInBounds_toArray, List.set_cons_zero, List.set_cons_succ]
            obtain ⟨w_28, hw⟩ : ∃ x, x = ((((w_27.setCell ⟨c5, 0, none⟩ (.int .i64 za.kind)).setCell ⟨c5, 1, none⟩ (.int .i64 za.tok.1)).setCell ⟨c5, 2, none⟩ (.string za.tok.2)).setCell ⟨c5, 3, none⟩ (.slice A1 za.kids.length eA)) := ⟨_, rfl⟩
            rw [← hw] at hst hot hB hsz hHeld
            rw [← hw]
            have h5 := hst
            have h6 := (hot c6 (Ne.symm hcc)).trans h6
            have kA : KidsP (fun b => b ≠ c5 ∧ b ≠ c6) w_28 A1 za.kids := kA.kept (Nat.le_of_eq hsz.symm) (fun b hp _ => hot b hp.1) (fun b h _ => h)
            have kB : KidsP (fun b => b ≠ c5 ∧ b ≠ c6) w_28 B1 zb.kids := kB.kept (Nat.le_of_eq hsz.symm) (fun b hp _ => hot b hp.1) (fun b h _ => h)
            have kH : IntsP (fun b => b ≠ c5 ∧ b ≠ c6) w_28 Ar R := kH.kept (Nat.le_of_eq hsz.symm) (fun b hp _ => hot b hp.1) (fun b h _ => h)
            clear hw hst hot hsz
            refine wpAnyH_take (i := 9) (oi := ⟨some 8, _, _, _, _, _⟩) (v := ?_) rfl (by kernel_rfl) (by kernel_rfl) (by kernel_rfl) (fun _ _ _ h => h) (Or.inl ⟨by rfl, ?hy⟩) (by assumption) ?_
            case hy => (intro w hSw; (try dsimp only at hSw); go_simp; (try with_reducible rfl))
            try simp only [Act.put, List.setIfInBounds_toArray, List.set_cons_zero, List.set_cons_succ]
            refine wpAnyH_ready (rs := [10]) (by kernel_rfl) (by simp) ?_
            refine AllReadyH.cons (o := ⟨none, _, _, _, _, _⟩) rfl (fun K hK => ?_) AllReadyH.nil
            have q0 := Lib.cell_of_heap h6 0
            have q1 := Lib.cell_of_heap h6 1
            have q2 := Lib.cell_of_heap h6 2
            have q3 := Lib.cell_of_heap h6 3
            have r0 := frozen_block (j := 0) h6
            have r1 := frozen_block (j := 1) h6
            have r2 := frozen_block (j := 2) h6
            have r3 := frozen_block (j := 3) h6
            have hst := set4 (v0 := .int .i64 zb.kind) (v1 := .int .i64 zb.tok.1) (v2 := .string zb.tok.2) (v3 := .slice B1 zb.kids.length eB) h6
            have hsz : ((((w_28.setCell ⟨c6, 0, none⟩ (.int .i64 zb.kind)).setCell ⟨c6, 1, none⟩ (.int .i64 zb.tok.1)).setCell ⟨c6, 2, none⟩ (.string zb.tok.2)).setCell ⟨c6, 3, none⟩ (.slice B1 zb.kids.length eB)).heap.size = w_28.heap.size := size4
            have hB : Below w0.heap.size w0 ((((w_28.setCell ⟨c6, 0, none⟩ (.int .i64 zb.kind)).setCell ⟨c6, 1, none⟩ (.int .i64 zb.tok.1)).setCell ⟨c6, 2, none⟩ (.string zb.tok.2)).setCell ⟨c6, 3, none⟩ (.slice B1 zb.kids.length eB)) := below4 hB g6
            have hot : ∀ b, b ≠ c6 → ((((w_28.setCell ⟨c6, 0, none⟩ (.int .i64 zb.kind)).setCell ⟨c6, 1, none⟩ (.int .i64 zb.tok.1)).setCell ⟨c6, 2, none⟩ (.string zb.tok.2)).setCell ⟨c6, 3, none⟩ (.slice B1 zb.kids.length eB)).heap[b]? = w_28.heap[b]? := fun b hb => other4 hb
            go_simp
            refine hK.out _ _ ?_ (fun hHeld => ?_)
            · exact keptS hB bx1 bx2
            clear hK K q0 q1 q2 q3 r0 r1 r2 r3
            try simp only [Act.put, List.setIfInBounds_toArray, List.set_cons_zero, List.set_cons_succ]
            obtain ⟨w_29, hw⟩ : ∃ x, x = ((((w_28.setCell ⟨c6, 0, none⟩ (.int .i64 zb.kind)).setCell ⟨c6, 1, none⟩ (.int .i64 zb.tok.1)).setCell ⟨c6, 2, none⟩ (.string zb.tok.2)).setCell ⟨c6, 3, none⟩ (.slice B1 zb.kids.length eB)) := ⟨_, rfl⟩
            rw [← hw] at hst hot hB hsz hHeld
            rw [← hw]
            have h6 := hst
            have h5 := (hot c5 hcc).trans h5
            have kA : KidsP (fun b => b ≠ c5 ∧ b ≠ c6) w_29 A1 za.kids := kA.kept (Nat.le_of_eq hsz.symm) (fun b hp _ => hot b hp.2) (fun b h _ => h)
            have kB : KidsP (fun b => b ≠ c5 ∧ b ≠ c6) w_29 B1 zb.kids := kB.kept (Nat.le_of_eq hsz.symm) (fun b hp _ => hot b hp.2) (fun b h _ => h)
            have kH : IntsP (fun b => b ≠ c5 ∧ b ≠ c6) w_29 Ar R := kH.kept (Nat.le_of_eq hsz.symm) (fun b hp _ => hot b hp.2) (fun b h _ => h)
            clear hw hst hot hsz
            refine wpAnyH_done (by kernel_rfl) ?_ _
            go_wp2_with fail
            go_meet
            exact ⟨c5, c6, A1, eA, B1, eB, Ar, cr, rfl, rfl, rfl, gA, gB, gH, kA, kB, kH, h5, h6, HB0.out.trans (hB.mono HB0.out.size)⟩
      · go_simp
        have hal : Below w_1.heap.size w_1 (w_1.alloc (.cells #[.int .i64 0, .int .i64 0, .string { data := #[] }, .slice none 0 0] 26)) := (Below.refl _ _).alloc (Nat.le_refl _) _
        refine hK.out _ _ ?_ (fun hHeld => ?_)
        · exact keptS (hB.trans (hal.mono hB.size)) bx1 bx2
        clear hK K
        try simp only [Act.put, List.setIfInBounds_toArray, List.set_cons_zero, List.set_cons_succ]
        obtain ⟨c5, hc⟩ : ∃ c, c = w_1.heap.size := ⟨_, rfl⟩
        obtain ⟨w_30, hw⟩ : ∃ x, x = w_1.alloc (.cells #[.int .i64 0, .int .i64 0, .string { data := #[] }, .slice none 0 0] 26) := ⟨_, rfl⟩
        rw [← hw] at hal
        have g5 : w0.heap.size ≤ c5 := by rw [hc]; exact hB.size
        have kA : KidsP (fun b => b ≠ c5) w_30 A1 za.kids := kA.kept hal.size (fun b _ hb => hal.block b hb) (fun b h hb => Nat.ne_of_lt (by rw [hc]; exact hb))
        have hB : Below w0.heap.size w0 w_30 := hB.trans (hal.mono hB.size)
        have h5 : w_30.heap[c5]? = some (.cells #[.int .i64 0, .int .i64 0, .string { data := #[] }, .slice none 0 0] 26 (0, 0)) := by rw [hw, hc]; exact heap_alloc_new _ _
        rw [← hw] at hHeld
        rw [← hw]
        rw [← hc]
        clear hw hc hal
        refine wpAnyH_ready (rs := [3, 7]) (by kernel_rfl) (by simp) ?_
        refine AllReadyH.cons (o := ⟨some 16, _, _, _, _, _⟩) rfl (fun K hK => ?_) (AllReadyH.cons (o := ⟨some 9, _, _, _, _, _⟩) rfl (fun K hK => ?_) AllReadyH.nil)
        · go_simp
          go_at_call 36
          with_reducible refine (HSh.out _ (HEA.out _ hB)).mono ?_
          rintro e w_31 ⟨vH, rfl, hrow, hbC⟩
          obtain ⟨Ar, cr, rfl, gH, kH⟩ := IntsP.of_own hrow
          have l5 : c5 < w_30.heap.size := (Array.getElem?_eq_some_iff.1 h5).1
          have kH : IntsP (fun b => b ≠ c5) w_31 Ar R := kH.kept (Nat.le_refl _) (fun _ _ _ => rfl) (fun b hb _ => (fun e => by omega))
          have h5 := keepB h5 hbC
          have kA : KidsP (fun b => b ≠ c5) w_31 A1 za.kids := kA.kept hbC.size (fun b _ hb => hbC.block b hb) (fun b h _ => h)
          have hB : Below w0.heap.size w0 w_31 := hB.trans (hbC.mono hB.size)
          refine hK.out _ _ ?_ (fun hHeld => ?_)
          · exact keptS hB bx1 bx2
          clear hK K hbC hrow l5
          try simp only [Act.put, List.setIfInBounds_toArray, List.set_cons_zero, List.set_cons_succ]
          refine wpAnyH_ready (rs := [5, 7]) (by kernel_rfl) (by simp) ?_
          refine AllReadyH.cons (o := ⟨some 18, _, _, _, _, _⟩) rfl (fun K hK => ?_) (AllReadyH.cons (o := ⟨some 9, _, _, _, _, _⟩) rfl (fun K hK => ?_) AllReadyH.nil)
          · go_simp
            go_at_call 15
            with_reducible refine (HcutB.out _ hB).mono ?_
            rintro e w_32 ⟨vB, rfl, ⟨B1, eB, rfl, gB, kB⟩, hbC⟩
            have l5 : c5 < w_31.heap.size := (Array.getElem?_eq_some_iff.1 h5).1
            have kB : KidsP (fun b => b ≠ c5) w_32 B1 zb.kids := kB.kept (Nat.le_refl _) (fun _ _ _ => rfl) (fun b hb _ => (fun e => by omega))
            have h5 := keepB h5 hbC
            have kA : KidsP (fun b => b ≠ c5) w_32 A1 za.kids := kA.kept hbC.size (fun b _ hb => hbC.block b hb) (fun b h _ => h)
            have kH : IntsP (fun b => b ≠ c5) w_32 Ar R := kH.kept hbC.size (fun b _ hb => hbC.block b hb) (fun b h _ => h)
            have hB : Below w0.heap.size w0 w_32 := hB.trans (hbC.mono hB.size)
            refine hK.out _ _ ?_ (fun hHeld => ?_)
            · exact keptS hB bx1 bx2
            clear hK K hbC l5
            try simp only [Act.put, List.setIfInBounds_toArray, List.set_cons_zero, List.set_cons_succ]
            refine wpAnyH_ready (rs := [7]) (by kernel_rfl) (by simp) ?_
            refine AllReadyH.cons (o := ⟨some 9, _, _, _, _, _⟩) rfl (fun K hK => ?_) AllReadyH.nil
            go_simp
            have hal : Below w_32.heap.size w_32 (w_32.alloc (.cells #[.int .i64 0, .int .i64 0, .string { data := #[] }, .slice none 0 0] 26)) := (Below.refl _ _).alloc (Nat.le_refl _) _
            refine hK.out _ _ ?_ (fun hHeld => ?_)
            · exact keptS (hB.trans (hal.mono hB.size)) bx1 bx2
            clear hK K
            try simp only [Act.put, List.setIfInBounds_toArray, List.set_cons_zero, List.set_cons_succ]
            obtain ⟨c6, hc⟩ : ∃ c, c = w_32.heap.size := ⟨_, rfl⟩
            obtain ⟨w_33, hw⟩ : ∃ x, x = w_32.alloc (.cells #[.int .i64 0, .int .i64 0, .string { data := #[] }, .slice none 0 0] 26) := ⟨_, rfl⟩
            rw [← hw] at hal
            have g6 : w0.heap.size ≤ c6 := by rw [hc]; exact hB.size
            have hcc : c5 ≠ c6 := by have hlt : c5 < w_32.heap.size := (Array.getElem?_eq_some_iff.1 h5).1; omega
            have kA : KidsP (fun b => b ≠ c5 ∧ b ≠ c6) w_33 A1 za.kids := kA.kept hal.size (fun b _ hb => hal.block b hb) (fun b h hb => ⟨h, Nat.ne_of_lt (by rw [hc]; exact hb)⟩)
            have kB : KidsP (fun b => b ≠ c5 ∧ b ≠ c6) w_33 B1 zb.kids := kB.kept hal.size (fun b _ hb => hal.block b hb) (fun b h hb => ⟨h, Nat.ne_of_lt (by rw [hc]; exact hb)⟩)
            have kH : IntsP (fun b => b ≠ c5 ∧ b ≠ c6) w_33 Ar R := kH.kept hal.size (fun b _ hb => hal.block b hb) (fun b h hb => ⟨h, Nat.ne_of_lt (by rw [hc]; exact hb)⟩)
            have h5 := keepB h5 hal
            have hB : Below w0.heap.size w0 w_33 := hB.trans (hal.mono hB.size)
            have h6 : w_33.heap[c6]? = some (.cells #[.int .i64 0, .int .i64 0, .string { data := #[] }, .slice none 0 0] 26 (0, 0)) := by rw [hw, hc]; exact heap_alloc_new _ _
            rw [← hw] at hHeld
            rw [← hw]
            rw [← hc]
            clear hw hc hal
            refine wpAnyH_ready (rs := [8]) (by kernel_rfl) (by simp) ?_
            refine AllReadyH.cons (o := ⟨none, _, _, _, _, _⟩) rfl (fun K hK => ?_) AllReadyH.nil
            have q0 := Lib.cell_of_heap h5 0
            have q1 := Lib.cell_of_heap h5 1
            have q2 := Lib.cell_of_heap h5 2
            have q3 := Lib.cell_of_heap h5 3
            have r0 := frozen_block (j := 0) h5
            have r1 := frozen_block (j := 1) h5
            have r2 := frozen_block (j := 2) h5
            have r3 := frozen_block (j := 3) h5
            have hst := set4 (v0 := .int .i64 za.kind) (v1 := .int .i64 za.tok.1) (v2 := .string za.tok.2) (v3 := .slice A1 za.kids.length eA) h5
            have hsz : ((((w_33.setCell ⟨c5, 0, none⟩ (.int .i64 za.kind)).setCell ⟨c5, 1, none⟩ (.int .i64 za.tok.1)).setCell ⟨c5, 2, none⟩ (.string za.tok.2)).setCell ⟨c5, 3, none⟩ (.slice A1 za.kids.length eA)).heap.size = w_33.heap.size := size4
            have hB : Below w0.heap.size w0 ((((w_33.setCell ⟨c5, 0, none⟩ (.int .i64 za.kind)).setCell ⟨c5, 1, none⟩ (.int .i64 za.tok.1)).setCell ⟨c5, 2, none⟩ (.string za.tok.2)).setCell ⟨c5, 3, none⟩ (.slice A1 za.kids.length eA)) := below4 hB g5
            have hot : ∀ b, b ≠ c5 → ((((w_33.setCell ⟨c5, 0, none⟩ (.int .i64 za.kind)).setCell ⟨c5, 1, none⟩ (.int .i64 za.tok.1)).setCell ⟨c5, 2, none⟩ (.string za.tok.2)).setCell ⟨c5, 3, none⟩ (.slice A1 za.kids.length eA)).heap[b]? = w_33.heap[b]? := fun b hb => other4 hb
            go_simp
            refine hK.out _ _ ?_ (fun hHeld => ?_)
            · exact keptS hB bx1 bx2
            clear hK K q0 q1 q2 q3 r0 r1 r2 r3
            try simp only [Act.put, List.setIfInBounds_toArray, List.set_cons_zero, List.set_cons_succ]
            obtain ⟨w_34, hw⟩ : ∃ x, x = ((((w_33.setCell ⟨c5, 0, none⟩ (.int .i64 za.kind)).setCell ⟨c5, 1, none⟩ (.int .i64 za.tok.1)).setCell ⟨c5, 2, none⟩ (.string za.tok.2)).setCell ⟨c5, 3, none⟩ (.slice A1 za.kids.length eA)) := ⟨_, rfl⟩
            rw [← hw] at hst hot hB hsz hHeld
            rw [← hw]
            have h5 := hst
            have h6 := (hot c6 (Ne.symm hcc)).trans h6
            have kA : KidsP (fun b => b ≠ c5 ∧ b ≠ c6) w_34 A1 za.kids := kA.kept (Nat.le_of_eq hsz.symm) (fun b hp _ => hot b hp.1) (fun b h _ => h)
            have kB : KidsP (fun b => b ≠ c5 ∧ b ≠ c6) w_34 B1 zb.kids := kB.kept (Nat.le_of_eq hsz.symm) (fun b hp _ => hot b hp.1) (fun b h _ => h)
            have kH : IntsP (fun b => b ≠ c5 ∧ b ≠ c6) w_34 Ar R := kH.kept (Nat.le_of_eq hsz.symm) (fun b hp _ => hot b hp.1) (fun b h _ => h)
            clear hw hst hot hsz
            refine wpAnyH_take (i := 9) (oi := ⟨some 8, _, _, _, _, _⟩) (v := ?_) rfl (by kernel_rfl) (by kernel_rfl) (by kernel_rfl) (fun _ _ _ h => h) (Or.inl ⟨by rfl, ?hy⟩) (by assumption) ?_
            case hy => (intro w hSw; (try dsimp only at hSw); go_simp; (try with_reducible rfl))
            try simp only [Act.put, List.setIfInBounds_toArray, List.set_cons_zero, List.set_cons_succ]
            refine wpAnyH_ready (rs := [10]) (by kernel_rfl) (by simp) ?_
            refine AllReadyH.cons (o := ⟨none, _, _, _, _, _⟩) rfl (fun K hK => ?_) AllReadyH.nil
            have q0 := Lib.cell_of_heap h6 0
            have q1 := Lib.cell_of_heap h6 1
            have q2 := Lib.cell_of_heap h6 2
            have q3 := Lib.cell_of_heap h6 3
            have r0 := frozen_block (j := 0) h6
            have r1 := frozen_block (j := 1) h6
            have r2 := frozen_block (j := 2) h6
            have r3 := frozen_block (j := 3) h6
            have hst := set4 (v0 := .int .i64 zb.kind) (v1 := .int .i64 zb.tok.1) (v2 := .string zb.tok.2) (v3 := .slice B1 zb.kids.length eB) h6
            have hsz : ((((w_34.setCell ⟨c6, 0, none⟩ (.int .i64 zb.kind)).setCell ⟨c6, 1, none⟩ (.int .i64 zb.tok.1)).setCell ⟨c6, 2, none⟩ (.string zb.tok.2)).setCell ⟨c6, 3, none⟩ (.slice B1 zb.kids.length eB)).heap.size = w_34.heap.size := size4
            have hB : Below w0.heap.size w0 ((((w_34.setCell ⟨c6, 0, none⟩ (.int .i64 zb.kind)).setCell ⟨c6, 1, none⟩ (.int .i64 zb.tok.1)).setCell ⟨c6, 2, none⟩ (.string zb.tok.2)).setCell ⟨c6, 3, none⟩ (.slice B1 zb.kids.length eB)) := below4 hB g6
            have hot : ∀ b, b ≠ c6 → ((((w_34.setCell ⟨c6, 0, none⟩ (.int .i64 zb.kind)).setCell ⟨c6, 1, none⟩ (.int .i64 zb.tok.1)).setCell ⟨c6, 2, none⟩ (.string zb.tok.2)).setCell ⟨c6, 3, none⟩ (.slice B1 zb.kids.length eB)).heap[b]? = w_34.heap[b]? := fun b hb => other4 hb
            go_simp
            refine hK.out _ _ ?_ (fun hHeld => ?_)
            · exact keptS hB bx1 bx2
            clear hK K q0 q1 q2 q3 r0 r1 r2 r3
            try simp only [Act.put, List.setIfInBounds_toArray, List.set_cons_zero, List.set_cons_succ]
            obtain ⟨w_35, hw⟩ : ∃ x, x = ((((w_34.setCell ⟨c6, 0, none⟩ (.int .i64 zb.kind)).setCell ⟨c6, 1, none⟩ (.int .i64 zb.tok.1)).setCell ⟨c6, 2, none⟩ (.string zb.tok.2)).setCell ⟨c6, 3, none⟩ (.slice B1 zb.kids.length eB)) := ⟨_, rfl⟩
            rw [← hw] at hst hot hB hsz hHeld
            rw [← hw]
            have h6 := hst
            have h5 := (hot c5 hcc).trans h5
            have kA : KidsP (fun b => b ≠ c5 ∧ b ≠ c6) w_35 A1 za.kids := kA.kept (Nat.le_of_eq hsz.symm) (fun b hp _ => hot b hp.2) (fun b h _ => h)
            have kB : KidsP (fun b => b ≠ c5 ∧ b ≠ c6) w_35 B1 zb.kids := kB.kept (Nat.le_of_eq hsz.symm) (fun b hp _ => hot b hp.2) (fun b h _ => h)
            have kH : IntsP (fun b => b ≠ c5 ∧ b ≠ c6) w_35 Ar R := kH.kept (Nat.le_of_eq hsz.symm) (fun b hp _ => hot b hp.2) (fun b h _ => h)
            clear hw hst hot hsz
            refine wpAnyH_done (by kernel_rfl) ?_ _
            go_wp2_with fail
            go_meet
            exact ⟨c5, c6, A1, eA, B1, eB, Ar, cr, rfl, rfl, rfl, gA, gB, gH, kA, kB, kH, h5, h6, HB0.out.trans (hB.mono HB0.out.size)⟩
          · go_simp
            have hal : Below w_31.heap.size w_31 (w_31.alloc (.cells #[.int .i64 0, .int .i64 0, .string { data := #[] }, .slice none 0 0] 26)) := (Below.refl _ _).alloc (Nat.le_refl _) _
            refine hK.out _ _ ?_ (fun hHeld => ?_)
            · exact keptS (hB.trans (hal.mono hB.size)) bx1 bx2
            clear hK K
            try simp only [Act.put, List.setIfInBounds_toArray, List.set_cons_zero, List.set_cons_succ]
            obtain ⟨c6, hc⟩ : ∃ c, c = w_31.heap.size := ⟨_, rfl⟩
            obtain ⟨w_36, hw⟩ : ∃ x, x = w_31.alloc (.cells #[.int .i64 0, .int .i64 0, .string { data := #[] }, .slice none 0 0] 26) := ⟨_, rfl⟩
            rw [← hw] at hal
            have g6 : w0.heap.size ≤ c6 := by rw [hc]; exact hB.size
            have hcc : c5 ≠ c6 := by have hlt : c5 < w_31.heap.size := (Array.getElem?_eq_some_iff.1 h5).1; omega
            have kA : KidsP (fun b => b ≠ c5 ∧ b ≠ c6) w_36 A1 za.kids := kA.kept hal.size (fun b _ hb => hal.block b hb) (fun b h hb => ⟨h, Nat.ne_of_lt (by rw [hc]; exact hb)⟩)
            have kH : IntsP (fun b => b ≠ c5 ∧ b ≠ c6) w_36 Ar R := kH.kept hal.size (fun b _ hb => hal.block b hb) (fun b h hb => ⟨h, Nat.ne_of_lt (by rw [hc]; exact hb)⟩)
            have h5 := keepB h5 hal
            have hB : Below w0.heap.size w0 w_36 := hB.trans (hal.mono hB.size)
            have h6 : w_36.heap[c6]? = some (.cells #[.int .i64 0, .int .i64 0, .string { data := #[] }, .slice none 0 0] 26 (0, 0)) := by rw [hw, hc]; exact heap_alloc_new _ _
            rw [← hw] at hHeld
            rw [← hw]
            rw [← hc]
            clear hw hc hal
            refine wpAnyH_ready (rs := [5]) (by kernel_rfl) (by simp) ?_
            refine AllReadyH.cons (o := ⟨some 18, _, _, _, _, _⟩) rfl (fun K hK => ?_) AllReadyH.nil
            go_simp
            go_at_call 15
            with_reducible refine (HcutB.out _ hB).mono ?_
            rintro e w_37 ⟨vB, rfl, ⟨B1, eB, rfl, gB, kB⟩, hbC⟩
            have l5 : c5 < w_36.heap.size := (Array.getElem?_eq_some_iff.1 h5).1
            have l6 : c6 < w_36.heap.size := (Array.getElem?_eq_some_iff.1 h6).1
            have kB : KidsP (fun b => b ≠ c5 ∧ b ≠ c6) w_37 B1 zb.kids := kB.kept (Nat.le_refl _) (fun _ _ _ => rfl) (fun b hb _ => ⟨fun e => by omega, fun e => by omega⟩)
            have h5 := keepB h5 hbC
            have h6 := keepB h6 hbC
            have kA : KidsP (fun b => b ≠ c5 ∧ b ≠ c6) w_37 A1 za.kids := kA.kept hbC.size (fun b _ hb => hbC.block b hb) (fun b h _ => h)
            have kH : IntsP (fun b => b ≠ c5 ∧ b ≠ c6) w_37 Ar R := kH.kept hbC.size (fun b _ hb => hbC.block b hb) (fun b h _ => h)
            have hB : Below w0.heap.size w0 w_37 := hB.trans (hbC.mono hB.size)
            refine hK.out _ _ ?_ (fun hHeld => ?_)
            · exact keptS hB bx1 bx2
            clear hK K hbC l5 l6
            try simp only [Act.put, List.setIfInBounds_toArray, List.set_cons_zero, List.set_cons_succ]
            refine wpAnyH_ready (rs := [8]) (by kernel_rfl) (by simp) ?_
            refine AllReadyH.cons (o := ⟨none, _, _, _, _, _⟩) rfl (fun K hK => ?_) AllReadyH.nil
            have q0 := Lib.cell_of_heap h5 0
            have q1 := Lib.cell_of_heap h5 1
            have q2 := Lib.cell_of_heap h5 2
            have q3 := Lib.cell_of_heap h5 3
            have r0 := frozen_block (j := 0) h5
            have r1 := frozen_block (j := 1) h5
            have r2 := frozen_block (j := 2) h5
            have r3 := frozen_block (j := 3) h5
            have hst := set4 (v0 := .int .i64 za.kind) (v1 := .int .i64 za.tok.1) (v2 := .string za.tok.2) (v3 := .slice A1 za.kids.length eA) h5
            have hsz : ((((w_37.setCell ⟨c5, 0, none⟩ (.int .i64 za.kind)).setCell ⟨c5, 1, none⟩ (.int .i64 za.tok.1)).setCell ⟨c5, 2, none⟩ (.string za.tok.2)).setCell ⟨c5, 3, none⟩ (.slice A1 za.kids.length eA)).heap.size = w_37.heap.size := size4
            have hB : Below w0.heap.size w0 ((((w_37.setCell ⟨c5, 0, none⟩ (.int .i64 za.kind)).setCell ⟨c5, 1, none⟩ (.int .i64 za.tok.1)).setCell ⟨c5, 2, none⟩ (.string za.tok.2)).setCell ⟨c5, 3, none⟩ (.slice A1 za.kids.length eA)) := below4 hB g5
            have hot : ∀ b, b ≠ c5 → ((((w_37.setCell ⟨c5, 0, none⟩ (.int .i64 za.kind)).setCell ⟨c5, 1, none⟩ (.int .i64 za.tok.1)).setCell ⟨c5, 2, none⟩ (.string za.tok.2)).setCell ⟨c5, 3, none⟩ (.slice A1 za.kids.length eA)).heap[b]? = w_37.heap[b]? := fun b hb => other4 hb
            go_simp
            refine hK.out _ _ ?_ (fun hHeld => ?_)
            · exact keptS hB bx1 bx2
            clear hK K q0 q1 q2 q3 r0 r1 r2 r3
            try simp only [Act.put, List.setIfInBounds_toArray, List.set_cons_zero, List.set_cons_succ]
            obtain ⟨w_38, hw⟩ : ∃ x, x = ((((w_37.setCell ⟨c5, 0, none⟩ (.int .i64 za.kind)).setCell ⟨c5, 1, none⟩ (.int .i64 za.tok.1)).setCell ⟨c5, 2, none⟩ (.string za.tok.2)).setCell ⟨c5, 3, none⟩ (.slice A1 za.kids.length eA)) := ⟨_, rfl⟩
            rw [← hw] at hst hot hB hsz hHeld
            rw [← hw]
            have h5 := hst
            have h6 := (hot c6 (Ne.symm hcc)).trans h6
            have kA : KidsP (fun b => b ≠ c5 ∧ b ≠ c6) w_38 A1 za.kids := kA.kept (Nat.le_of_eq hsz.symm) (fun b hp _ => hot b hp.1) (fun b h _ => h)
            have kB : KidsP (fun b => b ≠ c5 ∧ b ≠ c6) w_38 B1 zb.kids := kB.kept (Nat.le_of_eq hsz.symm) (fun b hp _ => hot b hp.1) (fun b h _ => h)
            have kH : IntsP (fun b => b ≠ c5 ∧ b ≠ c6) w_38 Ar R := kH.kept (Nat.le_of_eq hsz.symm) (fun b hp _ => hot b hp.1) (fun b h _ => h)
            clear hw hst hot hsz
            refine wpAnyH_take (i := 9) (oi := ⟨some 8, _, _, _, _, _⟩) (v := ?_) rfl (by kernel_rfl) (by kernel_rfl) (by kernel_rfl) (fun _ _ _ h => h) (Or.inl ⟨by rfl, ?hy⟩) (by assumption) ?_
            case hy => (intro w hSw; (try dsimp only at hSw); go_simp; (try with_reducible rfl))
            try simp only [Act.put, List.setIfInBounds_toArray, List.set_cons_zero, List.set_cons_succ]
            refine wpAnyH_ready (rs := [10]) (by kernel_rfl) (by simp) ?_
            refine AllReadyH.cons (o := ⟨none, _, _, _, _, _⟩) rfl (fun K hK => ?_) AllReadyH.nil
            have q0 := Lib.cell_of_heap h6 0
            have q1 := Lib.cell_of_heap h6 1
            have q2 := Lib.cell_of_heap h6 2
            have q3 := Lib.cell_of_heap h6 3
            have r0 := frozen_block (j := 0) h6
            have r1 := frozen_block (j := 1) h6
            have r2 := frozen_block (j := 2) h6
            have r3 := frozen_block (j := 3) h6
            have hst := set4 (v0 := .int .i64 zb.kind) (v1 := .int .i64 zb.tok.1) (v2 := .string zb.tok.2) (v3 := .slice B1 zb.kids.length eB) h6
            have hsz : ((((w_38.setCell ⟨c6, 0, none⟩ (.int .i64 zb.kind)).setCell ⟨c6, 1, none⟩ (.int .i64 zb.tok.1)).setCell ⟨c6, 2, none⟩ (.string zb.tok.2)).setCell ⟨c6, 3, none⟩ (.slice B1 zb.kids.length eB)).heap.size = w_38.heap.size := size4
            have hB : Below w0.heap.size w0 ((((w_38.setCell ⟨c6, 0, none⟩ (.int .i64 zb.kind)).setCell ⟨c6, 1, none⟩ (.int .i64 zb.tok.1)).setCell ⟨c6, 2, none⟩ (.string zb.tok.2)).setCell ⟨c6, 3, none⟩ (.slice B1 zb.kids.length eB)) := below4 hB g6
            have hot : ∀ b, b ≠ c6 → ((((w_38.setCell ⟨c6, 0, none⟩ (.int .i64 zb.kind)).setCell ⟨c6, 1, none⟩ (.int .i64 zb.tok.1)).setCell ⟨c6, 2, none⟩ (.string zb.tok.2)).setCell ⟨c6, 3, none⟩ (.slice B1 zb.kids.length eB)).heap[b]? = w_38.heap[b]? := fun b hb => other4 hb
            go_simp
            refine hK.out _ _ ?_ (fun hHeld => ?_)
            · exact keptS hB bx1 bx2
            clear hK K q0 q1 q2 q3 r0 r1 r2 r3
            try simp only [Act.put, List.setIfInBounds_toArray, List.set_cons_zero, List.set_cons_succ]
            obtain ⟨w_39, hw⟩ : ∃ x, x = ((((w_38.setCell ⟨c6, 0, none⟩ (.int .i64 zb.kind)).setCell ⟨c6, 1, none⟩ (.int .i64 zb.tok.1)).setCell ⟨c6, 2, none⟩ (.string zb.tok.2)).setCell ⟨c6, 3, none⟩ (.slice B1 zb.kids.length eB)) := ⟨_, rfl⟩
            rw [← hw] at hst hot hB hsz hHeld
            rw [← hw]
            have h6 := hst
            have h5 := (hot c5 hcc).trans h5
            have kA : KidsP (fun b => b ≠ c5 ∧ b ≠ c6) w_39 A1 za.kids := kA.kept (Nat.le_of_eq hsz.symm) (fun b hp _ => hot b hp.2) (fun b h _ => h)
            have kB : KidsP (fun b => b ≠ c5 ∧ b ≠ c6) w_39 B1 zb.kids := kB.kept (Nat.le_of_eq hsz.symm) (fun b hp _ => hot b hp.2) (fun b h _ => h)
            have kH : IntsP (fun b => b ≠ c5 ∧ b ≠ c6) w_39 Ar R := kH.kept (Nat.le_of_eq hsz.symm) (fun b hp _ => hot b hp.2) (fun b h _ => h)
            clear hw hst hot hsz
            refine wpAnyH_done (by kernel_rfl) ?_ _
            go_wp2_with fail
            go_meet
            exact ⟨c5, c6, A1, eA, B1, eB, Ar, cr, rfl, rfl, rfl, gA, gB, gH, kA, kB, kH, h5, h6, HB0.out.trans (hB.mono HB0.out.size)⟩
        · go_simp
          have hal : Below w_30.heap.size w_30 (w_30.alloc (.cells #[.int .i64 0, .int .i64 0, .string { data := #[] }, .slice none 0 0] 26)) := (Below.refl _ _).alloc (Nat.le_refl _) _
          refine hK.out _ _ ?_ (fun hHeld => ?_)
          · exact keptS (hB.trans (hal.mono hB.size)) bx1 bx2
          clear hK K
          try simp only [Act.put, List.setIfInBounds_toArray, List.set_cons_zero, List.set_cons_succ]
          obtain ⟨c6, hc⟩ : ∃ c, c = w_30.heap.size := ⟨_, rfl⟩
          obtain ⟨w_40, hw⟩ : ∃ x, x = w_30.alloc (.cells #[.int .i64 0, .int .i64 0, .string { data := #[] }, .slice none 0 0] 26) := ⟨_, rfl⟩
          rw [← hw] at hal
          have g6 : w0.heap.size ≤ c6 := by rw [hc]; exact hB.size
          have hcc : c5 ≠ c6 := by have hlt : c5 < w_30.heap.size := (Array.getElem?_eq_some_iff.1 h5).1; omega
          have kA : KidsP (fun b => b ≠ c5 ∧ b ≠ c6) w_40 A1 za.kids := kA.kept hal.size (fun b _ hb => hal.block b hb) (fun b h hb => ⟨h, Nat.ne_of_lt (by rw [hc]; exact hb)⟩)
          have h5 := keepB h5 hal
          have hB : Below w0.heap.size w0 w_40 := hB.trans (hal.mono hB.size)
          have h6 : w_40.heap[c6]? = some (.cells #[.int .i64 0, .int .i64 0, .string { data := #[] }, .slice none 0 0] 26 (0, 0)) := by rw [hw, hc]; exact heap_alloc_new _ _
          rw [← hw] at hHeld
          rw [← hw]
          rw [← hc]
          clear hw hc hal
          refine wpAnyH_ready (rs := [3]) (by kernel_rfl) (by simp) ?_
          refine AllReadyH.cons (o := ⟨some 16, _, _, _, _, _⟩) rfl (fun K hK => ?_) AllReadyH.nil
          go_simp
          go_at_call 36
          with_reducible refine (HSh.out _ (HEA.out _ hB)).mono ?_
          rintro e w_41 ⟨vH, rfl, hrow, hbC⟩
          obtain ⟨Ar, cr, rfl, gH, kH⟩ := IntsP.of_own hrow
          have l5 : c5 < w_40.heap.size := (Array.getElem?_eq_some_iff.1 h5).1
          have l6 : c6 < w_40.heap.size := (Array.getElem?_eq_some_iff.1 h6).1
          have kH : IntsP (fun b => b ≠ c5 ∧ b ≠ c6) w_41 Ar R := kH.kept (Nat.le_refl _) (fun _ _ _ => rfl) (fun b hb _ => ⟨fun e => by omega, fun e => by omega⟩)
          have h5 := keepB h5 hbC
          have h6 := keepB h6 hbC
          have kA : KidsP (fun b => b ≠ c5 ∧ b ≠ c6) w_41 A1 za.kids := kA.kept hbC.size (fun b _ hb => hbC.block b hb) (fun b h _ => h)
          have hB : Below w0.heap.size w0 w_41 := hB.trans (hbC.mono hB.size)
          refine hK.out _ _ ?_ (fun hHeld => ?_)
          · exact keptS hB bx1 bx2
          clear hK K hbC hrow l5 l6
          try simp only [Act.put, List.setIfInBounds_toArray, List.set_cons_zero, List.set_cons_succ]
          refine wpAnyH_ready (rs := [5]) (by kernel_rfl) (by simp) ?_
          refine AllReadyH.cons (o := ⟨some 18, _, _, _, _, _⟩) rfl (fun K hK => ?_) AllReadyH.nil
          go_simp
          go_at_call 15
          with_reducible refine (HcutB.out _ hB).mono ?_
          rintro e w_42 ⟨vB, rfl, ⟨B1, eB, rfl, gB, kB⟩, hbC⟩
          have l5 : c5 < w_41.heap.size := (Array.getElem?_eq_some_iff.1 h5).1
          have l6 : c6 < w_41.heap.size := (Array.getElem?_eq_some_iff.1 h6).1
          have kB : KidsP (fun b => b ≠ c5 ∧ b ≠ c6) w_42 B1 zb.kids := kB.kept (Nat.le_refl _) (fun _ _ _ => rfl) (fun b hb _ => ⟨fun e => by omega, fun e => by omega⟩)
          have h5 := keepB h5 hbC
          have h6 := keepB h6 hbC
          have kA : KidsP (fun b => b ≠ c5 ∧ b ≠ c6) w_42 A1 za.kids := kA.kept hbC.size (fun b _ hb => hbC.block b hb) (fun b h _ => h)
          have kH : IntsP (fun b => b ≠ c5 ∧ b ≠ c6) w_42 Ar R := kH.kept hbC.size (fun b _ hb => hbC.block b hb) (fun b h _ => h)
          have hB : Below w0.heap.size w0 w_42 := hB.trans (hbC.mono hB.size)
          refine hK.out _ _ ?_ (fun hHeld => ?_)
          · exact keptS hB bx1 bx2
          clear hK K hbC l5 l6
          try simp only [Act.put, List.setIfInBounds_toArray, List.set_cons_zero, List.set_cons_succ]
          refine wpAnyH_ready (rs := [8]) (by kernel_rfl) (by simp) ?_
          refine AllReadyH.cons (o := ⟨none, _, _, _, _, _⟩) rfl (fun K hK => ?_) AllReadyH.nil
          have q0 := Lib.cell_of_heap h5 0
          have q1 := Lib.cell_of_heap h5 1
          have q2 := Lib.cell_of_heap h5 2
          have q3 := Lib.cell_of_heap h5 3
          have r0 := frozen_block (j := 0) h5
          have r1 := frozen_block (j := 1) h5
          have r2 := frozen_block (j := 2) h5
          have r3 := frozen_block (j := 3) h5
          have hst := set4 (v0 := .int .i64 za.kind) (v1 := .int .i64 za.tok.1) (v2 := .string za.tok.2) (v3 := .slice A1 za.kids.length eA) h5
          have hsz : ((((w_42.setCell ⟨c5, 0, none⟩ (.int .i64 za.kind)).setCell ⟨c5, 1, none⟩ (.int .i64 za.tok.1)).setCell ⟨c5, 2, none⟩ (.string za.tok.2)).setCell ⟨c5, 3, none⟩ (.slice A1 za.kids.length eA)).heap.size = w_42.heap.size := size4
          have hB : Below w0.heap.size w0 ((((w_42.setCell ⟨c5, 0, none⟩ (.int .i64 za.kind)).setCell ⟨c5, 1, none⟩ (.int .i64 za.tok.1)).setCell ⟨c5, 2, none⟩ (.string za.tok.2)).setCell ⟨c5, 3, none⟩ (.slice A1 za.kids.length eA)) := below4 hB g5
          have hot : ∀ b, b ≠ c5 → ((((w_42.setCell ⟨c5, 0, none⟩ (.int .i64 za.kind)).setCell ⟨c5, 1, none⟩ (.int .i64 za.tok.1)).setCell ⟨c5, 2, none⟩ (.string za.tok.2)).setCell ⟨c5, 3, none⟩ (.slice A1 za.kids.length eA)).heap[b]? = w_42.heap[b]? := fun b hb => other4 hb
          go_simp
          refine hK.out _ _ ?_ (fun hHeld => ?_)
          · exact keptS hB bx1 bx2
          clear hK K q0 q1 q2 q3 r0 r1 r2 r3
          try simp only [Act.put, List.setIfInBounds_toArray, List.set_cons_zero, List.set_cons_succ]
          obtain ⟨w_43, hw⟩ : ∃ x, x = ((((w_42.setCell ⟨c5, 0, none⟩ (.int .i64 za.kind)).setCell ⟨c5, 1, none⟩ (.int .i64 za.tok.1)).setCell ⟨c5, 2, none⟩ (.string za.tok.2)).setCell ⟨c5, 3, none⟩ (.slice A1 za.kids.length eA)) := ⟨_, rfl⟩
          rw [← hw] at hst hot hB hsz hHeld
          rw [← hw]
          have h5 := hst
          have h6 := (hot c6 (Ne.symm hcc)).trans h6
          have kA : KidsP (fun b => b ≠ c5 ∧ b ≠ c6) w_43 A1 za.kids := kA.kept (Nat.le_of_eq hsz.symm) (fun b hp _ => hot b hp.1) (fun b h _ => h)
          have kB : KidsP (fun b => b ≠ c5 ∧ b ≠ c6) w_43 B1 zb.kids := kB.kept (Nat.le_of_eq hsz.symm) (fun b hp _ => hot b hp.1) (fun b h _ => h)
          have kH : IntsP (fun b => b ≠ c5 ∧ b ≠ c6) w_43 Ar R := kH.kept (Nat.le_of_eq hsz.symm) (fun b hp _ => hot b hp.1) (fun b h _ => h)
          clear hw hst hot hsz
          refine wpAnyH_take (i := 9) (oi := ⟨some 8, _, _, _, _, _⟩) (v := ?_) rfl (by kernel_rfl) (by kernel_rfl) (by kernel_rfl) (fun _ _ _ h => h) (Or.inl ⟨by rfl, ?hy⟩) (by assumption) ?_
          case hy => (intro w hSw; (try dsimp only at hSw); go_simp; (try with_reducible rfl))
          try simp only [Act.put, List.setIfInBounds_toArray, List.set_cons_zero, List.set_cons_succ]
          refine wpAnyH_ready (rs := [10]) (by kernel_rfl) (by simp) ?_
          refine AllReadyH.cons (o := ⟨none, _, _, _, _, _⟩) rfl (fun K hK => ?_) AllReadyH.nil
          have q0 := Lib.cell_of_heap h6 0
          have q1 := Lib.cell_of_heap h6 1
          have q2 := Lib.cell_of_heap h6 2
          have q3 := Lib.cell_of_heap h6 3
          have r0 := frozen_block (j := 0) h6
          have r1 := frozen_block (j := 1) h6
          have r2 := frozen_block (j := 2) h6
          have r3 := frozen_block (j := 3) h6
          have hst := set4 (v0 := .int .i64 zb.kind) (v1 := .int .i64 zb.tok.1) (v2 := .string zb.tok.2) (v3 := .slice B1 zb.kids.length eB) h6
          have hsz : ((((w_43.setCell ⟨c6, 0, none⟩ (.int .i64 zb.kind)).setCell ⟨c6, 1, none⟩ (.int .i64 zb.tok.1)).setCell ⟨c6, 2, none⟩ (.string zb.tok.2)).setCell ⟨c6, 3, none⟩ (.slice B1 zb.kids.length eB)).heap.size = w_43.heap.size := size4
          have hB : Below w0.heap.size w0 ((((w_43.setCell ⟨c6, 0, none⟩ (.int .i64 zb.kind)).setCell ⟨c6, 1, none⟩ (.int .i64 zb.tok.1)).setCell ⟨c6, 2, none⟩ (.string zb.tok.2)).setCell ⟨c6, 3, none⟩ (.slice B1 zb.kids.length eB)) := below4 hB g6
          have hot : ∀ b, b ≠ c6 → ((((w_43.setCell ⟨c6, 0, none⟩ (.int .i64 zb.kind)).setCell ⟨c6, 1, none⟩ (.int .i64 zb.tok.1)).setCell ⟨c6, 2, none⟩ (.string zb.tok.2)).setCell ⟨c6, 3, none⟩ (.slice B1 zb.kids.length eB)).heap[b]? = w_43.heap[b]? := fun b hb => other4 hb
          go_simp
          refine hK.out _ _ ?_ (fun hHeld => ?_)
          · exact keptS hB bx1 bx2
          clear hK K q0 q1 q2 q3 r0 r1 r2 r3
          try simp only [Act.put, List.setIfInBounds_toArray, List.set_cons_zero, List.set_cons_succ]
          obtain ⟨w_44, hw⟩ : ∃ x, x = ((((w_43.setCell ⟨c6, 0, none⟩ (.int .i64 zb.kind)).setCell ⟨c6, 1, none⟩ (.int .i64 zb.tok.1)).setCell ⟨c6, 2, none⟩ (.string zb.tok.2)).setCell ⟨c6, 3, none⟩ (.slice B1 zb.kids.length eB)) := ⟨_, rfl⟩
          rw [← hw] at hst hot hB hsz hHeld
          rw [← hw]
          have h6 := hst
          have h5 := (hot c5 hcc).trans h5
          have kA : KidsP (fun b => b ≠ c5 ∧ b ≠ c6) w_44 A1 za.kids := kA.kept (Nat.le_of_eq hsz.symm) (fun b hp _ => hot b hp.2) (fun b h _ => h)
          have kB : KidsP (fun b => b ≠ c5 ∧ b ≠ c6) w_44 B1 zb.kids := kB.kept (Nat.le_of_eq hsz.symm) (fun b hp _ => hot b hp.2) (fun b h _ => h)
          have kH : IntsP (fun b => b ≠ c5 ∧ b ≠ c6) w_44 Ar R := kH.kept (Nat.le_of_eq hsz.symm) (fun b hp _ => hot b hp.2) (fun b h _ => h)
          clear hw hst hot hsz
          refine wpAnyH_done (by kernel_rfl) ?_ _
          go_wp2_with fail
          go_meet
          exact ⟨c5, c6, A1, eA, B1, eB, Ar, cr, rfl, rfl, rfl, gA, gB, gH, kA, kB, kH, h5, h6, HB0.out.trans (hB.mono HB0.out.size)⟩
      · go_simp
        have hal : Below w_1.heap.size w_1 (w_1.alloc (.cells #[.int .i64 0, .int .i64 0, .string { data := #[] }, .slice none 0 0] 26)) := (Below.refl _ _).alloc (Nat.le_refl _) _
        refine hK.out _ _ ?_ (fun hHeld => ?_)
        · exact keptS (hB.trans (hal.mono hB.size)) bx1 bx2
        clear hK K
        try simp only [Act.put, List.setIfInBounds_toArray, List.set_cons_zero, List.set_cons_succ]
        obtain ⟨c6, hc⟩ : ∃ c, c = w_1.heap.size := ⟨_, rfl⟩
        obtain ⟨w_45, hw⟩ : ∃ x, x = w_1.alloc (.cells #[.int .i64 0, .int .i64 0, .string { data := #[] }, .slice none 0 0] 26) := ⟨_, rfl⟩
        rw [← hw] at hal
        have g6 : w0.heap.size ≤ c6 := by rw [hc]; exact hB.size
        have kA : KidsP (fun b => b ≠ c6) w_45 A1 za.kids := kA.kept hal.size (fun b _ hb => hal.block b hb) (fun b h hb => Nat.ne_of_lt (by rw [hc]; exact hb))
        have hB : Below w0.heap.size w0 w_45 := hB.trans (hal.mono hB.size)
        have h6 : w_45.heap[c6]? = some (.cells #[.int .i64 0, .int .i64 0, .string { data := #[] }, .slice none 0 0] 26 (0, 0)) := by rw [hw, hc]; exact heap_alloc_new _ _
        rw [← hw] at hHeld
        rw [← hw]
        rw [← hc]
        clear hw hc hal
        refine wpAnyH_ready (rs := [3, 6]) (by kernel_rfl) (by simp) ?_
        refine AllReadyH.cons (o := ⟨some 16, _, _, _, _, _⟩) rfl (fun K hK => ?_) (AllReadyH.cons (o := ⟨some 7, _, _, _, _, _⟩) rfl (fun K hK => ?_) AllReadyH.nil)
        · go_simp
          go_at_call 36
          with_reducible refine (HSh.out _ (HEA.out _ hB)).mono ?_
          rintro e w_46 ⟨vH, rfl, hrow, hbC⟩
          obtain ⟨Ar, cr, rfl, gH, kH⟩ := IntsP.of_own hrow
          have l6 : c6 < w_45.heap.size := (Array.getElem?_eq_some_iff.1 h6).1
          have kH : IntsP (fun b => b ≠ c6) w_46 Ar R := kH.kept (Nat.le_refl _) (fun _ _ _ => rfl) (fun b hb _ => (fun e => by omega))
          have h6 := keepB h6 hbC
          have kA : KidsP (fun b => b ≠ c6) w_46 A1 za.kids := kA.kept hbC.size (fun b _ hb => hbC.block b hb) (fun b h _ => h)
          have hB : Below w0.heap.size w0 w_46 := hB.trans (hbC.mono hB.size)
          refine hK.out _ _ ?_ (fun hHeld => ?_)
          · exact keptS hB bx1 bx2
          clear hK K hbC hrow l6
          try simp only [Act.put, List.setIfInBounds_toArray, List.set_cons_zero, List.set_cons_succ]
          refine wpAnyH_ready (rs := [5, 6]) (by kernel_rfl) (by simp) ?_
          refine AllReadyH.cons (o := ⟨some 18, _, _, _, _, _⟩) rfl (fun K hK => ?_) (AllReadyH.cons (o := ⟨some 7, _, _, _, _, _⟩) rfl (fun K hK => ?_) AllReadyH.nil)
          · go_simp
            go_at_call 15
            with_reducible refine (HcutB.out _ hB).mono ?_
            rintro e w_47 ⟨vB, rfl, ⟨B1, eB, rfl, gB, kB⟩, hbC⟩
            have l6 : c6 < w_46.heap.size := (Array.getElem?_eq_some_iff.1 h6).1
            have kB : KidsP (fun b => b ≠ c6) w_47 B1 zb.kids := kB.kept (Nat.le_refl _) (fun _ _ _ => rfl) (fun b hb _ => (fun e => by omega))
            have h6 := keepB h6 hbC
            have kA : KidsP (fun b => b ≠ c6) w_47 A1 za.kids := kA.kept hbC.size (fun b _ hb => hbC.block b hb) (fun b h _ => h)
            have kH : IntsP (fun b => b ≠ c6) w_47 Ar R := kH.kept hbC.size (fun b _ hb => hbC.block b hb) (fun b h _ => h)
            have hB : Below w0.heap.size w0 w_47 := hB.trans (hbC.mono hB.size)
            refine hK.out _ _ ?_ (fun hHeld => ?_)
            · exact keptS hB bx1 bx2
            clear hK K hbC l6
            try simp only [Act.put, List.setIfInBounds_toArray, List.set_cons_zero, List.set_cons_succ]
            refine wpAnyH_ready (rs := [6]) (by kernel_rfl) (by simp) ?_
            refine AllReadyH.cons (o := ⟨some 7, _, _, _, _, _⟩) rfl (fun K hK => ?_) AllReadyH.nil
            go_simp
            have hal : Below w_47.heap.size w_47 (w_47.alloc (.cells #[.int .i64 0, .int .i64 0, .string { data := #[] }, .slice none 0 0] 26)) := (Below.refl _ _).alloc (Nat.le_refl _) _
            refine hK.out _ _ ?_ (fun hHeld => ?_)
            · exact keptS (hB.trans (hal.mono hB.size)) bx1 bx2
            clear hK K
            try simp only [Act.put, List.setIfInBounds_toArray, List.set_cons_zero, List.set_cons_succ]
            obtain ⟨c5, hc⟩ : ∃ c, c = w_47.heap.size := ⟨_, rfl⟩
            obtain ⟨w_48, hw⟩ : ∃ x, x = w_47.alloc (.cells #[.int .i64 0, .int .i64 0, .string { data := #[] }, .slice none 0 0] 26) := ⟨_, rfl⟩
            rw [← hw] at hal
            have g5 : w0.heap.size ≤ c5 := by rw [hc]; exact hB.size
            have hcc : c5 ≠ c6 := by have hlt : c6 < w_47.heap.size := (Array.getElem?_eq_some_iff.1 h6).1; omega
            have kA : KidsP (fun b => b ≠ c5 ∧ b ≠ c6) w_48 A1 za.kids := kA.kept hal.size (fun b _ hb => hal.block b hb) (fun b h hb => ⟨Nat.ne_of_lt (by rw [hc]; exact hb), h⟩)
            have kB : KidsP (fun b => b ≠ c5 ∧ b ≠ c6) w_48 B1 zb.kids := kB.kept hal.size (fun b _ hb => hal.block b hb) (fun b h hb => ⟨Nat.ne_of_lt (by rw [hc]; exact hb), h⟩)
            have kH : IntsP (fun b => b ≠ c5 ∧ b ≠ c6) w_48 Ar R := kH.kept hal.size (fun b _ hb => hal.block b hb) (fun b h hb => ⟨Nat.ne_of_lt (by rw [hc]; exact hb), h⟩)
            have h6 := keepB h6 hal
            have hB : Below w0.heap.size w0 w_48 := hB.trans (hal.mono hB.size)
            have h5 : w_48.heap[c5]? = some (.cells #[.int .i64 0, .int .i64 0, .string { data := #[] }, .slice none 0 0] 26 (0, 0)) := by rw [hw, hc]; exact heap_alloc_new _ _
            rw [← hw] at hHeld
            rw [← hw]
            rw [← hc]
            clear hw hc hal
            refine wpAnyH_ready (rs := [8]) (by kernel_rfl) (by simp) ?_
            refine AllReadyH.cons (o := ⟨none, _, _, _, _, _⟩) rfl (fun K hK => ?_) AllReadyH.nil
            have q0 := Lib.cell_of_heap h5 0
            have q1 := Lib.cell_of_heap h5 1
            have q2 := Lib.cell_of_heap h5 2
            have q3 := Lib.cell_of_heap h5 3
            have r0 := frozen_block (j := 0) h5
            have r1 := frozen_block (j := 1) h5
            have r2 := frozen_block (j := 2) h5
            have r3 := frozen_block (j := 3) h5
            have hst := set4 (v0 := .int .i64 za.kind) (v1 := .int .i64 za.tok.1) (v2 := .string za.tok.2) (v3 := .slice A1 za.kids.length eA) h5
            have hsz : ((((w_48.setCell ⟨c5, 0, none⟩ (.int .i64 za.kind)).setCell ⟨c5, 1, none⟩ (.int .i64 za.tok.1)).setCell ⟨c5, 2, none⟩ (.string za.tok.2)).setCell ⟨c5, 3, none⟩ (.slice A1 za.kids.length eA)).heap.size = w_48.heap.size := size4
            have hB : Below w0.heap.size w0 ((((w_48.setCell ⟨c5, 0, none⟩ (.int .i64 za.kind)).setCell ⟨c5, 1, none⟩ (.int .i64 za.tok.1)).setCell ⟨c5, 2, none⟩ (.string za.tok.2)).setCell ⟨c5, 3, none⟩ (.slice A1 za.kids.length eA)) := below4 hB g5
            have hot : ∀ b, b ≠ c5 → ((((w_48.setCell ⟨c5, 0, none⟩ (.int .i64 za.kind)).setCell ⟨c5, 1, none⟩ (.int .i64 za.tok.1)).setCell ⟨c5, 2, none⟩ (.string za.tok.2)).setCell ⟨c5, 3, none⟩ (.slice A1 za.kids.length eA)).heap[b]? = w_48.heap[b]? := fun b hb => other4 hb
            go_simp
            refine hK.out _ _ ?_ (fun hHeld => ?_)
            · exact keptS hB bx1 bx2
            clear hK K q0 q1 q2 q3 r0 r1 r2 r3
            try simp only [Act.put, List.setIfInBounds_toArray, List.set_cons_zero, List.set_cons_succ]
            obtain ⟨w_49, hw⟩ : ∃ x, x = ((((w_48.setCell ⟨c5, 0, none⟩ (.int .i64 za.kind)).setCell ⟨c5, 1, none⟩ (.int .i64 za.tok.1)).setCell ⟨c5, 2, none⟩ (.string za.tok.2)).setCell ⟨c5, 3, none⟩ (.slice A1 za.kids.length eA)) := ⟨_, rfl⟩
            rw [← hw] at hst hot hB hsz hHeld
            rw [← hw]
            have h5 := hst
            have h6 := (hot c6 (Ne.symm hcc)).trans h6
            have kA : KidsP (fun b => b ≠ c5 ∧ b ≠ c6) w_49 A1 za.kids := kA.kept (Nat.le_of_eq hsz.symm) (fun b hp _ => hot b hp.1) (fun b h _ => h)
            have kB : KidsP (fun b => b ≠ c5 ∧ b ≠ c6) w_49 B1 zb.kids := kB.kept (Nat.le_of_eq hsz.symm) (fun b hp _ => hot b hp.1) (fun b h _ => h)
            have kH : IntsP (fun b => b ≠ c5 ∧ b ≠ c6) w_49 Ar R := kH.kept (Nat.le_of_eq hsz.symm) (fun b hp _ => hot b hp.1) (fun b h _ => h)
            clear hw hst hot hsz
            refine wpAnyH_take (i := 9) (oi := ⟨some 8, _, _, _, _, _⟩) (v := ?_) rfl (by kernel_rfl) (by kernel_rfl) (by kernel_rfl) (fun _ _ _ h => h) (Or.inl ⟨by rfl, ?hy⟩) (by assumption) ?_
            case hy => (intro w hSw; (try dsimp only at hSw); go_simp; (try with_reducible rfl))
            try simp only [Act.put, List.setIfInBounds_toArray, List.set_cons_zero, List.set_cons_succ]
            refine wpAnyH_ready (rs := [10]) (by kernel_rfl) (by simp) ?_
            refine AllReadyH.cons (o := ⟨none, _, _, _, _, _⟩) rfl (fun K hK => ?_) AllReadyH.nil
            have q0 := Lib.cell_of_heap h6 0
            have q1 := Lib.cell_of_heap h6 1
            have q2 := Lib.cell_of_heap h6 2
            have q3 := Lib.cell_of_heap h6 3
            have r0 := frozen_block (j := 0) h6
            have r1 := frozen_block (j := 1) h6
            have r2 := frozen_block (j := 2) h6
            have r3 := frozen_block (j := 3) h6
            have hst := set4 (v0 := .int .i64 zb.kind) (v1 := .int .i64 zb.tok.1) (v2 := .string zb.tok.2) (v3 := .slice B1 zb.kids.length eB) h6
            have hsz : ((((w_49.setCell ⟨c6, 0, none⟩ (.int .i64 zb.kind)).setCell ⟨c6, 1, none⟩ (.int .i64 zb.tok.1)).setCell ⟨c6, 2, none⟩ (.string zb.tok.2)).setCell ⟨c6, 3, none⟩ (.slice B1 zb.kids.length eB)).heap.size = w_49.heap.size := size4
            have hB : Below w0.heap.size w0 ((((w_49.setCell ⟨c6, 0, none⟩ (.int .i64 zb.kind)).setCell ⟨c6, 1, none⟩ (.int .i64 zb.tok.1)).setCell ⟨c6, 2, none⟩ (.string zb.tok.2)).setCell ⟨c6, 3, none⟩ (.slice B1 zb.kids.length eB)) := below4 hB g6
            have hot : ∀ b, b ≠ c6 → ((((w_49.setCell ⟨c6, 0, none⟩ (.int .i64 zb.kind)).setCell ⟨c6, 1, none⟩ (.int .i64 zb.tok.1)).setCell ⟨c6, 2, none⟩ (.string zb.tok.2)).setCell ⟨c6, 3, none⟩ (.slice B1 zb.kids.length eB)).heap[b]? = w_49.heap[b]? := fun b hb => other4 hb
            go_simp
            refine hK.out _ _ ?_ (fun hHeld => ?_)
            · exact keptS hB bx1 bx2
            clear hK K q0 q1 q2 q3 r0 r1 r2 r3
            try simp only [Act.put, List.setIfInBounds_toArray, List.set_cons_zero, List.set_cons_succ]
            obtain ⟨w_50, hw⟩ : ∃ x, x = ((((w_49.setCell ⟨c6, 0, none⟩ (.int .i64 zb.kind)).setCell ⟨c6, 1, none⟩ (.int .i64 zb.tok.1)).setCell ⟨c6, 2, none⟩ (.string zb.tok.2)).setCell ⟨c6, 3, none⟩ (.slice B1 zb.kids.length eB)) := ⟨_, rfl⟩
            rw [← hw] at hst hot hB hsz hHeld
            rw [← hw]
            have h6 := hst
            have h5 := (hot c5 hcc).trans h5
            have kA : KidsP (fun b => b ≠ c5 ∧ b ≠ c6) w_50 A1 za.kids := kA.kept (Nat.le_of_eq hsz.symm) (fun b hp _ => hot b hp.2) (fun b h _ => h)
            have kB : KidsP (fun b => b ≠ c5 ∧ b ≠ c6) w_50 B1 zb.kids := kB.kept (Nat.le_of_eq hsz.symm) (fun b hp _ => hot b hp.2) (fun b h _ => h)
            have kH : IntsP (fun b => b ≠ c5 ∧ b ≠ c6) w_50 Ar R := kH.kept (Nat.le_of_eq hsz.symm) (fun b hp _ => hot b hp.2) (fun b h _ => h)
            clear hw hst hot hsz
            refine wpAnyH_done (by kernel_rfl) ?_ _
            go_wp2_with fail
            go_meet
            exact ⟨c5, c6, A1, eA, B1, eB, Ar, cr, rfl, rfl, rfl, gA, gB, gH, kA, kB, kH, h5, h6, HB0.out.trans (hB.mono HB0.out.size)⟩
          · go_simp
            have hal : Below w_46.heap.size w_46 (w_46.alloc (.cells #[.int .i64 0, .int .i64 0, .string { data := #[] }, .slice none 0 0] 26)) := (Below.refl _ _).alloc (Nat.le_refl _) _
            refine hK.out _ _ ?_ (fun hHeld => ?_)
            · exact keptS (hB.trans (hal.mono hB.size)) bx1 bx2
            clear hK K
            try simp only [Act.put, List.setIfInBounds_toArray, List.set_cons_zero, List.set_cons_succ]
            obtain ⟨c5, hc⟩ : ∃ c, c = w_46.heap.size := ⟨_, rfl⟩
            obtain ⟨w_51, hw⟩ : ∃ x, x = w_46.alloc (.cells #[.int .i64 0, .int .i64 0, .string { data := #[] }, .slice none 0 0] 26) := ⟨_, rfl⟩
            rw [← hw] at hal
            have g5 : w0.heap.size ≤ c5 := by rw [hc]; exact hB.size
            have hcc : c5 ≠ c6 := by have hlt : c6 < w_46.heap.size := (Array.getElem?_eq_some_iff.1 h6).1; omega
            have kA : KidsP (fun b => b ≠ c5 ∧ b ≠ c6) w_51 A1 za.kids := kA.kept hal.size (fun b _ hb => hal.block b hb) (fun b h hb => ⟨Nat.ne_of_lt (by rw [hc]; exact hb), h⟩)
            have kH : IntsP (fun b => b ≠ c5 ∧ b ≠ c6) w_51 Ar R := kH.kept hal.size (fun b _ hb => hal.block b hb) (fun b h hb => ⟨Nat.ne_of_lt (by rw [hc]; exact hb), h⟩)
            have h6 := keepB h6 hal
            have hB : Below w0.heap.size w0 w_51 := hB.trans (hal.mono hB.size)
            have h5 : w_51.heap[c5]? = some (.cells #[.int .i64 0, .int .i64 0, .string { data := #[] }, .slice none 0 0] 26 (0, 0)) := by rw [hw, hc]; exact heap_alloc_new _ _
            rw [← hw] at hHeld
            rw [← hw]
            rw [← hc]
            clear hw hc hal
            refine wpAnyH_ready (rs := [5]) (by kernel_rfl) (by simp) ?_
            refine AllReadyH.cons (o := ⟨some 18, _, _, _, _, _⟩) rfl (fun K hK => ?_) AllReadyH.nil
            go_simp
            go_at_call 15
            with_reducible refine (HcutB.out _ hB).mono ?_
            rintro e w_52 ⟨vB, rfl, ⟨B1, eB, rfl, gB, kB⟩, hbC⟩
            have l5 : c5 < w_51.heap.size := (Array.getElem?_eq_some_iff.1 h5).1
            have l6 : c6 < w_51.heap.size := (Array.getElem?_eq_some_iff.1 h6).1
            have kB : KidsP (fun b => b ≠ c5 ∧ b ≠ c6) w_52 B1 zb.kids := kB.kept (Nat.le_refl _) (fun _ _ _ => rfl) (fun b hb _ => ⟨fun e => by omega, fun e => by omega⟩)
            have h5 := keepB h5 hbC
            have h6 := keepB h6 hbC
            have kA : KidsP (fun b => b ≠ c5 ∧ b ≠ c6) w_52 A1 za.kids := kA.kept hbC.size (fun b _ hb => hbC.block b hb) (fun b h _ => h)
            have kH : IntsP (fun b => b ≠ c5 ∧ b ≠ c6) w_52 Ar R := kH.kept hbC.size (fun b _ hb => hbC.block b hb) (fun b h _ => h)
            have hB : Below w0.heap.size w0 w_52 := hB.trans (hbC.mono hB.size)
            refine hK.out _ _ ?_ (fun hHeld => ?_)
            · exact keptS hB bx1 bx2
            clear hK K hbC l5 l6
            try simp only [Act.put, List.setIfInBounds_toArray, List.set_cons_zero, List.set_cons_succ]
            refine wpAnyH_ready (rs := [8]) (by kernel_rfl) (by simp) ?_
            refine AllReadyH.cons (o := ⟨none, _, _, _, _, _⟩) rfl (fun K hK => ?_) AllReadyH.nil
            have q0 := Lib.cell_of_heap h5 0
            have q1 := Lib.cell_of_heap h5 1
            have q2 := Lib.cell_of_heap h5 2
            have q3 := Lib.cell_of_heap h5 3
            have r0 := frozen_block (j := 0) h5
            have r1 := frozen_block (j := 1) h5
            have r2 := frozen_block (j := 2) h5
            have r3 := frozen_block (j := 3) h5
            have hst := set4 (v0 := .int .i64 za.kind) (v1 := .int .i64 za.tok.1) (v2 := .string za.tok.2) (v3 := .slice A1 za.kids.length eA) h5
            have hsz : ((((w_52.setCell ⟨c5, 0, none⟩ (.int .i64 za.kind)).setCell ⟨c5, 1, none⟩ (.int .i64 za.tok.1)).setCell ⟨c5, 2, none⟩ (.string za.tok.2)).setCell ⟨c5, 3, none⟩ (.slice A1 za.kids.length eA)).heap.size = w_52.heap.size := size4
            have hB : Below w0.heap.size w0 ((((w_52.setCell ⟨c5, 0, none⟩ (.int .i64 za.kind)).setCell ⟨c5, 1, none⟩ (.int .i64 za.tok.1)).setCell ⟨c5, 2, none⟩ (.string za.tok.2)).setCell ⟨c5, 3, none⟩ (.slice A1 za.kids.length eA)) := below4 hB g5
            have hot : ∀ b, b ≠ c5 → ((((w_52.setCell ⟨c5, 0, none⟩ (.int .i64 za.kind)).setCell ⟨c5, 1, none⟩ (.int .i64 za.tok.1)).setCell ⟨c5, 2, none⟩ (.string za.tok.2)).setCell ⟨c5, 3, none⟩ (.slice A1 za.kids.length eA)).heap[b]? = w_52.heap[b]? := fun b hb => other4 hb
            go_simp
            refine hK.out _ _ ?_ (fun hHeld => ?_)
            · exact keptS hB bx1 bx2
            clear hK K q0 q1 q2 q3 r0 r1 r2 r3
            try simp only [Act.put, List.setIfInBounds_toArray, List.set_cons_zero, List.set_cons_succ]
            obtain ⟨w_53, hw⟩ : ∃ x, x = ((((w_52.setCell ⟨c5, 0, none⟩ (.int .i64 za.kind)).setCell ⟨c5, 1, none⟩ (.int .i64 za.tok.1)).setCell ⟨c5, 2, none⟩ (.string za.tok.2)).setCell ⟨c5, 3, none⟩ (.slice A1 za.kids.length eA)) := ⟨_, rfl⟩
            rw [← hw] at hst hot hB hsz hHeld
            rw [← hw]
            have h5 := hst
            have h6 := (hot c6 (Ne.symm hcc)).trans h6
            have kA : KidsP (fun b => b ≠ c5 ∧ b ≠ c6) w_53 A1 za.kids := kA.kept (Nat.le_of_eq hsz.symm) (fun b hp _ => hot b hp.1) (fun b h _ => h)
            have kB : KidsP (fun b => b ≠ c5 ∧ b ≠ c6) w_53 B1 zb.kids := kB.kept (Nat.le_of_eq hsz.symm) (fun b hp _ => hot b hp.1) (fun b h _ => h)
            have kH : IntsP (fun b => b ≠ c5 ∧ b ≠ c6) w_53 Ar R := kH.kept (Nat.le_of_eq hsz.symm) (fun b hp _ => hot b hp.1) (fun b h _ => h)
            clear hw hst hot hsz
            refine wpAnyH_take (i := 9) (oi := ⟨some 8, _, _, _, _, _⟩) (v := ?_) rfl (by kernel_rfl) (by kernel_rfl) (by kernel_rfl) (fun _ _ _ h => h) (Or.inl ⟨by rfl, ?hy⟩) (by assumption) ?_
            case hy => (intro w hSw; (try dsimp only at hSw); go_simp; (try with_reducible rfl))
            try simp only [Act.put, List.setIfInBounds_toArray, List.set_cons_zero, List.set_cons_succ]
            refine wpAnyH_ready (rs := [10]) (by kernel_rfl) (by simp) ?_
            refine AllReadyH.cons (o := ⟨none, _, _, _, _, _⟩) rfl (fun K hK => ?_) AllReadyH.nil
            have q0 := Lib.cell_of_heap h6 0
            have q1 := Lib.cell_of_heap h6 1
            have q2 := Lib.cell_of_heap h6 2
            have q3 := Lib.cell_of_heap h6 3
            have r0 := frozen_block (j := 0) h6
            have r1 := frozen_block (j := 1) h6
            have r2 := frozen_block (j := 2) h6
            have r3 := frozen_block (j := 3) h6
            have hst := set4 (v0 := .int .i64 zb.kind) (v1 := .int .i64 zb.tok.1) (v2 := .string zb.tok.2) (v3 := .slice B1 zb.kids.length eB) h6
            have hsz : ((((w_53.setCell ⟨c6, 0, none⟩ (.int .i64 zb.kind)).setCell ⟨c6, 1, none⟩ (.int .i64 zb.tok.1)).setCell ⟨c6, 2, none⟩ (.string zb.tok.2)).setCell ⟨c6, 3, none⟩ (.slice B1 zb.kids.length eB)).heap.size = w_53.heap.size := size4
            have hB : Below w0.heap.size w0 ((((w_53.setCell ⟨c6, 0, none⟩ (.int .i64 zb.kind)).setCell ⟨c6, 1, none⟩ (.int .i64 zb.tok.1)).setCell ⟨c6, 2, none⟩ (.string zb.tok.2)).setCell ⟨c6, 3, none⟩ (.slice B1 zb.kids.length eB)) := below4 hB g6
            have hot : ∀ b, b ≠ c6 → ((((w_53.setCell ⟨c6, 0, none⟩ (.int .i64 zb.kind)).setCell ⟨c6, 1, none⟩ (.int .i64 zb.tok.1)).setCell ⟨c6, 2, none⟩ (.string zb.tok.2)).setCell ⟨c6, 3, none⟩ (.slice B1 zb.kids.length eB)).heap[b]? = w_53.heap[b]? := fun b hb => other4 hb
            go_simp
            refine hK.out _ _ ?_ (fun hHeld => ?_)
            · exact keptS hB bx1 bx2
            clear hK K q0 q1 q2 q3 r0 r1 r2 r3
            try simp only [Act.put, List.setIfInBounds_toArray, List.set_cons_zero, List.set_cons_succ]
            obtain ⟨w_54, hw⟩ : ∃ x, x = ((((w_53.setCell ⟨c6, 0, none⟩ (.int .i64 zb.kind)).setCell ⟨c6, 1, none⟩ (.int .i64 zb.tok.1)).setCell ⟨c6, 2, none⟩ (.string zb.tok.2)).setCell ⟨c6, 3, none⟩ (.slice B1 zb.kids.length eB)) := ⟨_, rfl⟩
            rw [← hw] at hst hot hB hsz hHeld
            rw [← hw]
            have h6 := hst
            have h5 := (hot c5 hcc).trans h5
            have kA : KidsP (fun b => b ≠ c5 ∧ b ≠ c6) w_54 A1 za.kids := kA.kept (Nat.le_of_eq hsz.symm) (fun b hp _ => hot b hp.2) (fun b h _ => h)
            have kB : KidsP (fun b => b ≠ c5 ∧ b ≠ c6) w_54 B1 zb.kids := kB.kept (Nat.le_of_eq hsz.symm) (fun b hp _ => hot b hp.2) (fun b h _ => h)
            have kH : IntsP (fun b => b ≠ c5 ∧ b ≠ c6) w_54 Ar R := kH.kept (Nat.le_of_eq hsz.symm) (fun b hp _ => hot b hp.2) (fun b h _ => h)
            clear hw hst hot hsz
            refine wpAnyH_done (by kernel_rfl) ?_ _
            go_wp2_with fail
            go_meet
            exact ⟨c5, c6, A1, eA, B1, eB, Ar, cr, rfl, rfl, rfl, gA, gB, gH, kA, kB, kH, h5, h6, HB0.out.trans (hB.mono HB0.out.size)⟩
        · go_simp
          have hal : Below w_45.heap.size w_45 (w_45.alloc (.cells #[.int .i64 0, .int .i64 0, .string { data := #[] }, .slice none 0 0] 26)) := (Below.refl _ _).alloc (Nat.le_refl _) _
          refine hK.out _ _ ?_ (fun hHeld => ?_)
          · exact keptS (hB.trans (hal.mono hB.size)) bx1 bx2
          clear hK K
          try simp only [Act.put, List.setIfInBounds_toArray, List.set_cons_zero, List.set_cons_succ]
          obtain ⟨c5, hc⟩ : ∃ c, c = w_45.heap.size := ⟨_, rfl⟩
          obtain ⟨w_55, hw⟩ : ∃ x, x = w_45.alloc (.cells #[.int .i64 0, .int .i64 0, .string { data := #[] }, .slice none 0 0] 26) := ⟨_, rfl⟩
          rw [← hw] at hal
          have g5 : w0.heap.size ≤ c5 := by rw [hc]; exact hB.size
          have hcc : c5 ≠ c6 := by have hlt : c6 < w_45.heap.size := (Array.getElem?_eq_some_iff.1 h6).1; omega
          have kA : KidsP (fun b => b ≠ c5 ∧ b ≠ c6) w_55 A1 za.kids := kA.kept hal.size (fun b _ hb => hal.block b hb) (fun b h hb => ⟨Nat.ne_of_lt (by rw [hc]; exact hb), h⟩)
          have h6 := keepB h6 hal
          have hB : Below w0.heap.size w0 w_55 := hB.trans (hal.mono hB.size)
          have h5 : w_55.heap[c5]? = some (.cells #[.int .i64 0, .int .i64 0, .string { data := #[] }, .slice none 0 0] 26 (0, 0)) := by rw [hw, hc]; exact heap_alloc_new _ _
          rw [← hw] at hHeld
          rw [← hw]
          rw [← hc]
          clear hw hc hal
          refine wpAnyH_ready (rs := [3]) (by kernel_rfl) (by simp) ?_
          refine AllReadyH.cons (o := ⟨some 16, _, _, _, _, _⟩) rfl (fun K hK => ?_) AllReadyH.nil
          go_simp
          go_at_call 36
          with_reducible refine (HSh.out _ (HEA.out _ hB)).mono ?_
          rintro e w_56 ⟨vH, rfl, hrow, hbC⟩
          obtain ⟨Ar, cr, rfl, gH, kH⟩ := IntsP.of_own hrow
          have l5 : c5 < w_55.heap.size := (Array.getElem?_eq_some_iff.1 h5).1
          have l6 : c6 < w_55.heap.size := (Array.getElem?_eq_some_iff.1 h6).1
          have kH : IntsP (fun b => b ≠ c5 ∧ b ≠ c6) w_56 Ar R := kH.kept (Nat.le_refl _) (fun _ _ _ => rfl) (fun b hb _ => ⟨fun e => by omega, fun e => by omega⟩)
          have h5 := keepB h5 hbC
          have h6 := keepB h6 hbC
          have kA : KidsP (fun b => b ≠ c5 ∧ b ≠ c6) w_56 A1 za.kids := kA.kept hbC.size (fun b _ hb => hbC.block b hb) (fun b h _ => h)
          have hB : Below w0.heap.size w0 w_56 := hB.trans (hbC.mono hB.size)
          refine hK.out _ _ ?_ (fun hHeld => ?_)
          · exact keptS hB bx1 bx2
          clear hK K hbC hrow l5 l6
          try simp only [Act.put, List.setIfInBounds_toArray, List.set_cons_zero, List.set_cons_succ]
          refine wpAnyH_ready (rs := [5]) (by kernel_rfl) (by simp) ?_
          refine AllReadyH.cons (o := ⟨some 18, _, _, _, _, _⟩) rfl (fun K hK => ?_) AllReadyH.nil
          go_simp
          go_at_call 15
          with_reducible refine (HcutB.out _ hB).mono ?_
          rintro e w_57 ⟨vB, rfl, ⟨B1, eB, rfl, gB, kB⟩, hbC⟩
          have l5 : c5 < w_56.heap.size := (Array.getElem?_eq_some_iff.1 h5).1
          have l6 : c6 < w_56.heap.size := (Array.getElem?_eq_some_iff.1 h6).1
          have kB : KidsP (fun b => b ≠ c5 ∧ b ≠ c6) w_57 B1 zb.kids := kB.kept (Nat.le_refl _) (fun _ _ _ => rfl) (fun b hb _ => ⟨fun e => by omega, fun e => by omega⟩)
          have h5 := keepB h5 hbC
          have h6 := keepB h6 hbC
          have kA : KidsP (fun b => b ≠ c5 ∧ b ≠ c6) w_57 A1 za.kids := kA.kept hbC.size (fun b _ hb => hbC.block b hb) (fun b h _ => h)
          have kH : IntsP (fun b => b ≠ c5 ∧ b ≠ c6) w_57 Ar R := kH.kept hbC.size (fun b _ hb => hbC.block b hb) (fun b h _ => h)
          have hB : Below w0.heap.size w0 w_57 := hB.trans (hbC.mono hB.size)
          refine hK.out _ _ ?_ (fun hHeld => ?_)
          · exact keptS hB bx1 bx2
          clear hK K hbC l5 l6
          try simp only [Act.put, List.setIfInBounds_toArray, List.set_cons_zero, List.set_cons_succ]
          refine wpAnyH_ready (rs := [8]) (by kernel_rfl) (by simp) ?_
          refine AllReadyH.cons (o := ⟨none, _, _, _, _, _⟩) rfl (fun K hK => ?_) AllReadyH.nil
          have q0 := Lib.cell_of_heap h5 0
          have q1 := Lib.cell_of_heap h5 1
          have q2 := Lib.cell_of_heap h5 2
          have q3 := Lib.cell_of_heap h5 3
          have r0 := frozen_block (j := 0) h5
          have r1 := frozen_block (j := 1) h5
          have r2 := frozen_block (j := 2) h5
          have r3 := frozen_block (j := 3) h5
          have hst := set4 (v0 := .int .i64 za.kind) (v1 := .int .i64 za.tok.1) (v2 := .string za.tok.2) (v3 := .slice A1 za.kids.length eA) h5
          have hsz : ((((w_57.setCell ⟨c5, 0, none⟩ (.int .i64 za.kind)).setCell ⟨c5, 1, none⟩ (.int .i64 za.tok.1)).setCell ⟨c5, 2, none⟩ (.string za.tok.2)).setCell ⟨c5, 3, none⟩ (.slice A1 za.kids.length eA)).heap.size = w_57.heap.size := size4
          have hB : Below w0.heap.size w0 ((((w_57.setCell ⟨c5, 0, none⟩ (.int .i64 za.kind)).setCell ⟨c5, 1, none⟩ (.int .i64 za.tok.1)).setCell ⟨c5, 2, none⟩ (.string za.tok.2)).setCell ⟨c5, 3, none⟩ (.slice A1 za.kids.length eA)) := below4 hB g5
          have hot : ∀ b, b ≠ c5 → ((((w_57.setCell ⟨c5, 0, none⟩ (.int .i64 za.kind)).setCell ⟨c5, 1, none⟩ (.int .i64 za.tok.1)).setCell ⟨c5, 2, none⟩ (.string za.tok.2)).setCell ⟨c5, 3, none⟩ (.slice A1 za.kids.length eA)).heap[b]? = w_57.heap[b]? := fun b hb => other4 hb
          go_simp
          refine hK.out _ _ ?_ (fun hHeld => ?_)
          · exact keptS hB bx1 bx2
          clear hK K q0 q1 q2 q3 r0 r1 r2 r3
          try simp only [Act.put, List.setIfInBounds_toArray, List.set_cons_zero, List.set_cons_succ]
          obtain ⟨w_58, hw⟩ : ∃ x, x = ((((w_57.setCell ⟨c5, 0, none⟩ (.int .i64 za.kind)).setCell ⟨c5, 1, none⟩ (.int .i64 za.tok.1)).setCell ⟨c5, 2, none⟩ (.string za.tok.2)).setCell ⟨c5, 3, none⟩ (.slice A1 za.kids.length eA)) := ⟨_, rfl⟩
          rw [← hw] at hst hot hB hsz hHeld
          rw [← hw]
          have h5 := hst
          have h6 := (hot c6 (Ne.symm hcc)).trans h6
          have kA : KidsP (fun b => b ≠ c5 ∧ b ≠ c6) w_58 A1 za.kids := kA.kept (Nat.le_of_eq hsz.symm) (fun b hp _ => hot b hp.1) (fun b h _ => h)
          have kB : KidsP (fun b => b ≠ c5 ∧ b ≠ c6) w_58 B1 zb.kids := kB.kept (Nat.le_of_eq hsz.symm) (fun b hp _ => hot b hp.1) (fun b h _ => h)
          have kH : IntsP (fun b => b ≠ c5 ∧ b ≠ c6) w_58 Ar R := kH.kept (Nat.le_of_eq hsz.symm) (fun b hp _ => hot b hp.1) (fun b h _ => h)
          clear hw hst hot hsz
          refine wpAnyH_take (i := 9) (oi := ⟨some 8, _, _, _, _, _⟩) (v := ?_) rfl (by kernel_rfl) (by kernel_rfl) (by kernel_rfl) (fun _ _ _ h => h) (Or.inl ⟨by rfl, ?hy⟩) (by assumption) ?_
          case hy => (intro w hSw; (try dsimp only at hSw); go_simp; (try with_reducible rfl))
          try simp only [Act.put, List.setIfInBounds_toArray, List.set_cons_zero, List.set_cons_succ]
          refine wpAnyH_ready (rs := [10]) (by kernel_rfl) (by simp) ?_
          refine AllReadyH.cons (o := ⟨none, _, _, _, _, _⟩) rfl (fun K hK => ?_) AllReadyH.nil
          have q0 := Lib.cell_of_heap h6 0
          have q1 := Lib.cell_of_heap h6 1
          have q2 := Lib.cell_of_heap h6 2
          have q3 := Lib.cell_of_heap h6 3
          have r0 := frozen_block (j := 0) h6
          have r1 := frozen_block (j := 1) h6
          have r2 := frozen_block (j := 2) h6
          have r3 := frozen_block (j := 3) h6
          have hst := set4 (v0 := .int .i64 zb.kind) (v1 := .int .i64 zb.tok.1) (v2 := .string zb.tok.2) (v3 := .slice B1 zb.kids.length eB) h6
          have hsz : ((((w_58.setCell ⟨c6, 0, none⟩ (.int .i64 zb.kind)).setCell ⟨c6, 1, none⟩ (.int .i64 zb.tok.1)).setCell ⟨c6, 2, none⟩ (.string zb.tok.2)).setCell ⟨c6, 3, none⟩ (.slice B1 zb.kids.length eB)).heap.size = w_58.heap.size := size4
          have hB : Below w0.heap.size w0 ((((w_58.setCell ⟨c6, 0, none⟩ (.int .i64 zb.kind)).setCell ⟨c6, 1, none⟩ (.int .i64 zb.tok.1)).setCell ⟨c6, 2, none⟩ (.string zb.tok.2)).setCell ⟨c6, 3, none⟩ (.slice B1 zb.kids.length eB)) := below4 hB g6
          have hot : ∀ b, b ≠ c6 → ((((w_58.setCell ⟨c6, 0, none⟩ (.int .i64 zb.kind)).setCell ⟨c6, 1, none⟩ (.int .i64 zb.tok.1)).setCell ⟨c6, 2, none⟩ (.string zb.tok.2)).setCell ⟨c6, 3, none⟩ (.slice B1 zb.kids.length eB)).heap[b]? = w_58.heap[b]? := fun b hb => other4 hb
          go_simp
          refine hK.out _ _ ?_ (fun hHeld => ?_)
          · exact keptS hB bx1 bx2
          clear hK K q0 q1 q2 q3 r0 r1 r2 r3
          try simp only [Act.put, List.setIfInBounds_toArray, List.set_cons_zero, List.set_cons_succ]
          obtain ⟨w_59, hw⟩ : ∃ x, x = ((((w_58.setCell ⟨c6, 0, none⟩ (.int .i64 zb.kind)).setCell ⟨c6, 1, none⟩ (.int .i64 zb.tok.1)).setCell ⟨c6, 2, none⟩ (.string zb.tok.2)).setCell ⟨c6, 3, none⟩ (.slice B1 zb.kids.length eB)) := ⟨_, rfl⟩
          rw [← hw] at hst hot hB hsz hHeld
          rw [← hw]
          have h6 := hst
          have h5 := (hot c5 hcc).trans h5
          have kA : KidsP (fun b => b ≠ c5 ∧ b ≠ c6) w_59 A1 za.kids := kA.kept (Nat.le_of_eq hsz.symm) (fun b hp _ => hot b hp.2) (fun b h _ => h)
          have kB : KidsP (fun b => b ≠ c5 ∧ b ≠ c6) w_59 B1 zb.kids := kB.kept (Nat.le_of_eq hsz.symm) (fun b hp _ => hot b hp.2) (fun b h _ => h)
          have kH : IntsP (fun b => b ≠ c5 ∧ b ≠ c6) w_59 Ar R := kH.kept (Nat.le_of_eq hsz.symm) (fun b hp _ => hot b hp.2) (fun b h _ => h)
          clear hw hst hot hsz
          refine wpAnyH_done (by kernel_rfl) ?_ _
          go_wp2_with fail
          go_meet
          exact ⟨c5, c6, A1, eA, B1, eB, Ar, cr, rfl, rfl, rfl, gA, gB, gH, kA, kB, kH, h5, h6, HB0.out.trans (hB.mono HB0.out.size)⟩
    · go_simp
      have hal : Below w_0.heap.size w_0 (w_0.alloc (.cells #[.int .i64 0, .int .i64 0, .string { data := #[] }, .slice none 0 0] 26)) := (Below.refl _ _).alloc (Nat.le_refl _) _
      refine hK.out _ _ ?_ (fun hHeld => ?_)
      · exact keptS (hB.trans (hal.mono hB.size)) bx1 bx2
      clear hK K
      try simp only [Act.put, List.setIfInBounds_toArray, List.set_cons_zero, List.set_cons_succ]
      obtain ⟨c5, hc⟩ : ∃ c, c = w_0.heap.size := ⟨_, rfl⟩
      obtain ⟨w_60, hw⟩ : ∃ x, x = w_0.alloc (.cells #[.int .i64 0, .int .i64 0, .string { data := #[] }, .slice none 0 0] 26) := ⟨_, rfl⟩
      rw [← hw] at hal
      have g5 : w0.heap.size ≤ c5 := by rw [hc]; exact hB.size
      have hB : Below w0.heap.size w0 w_60 := hB.trans (hal.mono hB.size)
      have h5 : w_60.heap[c5]? = some (.cells #[.int .i64 0, .int .i64 0, .string { data := #[] }, .slice none 0 0] 26 (0, 0)) := by rw [hw, hc]; exact heap_alloc_new _ _
      rw [← hw] at hHeld
      rw [← hw]
      rw [← hc]
      clear hw hc hal
      refine wpAnyH_ready (rs := [1, 7]) (by kernel_rfl) (by simp) ?_
      refine AllReadyH.cons (o := ⟨some 14, _, _, _, _, _⟩) rfl (fun K hK => ?_) (AllReadyH.cons (o := ⟨some 9, _, _, _, _, _⟩) rfl (fun K hK => ?_) AllReadyH.nil)
      · go_simp
        go_at_call 15
        with_reducible refine (HcutA.out _ hB).mono ?_
        rintro e w_61 ⟨vA, rfl, ⟨A1, eA, rfl, gA, kA⟩, hbC⟩
        have l5 : c5 < w_60.heap.size := (Array.getElem?_eq_some_iff.1 h5).1
        have kA : KidsP (fun b => b ≠ c5) w_61 A1 za.kids := kA.kept (Nat.le_refl _) (fun _ _ _ => rfl) (fun b hb _ => (fun e => by omega))
        have h5 := keepB h5 hbC
        have hB : Below w0.heap.size w0 w_61 := hB.trans (hbC.mono hB.size)
        refine hK.out _ _ ?_ (fun hHeld => ?_)
        · exact keptS hB bx1 bx2
        clear hK K hbC l5
        try simp only [Act.put, List.setIfInBounds_toArray, List.set_cons_zero, List.set_cons_succ]
        refine wpAnyH_ready (rs := [3, 7]) (by kernel_rfl) (by simp) ?_
        refine AllReadyH.cons (o := ⟨some 16, _, _, _, _, _⟩) rfl (fun K hK => ?_) (AllReadyH.cons (o := ⟨some 9, _, _, _, _, _⟩) rfl (fun K hK => ?_) AllReadyH.nil)
        · go_simp
          go_at_call 36
          with_reducible refine (HSh.out _ (HEA.out _ hB)).mono ?_
          rintro e w_62 ⟨vH, rfl, hrow, hbC⟩
          obtain ⟨Ar, cr, rfl, gH, kH⟩ := IntsP.of_own hrow
          have l5 : c5 < w_61.heap.size := (Array.getElem?_eq_some_iff.1 h5).1
          have kH : IntsP (fun b => b ≠ c5) w_62 Ar R := kH.kept (Nat.le_refl _) (fun _ _ _ => rfl) (fun b hb _ => (fun e => by omega))
          have h5 := keepB h5 hbC
          have kA : KidsP (fun b => b ≠ c5) w_62 A1 za.kids := kA.kept hbC.size (fun b _ hb => hbC.block b hb) (fun b h _ => h)
          have hB : Below w0.heap.size w0 w_62 := hB.trans (hbC.mono hB.size)
          refine hK.out _ _ ?_ (fun hHeld => ?_)
          · exact keptS hB bx1 bx2
          clear hK K hbC hrow l5
          try simp only [Act.put, List.setIfInBounds_toArray, List.set_cons_zero, List.set_cons_succ]
          refine wpAnyH_ready (rs := [5, 7]) (by kernel_rfl) (by simp) ?_
          refine AllReadyH.cons (o := ⟨some 18, _, _, _, _, _⟩) rfl (fun K hK => ?_) (AllReadyH.cons (o := ⟨some 9, _, _, _, _, _⟩) rfl (fun K hK => ?_) AllReadyH.nil)
          · go_simp
            go_at_call 15
            with_reducible refine (HcutB.out _ hB).mono ?_
            rintro e w_63 ⟨vB, rfl, ⟨B1, eB, rfl, gB, kB⟩, hbC⟩
            have l5 : c5 < w_62.heap.size := (Array.getElem?_eq_some_iff.1 h5).1
            have kB : KidsP (fun b => b ≠ c5) w_63 B1 zb.kids := kB.kept (Nat.le_refl _) (fun _ _ _ => rfl) (fun b hb _ => (fun e => by omega))
            have h5 := keepB h5 hbC
            have kA : KidsP (fun b => b ≠ c5) w_63 A1 za.kids := kA.kept hbC.size (fun b _ hb => hbC.block b hb) (fun b h _ => h)
            have kH : IntsP (fun b => b ≠ c5) w_63 Ar R := kH.kept hbC.size (fun b _ hb => hbC.block b hb) (fun b h _ => h)
            have hB : Below w0.heap.size w0 w_63 := hB.trans (hbC.mono hB.size)
            refine hK.out _ _ ?_ (fun hHeld => ?_)
            · exact keptS hB bx1 bx2
            clear hK K hbC l5
            try simp only [Act.put, List.setIfInBounds_toArray, List.set_cons_zero, List.set_cons_succ]
            refine wpAnyH_ready (rs := [7]) (by kernel_rfl) (by simp) ?_
            refine AllReadyH.cons (o := ⟨some 9, _, _, _, _, _⟩) rfl (fun K hK => ?_) AllReadyH.nil
            go_simp
            have hal : Below w_63.heap.size w_63 (w_63.alloc (.cells #[.int .i64 0, .int .i64 0, .string { data := #[] }, .slice none 0 0] 26)) := (Below.refl _ _).alloc (Nat.le_refl _) _
            refine hK.out _ _ ?_ (fun hHeld => ?_)
            · exact keptS (hB.trans (hal.mono hB.size)) bx1 bx2
            clear hK K
            try simp only [Act.put, List.setIfInBounds_toArray, List.set_cons_zero, List.set_cons_succ]
            obtain ⟨c6, hc⟩ : ∃ c, c = w_63.heap.size := ⟨_, rfl⟩
            obtain ⟨w_64, hw⟩ : ∃ x, x = w_63.alloc (.cells #[.int .i64 0, .int .i64 0, .string { data := #[] }, .slice none 0 0] 26) := ⟨_, rfl⟩
            rw [← hw] at hal
            have g6 : w0.heap.size ≤ c6 := by rw [hc]; exact hB.size
            have hcc : c5 ≠ c6 := by have hlt : c5 < w_63.heap.size := (Array.getElem?_eq_some_iff.1 h5).1; omega
            have kA : KidsP (fun b => b ≠ c5 ∧ b ≠ c6) w_64 A1 za.kids := kA.kept hal.size (fun b _ hb => hal.block b hb) (fun b h hb => ⟨h, Nat.ne_of_lt (by rw [hc]; exact hb)⟩)
            have kB : KidsP (fun b => b ≠ c5 ∧ b ≠ c6) w_64 B1 zb.kids := kB.kept hal.size (fun b _ hb => hal.block b hb) (fun b h hb => ⟨h, Nat.ne_of_lt (by rw [hc]; exact hb)⟩)
            have kH : IntsP (fun b => b ≠ c5 ∧ b ≠ c6) w_64 Ar R := kH.kept hal.size (fun b _ hb => hal.block b hb) (fun b h hb => ⟨h, Nat.ne_of_lt (by rw [hc]; exact hb)⟩)
            have h5 := keepB h5 hal
            have hB : Below w0.heap.size w0 w_64 := hB.trans (hal.mono hB.size)
            have h6 : w_64.heap[c6]? = some (.cells #[.int .i64 0, .int .i64 0, .string { data := #[] }, .slice none 0 0] 26 (0, 0)) := by rw [hw, hc]; exact heap_alloc_new _ _
            rw [← hw] at hHeld
            rw [← hw]
            rw [← hc]
            clear hw hc hal
            refine wpAnyH_ready (rs := [8]) (by kernel_rfl) (by simp) ?_
            refine AllReadyH.cons (o := ⟨none, _, _, _, _, _⟩) rfl (fun K hK => ?_) AllReadyH.nil
            have q0 := Lib.cell_of_heap h5 0
            have q1 := Lib.cell_of_heap h5 1
            have q2 := Lib.cell_of_heap h5 2
            have q3 := Lib.cell_of_heap h5 3
            have r0 := frozen_block (j := 0) h5
            have r1 := frozen_block (j := 1) h5
            have r2 := frozen_block (j := 2) h5
            have r3 := frozen_block (j := 3) h5
            have hst := set4 (v0 := .int .i64 za.kind) (v1 := .int .i64 za.tok.1) (v2 := .string za.tok.2) (v3 := .slice A1 za.kids.length eA) h5
            have hsz : ((((w_64.setCell ⟨c5, 0, none⟩ (.int .i64 za.kind)).setCell ⟨c5, 1, none⟩ (.int .i64 za.tok.1)).setCell ⟨c5, 2, none⟩ (.string za.tok.2)).setCell ⟨c5, 3, none⟩ (.slice A1 za.kids.length eA)).heap.size = w_64.heap.size := size4
            have hB : Below w0.heap.size w0 ((((w_64.setCell ⟨c5, 0, none⟩ (.int .i64 za.kind)).setCell ⟨c5, 1, none⟩ (.int .i64 za.tok.1)).setCell ⟨c5, 2, none⟩ (.string za.tok.2)).setCell ⟨c5, 3, none⟩ (.slice A1 za.kids.length eA)) := below4 hB g5
            have hot : ∀ b, b ≠ c5 → ((((w_64.setCell ⟨c5, 0, none⟩ (.int .i64 za.kind)).setCell ⟨c5, 1, none⟩ (.int .i64 za.tok.1)).setCell ⟨c5, 2, none⟩ (.string za.tok.2)).setCell ⟨c5, 3, none⟩ (.slice A1 za.kids.length eA)).heap[b]? = w_64.heap[b]? := fun b hb => other4 hb
            go_simp
            refine hK.out _ _ ?_ (fun hHeld => ?_)
            · exact keptS hB bx1 bx2
            clear hK K q0 q1 q2 q3 r0 r1 r2 r3
            try simp only [Act.put, List.setIfInBounds_toArray, List.set_cons_zero, List.set_cons_succ]
            obtain ⟨w_65, hw⟩ : ∃ x, x = ((((w_64.setCell ⟨c5, 0, none⟩ (.int .i64 za.kind)).setCell ⟨c5, 1, none⟩ (.int .i64 za.tok.1)).setCell ⟨c5, 2, none⟩ (.string za.tok.2)).setCell ⟨c5, 3, none⟩ (.slice A1 za.kids.length eA)) := ⟨_, rfl⟩
            rw [← hw] at hst hot hB hsz hHeld
            rw [← hw]
            have h5 := hst
            have h6 := (hot c6 (Ne.symm hcc)).trans h6
            have kA : KidsP (fun b => b ≠ c5 ∧ b ≠ c6) w_65 A1 za.kids := kA.kept (Nat.le_of_eq hsz.symm) (fun b hp _ => hot b hp.1) (fun b h _ => h)
            have kB : KidsP (fun b => b ≠ c5 ∧ b ≠ c6) w_65 B1 zb.kids := kB.kept (Nat.le_of_eq hsz.symm) (fun b hp _ => hot b hp.1) (fun b h _ => h)
            have kH : IntsP (fun b => b ≠ c5 ∧ b ≠ c6) w_65 Ar R := kH.kept (Nat.le_of_eq hsz.symm) (fun b hp _ => hot b hp.1) (fun b h _ => h)
            clear hw hst hot hsz
            refine wpAnyH_take (i := 9) (oi := ⟨some 8, _, _, _, _, _⟩) (v := ?_) rfl (by kernel_rfl) (by kernel_rfl) (by kernel_rfl) (fun _ _ _ h => h) (Or.inl ⟨by rfl, ?hy⟩) (by assumption) ?_
            case hy => (intro w hSw; (try dsimp only at hSw); go_simp; (try with_reducible rfl))
            try simp only [Act.put, List.setIfInBounds_toArray, List.set_cons_zero, List.set_cons_succ]
            refine wpAnyH_ready (rs := [10]) (by kernel_rfl) (by simp) ?_
            refine AllReadyH.cons (o := ⟨none, _, _, _, _, _⟩) rfl (fun K hK => ?_) AllReadyH.nil
            have q0 := Lib.cell_of_heap h6 0
            have q1 := Lib.cell_of_heap h6 1
            have q2 := Lib.cell_of_heap h6 2
            have q3 := Lib.cell_of_heap h6 3
            have r0 := frozen_block (j := 0) h6
            have r1 := frozen_block (j := 1) h6
            have r2 := frozen_block (j := 2) h6
            have r3 := frozen_block (j := 3) h6
            have hst := set4 (v0 := .int .i64 zb.kind) (v1 := .int .i64 zb.tok.1) (v2 := .string zb.tok.2) (v3 := .slice B1 zb.kids.length eB) h6
            have hsz : ((((w_65.setCell ⟨c6, 0, none⟩ (.int .i64 zb.kind)).setCell ⟨c6, 1, none⟩ (.int .i64 zb.tok.1)).setCell ⟨c6, 2, none⟩ (.string zb.tok.2)).setCell ⟨c6, 3, none⟩ (.slice B1 zb.kids.length eB)).heap.size = w_65.heap.size := size4
            have hB : Below w0.heap.size w0 ((((w_65.setCell ⟨c6, 0, none⟩ (.int .i64 zb.kind)).setCell ⟨c6, 1, none⟩ (.int .i64 zb.tok.1)).setCell ⟨c6, 2, none⟩ (.string zb.tok.2)).setCell ⟨c6, 3, none⟩ (.slice B1 zb.kids.length eB)) := below4 hB g6
            have hot : ∀ b, b ≠ c6 → ((((w_65.setCell ⟨c6, 0, none⟩ (.int .i64 zb.kind)).setCell ⟨c6, 1, none⟩ (.int .i64 zb.tok.1)).setCell ⟨c6, 2, none⟩ (.string zb.tok.2)).setCell ⟨c6, 3, none⟩ (.slice B1 zb.kids.length eB)).heap[b]? = w_65.heap[b]? := fun b hb => other4 hb
            go_simp
            refine hK.out _ _ ?_ (fun hHeld => ?_)
            · exact keptS hB bx1 bx2
            clear hK K q0 q1 q2 q3 r0 r1 r2 r3
            try simp only [Act.put, List.setIfInBounds_toArray, List.set_cons_zero, List.set_cons_succ]
            obtain ⟨w_66, hw⟩ : ∃ x, x = ((((w_65.setCell ⟨c6, 0, none⟩ (.int .i64 zb.kind)).setCell ⟨c6, 1, none⟩ (.int .i64 zb.tok.1)).setCell ⟨c6, 2, none⟩ (.string zb.tok.2)).setCell ⟨c6, 3, none⟩ (.slice B1 zb.kids.length eB)) := ⟨_, rfl⟩
            rw [← hw] at hst hot hB hsz hHeld
            rw [← hw]
            have h6 := hst
            have h5 := (hot c5 hcc).trans h5
            have kA : KidsP (fun b => b ≠ c5 ∧ b ≠ c6) w_66 A1 za.kids := kA.kept (Nat.le_of_eq hsz.symm) (fun b hp _ => hot b hp.2) (fun b h _ => h)
            have kB : KidsP (fun b => b ≠ c5 ∧ b ≠ c6) w_66 B1 zb.kids := kB.kept (Nat.le_of_eq hsz.symm) (fun b hp _ => hot b hp.2) (fun b h _ => h)
            have kH : IntsP (fun b => b ≠ c5 ∧ b ≠ c6) w_66 Ar R := kH.kept (Nat.le_of_eq hsz.symm) (fun b hp _ => hot b hp.2) (fun b h _ => h)
            clear hw hst hot hsz
            refine wpAnyH_done (by kernel_rfl) ?_ _
            go_wp2_with fail
            go_meet
            exact ⟨c5, c6, A1, eA, B1, eB, Ar, cr, rfl, rfl, rfl, gA, gB, gH, kA, kB, kH, h5, h6, HB0.out.trans (hB.mono HB0.out.size)⟩
          · go_simp
            have hal : Below w_62.heap.size w_62 (w_62.alloc (.cells #[.int .i64 0, .int .i64 0, .string { data := #[] }, .slice none 0 0] 26)) := (Below.refl _ _).alloc (Nat.le_refl _) _
            refine hK.out _ _ ?_ (fun hHeld => ?_)
            · exact keptS (hB.trans (hal.mono hB.size)) bx1 bx2
            clear hK K
            try simp only [Act.put, List.setIfInBounds_toArray, List.set_cons_zero, List.set_cons_succ]
            obtain ⟨c6, hc⟩ : ∃ c, c = w_62.heap.size := ⟨_, rfl⟩
            obtain ⟨w_67, hw⟩ : ∃ x, x = w_62.alloc (.cells #[.int .i64 0, .int .i64 0, .string { data := #[] }, .slice none 0 0] 26) := ⟨_, rfl⟩
            rw [← hw] at hal
            have g6 : w0.heap.size ≤ c6 := by rw [hc]; exact hB.size
            have hcc : c5 ≠ c6 := by have hlt : c5 < w_62.heap.size := (Array.getElem?_eq_some_iff.1 h5).1; omega
            have kA : KidsP (fun b => b ≠ c5 ∧ b ≠ c6) w_67 A1 za.kids := kA.kept hal.size (fun b _ hb => hal.block b hb) (fun b h hb => ⟨h, Nat.ne_of_lt (by rw [hc]; exact hb)⟩)
            have kH : IntsP (fun b => b ≠ c5 ∧ b ≠ c6) w_67 Ar R := kH.kept hal.size (fun b _ hb => hal.block b hb) (fun b h hb => ⟨h, Nat.ne_of_lt (by rw [hc]; exact hb)⟩)
            have h5 := keepB h5 hal
            have hB : Below w0.heap.size w0 w_67 := hB.trans (hal.mono hB.size)
            have h6 : w_67.heap[c6]? = some (.cells #[.int .i64 0, .int .i64 0, .string { data := #[] }, .slice none 0 0] 26 (0, 0)) := by rw [hw, hc]; exact heap_alloc_new _ _
            rw [← hw] at hHeld
            rw [← hw]
            rw [← hc]
            clear hw hc hal
            refine wpAnyH_ready (rs := [5]) (by kernel_rfl) (by simp) ?_
            refine AllReadyH.cons (o := ⟨some 18, _, _, _, _, _⟩) rfl (fun K hK => ?_) AllReadyH.nil
            go_simp
            go_at_call 15
            with_reducible refine (HcutB.out _ hB).mono ?_
            rintro e w_68 ⟨vB, rfl, ⟨B1, eB, rfl, gB, kB⟩, hbC⟩
            have l5 : c5 < w_67.heap.size := (Array.getElem?_eq_some_iff.1 h5).1
            have l6 : c6 < w_67.heap.size := (Array.getElem?_eq_some_iff.1 h6).1
            have kB : KidsP (fun b => b ≠ c5 ∧ b ≠ c6) w_68 B1 zb.kids := kB.kept (Nat.le_refl _) (fun _ _ _ => rfl) (fun b hb _ => ⟨fun e => by omega, fun e => by omega⟩)
            have h5 := keepB h5 hbC
            have h6 := keepB h6 hbC
            have kA : KidsP (fun b => b ≠ c5 ∧ b ≠ c6) w_68 A1 za.kids := kA.kept hbC.size (fun b _ hb => hbC.block b hb) (fun b h _ => h)
            have kH : IntsP (fun b => b ≠ c5 ∧ b ≠ c6) w_68 Ar R := kH.kept hbC.size (fun b _ hb => hbC.block b hb) (fun b h _ => h)
            have hB : Below w0.heap.size w0 w_68 := hB.trans (hbC.mono hB.size)
            refine hK.out _ _ ?_ (fun hHeld => ?_)
            · exact keptS hB bx1 bx2
            clear hK K hbC l5 l6
            try simp only [Act.put, List.setIfInBounds_toArray, List.set_cons_zero, List.set_cons_succ]
            refine wpAnyH_ready (rs := [8]) (by kernel_rfl) (by simp) ?_
            refine AllReadyH.cons (o := ⟨none, _, _, _, _, _⟩) rfl (fun K hK => ?_) AllReadyH.nil
            have q0 := Lib.cell_of_heap h5 0
            have q1 := Lib.cell_of_heap h5 1
            have q2 := Lib.cell_of_heap h5 2
            have q3 := Lib.cell_of_heap h5 3
            have r0 := frozen_block (j := 0) h5
            have r1 := frozen_block (j := 1) h5
            have r2 := frozen_block (j := 2) h5
            have r3 := frozen_block (j := 3) h5
            have hst := set4 (v0 := .int .i64 za.kind) (v1 := .int .i64 za.tok.1) (v2 := .string za.tok.2) (v3 := .slice A1 za.kids.length eA) h5
            have hsz : ((((w_68.setCell ⟨c5, 0, none⟩ (.int .i64 za.kind)).setCell ⟨c5, 1, none⟩ (.int .i64 za.tok.1)).setCell ⟨c5, 2, none⟩ (.string za.tok.2)).setCell ⟨c5, 3, none⟩ (.slice A1 za.kids.length eA)).heap.size = w_68.heap.size := size4
            have hB : Below w0.heap.size w0 ((((w_68.setCell ⟨c5, 0, none⟩ (.int .i64 za.kind)).setCell ⟨c5, 1, none⟩ (.int .i64 za.tok.1)).setCell ⟨c5, 2, none⟩ (.string za.tok.2)).setCell ⟨c5, 3, none⟩ (.slice A1 za.kids.length eA)) := below4 hB g5
            have hot : ∀ b, b ≠ c5 → ((((w_68.setCell ⟨c5, 0, none⟩ (.int .i64 za.kind)).setCell ⟨c5, 1, none⟩ (.int .i64 za.tok.1)).setCell ⟨c5, 2, none⟩ (.string za.tok.2)).setCell ⟨c5, 3, none⟩ (.slice A1 za.kids.length eA)).heap[b]? = w_68.heap[b]? := fun b hb => other4 hb
            go_simp
            refine hK.out _ _ ?_ (fun hHeld => ?_)
            · exact keptS hB bx1 bx2
            clear hK K q0 q1 q2 q3 r0 r1 r2 r3
            try simp only [Act.put, List.setIfInBounds_toArray, List.set_cons_zero, List.set_cons_succ]
            obtain ⟨w_69, hw⟩ : ∃ x, x = ((((w_68.setCell ⟨c5, 0, none⟩ (.int .i64 za.kind)).setCell ⟨c5, 1, none⟩ (.int .i64 za.tok.1)).setCell ⟨c5, 2, none⟩ (.string za.tok.2)).setCell ⟨c5, 3, none⟩ (.slice A1 za.kids.length eA)) := ⟨_, rfl⟩
            rw [← hw] at hst hot hB hsz hHeld
            rw [← hw]
            have h5 := hst
            have h6 := (hot c6 (Ne.symm hcc)).trans h6
            have kA : KidsP (fun b => b ≠ c5 ∧ b ≠ c6) w_69 A1 za.kids := kA.kept (Nat.le_of_eq hsz.symm) (fun b hp _ => hot b hp.1) (fun b h _ => h)
            have kB : KidsP (fun b => b ≠ c5 ∧ b ≠ c6) w_69 B1 zb.kids := kB.kept (Nat.le_of_eq hsz.symm) (fun b hp _ => hot b hp.1) (fun b h _ => h)
            have kH : IntsP (fun b => b ≠ c5 ∧ b ≠ c6) w_69 Ar R := kH.kept (Nat.le_of_eq hsz.symm) (fun b hp _ => hot b hp.1) (fun b h _ => h)
            clear hw hst hot hsz
            refine wpAnyH_take (i := 9) (oi := ⟨some 8, _, _, _, _, _⟩) (v := ?_) rfl (by kernel_rfl) (by kernel_rfl) (by kernel_rfl) (fun _ _ _ h => h) (Or.inl ⟨by rfl, ?hy⟩) (by assumption) ?_
            case hy => (intro w hSw; (try dsimp only at hSw); go_simp; (try with_reducible rfl))
            try simp only [Act.put, List.setIfInBounds_toArray, List.set_cons_zero, List.set_cons_succ]
            refine wpAnyH_ready (rs := [10]) (by kernel_rfl) (by simp) ?_
            refine AllReadyH.cons (o := ⟨none, _, _, _, _, _⟩) rfl (fun K hK => ?_) AllReadyH.nil
            have q0 := Lib.cell_of_heap h6 0
            have q1 := Lib.cell_of_heap h6 1
            have q2 := Lib.cell_of_heap h6 2
            have q3 := Lib.cell_of_heap h6 3
            have r0 := frozen_block (j := 0) h6
            have r1 := frozen_block (j := 1) h6
            have r2 := frozen_block (j := 2) h6
            have r3 := frozen_block (j := 3) h6
            have hst := set4 (v0 := .int .i64 zb.kind) (v1 := .int .i64 zb.tok.1) (v2 := .string zb.tok.2) (v3 := .slice B1 zb.kids.length eB) h6
            have hsz : ((((w_69.setCell ⟨c6, 0, none⟩ (.int .i64 zb.kind)).setCell ⟨c6, 1, none⟩ (.int .i64 zb.tok.1)).setCell ⟨c6, 2, none⟩ (.string zb.tok.2)).setCell ⟨c6, 3, none⟩ (.slice B1 zb.kids.length eB)).heap.size = w_69.heap.size := size4
            have hB : Below w0.heap.size w0 ((((w_69.setCell ⟨c6, 0, none⟩ (.int .i64 zb.kind)).setCell ⟨c6, 1, none⟩ (.int .i64 zb.tok.1)).setCell ⟨c6, 2, none⟩ (.string zb.tok.2)).setCell ⟨c6, 3, none⟩ (.slice B1 zb.kids.length eB)) := below4 hB g6
            have hot : ∀ b, b ≠ c6 → ((((w_69.setCell ⟨c6, 0, none⟩ (.int .i64 zb.kind)).setCell ⟨c6, 1, none⟩ (.int .i64 zb.tok.1)).setCell ⟨c6, 2, none⟩ (.string zb.tok.2)).setCell ⟨c6, 3, none⟩ (.slice B1 zb.kids.length eB)).heap[b]? = w_69.heap[b]? := fun b hb => other4 hb
            go_simp
            refine hK.out _ _ ?_ (fun hHeld => ?_)
            · exact keptS hB bx1 bx2
            clear hK K q0 q1 q2 q3 r0 r1 r2 r3
            try simp only [Act.put, List.setIfInBounds_toArray, List.set_cons_zero, List.set_cons_succ]
            obtain ⟨w_70, hw⟩ : ∃ x, x = ((((w_69.setCell ⟨c6, 0, none⟩ (.int .i64 zb.kind)).setCell ⟨c6, 1, none⟩ (.int .i64 zb.tok.1)).setCell ⟨c6, 2, none⟩ (.string zb.tok.2)).setCell ⟨c6, 3, none⟩ (.slice B1 zb.kids.length eB)) := ⟨_, rfl⟩
            rw [← hw] at hst hot hB hsz hHeld
            rw [← hw]
            have h6 := hst
            have h5 := (hot c5 hcc).trans h5
            have kA : KidsP (fun b => b ≠ c5 ∧ b ≠ c6) w_70 A1 za.kids := kA.kept (Nat.le_of_eq hsz.symm) (fun b hp _ => hot b hp.2) (fun b h _ => h)
            have kB : KidsP (fun b => b ≠ c5 ∧ b ≠ c6) w_70 B1 zb.kids := kB.kept (Nat.le_of_eq hsz.symm) (fun b hp _ => hot b hp.2) (fun b h _ => h)
            have kH : IntsP (fun b => b ≠ c5 ∧ b ≠ c6) w_70 Ar R := kH.kept (Nat.le_of_eq hsz.symm) (fun b hp _ => hot b hp.2) (fun b h _ => h)
            clear hw hst hot hsz
            refine wpAnyH_done (by kernel_rfl) ?_ _
            go_wp2_with fail
            go_meet
            exact ⟨c5, c6, A1, eA, B1, eB, Ar, cr, rfl, rfl, rfl, gA, gB, gH, kA, kB, kH, h5, h6, HB0.out.trans (hB.mono HB0.out.size)⟩
        · go_simp
          have hal : Below w_61.heap.size w_61 (w_61.alloc (.cells #[.int .i64 0, .int .i64 0, .string { data := #[] }, .slice none 0 0] 26)) := (Below.refl _ _).alloc (Nat.le_refl _) _
          refine hK.out _ _ ?_ (fun hHeld => ?_)
          · exact keptS (hB.trans (hal.mono hB.size)) bx1 bx2
          clear hK K
          try simp only [Act.put, List.setIfInBounds_toArray, List.set_cons_zero, List.set_cons_succ]
          obtain ⟨c6, hc⟩ : ∃ c, c = w_61.heap.size := ⟨_, rfl⟩
          obtain ⟨w_71, hw⟩ : ∃ x, x = w_61.alloc (.cells #[.int .i64 0, .int .i64 0, .string { data := #[] }, .slice none 0 0] 26) := ⟨_, rfl⟩
          rw [← hw] at hal
          have g6 : w0.heap.size ≤ c6 := by rw [hc]; exact hB.size
          have hcc : c5 ≠ c6 := by have hlt : c5 < w_61.heap.size := (Array.getElem?_eq_some_iff.1 h5).1; omega
          have kA : KidsP (fun b => b ≠ c5 ∧ b ≠ c6) w_71 A1 za.kids := kA.kept hal.size (fun b _ hb => hal.block b hb) (fun b h hb => ⟨h, Nat.ne_of_lt (by rw [hc]; exact hb)⟩)
          have h5 := keepB h5 hal
          have hB : Below w0.heap.size w0 w_71 := hB.trans (hal.mono hB.size)
          have h6 : w_71.heap[c6]? = some (.cells #[.int .i64 0, .int .i64 0, .string { data := #[] }, .slice none 0 0] 26 (0, 0)) := by rw [hw, hc]; exact heap_alloc_new _ _
          rw [← hw] at hHeld
          rw [← hw]
          rw [← hc]
          clear hw hc hal
          refine wpAnyH_ready (rs := [3]) (by kernel_rfl) (by simp) ?_
          refine AllReadyH.cons (o := ⟨some 16, _, _, _, _, _⟩) rfl (fun K hK => ?_) AllReadyH.nil
          go_simp
          go_at_call 36
          with_reducible refine (HSh.out _ (HEA.out _ hB)).mono ?_
          rintro e w_72 ⟨vH, rfl, hrow, hbC⟩
          obtain ⟨Ar, cr, rfl, gH, kH⟩ := IntsP.of_own hrow
          have l5 : c5 < w_71.heap.size := (Array.getElem?_eq_some_iff.1 h5).1
          have l6 : c6 < w_71.heap.size := (Array.getElem?_eq_some_iff.1 h6).1
          have kH : IntsP (fun b => b ≠ c5 ∧ b ≠ c6) w_72 Ar R := kH.kept (Nat.le_refl _) (fun _ _ _ => rfl) (fun b hb _ => ⟨fun e => by omega, fun e => by omega⟩)
          have h5 := keepB h5 hbC
          have h6 := keepB h6 hbC
          have kA : KidsP (fun b => b ≠ c5 ∧ b ≠ c6) w_72 A1 za.kids := kA.kept hbC.size (fun b _ hb => hbC.block b hb) (fun b h _ => h)
          have hB : Below w0.heap.size w0 w_72 := hB.trans (hbC.mono hB.size)
          refine hK.out _ _ ?_ (fun hHeld => ?_)
          · exact keptS hB bx1 bx2
          clear hK K hbC hrow l5 l6
          try simp only [Act.put, List.setIfInBounds_toArray, List.set_cons_zero, List.set_cons_succ]
          refine wpAnyH_ready (rs := [5]) (by kernel_rfl) (by simp) ?_
          refine AllReadyH.cons (o := ⟨some 18, _, _, _, _, _⟩) rfl (fun K hK => ?_) AllReadyH.nil
          go_simp
          go_at_call 15
          with_reducible refine (HcutB.out _ hB).mono ?_
          rintro e w_73 ⟨vB, rfl, ⟨B1, eB, rfl, gB, kB⟩, hbC⟩
          have l5 : c5 < w_72.heap.size := (Array.getElem?_eq_some_iff.1 h5).1
          have l6 : c6 < w_72.heap.size := (Array.getElem?_eq_some_iff.1 h6).1
          have kB : KidsP (fun b => b ≠ c5 ∧ b ≠ c6) w_73 B1 zb.kids := kB.kept (Nat.le_refl _) (fun _ _ _ => rfl) (fun b hb _ => ⟨fun e => by omega, fun e => by omega⟩)
          have h5 := keepB h5 hbC
          have h6 := keepB h6 hbC
          have kA : KidsP (fun b => b ≠ c5 ∧ b ≠ c6) w_73 A1 za.kids := kA.kept hbC.size (fun b _ hb => hbC.block b hb) (fun b h _ => h)
          have kH : IntsP (fun b => b ≠ c5 ∧ b ≠ c6) w_73 Ar R := kH.kept hbC.size (fun b _ hb => hbC.block b hb) (fun b h _ => h)
          have hB : Below w0.heap.size w0 w_73 := hB.trans (hbC.mono hB.size)
          refine hK.out _ _ ?_ (fun hHeld => ?_)
          · exact keptS hB bx1 bx2
          clear hK K hbC l5 l6
          try simp only [Act.put, List.setIfInBounds_toArray, List.set_cons_zero, List.set_cons_succ]
          refine wpAnyH_ready (rs := [8]) (by kernel_rfl) (by simp) ?_
          refine AllReadyH.cons (o := ⟨none, _, _, _, _, _⟩) rfl (fun K hK => ?_) AllReadyH.nil
          have q0 := Lib.cell_of_heap h5 0
          have q1 := Lib.cell_of_heap h5 1
          have q2 := Lib.cell_of_heap h5 2
          have q3 := Lib.cell_of_heap h5 3
          have r0 := frozen_block (j := 0) h5
          have r1 := frozen_block (j := 1) h5
          have r2 := frozen_block (j := 2) h5
          have r3 := frozen_block (j := 3) h5
          have hst := set4 (v0 := .int .i64 za.kind) (v1 := .int .i64 za.tok.1) (v2 := .string za.tok.2) (v3 := .slice A1 za.kids.length eA) h5
          have hsz : ((((w_73.setCell ⟨c5, 0, none⟩ (.int .i64 za.kind)).setCell ⟨c5, 1, none⟩ (.int .i64 za.tok.1)).setCell ⟨c5, 2, none⟩ (.string za.tok.2)).setCell ⟨c5, 3, none⟩ (.slice A1 za.kids.length eA)).heap.size = w_73.heap.size := size4
          have hB : Below w0.heap.size w0 ((((w_73.setCell ⟨c5, 0, none⟩ (.int .i64 za.kind)).setCell ⟨c5, 1, none⟩ (.int .i64 za.tok.1)).setCell ⟨c5, 2, none⟩ (.string za.tok.2)).setCell ⟨c5, 3, none⟩ (.slice A1 za.kids.length eA)) := below4 hB g5
          have hot : ∀ b, b ≠ c5 → ((((w_73.setCell ⟨c5, 0, none⟩ (.int .i64 za.kind)).setCell ⟨c5, 1, none⟩ (.int .i64 za.tok.1)).setCell ⟨c5, 2, none⟩ (.string za.tok.2)).setCell ⟨c5, 3, none⟩ (.slice A1 za.kids.length eA)).heap[b]? = w_73.heap[b]? := fun b hb => other4 hb
          go_simp
          refine hK.out _ _ ?_ (fun hHeld => ?_)
          · exact keptS hB bx1 bx2
          clear hK K q0 q1 q2 q3 r0 r1 r2 r3
          try simp only [Act.put, List.setIfInBounds_toArray, List.set_cons_zero, List.set_cons_succ]
          obtain ⟨w_74, hw⟩ : ∃ x, x = ((((w_73.setCell ⟨c5, 0, none⟩ (.int .i64 za.kind)).setCell ⟨c5, 1, none⟩ (.int .i64 za.tok.1)).setCell ⟨c5, 2, none⟩ (.string za.tok.2)).setCell ⟨c5, 3, none⟩ (.slice A1 za.kids.length eA)) := ⟨_, rfl⟩
          rw [← hw] at hst hot hB hsz hHeld
          rw [← hw]
          have h5 := hst
          have h6 := (hot c6 (Ne.symm hcc)).trans h6
          have kA : KidsP (fun b => b ≠ c5 ∧ b ≠ c6) w_74 A1 za.kids := kA.kept (Nat.le_of_eq hsz.symm) (fun b hp _ => hot b hp.1) (fun b h _ => h)
          have kB : KidsP (fun b => b ≠ c5 ∧ b ≠ c6) w_74 B1 zb.kids := kB.kept (Nat.le_of_eq hsz.symm) (fun b hp _ => hot b hp.1) (fun b h _ => h)
          have kH : IntsP (fun b => b ≠ c5 ∧ b ≠ c6) w_74 Ar R := kH.kept (Nat.le_of_eq hsz.symm) (fun b hp _ => hot b hp.1) (fun b h _ => h)
          clear hw hst hot hsz
          refine wpAnyH_take (i := 9) (oi := ⟨some 8, _, _, _, _, _⟩) (v := ?_) rfl (by kernel_rfl) (by kernel_rfl) (by kernel_rfl) (fun _ _ _ h => h) (Or.inl ⟨by rfl, ?hy⟩) (by assumption) ?_
          case hy => (intro w hSw; (try dsimp only at hSw); go_simp; (try with_reducible rfl))
          try simp only [Act.put, List.setIfInBounds_toArray, List.set_cons_zero, List.set_cons_succ]
          refine wpAnyH_ready (rs := [10]) (by kernel_rfl) (by simp) ?_
          refine AllReadyH.cons (o := ⟨none, _, _, _, _, _⟩) rfl (fun K hK => ?_) AllReadyH.nil
          have q0 := Lib.cell_of_heap h6 0
          have q1 := Lib.cell_of_heap h6 1
          have q2 := Lib.cell_of_heap h6 2
          have q3 := Lib.cell_of_heap h6 3
          have r0 := frozen_block (j := 0) h6
          have r1 := frozen_block (j := 1) h6
          have r2 := frozen_block (j := 2) h6
          have r3 := frozen_block (j := 3) h6
          have hst := set4 (v0 := .int .i64 zb.kind) (v1 := .int .i64 zb.tok.1) (v2 := .string zb.tok.2) (v3 := .slice B1 zb.kids.length eB) h6
          have hsz : ((((w_74.setCell ⟨c6, 0, none⟩ (.int .i64 zb.kind)).setCell ⟨c6, 1, none⟩ (.int .i64 zb.tok.1)).setCell ⟨c6, 2, none⟩ (.string zb.tok.2)).setCell ⟨c6, 3, none⟩ (.slice B1 zb.kids.length eB)).heap.size = w_74.heap.size := size4
          have hB : Below w0.heap.size w0 ((((w_74.setCell ⟨c6, 0, none⟩ (.int .i64 zb.kind)).setCell ⟨c6, 1, none⟩ (.int .i64 zb.tok.1)).setCell ⟨c6, 2, none⟩ (.string zb.tok.2)).setCell ⟨c6, 3, none⟩ (.slice B1 zb.kids.length eB)) := below4 hB g6
          have hot : ∀ b, b ≠ c6 → ((((w_74.setCell ⟨c6, 0, none⟩ (.int .i64 zb.kind)).setCell ⟨c6, 1, none⟩ (.int .i64 zb.tok.1)).setCell ⟨c6, 2, none⟩ (.string zb.tok.2)).setCell ⟨c6, 3, none⟩ (.slice B1 zb.kids.length eB)).heap[b]? = w_74.heap[b]? := fun b hb => other4 hb
          go_simp
          refine hK.out _ _ ?_ (fun hHeld => ?_)
          · exact keptS hB bx1 bx2
          clear hK K q0 q1 q2 q3 r0 r1 r2 r3
          try simp only [Act.put, List.setIfInBounds_toArray, List.set_cons_zero, List.set_cons_succ]
          obtain ⟨w_75, hw⟩ : ∃ x, x = ((((w_74.setCell ⟨c6, 0, none⟩ (.int .i64 zb.kind)).setCell ⟨c6, 1, none⟩ (.int .i64 zb.tok.1)).setCell ⟨c6, 2, none⟩ (.string zb.tok.2)).setCell ⟨c6, 3, none⟩ (.slice B1 zb.kids.length eB)) := ⟨_, rfl⟩
          rw [← hw] at hst hot hB hsz hHeld
          rw [← hw]
          have h6 := hst
          have h5 := (hot c5 hcc).trans h5
          have kA : KidsP (fun b => b ≠ c5 ∧ b ≠ c6) w_75 A1 za.kids := kA.kept (Nat.le_of_eq hsz.symm) (fun b hp _ => hot b hp.2) (fun b h _ => h)
          have kB : KidsP (fun b => b ≠ c5 ∧ b ≠ c6) w_75 B1 zb.kids := kB.kept (Nat.le_of_eq hsz.symm) (fun b hp _ => hot b hp.2) (fun b h _ => h)
          have kH : IntsP (fun b => b ≠ c5 ∧ b ≠ c6) w_75 Ar R := kH.kept (Nat.le_of_eq hsz.symm) (fun b hp _ => hot b hp.2) (fun b h _ => h)
          clear hw hst hot hsz
          refine wpAnyH_done (by kernel_rfl) ?_ _
          go_wp2_with fail
          go_meet
          exact ⟨c5, c6, A1, eA, B1, eB, Ar, cr, rfl, rfl, rfl, gA, gB, gH, kA, kB, kH, h5, h6, HB0.out.trans (hB.mono HB0.out.size)⟩
      · go_simp
        have hal : Below w_60.heap.size w_60 (w_60.alloc (.cells #[.int .i64 0, .int .i64 0, .string { data := #[] }, .slice none 0 0] 26)) := (Below.refl _ _).alloc (Nat.le_refl _) _
        refine hK.out _ _ ?_ (fun hHeld => ?_)
        · exact keptS (hB.trans (hal.mono hB.size)) bx1 bx2
        clear hK K
        try simp only [Act.put, List.setIfInBounds_toArray, List.set_cons_zero, List.set_cons_succ]
        obtain ⟨c6, hc⟩ : ∃ c, c = w_60.heap.size := ⟨_, rfl⟩
        obtain ⟨w_76, hw⟩ : ∃ x, x = w_60.alloc (.cells #[.int .i64 0, .int .i64 0, .string { data := #[] }, .slice none 0 0] 26) := ⟨_, rfl⟩
        rw [← hw] at hal
        have g6 : w0.heap.size ≤ c6 := by rw [hc]; exact hB.size
        have hcc : c5 ≠ c6 := by have hlt : c5 < w_60.heap.size := (Array.getElem?_eq_some_iff.1 h5).1; omega
        have h5 := keepB h5 hal
        have hB : Below w0.heap.size w0 w_76 := hB.trans (hal.mono hB.size)
        have h6 : w_76.heap[c6]? = some (.cells #[.int .i64 0, .int .i64 0, .string { data := #[] }, .slice none 0 0] 26 (0, 0)) := by rw [hw, hc]; exact heap_alloc_new _ _
        rw [← hw] at hHeld
        rw [← hw]
        rw [← hc]
        clear hw hc hal
        refine wpAnyH_ready (rs := [1]) (by kernel_rfl) (by simp) ?_
        refine AllReadyH.cons (o := ⟨some 14, _, _, _, _, _⟩) rfl (fun K hK => ?_) AllReadyH.nil
        go_simp
        go_at_call 15
        with_reducible refine (HcutA.out _ hB).mono ?_
        rintro e w_77 ⟨vA, rfl, ⟨A1, eA, rfl, gA, kA⟩, hbC⟩
        have l5 : c5 < w_76.heap.size := (Array.getElem?_eq_some_iff.1 h5).1
        have l6 : c6 < w_76.heap.size := (Array.getElem?_eq_some_iff.1 h6).1
        have kA : KidsP (fun b => b ≠ c5 ∧ b ≠ c6) w_77 A1 za.kids := kA.kept (Nat.le_refl _) (fun _ _ _ => rfl) (fun b hb _ => ⟨fun e => by omega, fun e => by omega⟩)
        have h5 := keepB h5 hbC
        have h6 := keepB h6 hbC
        have hB : Below w0.heap.size w0 w_77 := hB.trans (hbC.mono hB.size)
        refine hK.out _ _ ?_ (fun hHeld => ?_)
        · exact keptS hB bx1 bx2
        clear hK K hbC l5 l6
        try simp only [Act.put, List.setIfInBounds_toArray, List.set_cons_zero, List.set_cons_succ]
        refine wpAnyH_ready (rs := [3]) (by kernel_rfl) (by simp) ?_
        refine AllReadyH.cons (o := ⟨some 16, _, _, _, _, _⟩) rfl (fun K hK => ?_) AllReadyH.nil
        go_simp
        go_at_call 36
        with_reducible refine (HSh.out _ (HEA.out _ hB)).mono ?_
        rintro e w_78 ⟨vH, rfl, hrow, hbC⟩
        obtain ⟨Ar, cr, rfl, gH, kH⟩ := IntsP.of_own hrow
        have l5 : c5 < w_77.heap.size := (Array.getElem?_eq_some_iff.1 h5).1
        have l6 : c6 < w_77.heap.size := (Array.getElem?_eq_some_iff.1 h6).1
        have kH : IntsP (fun b => b ≠ c5 ∧ b ≠ c6) w_78 Ar R := kH.kept (Nat.le_refl _) (fun _ _ _ => rfl) (fun b hb _ => ⟨fun e => by omega, fun e => by omega⟩)
        have h5 := keepB h5 hbC
        have h6 := keepB h6 hbC
        have kA : KidsP (fun b => b ≠ c5 ∧ b ≠ c6) w_78 A1 za.kids := kA.kept hbC.size (fun b _ hb => hbC.block b hb) (fun b h _ => h)
        have hB : Below w0.heap.size w0 w_78 := hB.trans (hbC.mono hB.size)
        refine hK.out _ _ ?_ (fun hHeld => ?_)
        · exact keptS hB bx1 bx2
        clear hK K hbC hrow l5 l6
        try simp only [Act.put, List.setIfInBounds_toArray, List.set_cons_zero, List.set_cons_succ]
        refine wpAnyH_ready (rs := [5]) (by kernel_rfl) (by simp) ?_
        refine AllReadyH.cons (o := ⟨some 18, _, _, _, _, _⟩) rfl (fun K hK => ?_) AllReadyH.nil
        go_simp
        go_at_call 15
        with_reducible refine (HcutB.out _ hB).mono ?_
        rintro e w_79 ⟨vB, rfl, ⟨B1, eB, rfl, gB, kB⟩, hbC⟩
        have l5 : c5 < w_78.heap.size := (Array.getElem?_eq_some_iff.1 h5).1
        have l6 : c6 < w_78.heap.size := (Array.getElem?_eq_some_iff.1 h6).1
        have kB : KidsP (fun b => b ≠ c5 ∧ b ≠ c6) w_79 B1 zb.kids := kB.kept (Nat.le_refl _) (fun _ _ _ => rfl) (fun b hb _ => ⟨fun e => by omega, fun e => by omega⟩)
        have h5 := keepB h5 hbC
        have h6 := keepB h6 hbC
        have kA : KidsP (fun b => b ≠ c5 ∧ b ≠ c6) w_79 A1 za.kids := kA.kept hbC.size (fun b _ hb => hbC.block b hb) (fun b h _ => h)
        have kH : IntsP (fun b => b ≠ c5 ∧ b ≠ c6) w_79 Ar R := kH.kept hbC.size (fun b _ hb => hbC.block b hb) (fun b h _ => h)
        have hB : Below w0.heap.size w0 w_79 := hB.trans (hbC.mono hB.size)
        refine hK.out _ _ ?_ (fun hHeld => ?_)
        · exact keptS hB bx1 bx2
        clear hK K hbC l5 l6
        try simp only [Act.put, List.setIfInBounds_toArray, List.set_cons_zero, List.set_cons_succ]
        refine wpAnyH_ready (rs := [8]) (by kernel_rfl) (by simp) ?_
        refine AllReadyH.cons (o := ⟨none, _, _, _, _, _⟩) rfl (fun K hK => ?_) AllReadyH.nil
        have q0 := Lib.cell_of_heap h5 0
        have q1 := Lib.cell_of_heap h5 1
        have q2 := Lib.cell_of_heap h5 2
        have q3 := Lib.cell_of_heap h5 3
        have r0 := frozen_block (j := 0) h5
        have r1 := frozen_block (j := 1) h5
        have r2 := frozen_block (j := 2) h5
        have r3 := frozen_block (j := 3) h5
        have hst := set4 (v0 := .int .i64 za.kind) (v1 := .int .i64 za.tok.1) (v2 := .string za.tok.2) (v3 := .slice A1 za.kids.length eA) h5
        have hsz : ((((w_79.setCell ⟨c5, 0, none⟩ (.int .i64 za.kind)).setCell ⟨c5, 1, none⟩ (.int .i64 za.tok.1)).setCell ⟨c5, 2, none⟩ (.string za.tok.2)).setCell ⟨c5, 3, none⟩ (.slice A1 za.kids.length eA)).heap.size = w_79.heap.size := size4
        have hB : Below w0.heap.size w0 ((((w_79.setCell ⟨c5, 0, none⟩ (.int .i64 za.kind)).setCell ⟨c5, 1, none⟩ (.int .i64 za.tok.1)).setCell ⟨c5, 2, none⟩ (.string za.tok.2)).setCell ⟨c5, 3, none⟩ (.slice A1 za.kids.length eA)) := below4 hB g5
        have hot : ∀ b, b ≠ c5 → ((((w_79.setCell ⟨c5, 0, none⟩ (.int .i64 za.kind)).setCell ⟨c5, 1, none⟩ (.int .i64 za.tok.1)).setCell ⟨c5, 2, none⟩ (.string za.tok.2)).setCell ⟨c5, 3, none⟩ (.slice A1 za.kids.length eA)).heap[b]? = w_79.heap[b]? := fun b hb => other4 hb
        go_simp
        refine hK.out _ _ ?_ (fun hHeld => ?_)
        · exact keptS hB bx1 bx2
        clear hK K q0 q1 q2 q3 r0 r1 r2 r3
        try simp only [Act.put, List.setIfInBounds_toArray, List.set_cons_zero, List.set_cons_succ]
        obtain ⟨w_80, hw⟩ : ∃ x, x = ((((w_79.setCell ⟨c5, 0, none⟩ (.int .i64 za.kind)).setCell ⟨c5, 1, none⟩ (.int .i64 za.tok.1)).setCell ⟨c5, 2, none⟩ (.string za.tok.2)).setCell ⟨c5, 3, none⟩ (.slice A1 za.kids.length eA)) := ⟨_, rfl⟩
        rw [← hw] at hst hot hB hsz hHeld
        rw [← hw]
        have h5 := hst
        have h6 := (hot c6 (Ne.symm hcc)).trans h6
        have kA : KidsP (fun b => b ≠ c5 ∧ b ≠ c6) w_80 A1 za.kids := kA.kept (Nat.le_of_eq hsz.symm) (fun b hp _ => hot b hp.1) (fun b h _ => h)
        have kB : KidsP (fun b => b ≠ c5 ∧ b ≠ c6) w_80 B1 zb.kids := kB.kept (Nat.le_of_eq hsz.symm) (fun b hp _ => hot b hp.1) (fun b h _ => h)
        have kH : IntsP (fun b => b ≠ c5 ∧ b ≠ c6) w_80 Ar R := kH.kept (Nat.le_of_eq hsz.symm) (fun b hp _ => hot b hp.1) (fun b h _ => h)
        clear hw hst hot hsz
        refine wpAnyH_take (i := 9) (oi := ⟨some 8, _, _, _, _, _⟩) (v := ?_) rfl (by kernel_rfl) (by kernel_rfl) (by kernel_rfl) (fun _ _ _ h => h) (Or.inl ⟨by rfl, ?hy⟩) (by assumption) ?_
        case hy => (intro w hSw; (try dsimp only at hSw); go_simp; (try with_reducible rfl))
        try simp only [Act.put, List.setIfInBounds_toArray, List.set_cons_zero, List.set_cons_succ]
        refine wpAnyH_ready (rs := [10]) (by kernel_rfl) (by simp) ?_
        refine AllReadyH.cons (o := ⟨none, _, _, _, _, _⟩) rfl (fun K hK => ?_) AllReadyH.nil
        have q0 := Lib.cell_of_heap h6 0
        have q1 := Lib.cell_of_heap h6 1
        have q2 := Lib.cell_of_heap h6 2
        have q3 := Lib.cell_of_heap h6 3
        have r0 := frozen_block (j := 0) h6
        have r1 := frozen_block (j := 1) h6
        have r2 := frozen_block (j := 2) h6
        have r3 := frozen_block (j := 3) h6
        have hst := set4 (v0 := .int .i64 zb.kind) (v1 := .int .i64 zb.tok.1) (v2 := .string zb.tok.2) (v3 := .slice B1 zb.kids.length eB) h6
        have hsz : ((((w_80.setCell ⟨c6, 0, none⟩ (.int .i64 zb.kind)).setCell ⟨c6, 1, none⟩ (.int .i64 zb.tok.1)).setCell ⟨c6, 2, none⟩ (.string zb.tok.2)).setCell ⟨c6, 3, none⟩ (.slice B1 zb.kids.length eB)).heap.size = w_80.heap.size := size4
        have hB : Below w0.heap.size w0 ((((w_80.setCell ⟨c6, 0, none⟩ (.int .i64 zb.kind)).setCell ⟨c6, 1, none⟩ (.int .i64 zb.tok.1)).setCell ⟨c6, 2, none⟩ (.string zb.tok.2)).setCell ⟨c6, 3, none⟩ (.slice B1 zb.kids.length eB)) := below4 hB g6
        have hot : ∀ b, b ≠ c6 → ((((w_80.setCell ⟨c6, 0, none⟩ (.int .i64 zb.kind)).setCell ⟨c6, 1, none⟩ (.int .i64 zb.tok.1)).setCell ⟨c6, 2, none⟩ (.string zb.tok.2)).setCell ⟨c6, 3, none⟩ (.slice B1 zb.kids.length eB)).heap[b]? = w_80.heap[b]? := fun b hb => other4 hb
        go_simp
        refine hK.out _ _ ?_ (fun hHeld => ?_)
        · exact keptS hB bx1 bx2
        clear hK K q0 q1 q2 q3 r0 r1 r2 r3
        try simp only [Act.put, List.setIfInBounds_toArray, List.set_cons_zero, List.set_cons_succ]
        obtain ⟨w_81, hw⟩ : ∃ x, x = ((((w_80.setCell ⟨c6, 0, none⟩ (.int .i64 zb.kind)).setCell ⟨c6, 1, none⟩ (.int .i64 zb.tok.1)).setCell ⟨c6, 2, none⟩ (.string zb.tok.2)).setCell ⟨c6, 3, none⟩ (.slice B1 zb.kids.length eB)) := ⟨_, rfl⟩
        rw [← hw] at hst hot hB hsz hHeld
        rw [← hw]
        have h6 := hst
        have h5 := (hot c5 hcc).trans h5
        have kA : KidsP (fun b => b ≠ c5 ∧ b ≠ c6) w_81 A1 za.kids := kA.kept (Nat.le_of_eq hsz.symm) (fun b hp _ => hot b hp.2) (fun b h _ => h)
        have kB : KidsP (fun b => b ≠ c5 ∧ b ≠ c6) w_81 B1 zb.kids := kB.kept (Nat.le_of_eq hsz.symm) (fun b hp _ => hot b hp.2) (fun b h _ => h)
        have kH : IntsP (fun b => b ≠ c5 ∧ b ≠ c6) w_81 Ar R := kH.kept (Nat.le_of_eq hsz.symm) (fun b hp _ => hot b hp.2) (fun b h _ => h)
        clear hw hst hot hsz
        refine wpAnyH_done (by kernel_rfl) ?_ _
        go_wp2_with fail
        go_meet
        exact ⟨c5, c6, A1, eA, B1, eB, Ar, cr, rfl, rfl, rfl, gA, gB, gH, kA, kB, kH, h5, h6, HB0.out.trans (hB.mono HB0.out.size)⟩
    · go_simp
      have hal : Below w_0.heap.size w_0 (w_0.alloc (.cells #[.int .i64 0, .int .i64 0, .string { data := #[] }, .slice none 0 0] 26)) := (Below.refl _ _).alloc (Nat.le_refl _) _
      refine hK.out _ _ ?_ (fun hHeld => ?_)
      · exact keptS (hB.trans (hal.mono hB.size)) bx1 bx2
      clear hK K
      try simp only [Act.put, List.setIfInBounds_toArray, List.set_cons_zero, List.set_cons_succ]
      obtain ⟨c6, hc⟩ : ∃ c, c = w_0.heap.size := ⟨_, rfl⟩
      obtain ⟨w_82, hw⟩ : ∃ x, x = w_0.alloc (.cells #[.int .i64 0, .int .i64 0, .string { data := #[] }, .slice none 0 0] 26) := ⟨_, rfl⟩
      rw [← hw] at hal
      have g6 : w0.heap.size ≤ c6 := by rw [hc]; exact hB.size
      have hB : Below w0.heap.size w0 w_82 := hB.trans (hal.mono hB.size)
      have h6 : w_82.heap[c6]? = some (.cells #[.int .i64 0, .int .i64 0, .string { data := #[] }, .slice none 0 0] 26 (0, 0)) := by rw [hw, hc]; exact heap_alloc_new _ _
      rw [← hw] at hHeld
      rw [← hw]
      rw [← hc]
      clear hw hc hal
      refine wpAnyH_ready (rs := [1, 6]) (by kernel_rfl) (by simp) ?_
      refine AllReadyH.cons (o := ⟨some 14, _, _, _, _, _⟩) rfl (fun K hK => ?_) (AllReadyH.cons (o := ⟨some 7, _, _, _, _, _⟩) rfl (fun K hK => ?_) AllReadyH.nil)
      · go_simp
        go_at_call 15
        with_reducible refine (HcutA.out _ hB).mono ?_
        rintro e w_83 ⟨vA, rfl, ⟨A1, eA, rfl, gA, kA⟩, hbC⟩
        have l6 : c6 < w_82.heap.size := (Array.getElem?_eq_some_iff.1 h6).1
        have kA : KidsP (fun b => b ≠ c6) w_83 A1 za.kids := kA.kept (Nat.le_refl _) (fun _ _ _ => rfl) (fun b hb _ => (fun e => by omega))
        have h6 := keepB h6 hbC
        have hB : Below w0.heap.size w0 w_83 := hB.trans (hbC.mono hB.size)
        refine hK.out _ _ ?_ (fun hHeld => ?_)
        · exact keptS hB bx1 bx2
        clear hK K hbC l6
        try simp only [Act.put, List.setIfInBounds_toArray, List.set_cons_zero, List.set_cons_succ]
        refine wpAnyH_ready (rs := [3, 6]) (by kernel_rfl) (by simp) ?_
        refine AllReadyH.cons (o := ⟨some 16, _, _, _, _, _⟩) rfl (fun K hK => ?_) (AllReadyH.cons (o := ⟨some 7, _, _, _, _, _⟩) rfl (fun K hK => ?_) AllReadyH.nil)
        · go_simp
          go_at_call 36
          with_reducible refine (HSh.out _ (HEA.out _ hB)).mono ?_
          rintro e w_84 ⟨vH, rfl, hrow, hbC⟩
          obtain ⟨Ar, cr, rfl, gH, kH⟩ := IntsP.of_own hrow
          have l6 : c6 < w_83.heap.size := (Array.getElem?_eq_some_iff.1 h6).1
          have kH : IntsP (fun b => b ≠ c6) w_84 Ar R := kH.kept (Nat.le_refl _) (fun _ _ _ => rfl) (fun b hb _ => (fun e => by omega))
          have h6 := keepB h6 hbC
          have kA : KidsP (fun b => b ≠ c6) w_84 A1 za.kids := kA.kept hbC.size (fun b _ hb => hbC.block b hb) (fun b h _ => h)
          have hB : Below w0.heap.size w0 w_84 := hB.trans (hbC.mono hB.size)
          refine hK.out _ _ ?_ (fun hHeld => ?_)
          · exact keptS hB bx1 bx2
          clear hK K hbC hrow l6
          try simp only [Act.put, List.setIfInBounds_toArray, List.set_cons_zero, List.set_cons_succ]
          refine wpAnyH_ready (rs := [5, 6]) (by kernel_rfl) (by simp) ?_
          refine AllReadyH.cons (o := ⟨some 18, _, _, _, _, _⟩) rfl (fun K hK => ?_) (AllReadyH.cons (o := ⟨some 7, _, _, _, _, _⟩) rfl (fun K hK => ?_) AllReadyH.nil)
          · go_simp
            go_at_call 15
            with_reducible refine (HcutB.out _ hB).mono ?_
            rintro e w_85 ⟨vB, rfl, ⟨B1, eB, rfl, gB, kB⟩, hbC⟩
            have l6 : c6 < w_84.heap.size := (Array.getElem?_eq_some_iff.1 h6).1
            have kB : KidsP (fun b => b ≠ c6) w_85 B1 zb.kids := kB.kept (Nat.le_refl _) (fun _ _ _ => rfl) (fun b hb _ => (fun e => by omega))
            have h6 := keepB h6 hbC
            have kA : KidsP (fun b => b ≠ c6) w_85 A1 za.kids := kA.kept hbC.size (fun b _ hb => hbC.block b hb) (fun b h _ => h)
            have kH : IntsP (fun b => b ≠ c6) w_85 Ar R := kH.kept hbC.size (fun b _ hb => hbC.block b hb) (fun b h _ => h)
            have hB : Below w0.heap.size w0 w_85 := hB.trans (hbC.mono hB.size)
            refine hK.out _ _ ?_ (fun hHeld => ?_)
            · exact keptS hB bx1 bx2
            clear hK K hbC l6
            try simp only [Act.put, List.setIfInBounds_toArray, List.set_cons_zero, List.set_cons_succ]
            refine wpAnyH_ready (rs := [6]) (by kernel_rfl) (by simp) ?_
            refine AllReadyH.cons (o := ⟨some 7, _, _, _, _, _⟩) rfl (fun K hK => ?_) AllReadyH.nil
            go_simp
            have hal : Below w_85.heap.size w_85 (w_85.alloc (.cells #[.int .i64 0, .int .i64 0, .string { data := #[] }, .slice none 0 0] 26)) := (Below.refl _ _).alloc (Nat.le_refl _) _
            refine hK.out _ _ ?_ (fun hHeld => ?_)
            · exact keptS (hB.trans (hal.mono hB.size)) bx1 bx2
            clear hK K
            try simp only [Act.put, List.setIfInBounds_toArray, List.set_cons_zero, List.set_cons_succ]
            obtain ⟨c5, hc⟩ : ∃ c, c = w_85.heap.size := ⟨_, rfl⟩
            obtain ⟨w_86, hw⟩ : ∃ x, x = w_85.alloc (.cells #[.int .i64 0, .int .i64 0, .string { data := #[] }, .slice none 0 0] 26) := ⟨_, rfl⟩
            rw [← hw] at hal
            have g5 : w0.heap.size ≤ c5 := by rw [hc]; exact hB.size
            have hcc : c5 ≠ c6 := by have hlt : c6 < w_85.heap.size := (Array.getElem?_eq_some_iff.1 h6).1; omega
            have kA : KidsP (fun b => b ≠ c5 ∧ b ≠ c6) w_86 A1 za.kids := kA.kept hal.size (fun b _ hb => hal.block b hb) (fun b h hb => ⟨Nat.ne_of_lt (by rw [hc]; exact hb), h⟩)
            have kB : KidsP (fun b => b ≠ c5 ∧ b ≠ c6) w_86 B1 zb.kids := kB.kept hal.size (fun b _ hb => hal.block b hb) (fun b h hb => ⟨Nat.ne_of_lt (by rw [hc]; exact hb), h⟩)
            have kH : IntsP (fun b => b ≠ c5 ∧ b ≠ c6) w_86 Ar R := kH.kept hal.size (fun b _ hb => hal.block b hb) (fun b h hb => ⟨Nat.ne_of_lt (by rw [hc]; exact hb), h⟩)
            have h6 := keepB h6 hal
            have hB : Below w0.heap.size w0 w_86 := hB.trans (hal.mono hB.size)
            have h5 : w_86.heap[c5]? = some (.cells #[.int .i64 0, .int .i64 0, .string { data := #[] }, .slice none 0 0] 26 (0, 0)) := by rw [hw, hc]; exact heap_alloc_new _ _
            rw [← hw] at hHeld
            rw [← hw]
            rw [← hc]
            clear hw hc hal
            refine wpAnyH_ready (rs := [8]) (by kernel_rfl) (by simp) ?_
            refine AllReadyH.cons (o := ⟨none, _, _, _, _, _⟩) rfl (fun K hK => ?_) AllReadyH.nil
            have q0 := Lib.cell_of_heap h5 0
            have q1 := Lib.cell_of_heap h5 1
            have q2 := Lib.cell_of_heap h5 2
            have q3 := Lib.cell_of_heap h5 3
            have r0 := frozen_block (j := 0) h5
            have r1 := frozen_block (j := 1) h5
            have r2 := frozen_block (j := 2) h5
            have r3 := frozen_block (j := 3) h5
            have hst := set4 (v0 := .int .i64 za.kind) (v1 := .int .i64 za.tok.1) (v2 := .string za.tok.2) (v3 := .slice A1 za.kids.length eA) h5
            have hsz : ((((w_86.setCell ⟨c5, 0, none⟩ (.int .i64 za.kind)).setCell ⟨c5, 1, none⟩ (.int .i64 za.tok.1)).setCell ⟨c5, 2, none⟩ (.string za.tok.2)).setCell ⟨c5, 3, none⟩ (.slice A1 za.kids.length eA)).heap.size = w_86.heap.size := size4
            have hB : Below w0.heap.size w0 ((((w_86.setCell ⟨c5, 0, none⟩ (.int .i64 za.kind)).setCell ⟨c5, 1, none⟩ (.int .i64 za.tok.1)).setCell ⟨c5, 2, none⟩ (.string za.tok.2)).setCell ⟨c5, 3, none⟩ (.slice A1 za.kids.length eA)) := below4 hB g5
            have hot : ∀ b, b ≠ c5 → ((((w_86.setCell ⟨c5, 0, none⟩ (.int .i64 za.kind)).setCell ⟨c5, 1, none⟩ (.int .i64 za.tok.1)).setCell ⟨c5, 2, none⟩ (.string za.tok.2)).setCell ⟨c5, 3, none⟩ (.slice A1 za.kids.length eA)).heap[b]? = w_86.heap[b]? := fun b hb => other4 hb
            go_simp
            refine hK.out _ _ ?_ (fun hHeld => ?_)
            · exact keptS hB bx1 bx2
            clear hK K q0 q1 q2 q3 r0 r1 r2 r3
            try simp only [Act.put, List.setIfInBounds_toArray, List.set_cons_zero, List.set_cons_succ]
            obtain ⟨w_87, hw⟩ : ∃ x, x = ((((w_86.setCell ⟨c5, 0, none⟩ (.int .i64 za.kind)).setCell ⟨c5, 1, none⟩ (.int .i64 za.tok.1)).setCell ⟨c5, 2, none⟩ (.string za.tok.2)).setCell ⟨c5, 3, none⟩ (.slice A1 za.kids.length eA)) := ⟨_, rfl⟩
            rw [← hw] at hst hot hB hsz hHeld
            rw [← hw]
            have h5 := hst
            have h6 := (hot c6 (Ne.symm hcc)).trans h6
            have kA : KidsP (fun b => b ≠ c5 ∧ b ≠ c6) w_87 A1 za.kids := kA.kept (Nat.le_of_eq hsz.symm) (fun b hp _ => hot b hp.1) (fun b h _ => h)
            have kB : KidsP (fun b => b ≠ c5 ∧ b ≠ c6) w_87 B1 zb.kids := kB.kept (Nat.le_of_eq hsz.symm) (fun b hp _ => hot b hp.1) (fun b h _ => h)
            have kH : IntsP (fun b => b ≠ c5 ∧ b ≠ c6) w_87 Ar R := kH.kept (Nat.le_of_eq hsz.symm) (fun b hp _ => hot b hp.1) (fun b h _ => h)
            clear hw hst hot hsz
            refine wpAnyH_take (i := 9) (oi := ⟨some 8, _, _, _, _, _⟩) (v := ?_) rfl (by kernel_rfl) (by kernel_rfl) (by kernel_rfl) (fun _ _ _ h => h) (Or.inl ⟨by rfl, ?hy⟩) (by assumption) ?_
            case hy => (intro w hSw; (try dsimp only at hSw); go_simp; (try with_reducible rfl))
            try simp only [Act.put, List.setIfInBounds_toArray, List.set_cons_zero, List.set_cons_succ]
            refine wpAnyH_ready (rs := [10]) (by kernel_rfl) (by simp) ?_
            refine AllReadyH.cons (o := ⟨none, _, _, _, _, _⟩) rfl (fun K hK => ?_) AllReadyH.nil
            have q0 := Lib.cell_of_heap h6 0
            have q1 := Lib.cell_of_heap h6 1
            have q2 := Lib.cell_of_heap h6 2
            have q3 := Lib.cell_of_heap h6 3
            have r0 := frozen_block (j := 0) h6
            have r1 := frozen_block (j := 1) h6
            have r2 := frozen_block (j := 2) h6
            have r3 := frozen_block (j := 3) h6
            have hst := set4 (v0 := .int .i64 zb.kind) (v1 := .int .i64 zb.tok.1) (v2 := .string zb.tok.2) (v3 := .slice B1 zb.kids.length eB) h6
            have hsz : ((((w_87.setCell ⟨c6, 0, none⟩ (.int .i64 zb.kind)).setCell ⟨c6, 1, none⟩ (.int .i64 zb.tok.1)).setCell ⟨c6, 2, none⟩ (.string zb.tok.2)).setCell ⟨c6, 3, none⟩ (.slice B1 zb.kids.length eB)).heap.size = w_87.heap.size := size4
            have hB : Below w0.heap.size w0 ((((w_87.setCell ⟨c6, 0, none⟩ (.int .i64 zb.kind)).setCell ⟨c6, 1, none⟩ (.int .i64 zb.tok.1)).setCell ⟨c6, 2, none⟩ (.string zb.tok.2)).setCell ⟨c6, 3, none⟩ (.slice B1 zb.kids.length eB)) := below4 hB g6
            have hot : ∀ b, b ≠ c6 → ((((w_87.setCell ⟨c6, 0, none⟩ (.int .i64 zb.kind)).setCell ⟨c6, 1, none⟩ (.int .i64 zb.tok.1)).setCell ⟨c6, 2, none⟩ (.string zb.tok.2)).setCell ⟨c6, 3, none⟩ (.slice B1 zb.kids.length eB)).heap[b]? = w_87.heap[b]? := fun b hb => other4 hb
            go_simp
            refine hK.out _ _ ?_ (fun hHeld => ?_)
            · exact keptS hB bx1 bx2
            clear hK K q0 q1 q2 q3 r0 r1 r2 r3
            try simp only [Act.put, List.setIfInBounds_toArray, List.set_cons_zero, List.set_cons_succ]
            obtain ⟨w_88, hw⟩ : ∃ x, x = ((((w_87.setCell ⟨c6, 0, none⟩ (.int .i64 zb.kind)).setCell ⟨c6, 1, none⟩ (.int .i64 zb.tok.1)).setCell ⟨c6, 2, none⟩ (.string zb.tok.2)).setCell ⟨c6, 3, none⟩ (.slice B1 zb.kids.length eB)) := ⟨_, rfl⟩
            rw [← hw] at hst hot hB hsz hHeld
            rw [← hw]
            have h6 := hst
            have h5 := (hot c5 hcc).trans h5
            have kA : KidsP (fun b => b ≠ c5 ∧ b ≠ c6) w_88 A1 za.kids := kA.kept (Nat.le_of_eq hsz.symm) (fun b hp _ => hot b hp.2) (fun b h _ => h)
            have kB : KidsP (fun b => b ≠ c5 ∧ b ≠ c6) w_88 B1 zb.kids := kB.kept (Nat.le_of_eq hsz.symm) (fun b hp _ => hot b hp.2) (fun b h _ => h)
            have kH : IntsP (fun b => b ≠ c5 ∧ b ≠ c6) w_88 Ar R := kH.kept (Nat.le_of_eq hsz.symm) (fun b hp _ => hot b hp.2) (fun b h _ => h)
            clear hw hst hot hsz
            refine wpAnyH_done (by kernel_rfl) ?_ _
            go_wp2_with fail
            go_meet
            exact ⟨c5, c6, A1, eA, B1, eB, Ar, cr, rfl, rfl, rfl, gA, gB, gH, kA, kB, kH, h5, h6, HB0.out.trans (hB.mono HB0.out.size)⟩
          · go_simp
            have hal : Below w_84.heap.size w_84 (w_84.alloc (.cells #[.int .i64 0, .int .i64 0, .string { data := #[] }, .slice none 0 0] 26)) := (Below.refl _ _).alloc (Nat.le_refl _) _
            refine hK.out _ _ ?_ (fun hHeld => ?_)
            · exact keptS (hB.trans (hal.mono hB.size)) bx1 bx2
            clear hK K
            try simp only [Act.put, List.setIfInBounds_toArray, List.set_cons_zero, List.set_cons_succ]
            obtain ⟨c5, hc⟩ : ∃ c, c = w_84.heap.size := ⟨_, rfl⟩
            obtain ⟨w_89, hw⟩ : ∃ x, x = w_84.alloc (.cells #[.int .i64 0, .int .i64 0, .string { data := #[] }, .slice none 0 0] 26) := ⟨_, rfl⟩
            rw [← hw] at hal
            have g5 : w0.heap.size ≤ c5 := by rw [hc]; exact hB.size
            have hcc : c5 ≠ c6 := by have hlt : c6 < w_84.heap.size := (Array.getElem?_eq_some_iff.1 h6).1; omega
            have kA : KidsP (fun b => b ≠ c5 ∧ b ≠ c6) w_89 A1 za.kids := kA.kept hal.size (fun b _ hb => hal.block b hb) (fun b h hb => ⟨Nat.ne_of_lt (by rw [hc]; exact hb), h⟩)
            have kH : IntsP (fun b => b ≠ c5 ∧ b ≠ c6) w_89 Ar R := kH.kept hal.size (fun b _ hb => hal.block b hb) (fun b h hb => ⟨Nat.ne_of_lt (by rw [hc]; exact hb), h⟩)
            have h6 := keepB h6 hal
            have hB : Below w0.heap.size w0 w_89 := hB.trans (hal.mono hB.size)
            have h5 : w_89.heap[c5]? = some (.cells #[.int .i64 0, .int .i64 0, .string { data := #[] }, .slice none 0 0] 26 (0, 0)) := by rw [hw, hc]; exact heap_alloc_new _ _
            rw [← hw] at hHeld
            rw [← hw]
            rw [← hc]
            clear hw hc hal
            refine wpAnyH_ready (rs := [5]) (by kernel_rfl) (by simp) ?_
            refine AllReadyH.cons (o := ⟨some 18, _, _, _, _, _⟩) rfl (fun K hK => ?_) AllReadyH.nil
            go_simp
            go_at_call 15
            with_reducible refine (HcutB.out _ hB).mono ?_
            rintro e w_90 ⟨vB, rfl, ⟨B1, eB, rfl, gB, kB⟩, hbC⟩
            have l5 : c5 < w_89.heap.size := (Array.getElem?_eq_some_iff.1 h5).1
            have l6 : c6 < w_89.heap.size := (Array.getElem?_eq_some_iff.1 h6).1
            have kB : KidsP (fun b => b ≠ c5 ∧ b ≠ c6) w_90 B1 zb.kids := kB.kept (Nat.le_refl _) (fun _ _ _ => rfl) (fun b hb _ => ⟨fun e => by omega, fun e => by omega⟩)
            have h5 := keepB h5 hbC
            have h6 := keepB h6 hbC
            have kA : KidsP (fun b => b ≠ c5 ∧ b ≠ c6) w_90 A1 za.kids := kA.kept hbC.size (fun b _ hb => hbC.block b hb) (fun b h _ => h)
            have kH : IntsP (fun b => b ≠ c5 ∧ b ≠ c6) w_90 Ar R := kH.kept hbC.size (fun b _ hb => hbC.block b hb) (fun b h _ => h)
            have hB : Below w0.heap.size w0 w_90 := hB.trans (hbC.mono hB.size)
            refine hK.out _ _ ?_ (fun hHeld => ?_)
            · exact keptS hB bx1 bx2
            clear hK K hbC l5 l6
            try simp only [Act.put, List.setIfInBounds_toArray, List.set_cons_zero, List.set_cons_succ]
            refine wpAnyH_ready (rs := [8]) (by kernel_rfl) (by simp) ?_
            refine AllReadyH.cons (o := ⟨none, _, _, _, _, _⟩) rfl (fun K hK => ?_) AllReadyH.nil
            have q0 := Lib.cell_of_heap h5 0
            have q1 := Lib.cell_of_heap h5 1
            have q2 := Lib.cell_of_heap h5 2
            have q3 := Lib.cell_of_heap h5 3
            have r0 := frozen_block (j := 0) h5
            have r1 := frozen_block (j := 1) h5
            have r2 := frozen_block (j := 2) h5
            have r3 := frozen_block (j := 3) h5
            have hst := set4 (v0 := .int .i64 za.kind) (v1 := .int .i64 za.tok.1) (v2 := .string za.tok.2) (v3 := .slice A1 za.kids.length eA) h5
            have hsz : ((((w_90.setCell ⟨c5, 0, none⟩ (.int .i64 za.kind)).setCell ⟨c5, 1, none⟩ (.int .i64 za.tok.1)).setCell ⟨c5, 2, none⟩ (.string za.tok.2)).setCell ⟨c5, 3, none⟩ (.slice A1 za.kids.length eA)).heap.size = w_90.heap.size := size4
            have hB : Below w0.heap.size w0 ((((w_90.setCell ⟨c5, 0, none⟩ (.int .i64 za.kind)).setCell ⟨c5, 1, none⟩ (.int .i64 za.tok.1)).setCell ⟨c5, 2, none⟩ (.string za.tok.2)).setCell ⟨c5, 3, none⟩ (.slice A1 za.kids.length eA)) := below4 hB g5
            have hot : ∀ b, b ≠ c5 → ((((w_90.setCell ⟨c5, 0, none⟩ (.int .i64 za.kind)).setCell ⟨c5, 1, none⟩ (.int .i64 za.tok.1)).setCell ⟨c5, 2, none⟩ (.string za.tok.2)).setCell ⟨c5, 3, none⟩ (.slice A1 za.kids.length eA)).heap[b]? = w_90.heap[b]? := fun b hb => other4 hb
            go_simp
            refine hK.out _ _ ?_ (fun hHeld => ?_)
            · exact keptS hB bx1 bx2
            clear hK K q0 q1 q2 q3 r0 r1 r2 r3
            try simp only [Act.put, List.setIfInBounds_toArray, List.set_cons_zero, List.set_cons_succ]
            obtain ⟨w_91, hw⟩ : ∃ x, x = ((((w_90.setCell ⟨c5, 0, none⟩ (.int .i64 za.kind)).setCell ⟨c5, 1, none⟩ (.int .i64 za.tok.1)).setCell ⟨c5, 2, none⟩ (.string za.tok.2)).setCell ⟨c5, 3, none⟩ (.slice A1 za.kids.length eA)) := ⟨_, rfl⟩
            rw [← hw] at hst hot hB hsz hHeld
            rw [← hw]
            have h5 := hst
            have h6 := (hot c6 (Ne.symm hcc)).trans h6
            have kA : KidsP (fun b => b ≠ c5 ∧ b ≠ c6) w_91 A1 za.kids := kA.kept (Nat.le_of_eq hsz.symm) (fun b hp _ => hot b hp.1) (fun b h _ => h)
            have kB : KidsP (fun b => b ≠ c5 ∧ b ≠ c6) w_91 B1 zb.kids := kB.kept (Nat.le_of_eq hsz.symm) (fun b hp _ => hot b hp.1) (fun b h _ => h)
            have kH : IntsP (fun b => b ≠ c5 ∧ b ≠ c6) w_91 Ar R := kH.kept (Nat.le_of_eq hsz.symm) (fun b hp _ => hot b hp.1) (fun b h _ => h)
            clear hw hst hot hsz
            refine wpAnyH_take (i := 9) (oi := ⟨some 8, _, _, _, _, _⟩) (v := ?_) rfl (by kernel_rfl) (by kernel_rfl) (by kernel_rfl) (fun _ _ _ h => h) (Or.inl ⟨by rfl, ?hy⟩) (by assumption) ?_
            case hy => (intro w hSw; (try dsimp only at hSw); go_simp; (try with_reducible rfl))
            try simp only [Act.put, List.setIfInBounds_toArray, List.set_cons_zero, List.set_cons_succ]
            refine wpAnyH_ready (rs := [10]) (by kernel_rfl) (by simp) ?_
            refine AllReadyH.cons (o := ⟨none, _, _, _, _, _⟩) rfl (fun K hK => ?_) AllReadyH.nil
            have q0 := Lib.cell_of_heap h6 0
            have q1 := Lib.cell_of_heap h6 1
            have q2 := Lib.cell_of_heap h6 2
            have q3 := Lib.cell_of_heap h6 3
            have r0 := frozen_block (j := 0) h6
            have r1 := frozen_block (j := 1) h6
            have r2 := frozen_block (j := 2) h6
            have r3 := frozen_block (j := 3) h6
            have hst := set4 (v0 := .int .i64 zb.kind) (v1 := .int .i64 zb.tok.1) (v2 := .string zb.tok.2) (v3 := .slice B1 zb.kids.length eB) h6
            have hsz : ((((w_91.setCell ⟨c6, 0, none⟩ (.int .i64 zb.kind)).setCell ⟨c6, 1, none⟩ (.int .i64 zb.tok.1)).setCell ⟨c6, 2, none⟩ (.string zb.tok.2)).setCell ⟨c6, 3, none⟩ (.slice B1 zb.kids.length eB)).heap.size = w_91.heap.size := size4
            have hB : Below w0.heap.size w0 ((((w_91.setCell ⟨c6, 0, none⟩ (.int .i64 zb.kind)).setCell ⟨c6, 1, none⟩ (.int .i64 zb.tok.1)).setCell ⟨c6, 2, none⟩ (.string zb.tok.2)).setCell ⟨c6, 3, none⟩ (.slice B1 zb.kids.length eB)) := below4 hB g6
            have hot : ∀ b, b ≠ c6 → ((((w_91.setCell ⟨c6, 0, none⟩ (.int .i64 zb.kind)).setCell ⟨c6, 1, none⟩ (.int .i64 zb.tok.1)).setCell ⟨c6, 2, none⟩ (.string zb.tok.2)).setCell ⟨c6, 3, none⟩ (.slice B1 zb.kids.length eB)).heap[b]? = w_91.heap[b]? := fun b hb => other4 hb
            go_simp
            refine hK.out _ _ ?_ (fun hHeld => ?_)
            · exact keptS hB bx1 bx2
            clear hK K q0 q1 q2 q3 r0 r1 r2 r3
            try simp only [Act.put, List.setIfInBounds_toArray, List.set_cons_zero, List.set_cons_succ]
            obtain ⟨w_92, hw⟩ : ∃ x, x = ((((w_91.setCell ⟨c6, 0, none⟩ (.int .i64 zb.kind)).setCell ⟨c6, 1, none⟩ (.int .i64 zb.tok.1)).setCell ⟨c6, 2, none⟩ (.string zb.tok.2)).setCell ⟨c6, 3, none⟩ (.slice B1 zb.kids.length eB)) := ⟨_, rfl⟩
            rw [← hw] at hst hot hB hsz hHeld
            rw [← hw]
            have h6 := hst
            have h5 := (hot c5 hcc).trans h5
            have kA : KidsP (fun b => b ≠ c5 ∧ b ≠ c6) w_92 A1 za.kids := kA.kept (Nat.le_of_eq hsz.symm) (fun b hp _ => hot b hp.2) (fun b h _ => h)
            have kB : KidsP (fun b => b ≠ c5 ∧ b ≠ c6) w_92 B1 zb.kids := kB.kept (Nat.le_of_eq hsz.symm) (fun b hp _ => hot b hp.2) (fun b h _ => h)
            have kH : IntsP (fun b => b ≠ c5 ∧ b ≠ c6) w_92 Ar R := kH.kept (Nat.le_of_eq hsz.symm) (fun b hp _ => hot b hp.2) (fun b h _ => h)
            clear hw hst hot hsz
            refine wpAnyH_done (by kernel_rfl) ?_ _
            go_wp2_with fail
            go_meet
            exact ⟨c5, c6, A1, eA, B1, eB, Ar, cr, rfl, rfl, rfl, gA, gB, gH, kA, kB, kH, h5, h6, HB0.out.trans (hB.mono HB0.out.size)⟩
        · go_simp
          have hal : Below w_83.heap.size w_83 (w_83.alloc (.cells #[.int .i64 0, .int .i64 0, .string { data := #[] }, .slice none 0 0] 26)) := (Below.refl _ _).alloc (Nat.le_refl _) _
          refine hK.out _ _ ?_ (fun hHeld => ?_)
          · exact keptS (hB.trans (hal.mono hB.size)) bx1 bx2
          clear hK K
          try simp only [Act.put, List.setIfInBounds_toArray, List.set_cons_zero, List.set_cons_succ]
          obtain ⟨c5, hc⟩ : ∃ c, c = w_83.heap.size := ⟨_, rfl⟩
          obtain ⟨w_93, hw⟩ : ∃ x, x = w_83.alloc (.cells #[.int .i64 0, .int .i64 0, .string { data := #[] }, .slice none 0 0] 26) := ⟨_, rfl⟩
          rw [← hw] at hal
          have g5 : w0.heap.size ≤ c5 := by rw [hc]; exact hB.size
          have hcc : c5 ≠ c6 := by have hlt : c6 < w_83.heap.size := (Array.getElem?_eq_some_iff.1 h6).1; omega
          have kA : KidsP (fun b => b ≠ c5 ∧ b ≠ c6) w_93 A1 za.kids := kA.kept hal.size (fun b _ hb => hal.block b hb) (fun b h hb => ⟨Nat.ne_of_lt (by rw [hc]; exact hb), h⟩)
          have h6 := keepB h6 hal
          have hB : Below w0.heap.size w0 w_93 := hB.trans (hal.mono hB.size)
          have h5 : w_93.heap[c5]? = some (.cells #[.int .i64 0, .int .i64 0, .string { data := #[] }, .slice none 0 0] 26 (0, 0)) := by rw [hw, hc]; exact heap_alloc_new _ _
          rw [← hw] at hHeld
          rw [← hw]
          rw [← hc]
          clear hw hc hal
          refine wpAnyH_ready (rs := [3]) (by kernel_rfl) (by simp) ?_
          refine AllReadyH.cons (o := ⟨some 16, _, _, _, _, _⟩) rfl (fun K hK => ?_) AllReadyH.nil
          go_simp
          go_at_call 36
          with_reducible refine (HSh.out _ (HEA.out _ hB)).mono ?_
          rintro e w_94 ⟨vH, rfl, hrow, hbC⟩
          obtain ⟨Ar, cr, rfl, gH, kH⟩ := IntsP.of_own hrow
          have l5 : c5 < w_93.heap.size := (Array.getElem?_eq_some_iff.1 h5).1
          have l6 : c6 < w_93.heap.size := (Array.getElem?_eq_some_iff.1 h6).1
          have kH : IntsP (fun b => b ≠ c5 ∧ b ≠ c6) w_94 Ar R := kH.kept (Nat.le_refl _) (fun _ _ _ => rfl) (fun b hb _ => ⟨fun e => by omega, fun e => by omega⟩)
          have h5 := keepB h5 hbC
          have h6 := keepB h6 hbC
          have kA : KidsP (fun b => b ≠ c5 ∧ b ≠ c6) w_94 A1 za.kids := kA.kept hbC.size (fun b _ hb => hbC.block b hb) (fun b h _ => h)
          have hB : Below w0.heap.size w0 w_94 := hB.trans (hbC.mono hB.size)
          refine hK.out _ _ ?_ (fun hHeld => ?_)
          · exact keptS hB bx1 bx2
          clear hK K hbC hrow l5 l6
          try simp only [Act.put, List.setIfInBounds_toArray, List.set_cons_zero, List.set_cons_succ]
          refine wpAnyH_ready (rs := [5]) (by kernel_rfl) (by simp) ?_
          refine AllReadyH.cons (o := ⟨some 18, _, _, _, _, _⟩) rfl (fun K hK => ?_) AllReadyH.nil
          go_simp
          go_at_call 15
          with_reducible refine (HcutB.out _ hB).mono ?_
          rintro e w_95 ⟨vB, rfl, ⟨B1, eB, rfl, gB, kB⟩, hbC⟩
          have l5 : c5 < w_94.heap.size := (Array.getElem?_eq_some_iff.1 h5).1
          have l6 : c6 < w_94.heap.size := (Array.getElem?_eq_some_iff.1 h6).1
          have kB : KidsP (fun b => b ≠ c5 ∧ b ≠ c6) w_95 B1 zb.kids := kB.kept (Nat.le_refl _) (fun _ _ _ => rfl) (fun b hb _ => ⟨fun e => by omega, fun e => by omega⟩)
          have h5 := keepB h5 hbC
          have h6 := keepB h6 hbC
          have kA : KidsP (fun b => b ≠ c5 ∧ b ≠ c6) w_95 A1 za.kids := kA.kept hbC.size (fun b _ hb => hbC.block b hb) (fun b h _ => h)
          have kH : IntsP (fun b => b ≠ c5 ∧ b ≠ c6) w_95 Ar R := kH.kept hbC.size (fun b _ hb => hbC.block b hb) (fun b h _ => h)
          have hB : Below w0.heap.size w0 w_95 := hB.trans (hbC.mono hB.size)
          refine hK.out _ _ ?_ (fun hHeld => ?_)
          · exact keptS hB bx1 bx2
          clear hK K hbC l5 l6
          try simp only [Act.put, List.setIfInBounds_toArray, List.set_cons_zero, List.set_cons_succ]
          refine wpAnyH_ready (rs := [8]) (by kernel_rfl) (by simp) ?_
          refine AllReadyH.cons (o := ⟨none, _, _, _, _, _⟩) rfl (fun K hK => ?_) AllReadyH.nil
          have q0 := Lib.cell_of_heap h5 0
          have q1 := Lib.cell_of_heap h5 1
          have q2 := Lib.cell_of_heap h5 2
          have q3 := Lib.cell_of_heap h5 3
          have r0 := frozen_block (j := 0) h5
          have r1 := frozen_block (j := 1) h5
          have r2 := frozen_block (j := 2) h5
          have r3 := frozen_block (j := 3) h5
          have hst := set4 (v0 := .int .i64 za.kind) (v1 := .int .i64 za.tok.1) (v2 := .string za.tok.2) (v3 := .slice A1 za.kids.length eA) h5
          have hsz : ((((w_95.setCell ⟨c5, 0, none⟩ (.int .i64 za.kind)).setCell ⟨c5, 1, none⟩ (.int .i64 za.tok.1)).setCell ⟨c5, 2, none⟩ (.string za.tok.2)).setCell ⟨c5, 3, none⟩ (.slice A1 za.kids.length eA)).heap.size = w_95.heap.size := size4
          have hB : Below w0.heap.size w0 ((((w_95.setCell ⟨c5, 0, none⟩ (.int .i64 za.kind)).setCell ⟨c5, 1, none⟩ (.int .i64 za.tok.1)).setCell ⟨c5, 2, none⟩ (.string za.tok.2)).setCell ⟨c5, 3, none⟩ (.slice A1 za.kids.length eA)) := below4 hB g5
          have hot : ∀ b, b ≠ c5 → ((((w_95.setCell ⟨c5, 0, none⟩ (.int .i64 za.kind)).setCell ⟨c5, 1, none⟩ (.int .i64 za.tok.1)).setCell ⟨c5, 2, none⟩ (.string za.tok.2)).setCell ⟨c5, 3, none⟩ (.slice A1 za.kids.length eA)).heap[b]? = w_95.heap[b]? := fun b hb => other4 hb
          go_simp
          refine hK.out _ _ ?_ (fun hHeld => ?_)
          · exact keptS hB bx1 bx2
          clear hK K q0 q1 q2 q3 r0 r1 r2 r3
          try simp only [Act.put, List.setIfInBounds_toArray, List.set_cons_zero, List.set_cons_succ]
          obtain ⟨w_96, hw⟩ : ∃ x, x = ((((w_95.setCell ⟨c5, 0, none⟩ (.int .i64 za.kind)).setCell ⟨c5, 1, none⟩ (.int .i64 za.tok.1)).setCell ⟨c5, 2, none⟩ (.string za.tok.2)).setCell ⟨c5, 3, none⟩ (.slice A1 za.kids.length eA)) := ⟨_, rfl⟩
          rw [← hw] at hst hot hB hsz hHeld
          rw [← hw]
          have h5 := hst
          have h6 := (hot c6 (Ne.symm hcc)).trans h6
          have kA : KidsP (fun b => b ≠ c5 ∧ b ≠ c6) w_96 A1 za.kids := kA.kept (Nat.le_of_eq hsz.symm) (fun b hp _ => hot b hp.1) (fun b h _ => h)
          have kB : KidsP (fun b => b ≠ c5 ∧ b ≠ c6) w_96 B1 zb.kids := kB.kept (Nat.le_of_eq hsz.symm) (fun b hp _ => hot b hp.1) (fun b h _ => h)
          have kH : IntsP (fun b => b ≠ c5 ∧ b ≠ c6) w_96 Ar R := kH.kept (Nat.le_of_eq hsz.symm) (fun b hp _ => hot b hp.1) (fun b h _ => h)
          clear hw hst hot hsz
          refine wpAnyH_take (i := 9) (oi := ⟨some 8, _, _, _, _, _⟩) (v := ?_) rfl (by kernel_rfl) (by kernel_rfl) (by kernel_rfl) (fun _ _ _ h => h) (Or.inl ⟨by rfl, ?hy⟩) (by assumption) ?_
          case hy => (intro w hSw; (try dsimp only at hSw); go_simp; (try with_reducible rfl))
          try simp only [Act.put, List.setIfInBounds_toArray, List.set_cons_zero, List.set_cons_succ]
          refine wpAnyH_ready (rs := [10]) (by kernel_rfl) (by simp) ?_
          refine AllReadyH.cons (o := ⟨none, _, _, _, _, _⟩) rfl (fun K hK => ?_) AllReadyH.nil
          have q0 := Lib.cell_of_heap h6 0
          have q1 := Lib.cell_of_heap h6 1
          have q2 := Lib.cell_of_heap h6 2
          have q3 := Lib.cell_of_heap h6 3
          have r0 := frozen_block (j := 0) h6
          have r1 := frozen_block (j := 1) h6
          have r2 := frozen_block (j := 2) h6
          have r3 := frozen_block (j := 3) h6
          have hst := set4 (v0 := .int .i64 zb.kind) (v1 := .int .i64 zb.tok.1) (v2 := .string zb.tok.2) (v3 := .slice B1 zb.kids.length eB) h6
          have hsz : ((((w_96.setCell ⟨c6, 0, none⟩ (.int .i64 zb.kind)).setCell ⟨c6, 1, none⟩ (.int .i64 zb.tok.1)).setCell ⟨c6, 2, none⟩ (.string zb.tok.2)).setCell ⟨c6, 3, none⟩ (.slice B1 zb.kids.length eB)).heap.size = w_96.heap.size := size4
          have hB : Below w0.heap.size w0 ((((w_96.setCell ⟨c6, 0, none⟩ (.int .i64 zb.kind)).setCell ⟨c6, 1, none⟩ (.int .i64 zb.tok.1)).setCell ⟨c6, 2, none⟩ (.string zb.tok.2)).setCell ⟨c6, 3, none⟩ (.slice B1 zb.kids.length eB)) := below4 hB g6
          have hot : ∀ b, b ≠ c6 → ((((w_96.setCell ⟨c6, 0, none⟩ (.int .i64 zb.kind)).setCell ⟨c6, 1, none⟩ (.int .i64 zb.tok.1)).setCell ⟨c6, 2, none⟩ (.string zb.tok.2)).setCell ⟨c6, 3, none⟩ (.slice B1 zb.kids.length eB)).heap[b]? = w_96.heap[b]? := fun b hb => other4 hb
          go_simp
          refine hK.out _ _ ?_ (fun hHeld => ?_)
          · exact keptS hB bx1 bx2
          clear hK K q0 q1 q2 q3 r0 r1 r2 r3
          try simp only [Act.put, List.setIfInBounds_toArray, List.set_cons_zero, List.set_cons_succ]
          obtain ⟨w_97, hw⟩ : ∃ x, x = ((((w_96.setCell ⟨c6, 0, none⟩ (.int .i64 zb.kind)).setCell ⟨c6, 1, none⟩ (.int .i64 zb.tok.1)).setCell ⟨c6, 2, none⟩ (.string zb.tok.2)).setCell ⟨c6, 3, none⟩ (.slice B1 zb.kids.length eB)) := ⟨_, rfl⟩
          rw [← hw] at hst hot hB hsz hHeld
          rw [← hw]
          have h6 := hst
          have h5 := (hot c5 hcc).trans h5
          have kA : KidsP (fun b => b ≠ c5 ∧ b ≠ c6) w_97 A1 za.kids := kA.kept (Nat.le_of_eq hsz.symm) (fun b hp _ => hot b hp.2) (fun b h _ => h)
          have kB : KidsP (fun b => b ≠ c5 ∧ b ≠ c6) w_97 B1 zb.kids := kB.kept (Nat.le_of_eq hsz.symm) (fun b hp _ => hot b hp.2) (fun b h _ => h)
          have kH : IntsP (fun b => b ≠ c5 ∧ b ≠ c6) w_97 Ar R := kH.kept (Nat.le_of_eq hsz.symm) (fun b hp _ => hot b hp.2) (fun b h _ => h)
          clear hw hst hot hsz
          refine wpAnyH_done (by kernel_rfl) ?_ _
          go_wp2_with fail
          go_meet
          exact ⟨c5, c6, A1, eA, B1, eB, Ar, cr, rfl, rfl, rfl, gA, gB, gH, kA, kB, kH, h5, h6, HB0.out.trans (hB.mono HB0.out.size)⟩
      · go_simp
        have hal : Below w_82.heap.size w_82 (w_82.alloc (.cells #[.int .i64 0, .int .i64 0, .string { data := #[] }, .slice none 0 0] 26)) := (Below.refl _ _).alloc (Nat.le_refl _) _
        refine hK.out _ _ ?_ (fun hHeld => ?_)
        · exact keptS (hB.trans (hal.mono hB.size)) bx1 bx2
        clear hK K
        try simp only [Act.put, List.setIfInBounds_toArray, List.set_cons_zero, List.set_cons_succ]
        obtain ⟨c5, hc⟩ : ∃ c, c = w_82.heap.size := ⟨_, rfl⟩
        obtain ⟨w_98, hw⟩ : ∃ x, x = w_82.alloc (.cells #[.int .i64 0, .int .i64 0, .string { data := #[] }, .slice none 0 0] 26) := ⟨_, rfl⟩
        rw [← hw] at hal
        have g5 : w0.heap.size ≤ c5 := by rw [hc]; exact hB.size
        have hcc : c5 ≠ c6 := by have hlt : c6 < w_82.heap.size := (Array.getElem?_eq_some_iff.1 h6).1; omega
        have h6 := keepB h6 hal
        have hB : Below w0.heap.size w0 w_98 := hB.trans (hal.mono hB.size)
        have h5 : w_98.heap[c5]? = some (.cells #[.int .i64 0, .int .i64 0, .string { data := #[] }, .slice none 0 0] 26 (0, 0)) := by rw [hw, hc]; exact heap_alloc_new _ _
        rw [← hw] at hHeld
        rw [← hw]
        rw [← hc]
        clear hw hc hal
        refine wpAnyH_ready (rs := [1]) (by kernel_rfl) (by simp) ?_
        refine AllReadyH.cons (o := ⟨some 14, _, _, _, _, _⟩) rfl (fun K hK => ?_) AllReadyH.nil
        go_simp
        go_at_call 15
        with_reducible refine (HcutA.out _ hB).mono ?_
        rintro e w_99 ⟨vA, rfl, ⟨A1, eA, rfl, gA, kA⟩, hbC⟩
        have l5 : c5 < w_98.heap.size := (Array.getElem?_eq_some_iff.1 h5).1
        have l6 : c6 < w_98.heap.size := (Array.getElem?_eq_some_iff.1 h6).1
        have kA : KidsP (fun b => b ≠ c5 ∧ b ≠ c6) w_99 A1 za.kids := kA.kept (Nat.le_refl _) (fun _ _ _ => rfl) (fun b hb _ => ⟨fun e => by omega, fun e => by omega⟩)
        have h5 := keepB h5 hbC
        have h6 := keepB h6 hbC
        have hB : Below w0.heap.size w0 w_99 := hB.trans (hbC.mono hB.size)
        refine hK.out _ _ ?_ (fun hHeld => ?_)
        · exact keptS hB bx1 bx2
        clear hK K hbC l5 l6
        try simp only [Act.put, List.setIfInBounds_toArray, List.set_cons_zero, List.set_cons_succ]
        refine wpAnyH_ready (rs := [3]) (by kernel_rfl) (by simp) ?_
        refine AllReadyH.cons (o := ⟨some 16, _, _, _, _, _⟩) rfl (fun K hK => ?_) AllReadyH.nil
        go_simp
        go_at_call 36
        with_reducible refine (HSh.out _ (HEA.out _ hB)).mono ?_
        rintro e w_100 ⟨vH, rfl, hrow, hbC⟩
        obtain ⟨Ar, cr, rfl, gH, kH⟩ := IntsP.of_own hrow
        have l5 : c5 < w_99.heap.size := (Array.getElem?_eq_some_iff.1 h5).1
        have l6 : c6 < w_99.heap.size := (Array.getElem?_eq_some_iff.1 h6).1
        have kH : IntsP (fun b => b ≠ c5 ∧ b ≠ c6) w_100 Ar R := kH.kept (Nat.le_refl _) (fun _ _ _ => rfl) (fun b hb _ => ⟨fun e => by omega, fun e => by omega⟩)
        have h5 := keepB h5 hbC
        have h6 := keepB h6 hbC
        have kA : KidsP (fun b => b ≠ c5 ∧ b ≠ c6) w_100 A1 za.kids := kA.kept hbC.size (fun b _ hb => hbC.block b hb) (fun b h _ => h)
        have hB : Below w0.heap.size w0 w_100 := hB.trans (hbC.mono hB.size)
        refine hK.out _ _ ?_ (fun hHeld => ?_)
        · exact keptS hB bx1 bx2
        clear hK K hbC hrow l5 l6
        try simp only [Act.put, List.setIfInBounds_toArray, List.set_cons_zero, List.set_cons_succ]
        refine wpAnyH_ready (rs := [5]) (by kernel_rfl) (by simp) ?_
        refine AllReadyH.cons (o := ⟨some 18, _, _, _, _, _⟩) rfl (fun K hK => ?_) AllReadyH.nil
        go_simp
        go_at_call 15
        with_reducible refine (HcutB.out _ hB).mono ?_
        rintro e w_101 ⟨vB, rfl, ⟨B1, eB, rfl, gB, kB⟩, hbC⟩
        have l5 : c5 < w_100.heap.size := (Array.getElem?_eq_some_iff.1 h5).1
        have l6 : c6 < w_100.heap.size := (Array.getElem?_eq_some_iff.1 h6).1
        have kB : KidsP (fun b => b ≠ c5 ∧ b ≠ c6) w_101 B1 zb.kids := kB.kept (Nat.le_refl _) (fun _ _ _ => rfl) (fun b hb _ => ⟨fun e => by omega, fun e => by omega⟩)
        have h5 := keepB h5 hbC
        have h6 := keepB h6 hbC
        have kA : KidsP (fun b => b ≠ c5 ∧ b ≠ c6) w_101 A1 za.kids := kA.kept hbC.size (fun b _ hb => hbC.block b hb) (fun b h _ => h)
        have kH : IntsP (fun b => b ≠ c5 ∧ b ≠ c6) w_101 Ar R := kH.kept hbC.size (fun b _ hb => hbC.block b hb) (fun b h _ => h)
        have hB : Below w0.heap.size w0 w_101 := hB.trans (hbC.mono hB.size)
        refine hK.out _ _ ?_ (fun hHeld => ?_)
        · exact keptS hB bx1 bx2
        clear hK K hbC l5 l6
        try simp only [Act.put, List.setIfInBounds_toArray, List.set_cons_zero, List.set_cons_succ]
        refine wpAnyH_ready (rs := [8]) (by kernel_rfl) (by simp) ?_
        refine AllReadyH.cons (o := ⟨none, _, _, _, _, _⟩) rfl (fun K hK => ?_) AllReadyH.nil
        have q0 := Lib.cell_of_heap h5 0
        have q1 := Lib.cell_of_heap h5 1
        have q2 := Lib.cell_of_heap h5 2
        have q3 := Lib.cell_of_heap h5 3
        have r0 := frozen_block (j := 0) h5
        have r1 := frozen_block (j := 1) h5
        have r2 := frozen_block (j := 2) h5
        have r3 := frozen_block (j := 3) h5
        have hst := set4 (v0 := .int .i64 za.kind) (v1 := .int .i64 za.tok.1) (v2 := .string za.tok.2) (v3 := .slice A1 za.kids.length eA) h5
        have hsz : ((((w_101.setCell ⟨c5, 0, none⟩ (.int .i64 za.kind)).setCell ⟨c5, 1, none⟩ (.int .i64 za.tok.1)).setCell ⟨c5, 2, none⟩ (.string za.tok.2)).setCell ⟨c5, 3, none⟩ (.slice A1 za.kids.length eA)).heap.size = w_101.heap.size := size4
        have hB : Below w0.heap.size w0 ((((w_101.setCell ⟨c5, 0, none⟩ (.int .i64 za.kind)).setCell ⟨c5, 1, none⟩ (.int .i64 za.tok.1)).setCell ⟨c5, 2, none⟩ (.string za.tok.2)).setCell ⟨c5, 3, none⟩ (.slice A1 za.kids.length eA)) := below4 hB g5
        have hot : ∀ b, b ≠ c5 → ((((w_101.setCell ⟨c5, 0, none⟩ (.int .i64 za.kind)).setCell ⟨c5, 1, none⟩ (.int .i64 za.tok.1)).setCell ⟨c5, 2, none⟩ (.string za.tok.2)).setCell ⟨c5, 3, none⟩ (.slice A1 za.kids.length eA)).heap[b]? = w_101.heap[b]? := fun b hb => other4 hb
        go_simp
        refine hK.out _ _ ?_ (fun hHeld => ?_)
        · exact keptS hB bx1 bx2
        clear hK K q0 q1 q2 q3 r0 r1 r2 r3
        try simp only [Act.put, List.setIfInBounds_toArray, List.set_cons_zero, List.set_cons_succ]
        obtain ⟨w_102, hw⟩ : ∃ x, x = ((((w_101.setCell ⟨c5, 0, none⟩ (.int .i64 za.kind)).setCell ⟨c5, 1, none⟩ (.int .i64 za.tok.1)).setCell ⟨c5, 2, none⟩ (.string za.tok.2)).setCell ⟨c5, 3, none⟩ (.slice A1 za.kids.length eA)) := ⟨_, rfl⟩
        rw [← hw] at hst hot hB hsz hHeld
        rw [← hw]
        have h5 := hst
        have h6 := (hot c6 (Ne.symm hcc)).trans h6
        have kA : KidsP (fun b => b ≠ c5 ∧ b ≠ c6) w_102 A1 za.kids := kA.kept (Nat.le_of_eq hsz.symm) (fun b hp _ => hot b hp.1) (fun b h _ => h)
        have kB : KidsP (fun b => b ≠ c5 ∧ b ≠ c6) w_102 B1 zb.kids := kB.kept (Nat.le_of_eq hsz.symm) (fun b hp _ => hot b hp.1) (fun b h _ => h)
        have kH : IntsP (fun b => b ≠ c5 ∧ b ≠ c6) w_102 Ar R := kH.kept (Nat.le_of_eq hsz.symm) (fun b hp _ => hot b hp.1) (fun b h _ => h)
        clear hw hst hot hsz
        refine wpAnyH_take (i := 9) (oi := ⟨some 8, _, _, _, _, _⟩) (v := ?_) rfl (by kernel_rfl) (by kernel_rfl) (by kernel_rfl) (fun _ _ _ h => h) (Or.inl ⟨by rfl, ?hy⟩) (by assumption) ?_
        case hy => (intro w hSw; (try dsimp only at hSw); go_simp; (try with_reducible rfl))
        try simp only [Act.put, List.setIfInBounds_toArray, List.set_cons_zero, List.set_cons_succ]
        refine wpAnyH_ready (rs := [10]) (by kernel_rfl) (by simp) ?_
        refine AllReadyH.cons (o := ⟨none, _, _, _, _, _⟩) rfl (fun K hK => ?_) AllReadyH.nil
        have q0 := Lib.cell_of_heap h6 0
        have q1 := Lib.cell_of_heap h6 1
        have q2 := Lib.cell_of_heap h6 2
        have q3 := Lib.cell_of_heap h6 3
        have r0 := frozen_block (j := 0) h6
        have r1 := frozen_block (j := 1) h6
        have r2 := frozen_block (j := 2) h6
        have r3 := frozen_block (j := 3) h6
        have hst := set4 (v0 := .int .i64 zb.kind) (v1 := .int .i64 zb.tok.1) (v2 := .string zb.tok.2) (v3 := .slice B1 zb.kids.length eB) h6
        have hsz : ((((w_102.setCell ⟨c6, 0, none⟩ (.int .i64 zb.kind)).setCell ⟨c6, 1, none⟩ (.int .i64 zb.tok.1)).setCell ⟨c6, 2, none⟩ (.string zb.tok.2)).setCell ⟨c6, 3, none⟩ (.slice B1 zb.kids.length eB)).heap.size = w_102.heap.size := size4
        have hB : Below w0.heap.size w0 ((((w_102.setCell ⟨c6, 0, none⟩ (.int .i64 zb.kind)).setCell ⟨c6, 1, none⟩ (.int .i64 zb.tok.1)).setCell ⟨c6, 2, none⟩ (.string zb.tok.2)).setCell ⟨c6, 3, none⟩ (.slice B1 zb.kids.length eB)) := below4 hB g6
        have hot : ∀ b, b ≠ c6 → ((((w_102.setCell ⟨c6, 0, none⟩ (.int .i64 zb.kind)).setCell ⟨c6, 1, none⟩ (.int .i64 zb.tok.1)).setCell ⟨c6, 2, none⟩ (.string zb.tok.2)).setCell ⟨c6, 3, none⟩ (.slice B1 zb.kids.length eB)).heap[b]? = w_102.heap[b]? := fun b hb => other4 hb
        go_simp
        refine hK.out _ _ ?_ (fun hHeld => ?_)
        · exact keptS hB bx1 bx2
        clear hK K q0 q1 q2 q3 r0 r1 r2 r3
        try simp only [Act.put, List.setIfInBounds_toArray, List.set_cons_zero, List.set_cons_succ]
        obtain ⟨w_103, hw⟩ : ∃ x, x = ((((w_102.setCell ⟨c6, 0, none⟩ (.int .i64 zb.kind)).setCell ⟨c6, 1, none⟩ (.int .i64 zb.tok.1)).setCell ⟨c6, 2, none⟩ (.string zb.tok.2)).setCell ⟨c6, 3, none⟩ (.slice B1 zb.kids.length eB)) := ⟨_, rfl⟩
        rw [← hw] at hst hot hB hsz hHeld
        rw [← hw]
        have h6 := hst
        have h5 := (hot c5 hcc).trans h5
        have kA : KidsP (fun b => b ≠ c5 ∧ b ≠ c6) w_103 A1 za.kids := kA.kept (Nat.le_of_eq hsz.symm) (fun b hp _ => hot b hp.2) (fun b h _ => h)
        have kB : KidsP (fun b => b ≠ c5 ∧ b ≠ c6) w_103 B1 zb.kids := kB.kept (Nat.le_of_eq hsz.symm) (fun b hp _ => hot b hp.2) (fun b h _ => h)
        have kH : IntsP (fun b => b ≠ c5 ∧ b ≠ c6) w_103 Ar R := kH.kept (Nat.le_of_eq hsz.symm) (fun b hp _ => hot b hp.2) (fun b h _ => h)
        clear hw hst hot hsz
        refine wpAnyH_done (by kernel_rfl) ?_ _
        go_wp2_with fail
        go_meet
        exact ⟨c5, c6, A1, eA, B1, eB, Ar, cr, rfl, rfl, rfl, gA, gB, gH, kA, kB, kH, h5, h6, HB0.out.trans (hB.mono HB0.out.size)⟩
  case rest =>
    obtain ⟨c5, c6, A1, eA, B1, eB, Ar, cr, rfl, rfl, rfl, gA, gB, gH, kA, kB, kH, h5, h6, hB⟩ := hcut
    have KA := Lib.hid (show KeepZ za A1 eA c5 wc from ⟨h5, gA, kA.kept (Nat.le_refl _) (fun _ _ _ => rfl) (fun _ _ _ => trivial), HT.out.1.below hB⟩)
    have KB := Lib.hid (show KeepZ zb B1 eB c6 wc from ⟨h6, gB, kB.kept (Nat.le_refl _) (fun _ _ _ => rfl) (fun _ _ _ => trivial), HT.out.1.below hB⟩)
    have IP := Lib.hid kH.ints
    have BW := Lib.hid hB
    have GH := Lib.hid gH
    clear kA kB kH h5 h6 hB gA gB gH
    have hfa := fun W v (h : NodeV W v za) => RIsFormed_any za v W (Nat.le_trans HZ.out.1.count (by decide)) HZ.out.1.sm h
    have hfb := fun W v (h : NodeV W v zb) => RIsFormed_any zb v W (Nat.le_trans HZ.out.2.1.count (by decide)) HZ.out.2.1.sm h
    rw [rFormB_eq] at hfa hfb
    have hRl : R.length ≤ 1000000000 := Nat.le_trans HZ.out.2.2 (by decide)
    have HRl := Lib.hid hRl
    clear hRl
    cases hqa : formedB za with
    | false =>
      rw [hqa] at hfa
      have HFA := Lib.hid hfa
      have HPE := Lib.hid (show (if formedB zb = false then 4 else goErr za R) = (4 : Int) by unfold goErr; rw [if_pos hqa]; split <;> rfl)
      clear hqa hfa hfb
      obtain ⟨q0, q1, q2, q3⟩ := cells_of_block KA.out.box
      obtain ⟨r0, r1, r2, r3⟩ := cells_of_block KB.out.box
      go_wp2_with fail
      try clear q0 q1 q2 q3
      try clear r0 r1 r2 r3
      try clear s0 s1 s2 s3
      refine (Put_err za zb _ _ R Ar cr wc 4 HZ.out.1.size HZ.out.2.1.size HZ.out.1.sum KA.out.tabs KA.out.nodeC KB.out.node HRl.out IP.out HPE.out (by decide)).mono ?_
      rintro e w3 ⟨rfl, hb⟩
      have KA := Lib.hid (KA.out.below hb)
      have KB := Lib.hid (KB.out.below hb)
      have IP := Lib.hid (IP.out.below hb)
      have BW := Lib.hid (BW.out.trans (hb.mono BW.out.size))
      clear hb
      go_upto_region 4 with fail
      have hb := allocB w3 (.cells (nodeCells zeroNd none 0) 26)
      have KA := Lib.hid (KA.out.below hb)
      have KB := Lib.hid (KB.out.below hb)
      have IP := Lib.hid (IP.out.below hb)
      have BW := Lib.hid (BW.out.trans (hb.mono BW.out.size))
      have KX := Lib.hid (show KeepZ zeroNd none 0 w3.heap.size (w3.alloc (.cells (nodeCells zeroNd none 0) 26)) from ⟨alloc_at _ _ _ rfl, Nat.le_refl _, fun h => by simp [zeroNd, Nd.kids] at h, KA.out.tabs⟩)
      obtain ⟨w4, hw⟩ : ∃ u, u = w3.alloc (.cells (nodeCells zeroNd none 0) 26) := ⟨_, rfl⟩
      obtain ⟨b10, hbb⟩ : ∃ x, x = w3.heap.size := ⟨_, rfl⟩
      rw [← hw] at BW KX KA KB IP
      rw [← hbb] at KX
      rw [show w3.alloc (.cells #[.int .i64 0, .int .i64 0, .string { data := #[] }, .slice none 0 0] 26) = w4 from hw.symm]
      rw [← hbb]
      clear hw hbb hb
      obtain ⟨q0, q1, q2, q3⟩ := cells_of_block KA.out.box
      go_wp2_with fail
      try clear q0 q1 q2 q3
      try clear r0 r1 r2 r3
      try clear s0 s1 s2 s3
      refine (HFA.out w4 _ KA.out.node).mono ?_
      rintro e w5 ⟨rfl, hb⟩
      have KA := Lib.hid (KA.out.below hb)
      have KB := Lib.hid (KB.out.below hb)
      have IP := Lib.hid (IP.out.below hb)
      have KX := Lib.hid (KX.out.below hb)
      have BW := Lib.hid (BW.out.trans (hb.mono BW.out.size))
      clear hb
      obtain ⟨q0, q1, q2, q3⟩ := (show _ ∧ _ ∧ _ ∧ _ from ⟨Lib.cell_of_heap KX.out.box 0, Lib.cell_of_heap KX.out.box 1, Lib.cell_of_heap KX.out.box 2, Lib.cell_of_heap KX.out.box 3⟩)
      try dsimp only [nodeCells, zeroNd, Nd.kind, Nd.tok, Nd.kids, noTok, List.length_nil] at q0 q1 q2 q3
      go_wp2_with fail
      try clear q0 q1 q2 q3
      try clear r0 r1 r2 r3
      try clear s0 s1 s2 s3
      refine (RSame_self zeroNd _ _ w5 (by decide) (zero_node _) (zero_node _)).mono ?_
      rintro e w6 ⟨rfl, hb⟩
      have KA := Lib.hid (KA.out.below hb)
      have BW := Lib.hid (BW.out.trans (hb.mono BW.out.size))
      clear hb
      go_wp2_with fail
      refine (alive5_any w6 KA.out.tabs).mono ?_
      rintro e w7 ⟨rfl, hb⟩
      have BL := Lib.hid (BW.out.trans (hb.mono BW.out.size))
      clear hb
      go_wp2_with fail
      go_ret
      exact ⟨rfl, BL.out⟩
    | true =>
      rw [hqa] at hfa
      have HFA := Lib.hid hfa
      cases hqb : formedB zb with
      | false =>
        rw [hqb] at hfb
        have HFB := Lib.hid hfb
        have HPE := Lib.hid (show (if formedB zb = false then 4 else goErr za R) = (4 : Int) from if_pos hqb)
        clear hqa hqb hfa hfb
        obtain ⟨q0, q1, q2, q3⟩ := cells_of_block KA.out.box
        obtain ⟨r0, r1, r2, r3⟩ := cells_of_block KB.out.box
        go_wp2_with fail
        try clear q0 q1 q2 q3
        try clear r0 r1 r2 r3
        try clear s0 s1 s2 s3
        refine (Put_err za zb _ _ R Ar cr wc 4 HZ.out.1.size HZ.out.2.1.size HZ.out.1.sum KA.out.tabs KA.out.nodeC KB.out.node HRl.out IP.out HPE.out (by decide)).mono ?_
        rintro e w3 ⟨rfl, hb⟩
        have KA := Lib.hid (KA.out.below hb)
        have KB := Lib.hid (KB.out.below hb)
        have IP := Lib.hid (IP.out.below hb)
        have BW := Lib.hid (BW.out.trans (hb.mono BW.out.size))
        clear hb
        go_upto_region 4 with fail
        have hb := allocB w3 (.cells (nodeCells zeroNd none 0) 26)
        have KA := Lib.hid (KA.out.below hb)
        have KB := Lib.hid (KB.out.below hb)
        have IP := Lib.hid (IP.out.below hb)
        have BW := Lib.hid (BW.out.trans (hb.mono BW.out.size))
        have KX := Lib.hid (show KeepZ zeroNd none 0 w3.heap.size (w3.alloc (.cells (nodeCells zeroNd none 0) 26)) from ⟨alloc_at _ _ _ rfl, Nat.le_refl _, fun h => by simp [zeroNd, Nd.kids] at h, KA.out.tabs⟩)
        obtain ⟨w4, hw⟩ : ∃ u, u = w3.alloc (.cells (nodeCells zeroNd none 0) 26) := ⟨_, rfl⟩
        obtain ⟨b10, hbb⟩ : ∃ x, x = w3.heap.size := ⟨_, rfl⟩
        rw [← hw] at BW KX KA KB IP
        rw [← hbb] at KX
        rw [show w3.alloc (.cells #[.int .i64 0, .int .i64 0, .string { data := #[] }, .slice none 0 0] 26) = w4 from hw.symm]
        rw [← hbb]
        clear hw hbb hb
        obtain ⟨q0, q1, q2, q3⟩ := cells_of_block KA.out.box
        go_wp2_with fail
        try clear q0 q1 q2 q3
        try clear r0 r1 r2 r3
        try clear s0 s1 s2 s3
        refine (HFA.out w4 _ KA.out.node).mono ?_
        rintro e w5 ⟨rfl, hb⟩
        have KA := Lib.hid (KA.out.below hb)
        have KB := Lib.hid (KB.out.below hb)
        have IP := Lib.hid (IP.out.below hb)
        have KX := Lib.hid (KX.out.below hb)
        have BW := Lib.hid (BW.out.trans (hb.mono BW.out.size))
        clear hb
        obtain ⟨q0, q1, q2, q3⟩ := cells_of_block KB.out.box
        go_wp2_with fail
        try clear q0 q1 q2 q3
        try clear r0 r1 r2 r3
        try clear s0 s1 s2 s3
        refine (HFB.out w5 _ KB.out.node).mono ?_
        rintro e w6 ⟨rfl, hb⟩
        have KA := Lib.hid (KA.out.below hb)
        have KB := Lib.hid (KB.out.below hb)
        have IP := Lib.hid (IP.out.below hb)
        have KX := Lib.hid (KX.out.below hb)
        have BW := Lib.hid (BW.out.trans (hb.mono BW.out.size))
        clear hb
        obtain ⟨q0, q1, q2, q3⟩ := (show _ ∧ _ ∧ _ ∧ _ from ⟨Lib.cell_of_heap KX.out.box 0, Lib.cell_of_heap KX.out.box 1, Lib.cell_of_heap KX.out.box 2, Lib.cell_of_heap KX.out.box 3⟩)
        try dsimp only [nodeCells, zeroNd, Nd.kind, Nd.tok, Nd.kids, noTok, List.length_nil] at q0 q1 q2 q3
        go_wp2_with fail
        try clear q0 q1 q2 q3
        try clear r0 r1 r2 r3
        try clear s0 s1 s2 s3
        refine (RSame_self zeroNd _ _ w6 (by decide) (zero_node _) (zero_node _)).mono ?_
        rintro e w7 ⟨rfl, hb⟩
        have KA := Lib.hid (KA.out.below hb)
        have BW := Lib.hid (BW.out.trans (hb.mono BW.out.size))
        clear hb
        go_wp2_with fail
        refine (alive5_any w7 KA.out.tabs).mono ?_
        rintro e w8 ⟨rfl, hb⟩
        have BL := Lib.hid (BW.out.trans (hb.mono BW.out.size))
        clear hb
        go_wp2_with fail
        go_ret
        exact ⟨rfl, BL.out⟩
      | true =>
        rw [hqb] at hfb
        have HFB := Lib.hid hfb
        clear hfa hfb
        have hhas := fun W v Ap cp (h : NodeP (fun _ => True) W v za) (hi : IntsR W Ap R) => Has_any za v R Ap cp W h HRl.out hi
        cases hgo : goR za R 0 with
        | none =>
          rw [hgo] at hhas
          have HHas := Lib.hid (show ∀ W v Ap cp, NodeP (fun _ => True) W v za → IntsR W Ap R → Calls Tryd.prog 40 #[v, .slice Ap R.length cp] W fun e w' => e = .returned (.bool false) ∧ Below W.heap.size W w' from hhas)
          have HPE := Lib.hid (show (if formedB zb = false then 4 else goErr za R) = (2 : Int) by unfold goErr; rw [if_neg (by rw [hqb]; decide), if_neg (by rw [hqa]; decide), hgo])
          clear hqa hqb hhas hgo
          obtain ⟨q0, q1, q2, q3⟩ := cells_of_block KA.out.box
          obtain ⟨r0, r1, r2, r3⟩ := cells_of_block KB.out.box
          go_wp2_with fail
          try clear q0 q1 q2 q3
          try clear r0 r1 r2 r3
          try clear s0 s1 s2 s3
          refine (Put_err za zb _ _ R Ar cr wc 2 HZ.out.1.size HZ.out.2.1.size HZ.out.1.sum KA.out.tabs KA.out.nodeC KB.out.node HRl.out IP.out HPE.out (by decide)).mono ?_
          rintro e w3 ⟨rfl, hb⟩
          have KA := Lib.hid (KA.out.below hb)
          have KB := Lib.hid (KB.out.below hb)
          have IP := Lib.hid (IP.out.below hb)
          have BW := Lib.hid (BW.out.trans (hb.mono BW.out.size))
          clear hb
          go_upto_region 4 with fail
          have hb := allocB w3 (.cells (nodeCells zeroNd none 0) 26)
          have KA := Lib.hid (KA.out.below hb)
          have KB := Lib.hid (KB.out.below hb)
          have IP := Lib.hid (IP.out.below hb)
          have BW := Lib.hid (BW.out.trans (hb.mono BW.out.size))
          have KX := Lib.hid (show KeepZ zeroNd none 0 w3.heap.size (w3.alloc (.cells (nodeCells zeroNd none 0) 26)) from ⟨alloc_at _ _ _ rfl, Nat.le_refl _, fun h => by simp [zeroNd, Nd.kids] at h, KA.out.tabs⟩)
          obtain ⟨w4, hw⟩ : ∃ u, u = w3.alloc (.cells (nodeCells zeroNd none 0) 26) := ⟨_, rfl⟩
          obtain ⟨b10, hbb⟩ : ∃ x, x = w3.heap.size := ⟨_, rfl⟩
          rw [← hw] at BW KX KA KB IP
          rw [← hbb] at KX
          rw [show w3.alloc (.cells #[.int .i64 0, .int .i64 0, .string { data := #[] }, .slice none 0 0] 26) = w4 from hw.symm]
          rw [← hbb]
          clear hw hbb hb
          obtain ⟨q0, q1, q2, q3⟩ := cells_of_block KA.out.box
          go_wp2_with fail
          try clear q0 q1 q2 q3
          try clear r0 r1 r2 r3
          try clear s0 s1 s2 s3
          refine (HFA.out w4 _ KA.out.node).mono ?_
          rintro e w5 ⟨rfl, hb⟩
          have KA := Lib.hid (KA.out.below hb)
          have KB := Lib.hid (KB.out.below hb)
          have IP := Lib.hid (IP.out.below hb)
          have KX := Lib.hid (KX.out.below hb)
          have BW := Lib.hid (BW.out.trans (hb.mono BW.out.size))
          clear hb
          obtain ⟨q0, q1, q2, q3⟩ := cells_of_block KB.out.box
          go_wp2_with fail
          try clear q0 q1 q2 q3
          try clear r0 r1 r2 r3
          try clear s0 s1 s2 s3
          refine (HFB.out w5 _ KB.out.node).mono ?_
          rintro e w6 ⟨rfl, hb⟩
          have KA := Lib.hid (KA.out.below hb)
          have KB := Lib.hid (KB.out.below hb)
          have IP := Lib.hid (IP.out.below hb)
          have KX := Lib.hid (KX.out.below hb)
          have BW := Lib.hid (BW.out.trans (hb.mono BW.out.size))
          clear hb
          obtain ⟨q0, q1, q2, q3⟩ := cells_of_block KA.out.box
          go_wp2_with fail
          try clear q0 q1 q2 q3
          try clear r0 r1 r2 r3
          try clear s0 s1 s2 s3
          refine (HHas.out w6 _ Ar cr KA.out.nodeC IP.out).mono ?_
          rintro e w7 ⟨rfl, hb⟩
          have KA := Lib.hid (KA.out.below hb)
          have KB := Lib.hid (KB.out.below hb)
          have IP := Lib.hid (IP.out.below hb)
          have KX := Lib.hid (KX.out.below hb)
          have BW := Lib.hid (BW.out.trans (hb.mono BW.out.size))
          clear hb
          obtain ⟨q0, q1, q2, q3⟩ := (show _ ∧ _ ∧ _ ∧ _ from ⟨Lib.cell_of_heap KX.out.box 0, Lib.cell_of_heap KX.out.box 1, Lib.cell_of_heap KX.out.box 2, Lib.cell_of_heap KX.out.box 3⟩)
          try dsimp only [nodeCells, zeroNd, Nd.kind, Nd.tok, Nd.kids, noTok, List.length_nil] at q0 q1 q2 q3
          go_wp2_with fail
          try clear q0 q1 q2 q3
          try clear r0 r1 r2 r3
          try clear s0 s1 s2 s3
          refine (RSame_self zeroNd _ _ w7 (by decide) (zero_node _) (zero_node _)).mono ?_
          rintro e w8 ⟨rfl, hb⟩
          have KA := Lib.hid (KA.out.below hb)
          have BW := Lib.hid (BW.out.trans (hb.mono BW.out.size))
          clear hb
          go_wp2_with fail
          refine (alive5_any w8 KA.out.tabs).mono ?_
          rintro e w9 ⟨rfl, hb⟩
          have BL := Lib.hid (BW.out.trans (hb.mono BW.out.size))
          clear hb
          go_wp2_with fail
          go_ret
          exact ⟨rfl, BL.out⟩
        | some xb =>
          obtain ⟨x, b⟩ := xb
          rw [hgo] at hhas
          have HHas := Lib.hid (show ∀ W v Ap cp, NodeP (fun _ => True) W v za → IntsR W Ap R → Calls Tryd.prog 40 #[v, .slice Ap R.length cp] W fun e w' => e = .returned (.bool true) ∧ Below W.heap.size W w' from hhas)
          clear hhas
          obtain ⟨p, rfl⟩ := goR_nat R za x 0 b hgo
          have hat := goR_at p za x 0 b hgo
          have hca := HZ.out.1.count
          have hcb := HZ.out.2.1.count
          obtain ⟨nw, hnw⟩ : ∃ m, m = putN za p zb := ⟨_, rfl⟩
          have hcn : countN nw ≤ 1200 := by have := putN_count za p zb; rw [hnw]; omega
          have hsm : smT nw := by rw [hnw]; exact putN_sm za p zb HZ.out.1.sm HZ.out.2.1.sm
          have hfn := fun W v (h : NodeV W v nw) => RIsFormed_any nw v W (Nat.le_trans hcn (by decide)) hsm h
          rw [rFormB_eq] at hfn
          have hlp : p.length ≤ cr := by have := GH.out; simpa [intL] using this
          have hput := fun W v vy Ap cp (h1 : Tabs W) (h2 : NodeP (fun _ => True) W v za) (h3 : NodeV W vy zb) (h4 : IntsR W Ap (intL p)) => Put_res za x zb p b v vy Ap cp W (by omega) HZ.out.1.sum h1 h2 h3 HRl.out h4 hqa hqb hgo
          rw [← hnw] at hput
          have hrp : ∀ W v vy, NodeP (fun _ => True) W v za → NodeP (fun _ => True) W vy zb → IntsR W Ar (intL p) → Calls Tryd.prog 50 #[v, .slice Ar (intL p).length cr, vy] W fun e w' => (∃ v', e = .returned v' ∧ NodeV w' v' nw) ∧ Below W.heap.size W w' := fun W v vy h1 h2 h3 => by
            obtain ⟨Aa, ca, rfl, h4, h5⟩ := h1
            obtain ⟨Ab, cb, rfl, h6, h7⟩ := h2
            rw [hnw]
            exact (RPut_any p za x zb (fun b => b < W.heap.size) _ _ Ar cr W HZ.out.1.size hat hlp (fun _ h => h) ⟨Aa, ca, rfl, h4, h5.kept (Nat.le_refl _) (fun _ _ _ => rfl) (fun _ _ h => h)⟩ ⟨Ab, cb, rfl, h6, h7.kept (Nat.le_refl _) (fun _ _ _ => rfl) (fun _ _ h => h)⟩ h3.toA).mono fun e w' ⟨v', h8, h9, h10⟩ => ⟨⟨v', h8, h9.node⟩, h10⟩
          have HPut := Lib.hid hput
          have HRp := Lib.hid hrp
          have HC := Lib.hid hcn
          clear hput hrp hqa hqb hgo hat hca hcb hnw hcn hsm hlp
          obtain ⟨q0, q1, q2, q3⟩ := cells_of_block KA.out.box
          obtain ⟨r0, r1, r2, r3⟩ := cells_of_block KB.out.box
          go_wp2_with fail
          try clear q0 q1 q2 q3
          try clear r0 r1 r2 r3
          try clear s0 s1 s2 s3
          cases hqn : formedB nw with
          | false =>
            rw [hqn] at hfn
            have HFN := Lib.hid hfn
            clear hfn
            refine (HPut.out wc _ _ Ar cr KA.out.tabs KA.out.nodeC KB.out.node IP.out).mono ?_
            rintro e w3 ⟨hpost, hb⟩
            have KA := Lib.hid (KA.out.below hb)
            have KB := Lib.hid (KB.out.below hb)
            have IP := Lib.hid (IP.out.below hb)
            have BW := Lib.hid (BW.out.trans (hb.mono BW.out.size))
            obtain rfl := put_no hpost hqn
            clear hpost hqn
            clear hb
            go_upto_region 4 with fail
            have hb := allocB w3 (.cells (nodeCells zeroNd none 0) 26)
            have KA := Lib.hid (KA.out.below hb)
            have KB := Lib.hid (KB.out.below hb)
            have IP := Lib.hid (IP.out.below hb)
            have BW := Lib.hid (BW.out.trans (hb.mono BW.out.size))
            have KX := Lib.hid (show KeepZ zeroNd none 0 w3.heap.size (w3.alloc (.cells (nodeCells zeroNd none 0) 26)) from ⟨alloc_at _ _ _ rfl, Nat.le_refl _, fun h => by simp [zeroNd, Nd.kids] at h, KA.out.tabs⟩)
            obtain ⟨w4, hw⟩ : ∃ u, u = w3.alloc (.cells (nodeCells zeroNd none 0) 26) := ⟨_, rfl⟩
            obtain ⟨b10, hbb⟩ : ∃ x, x = w3.heap.size := ⟨_, rfl⟩
            rw [← hw] at BW KX KA KB IP
            rw [← hbb] at KX
            rw [show w3.alloc (.cells #[.int .i64 0, .int .i64 0, .string { data := #[] }, .slice none 0 0] 26) = w4 from hw.symm]
            rw [← hbb]
            clear hw hbb hb
            obtain ⟨q0, q1, q2, q3⟩ := cells_of_block KA.out.box
            go_wp2_with fail
            try clear q0 q1 q2 q3
            try clear r0 r1 r2 r3
            try clear s0 s1 s2 s3
            refine (HFA.out w4 _ KA.out.node).mono ?_
            rintro e w5 ⟨rfl, hb⟩
            have KA := Lib.hid (KA.out.below hb)
            have KB := Lib.hid (KB.out.below hb)
            have IP := Lib.hid (IP.out.below hb)
            have KX := Lib.hid (KX.out.below hb)
            have BW := Lib.hid (BW.out.trans (hb.mono BW.out.size))
            clear hb
            obtain ⟨q0, q1, q2, q3⟩ := cells_of_block KB.out.box
            go_wp2_with fail
            try clear q0 q1 q2 q3
            try clear r0 r1 r2 r3
            try clear s0 s1 s2 s3
            refine (HFB.out w5 _ KB.out.node).mono ?_
            rintro e w6 ⟨rfl, hb⟩
            have KA := Lib.hid (KA.out.below hb)
            have KB := Lib.hid (KB.out.below hb)
            have IP := Lib.hid (IP.out.below hb)
            have KX := Lib.hid (KX.out.below hb)
            have BW := Lib.hid (BW.out.trans (hb.mono BW.out.size))
            clear hb
            obtain ⟨q0, q1, q2, q3⟩ := cells_of_block KA.out.box
            go_wp2_with fail
            try clear q0 q1 q2 q3
            try clear r0 r1 r2 r3
            try clear s0 s1 s2 s3
            refine (HHas.out w6 _ Ar cr KA.out.nodeC IP.out).mono ?_
            rintro e w7 ⟨rfl, hb⟩
            have KA := Lib.hid (KA.out.below hb)
            have KB := Lib.hid (KB.out.below hb)
            have IP := Lib.hid (IP.out.below hb)
            have KX := Lib.hid (KX.out.below hb)
            have BW := Lib.hid (BW.out.trans (hb.mono BW.out.size))
            clear hb
            obtain ⟨q0, q1, q2, q3⟩ := cells_of_block KA.out.box
            obtain ⟨r0, r1, r2, r3⟩ := cells_of_block KB.out.box
            go_wp2_with fail
            try clear q0 q1 q2 q3
            try clear r0 r1 r2 r3
            try clear s0 s1 s2 s3
            refine (HRp.out w7 _ _ KA.out.nodeC KB.out.nodeC IP.out).mono ?_
            rintro e w8 ⟨⟨v8, rfl, hn8⟩, hb⟩
            have KA := Lib.hid (KA.out.below hb)
            have KB := Lib.hid (KB.out.below hb)
            have IP := Lib.hid (IP.out.below hb)
            have KX := Lib.hid (KX.out.below hb)
            have BW := Lib.hid (BW.out.trans (hb.mono BW.out.size))
            clear hb
            go_wp2_with fail
            refine (HFN.out w8 _ hn8).mono ?_
            rintro e w9 ⟨rfl, hb⟩
            have KA := Lib.hid (KA.out.below hb)
            have KB := Lib.hid (KB.out.below hb)
            have IP := Lib.hid (IP.out.below hb)
            have KX := Lib.hid (KX.out.below hb)
            have BW := Lib.hid (BW.out.trans (hb.mono BW.out.size))
            clear hb
            clear hn8
            obtain ⟨q0, q1, q2, q3⟩ := (show _ ∧ _ ∧ _ ∧ _ from ⟨Lib.cell_of_heap KX.out.box 0, Lib.cell_of_heap KX.out.box 1, Lib.cell_of_heap KX.out.box 2, Lib.cell_of_heap KX.out.box 3⟩)
            try dsimp only [nodeCells, zeroNd, Nd.kind, Nd.tok, Nd.kids, noTok, List.length_nil] at q0 q1 q2 q3
            go_wp2_with fail
            try clear q0 q1 q2 q3
            try clear r0 r1 r2 r3
            try clear s0 s1 s2 s3
            refine (RSame_self zeroNd _ _ w9 (by decide) (zero_node _) (zero_node _)).mono ?_
            rintro e w10 ⟨rfl, hb⟩
            have KA := Lib.hid (KA.out.below hb)
            have BW := Lib.hid (BW.out.trans (hb.mono BW.out.size))
            clear hb
            go_wp2_with fail
            refine (alive5_any w10 KA.out.tabs).mono ?_
            rintro e w11 ⟨rfl, hb⟩
            have BL := Lib.hid (BW.out.trans (hb.mono BW.out.size))
            clear hb
            go_wp2_with fail
            go_ret
            exact ⟨rfl, BL.out⟩
          | true =>
            rw [hqn] at hfn
            have HFN := Lib.hid hfn
            clear hfn
            refine (HPut.out wc _ _ Ar cr KA.out.tabs KA.out.nodeC KB.out.node IP.out).mono ?_
            rintro e w3 ⟨hpost, hb⟩
            have KA := Lib.hid (KA.out.below hb)
            have KB := Lib.hid (KB.out.below hb)
            have IP := Lib.hid (IP.out.below hb)
            have BW := Lib.hid (BW.out.trans (hb.mono BW.out.size))
            obtain ⟨A4, c4, rfl, hc4, hk4⟩ := put_ok hpost hqn
            clear hpost hqn
            clear hb
            have KN := Lib.hid (KeepZ.of hc4 hk4 KA.out.tabs)
            clear hc4 hk4
            go_upto_region 4 with fail
            have hb := allocB w3 (.cells (nodeCells nw A4 c4) 26)
            have KA := Lib.hid (KA.out.below hb)
            have KB := Lib.hid (KB.out.below hb)
            have IP := Lib.hid (IP.out.below hb)
            have BW := Lib.hid (BW.out.trans (hb.mono BW.out.size))
            obtain ⟨w4, hw⟩ : ∃ u, u = w3.alloc (.cells (nodeCells nw A4 c4) 26) := ⟨_, rfl⟩
            obtain ⟨b10, hbb⟩ : ∃ x, x = w3.heap.size := ⟨_, rfl⟩
            rw [← hw] at BW KN KA KB IP
            rw [← hbb] at KN
            rw [show w3.alloc (.cells #[.int .i64 nw.kind, .int .i64 nw.tok.1, .string nw.tok.2, .slice A4 nw.kids.length c4] 26) = w4 from hw.symm]
            rw [← hbb]
            clear hw hbb hb
            obtain ⟨q0, q1, q2, q3⟩ := cells_of_block KA.out.box
            go_wp2_with fail
            try clear q0 q1 q2 q3
            try clear r0 r1 r2 r3
            try clear s0 s1 s2 s3
            refine (HFA.out w4 _ KA.out.node).mono ?_
            rintro e w5 ⟨rfl, hb⟩
            have KA := Lib.hid (KA.out.below hb)
            have KB := Lib.hid (KB.out.below hb)
            have IP := Lib.hid (IP.out.below hb)
            have KN := Lib.hid (KN.out.below hb)
            have BW := Lib.hid (BW.out.trans (hb.mono BW.out.size))
            clear hb
            obtain ⟨q0, q1, q2, q3⟩ := cells_of_block KB.out.box
            go_wp2_with fail
            try clear q0 q1 q2 q3
            try clear r0 r1 r2 r3
            try clear s0 s1 s2 s3
            refine (HFB.out w5 _ KB.out.node).mono ?_
            rintro e w6 ⟨rfl, hb⟩
            have KA := Lib.hid (KA.out.below hb)
            have KB := Lib.hid (KB.out.below hb)
            have IP := Lib.hid (IP.out.below hb)
            have KN := Lib.hid (KN.out.below hb)
            have BW := Lib.hid (BW.out.trans (hb.mono BW.out.size))
            clear hb
            obtain ⟨q0, q1, q2, q3⟩ := cells_of_block KA.out.box
            go_wp2_with fail
            try clear q0 q1 q2 q3
            try clear r0 r1 r2 r3
            try clear s0 s1 s2 s3
            refine (HHas.out w6 _ Ar cr KA.out.nodeC IP.out).mono ?_
            rintro e w7 ⟨rfl, hb⟩
            have KA := Lib.hid (KA.out.below hb)
            have KB := Lib.hid (KB.out.below hb)
            have IP := Lib.hid (IP.out.below hb)
            have KN := Lib.hid (KN.out.below hb)
            have BW := Lib.hid (BW.out.trans (hb.mono BW.out.size))
            clear hb
            obtain ⟨q0, q1, q2, q3⟩ := cells_of_block KA.out.box
            obtain ⟨r0, r1, r2, r3⟩ := cells_of_block KB.out.box
            go_wp2_with fail
            try clear q0 q1 q2 q3
            try clear r0 r1 r2 r3
            try clear s0 s1 s2 s3
            refine (HRp.out w7 _ _ KA.out.nodeC KB.out.nodeC IP.out).mono ?_
            rintro e w8 ⟨⟨v8, rfl, hn8⟩, hb⟩
            have KA := Lib.hid (KA.out.below hb)
            have KB := Lib.hid (KB.out.below hb)
            have IP := Lib.hid (IP.out.below hb)
            have KN := Lib.hid (KN.out.below hb)
            have BW := Lib.hid (BW.out.trans (hb.mono BW.out.size))
            clear hb
            go_wp2_with fail
            refine (HFN.out w8 _ hn8).mono ?_
            rintro e w9 ⟨rfl, hb⟩
            have KA := Lib.hid (KA.out.below hb)
            have KB := Lib.hid (KB.out.below hb)
            have IP := Lib.hid (IP.out.below hb)
            have KN := Lib.hid (KN.out.below hb)
            have BW := Lib.hid (BW.out.trans (hb.mono BW.out.size))
            clear hb
            clear hn8
            go_upto_region 12 with fail
            have hSS : ∀ W, Below w9.heap.size w9 W → (fun W => (W.cell? ⟨c5, 0, none⟩ = some (.int .i64 za.kind) ∧ W.cell? ⟨c5, 1, none⟩ = some (.int .i64 za.tok.1) ∧ W.cell? ⟨c5, 2, none⟩ = some (.string za.tok.2) ∧ W.cell? ⟨c5, 3, none⟩ = some (.slice A1 za.kids.length eA)) ∧ (W.cell? ⟨c6, 0, none⟩ = some (.int .i64 zb.kind) ∧ W.cell? ⟨c6, 1, none⟩ = some (.int .i64 zb.tok.1) ∧ W.cell? ⟨c6, 2, none⟩ = some (.string zb.tok.2) ∧ W.cell? ⟨c6, 3, none⟩ = some (.slice B1 zb.kids.length eB)) ∧ (W.cell? ⟨b10, 0, none⟩ = some (.int .i64 nw.kind) ∧ W.cell? ⟨b10, 1, none⟩ = some (.int .i64 nw.tok.1) ∧ W.cell? ⟨b10, 2, none⟩ = some (.string nw.tok.2) ∧ W.cell? ⟨b10, 3, none⟩ = some (.slice A4 nw.kids.length c4))) W := fun W hW => ⟨cells_of_block (KA.out.below hW).box, cells_of_block (KB.out.below hW).box, cells_of_block (KN.out.below hW).box⟩
            have HS := Lib.hid hSS
            clear hSS
            refine wp_region_held_drew (S := (fun W => (W.cell? ⟨c5, 0, none⟩ = some (.int .i64 za.kind) ∧ W.cell? ⟨c5, 1, none⟩ = some (.int .i64 za.tok.1) ∧ W.cell? ⟨c5, 2, none⟩ = some (.string za.tok.2) ∧ W.cell? ⟨c5, 3, none⟩ = some (.slice A1 za.kids.length eA)) ∧ (W.cell? ⟨c6, 0, none⟩ = some (.int .i64 zb.kind) ∧ W.cell? ⟨c6, 1, none⟩ = some (.int .i64 zb.tok.1) ∧ W.cell? ⟨c6, 2, none⟩ = some (.string zb.tok.2) ∧ W.cell? ⟨c6, 3, none⟩ = some (.slice B1 zb.kids.length eB)) ∧ (W.cell? ⟨b10, 0, none⟩ = some (.int .i64 nw.kind) ∧ W.cell? ⟨b10, 1, none⟩ = some (.int .i64 nw.tok.1) ∧ W.cell? ⟨b10, 2, none⟩ = some (.string nw.tok.2) ∧ W.cell? ⟨b10, 3, none⟩ = some (.slice A4 nw.kids.length c4)))) (by kernel_rfl) ?_ (fun hHeld => ?_)
            · exact HS.out _ (Below.drew (Below.refl _ _))
            obtain ⟨wA, hw⟩ : ∃ x, x = w9.drew := ⟨_, rfl⟩
            have hB : Below w9.heap.size w9 wA := by rw [hw]; exact Below.drew (Below.refl _ _)
            rw [← hw] at hHeld
            rw [← hw]
            clear hw
            refine wpAnyH_take (i := 0) (oi := ⟨some 60, _, _, _, _, _⟩) (v := ?_) rfl (by kernel_rfl) (by kernel_rfl) (by kernel_rfl) (fun _ _ _ h => h) (Or.inl ⟨by rfl, ?hy⟩) (by assumption) ?_
            case hy => (intro w hSw; (try dsimp only at hSw); go_simp; (try with_reducible rfl))
            try simp only [Act.put, List.setIfInBounds_toArray, List.set_cons_zero, List.set_cons_succ]
            refine wpAnyH_take (i := 1) (oi := ⟨some 61, _, _, _, _, _⟩) (v := ?_) rfl (by kernel_rfl) (by kernel_rfl) (by kernel_rfl) (fun _ _ _ h => h) (Or.inl ⟨by rfl, ?hy⟩) (by assumption) ?_
            case hy => (intro w hSw; (try dsimp only at hSw); go_simp; (try with_reducible rfl))
            try simp only [Act.put, List.setIfInBounds_toArray, List.set_cons_zero, List.set_cons_succ]
            refine wpAnyH_take (i := 2) (oi := ⟨some 62, _, _, _, _, _⟩) (v := ?_) rfl (by kernel_rfl) (by kernel_rfl) (by kernel_rfl) (fun _ _ _ h => h) (Or.inl ⟨by rfl, ?hy⟩) (by assumption) ?_
            case hy => (intro w hSw; (try dsimp only at hSw); go_simp; (try with_reducible rfl))
            try simp only [Act.put, List.setIfInBounds_toArray, List.set_cons_zero, List.set_cons_succ]
            refine wpAnyH_take (i := 3) (oi := ⟨some 63, _, _, _, _, _⟩) (v := ?_) rfl (by kernel_rfl) (by kernel_rfl) (by kernel_rfl) (fun _ _ _ h => h) (Or.inl ⟨by rfl, ?hy⟩) (by assumption) ?_
            case hy => (intro w hSw; (try dsimp only at hSw); go_simp; (try with_reducible rfl))
            try simp only [Act.put, List.setIfInBounds_toArray, List.set_cons_zero, List.set_cons_succ]
            refine wpAnyH_ready (rs := [4]) (by kernel_rfl) (by simp) ?_
            refine AllReadyH.cons (o := ⟨some 64, _, _, _, _, _⟩) rfl (fun K hK => ?_) AllReadyH.nil
            go_simp
            go_at_call 50
            with_reducible refine (HRp.out wA _ _ (KA.out.below hB).nodeC (KB.out.below hB).nodeC (IP.out.below hB)).mono ?_
            rintro e wB ⟨⟨vR, rfl, hnR⟩, hbC⟩
            have hB : Below w9.heap.size w9 wB := hB.trans (hbC.mono hB.size)
            refine hK.out _ _ ?_ (fun hHeld => ?_)
            · exact HS.out _ hB
            clear hK K hbC
            try simp only [Act.put, List.setIfInBounds_toArray, List.set_cons_zero, List.set_cons_succ]
            refine wpAnyH_ready (rs := [5]) (by kernel_rfl) (by simp) ?_
            refine AllReadyH.cons (o := ⟨some 65, _, _, _, _, _⟩) rfl (fun K hK => ?_) AllReadyH.nil
            go_simp
            go_at_call 33
            with_reducible refine (RSame_self nw _ _ wB (Nat.le_trans HC.out (by decide)) (KN.out.below hB).node hnR).mono ?_
            rintro e wC ⟨rfl, hbC⟩
            have hB : Below w9.heap.size w9 wC := hB.trans (hbC.mono hB.size)
            refine hK.out _ _ ?_ (fun hHeld => ?_)
            · exact HS.out _ hB
            clear hK K hbC
            try simp only [Act.put, List.setIfInBounds_toArray, List.set_cons_zero, List.set_cons_succ]
            clear hnR
            refine wpAnyH_take (i := 6) (oi := ⟨some 66, _, _, _, _, _⟩) (v := ?_) rfl (by kernel_rfl) (by kernel_rfl) (by kernel_rfl) (fun _ _ _ h => h) (Or.inl ⟨by rfl, ?hy⟩) (by assumption) ?_
            case hy => (intro w hSw; (try dsimp only at hSw); go_simp; (try with_reducible rfl))
            try simp only [Act.put, List.setIfInBounds_toArray, List.set_cons_zero, List.set_cons_succ]
            refine wpAnyH_take (i := 7) (oi := ⟨some 67, _, _, _, _, _⟩) (v := ?_) rfl (by kernel_rfl) (by kernel_rfl) (by kernel_rfl) (fun _ _ _ h => h) (Or.inl ⟨by rfl, ?hy⟩) (by assumption) ?_
            case hy => (intro w hSw; (try dsimp only at hSw); go_simp; (try with_reducible rfl))
            try simp only [Act.put, List.setIfInBounds_toArray, List.set_cons_zero, List.set_cons_succ]
            refine wpAnyH_take (i := 8) (oi := ⟨some 68, _, _, _, _, _⟩) (v := ?_) rfl (by kernel_rfl) (by kernel_rfl) (by kernel_rfl) (fun _ _ _ h => h) (Or.inl ⟨by rfl, ?hy⟩) (by assumption) ?_
            case hy => (intro w hSw; (try dsimp only at hSw); go_simp; (try with_reducible rfl))
            try simp only [Act.put, List.setIfInBounds_toArray, List.set_cons_zero, List.set_cons_succ]
            refine wpAnyH_take (i := 9) (oi := ⟨some 69, _, _, _, _, _⟩) (v := ?_) rfl (by kernel_rfl) (by kernel_rfl) (by kernel_rfl) (fun _ _ _ h => h) (Or.inl ⟨by rfl, ?hy⟩) (by assumption) ?_
            case hy => (intro w hSw; (try dsimp only at hSw); go_simp; (try with_reducible rfl))
            try simp only [Act.put, List.setIfInBounds_toArray, List.set_cons_zero, List.set_cons_succ]
            refine wpAnyH_take (i := 10) (oi := ⟨some 70, _, _, _, _, _⟩) (v := ?_) rfl (by kernel_rfl) (by kernel_rfl) (by kernel_rfl) (fun _ _ _ h => h) (Or.inl ⟨by rfl, ?hy⟩) (by assumption) ?_
            case hy => (intro w hSw; (try dsimp only at hSw); go_simp; (try with_reducible rfl))
            try simp only [Act.put, List.setIfInBounds_toArray, List.set_cons_zero, List.set_cons_succ]
            refine wpAnyH_ready (rs := [11]) (by kernel_rfl) (by simp) ?_
            refine AllReadyH.cons (o := ⟨some 71, _, _, _, _, _⟩) rfl (fun K hK => ?_) AllReadyH.nil
            go_simp
            go_at_call 22
            with_reducible refine (alive5_any wC (KA.out.below hB).tabs).mono ?_
            rintro e wD ⟨rfl, hbC⟩
            have hB : Below w9.heap.size w9 wD := hB.trans (hbC.mono hB.size)
            refine hK.out _ _ ?_ (fun hHeld => ?_)
            · exact HS.out _ hB
            clear hK K hbC
            try simp only [Act.put, List.setIfInBounds_toArray, List.set_cons_zero, List.set_cons_succ]
            refine wpAnyH_take (i := 12) (oi := ⟨some 72, _, _, _, _, _⟩) (v := ?_) rfl (by kernel_rfl) (by kernel_rfl) (by kernel_rfl) (fun _ _ _ h => h) (Or.inl ⟨by rfl, ?hy⟩) (by assumption) ?_
            case hy => (intro w hSw; (try dsimp only at hSw); go_simp; (try with_reducible rfl))
            try simp only [Act.put, List.setIfInBounds_toArray, List.set_cons_zero, List.set_cons_succ]
            refine wpAnyH_take (i := 13) (oi := ⟨some 6, _, _, _, _, _⟩) (v := ?_) rfl (by kernel_rfl) (by kernel_rfl) (by kernel_rfl) (fun _ _ _ h => h) (Or.inl ⟨by rfl, ?hy⟩) (by assumption) ?_
            case hy => (intro w hSw; (try dsimp only at hSw); go_simp; (try with_reducible rfl))
            try simp only [Act.put, List.setIfInBounds_toArray, List.set_cons_zero, List.set_cons_succ]
            refine wpAnyH_done (by kernel_rfl) ?_ _
            have BL := Lib.hid (BW.out.trans (hB.mono BW.out.size))
            clear hB hHeld
            go_wp2_with fail
            go_ret
            exact ⟨rfl, BL.out⟩
end Go.Proofs.YtpjlgahbbmlngaaDoor.lawTreePuts
