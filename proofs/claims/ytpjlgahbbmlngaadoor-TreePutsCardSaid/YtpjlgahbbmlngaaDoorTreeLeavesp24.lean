/-
  Trees: the statements' sample.; Trees: the specification's Ints (two lists of ints are the same).
-/
import Derived.Test.YtpjlgahbbmlngaaDoorTreeLeavesp23
import Derived.Deep.RegionHeld3
import Derived.Test.YtpjlgahbbmlngaaDoorTreeLeavesp7
import Derived.BigQuiet
import Derived.OwnWalk
namespace Go.Proofs.YtpjlgahbbmlngaaDoor
set_option linter.unusedVariables false
set_option linter.unusedSimpArgs false
open Go Go.RowKit

def leafNd (s : ByteArray) : Nd := .mk 1 (firstT s) []
def noTok : Tok := (0, ByteArray.empty)
def argsNd : Nd := .mk 22 noTok [leafNd ⟨#[40]⟩, .mk 23 noTok [leafNd ⟨#[120]⟩], leafNd ⟨#[32]⟩, leafNd ⟨#[41]⟩]
def sampleNd : Nd := .mk 21 noTok [.mk 23 noTok [leafNd ⟨#[102]⟩], argsNd]

theorem sample_end {w W5 wN : World} {b2 b4 : Nat} {k1 k2 k3 k4 k5 : Int} {x1 x2 x3 x4 x5 : ByteArray} (hb2 : w.heap.size < b2) (hb4 : w.heap.size < b4) (hBw : Below w.heap.size w W5)
    (r5 : W5.heap[w.heap.size]? = some (.cells #[.int .i64 0, .int .i64 0, .string ⟨#[]⟩, .slice none 0 0] 26 (0, 0)))
    (x5' : W5.heap[b2]? = some (.cells #[.int .i64 1, .int .i64 k2, .string x2, .slice none 0 0] 26 (0, 0)))
    (k5' : W5.heap[b4]? = some (.cells #[.int .i64 1, .int .i64 k1, .string x1, .slice none 0 0, .int .i64 23, .int .i64 0, .string ⟨#[]⟩, .slice (some ⟨b2, 0, none⟩) 1 1, .int .i64 1, .int .i64 k3, .string x3, .slice none 0 0, .int .i64 1, .int .i64 k4, .string x4, .slice none 0 0] 26 (0, 0)))
    (hbN : Below W5.heap.size W5 wN) : ∃ W, W = ((((((wN.setCell ⟨w.heap.size, 0, none⟩ (.int .i64 21)).setCell ⟨w.heap.size, 1, none⟩ (.int .i64 0)).setCell ⟨w.heap.size, 2, none⟩ (.string ⟨#[]⟩)).setCell ⟨w.heap.size, 3, none⟩ (.slice (some ⟨wN.heap.size + 1, 0, none⟩) 2 2)).alloc
      (.cells #[.int .i64 1, .int .i64 k5, .string x5, .slice none 0 0] 26)).alloc (.cells #[.int .i64 23, .int .i64 0, .string ⟨#[]⟩, .slice (some ⟨wN.heap.size, 0, none⟩) 1 1, .int .i64 22, .int .i64 0, .string ⟨#[]⟩, .slice (some ⟨b4, 0, none⟩) 4 4] 26)) ∧
      W.heap[w.heap.size]? = some (.cells #[.int .i64 21, .int .i64 0, .string ⟨#[]⟩, .slice (some ⟨wN.heap.size + 1, 0, none⟩) 2 2] 26 (0, 0)) ∧ Below w.heap.size w W ∧
      NodeV W (.agg #[.int .i64 21, .int .i64 0, .string ⟨#[]⟩, .slice (some ⟨wN.heap.size + 1, 0, none⟩) 2 2]) (.mk 21 noTok [.mk 23 noTok [.mk 1 (k5, x5) []], .mk 22 noTok [.mk 1 (k1, x1) [], .mk 23 noTok [.mk 1 (k2, x2) []], .mk 1 (k3, x3) [], .mk 1 (k4, x4) []]]) := by
  obtain ⟨V, hV⟩ : ∃ V, V = (((wN.setCell ⟨w.heap.size, 0, none⟩ (.int .i64 21)).setCell ⟨w.heap.size, 1, none⟩ (.int .i64 0)).setCell ⟨w.heap.size, 2, none⟩ (.string ⟨#[]⟩)).setCell ⟨w.heap.size, 3, none⟩ (.slice (some ⟨wN.heap.size + 1, 0, none⟩) 2 2) := ⟨_, rfl⟩
  have l0 := (Array.getElem?_eq_some_iff.1 r5).1
  have l2 := (Array.getElem?_eq_some_iff.1 x5').1
  have l4 := (Array.getElem?_eq_some_iff.1 k5').1
  have hs := hbN.size
  have sV : V.heap.size = wN.heap.size := by rw [hV]; simp [World.setCell]
  have rN := (hbN.block _ l0).trans r5
  have vr : V.heap[w.heap.size]? = some (.cells #[.int .i64 21, .int .i64 0, .string ⟨#[]⟩, .slice (some ⟨wN.heap.size + 1, 0, none⟩) 2 2] 26 (0, 0)) := by
    have a1 := heap_setCell_same wN w.heap.size 0 _ _ (.int .i64 21) rN
    have a2 := heap_setCell_same _ w.heap.size 1 _ _ (.int .i64 0) a1
    have a3 := heap_setCell_same _ w.heap.size 2 _ _ (.string ⟨#[]⟩) a2
    have a4 := heap_setCell_same _ w.heap.size 3 _ _ (.slice (some ⟨wN.heap.size + 1, 0, none⟩) 2 2) a3
    rw [hV]
    simpa using a4
  have vo : ∀ b, b ≠ w.heap.size → V.heap[b]? = wN.heap[b]? := fun b hb => by rw [hV]; exact (block_other hb).trans ((block_other hb).trans ((block_other hb).trans (block_other hb)))
  have hBV : Below w.heap.size w V := by
    rw [hV]
    exact ((((hBw.trans (hbN.mono hBw.size)).setCell (p := ⟨w.heap.size, 0, none⟩) (Nat.le_refl _) _).setCell (p := ⟨w.heap.size, 1, none⟩) (Nat.le_refl _) _).setCell (p := ⟨w.heap.size, 2, none⟩) (Nat.le_refl _) _).setCell (p := ⟨w.heap.size, 3, none⟩) (Nat.le_refl _) _
  refine ⟨_, rfl, ?_⟩
  rw [← hV]
  obtain ⟨W, hW⟩ : ∃ W, W = (V.alloc (.cells #[.int .i64 1, .int .i64 k5, .string x5, .slice none 0 0] 26)).alloc (.cells #[.int .i64 23, .int .i64 0, .string ⟨#[]⟩, .slice (some ⟨wN.heap.size, 0, none⟩) 1 1, .int .i64 22, .int .i64 0, .string ⟨#[]⟩, .slice (some ⟨b4, 0, none⟩) 4 4] 26) := ⟨_, rfl⟩
  rw [← hW]
  have sW : W.heap.size = wN.heap.size + 2 := by rw [hW]; simp; omega
  have wo : ∀ b, b < wN.heap.size → W.heap[b]? = V.heap[b]? := fun b hb => by rw [hW]; exact (alloc_old _ _ _ (by simp; omega)).trans (alloc_old _ _ _ (by omega))
  have g0 : W.heap[w.heap.size]? = _ := (wo _ (by omega)).trans vr
  have g2 : W.heap[b2]? = _ := (wo _ (by omega)).trans ((vo _ (by omega)).trans ((hbN.block _ l2).trans x5'))
  have g4 : W.heap[b4]? = _ := (wo _ (by omega)).trans ((vo _ (by omega)).trans ((hbN.block _ l4).trans k5'))
  have gA : W.heap[wN.heap.size]? = some (.cells #[.int .i64 1, .int .i64 k5, .string x5, .slice none 0 0] 26 (0, 0)) := by rw [hW, alloc_old _ _ _ (by simp; omega), alloc_at _ _ _ (by omega)]
  have gB : W.heap[wN.heap.size + 1]? = some (.cells #[.int .i64 23, .int .i64 0, .string ⟨#[]⟩, .slice (some ⟨wN.heap.size, 0, none⟩) 1 1, .int .i64 22, .int .i64 0, .string ⟨#[]⟩, .slice (some ⟨b4, 0, none⟩) 4 4] 26 (0, 0)) := by rw [hW, alloc_at _ _ _ (by simp; omega)]
  have hBW : Below w.heap.size w W := by rw [hW]; exact (hBV.alloc hBV.size _).alloc (by have := hBV.size; simp; omega) _
  refine ⟨g0, hBW, some ⟨wN.heap.size + 1, 0, none⟩, 2, rfl, fun _ => ⟨wN.heap.size + 1, 0, rfl, ?_⟩⟩
  have hA : NdsAt W wN.heap.size 0 [.mk 1 (k5, x5) []] := .leaf (by omega) (Lib.cell_of_heap gA 0) (Lib.cell_of_heap gA 1) (Lib.cell_of_heap gA 2) (Lib.cell_of_heap gA 3) .nil
  have h2 : NdsAt W b2 0 [.mk 1 (k2, x2) []] := .leaf (by omega) (Lib.cell_of_heap g2 0) (Lib.cell_of_heap g2 1) (Lib.cell_of_heap g2 2) (Lib.cell_of_heap g2 3) .nil
  have h4 : NdsAt W b4 0 [.mk 1 (k1, x1) [], .mk 23 noTok [.mk 1 (k2, x2) []], .mk 1 (k3, x3) [], .mk 1 (k4, x4) []] :=
    .leaf (by omega) (Lib.cell_of_heap g4 0) (Lib.cell_of_heap g4 1) (Lib.cell_of_heap g4 2) (Lib.cell_of_heap g4 3)
      (.node (by omega) (Lib.cell_of_heap g4 4) (Lib.cell_of_heap g4 5) (Lib.cell_of_heap g4 6) (Lib.cell_of_heap g4 7) h2
        (.leaf (by omega) (Lib.cell_of_heap g4 8) (Lib.cell_of_heap g4 9) (Lib.cell_of_heap g4 10) (Lib.cell_of_heap g4 11)
          (.leaf (by omega) (Lib.cell_of_heap g4 12) (Lib.cell_of_heap g4 13) (Lib.cell_of_heap g4 14) (Lib.cell_of_heap g4 15) .nil)))
  exact .node (by omega) (Lib.cell_of_heap gB 0) (Lib.cell_of_heap gB 1) (Lib.cell_of_heap gB 2) (Lib.cell_of_heap gB 3) hA
    (.node (by omega) (Lib.cell_of_heap gB 4) (Lib.cell_of_heap gB 5) (Lib.cell_of_heap gB 6) (Lib.cell_of_heap gB 7) h4 .nil)

set_option maxRecDepth 100000 in
set_option maxHeartbeats 2000000 in
theorem sample_any (w : World) : Calls Tryd.prog 30 #[] w fun e w' => (∃ v, e = .returned v ∧ NodeV w' v sampleNd) ∧ Below w.heap.size w w' := by
  have L1 := fun W => leaf_any ⟨#[40]⟩ W (by decide) (by decide)
  have L2 := fun W => leaf_any ⟨#[120]⟩ W (by decide) (by decide)
  have L3 := fun W => leaf_any ⟨#[32]⟩ W (by decide) (by decide)
  have L4 := fun W => leaf_any ⟨#[41]⟩ W (by decide) (by decide)
  have L5 := fun W => leaf_any ⟨#[102]⟩ W (by decide) (by decide)
  have hN : ∀ t1 t2 t3 t4 t5 : Tok, firstT ⟨#[40]⟩ = t1 → firstT ⟨#[120]⟩ = t2 → firstT ⟨#[32]⟩ = t3 → firstT ⟨#[41]⟩ = t4 → firstT ⟨#[102]⟩ = t5 → sampleNd = .mk 21 noTok [.mk 23 noTok [.mk 1 t5 []], .mk 22 noTok [.mk 1 t1 [], .mk 23 noTok [.mk 1 t2 []], .mk 1 t3 [], .mk 1 t4 []]] := by
    rintro t1 t2 t3 t4 t5 rfl rfl rfl rfl rfl; rfl
  generalize e1 : firstT ⟨#[40]⟩ = t1 at *
  generalize e2 : firstT ⟨#[120]⟩ = t2 at *
  generalize e3 : firstT ⟨#[32]⟩ = t3 at *
  generalize e4 : firstT ⟨#[41]⟩ = t4 at *
  generalize e5 : firstT ⟨#[102]⟩ = t5 at *
  rw [hN t1 t2 t3 t4 t5 rfl rfl rfl rfl rfl]
  clear hN
  obtain ⟨k1, x1⟩ := t1
  obtain ⟨k2, x2⟩ := t2
  obtain ⟨k3, x3⟩ := t3
  obtain ⟨k4, x4⟩ := t4
  obtain ⟨k5, x5⟩ := t5
  clear e1 e2 e3 e4 e5
  have HL := Lib.hid (show _ ∧ _ ∧ _ ∧ _ ∧ _ from ⟨L1, L2, L3, L4, L5⟩)
  clear L1 L2 L3 L4 L5
  go_enter Tryd.func30, Tryd.ntmps30
  go_wp2_with fail
  refine (HL.out.1 _).mono ?_
  rintro e w1 ⟨rfl, hb1⟩
  dsimp only
  go_wp2_with fail
  refine (HL.out.2.1 _).mono ?_
  rintro e w2 ⟨rfl, hb2⟩
  dsimp only
  go_wp2_with fail
  refine (HL.out.2.2.1 _).mono ?_
  rintro e w3 ⟨rfl, hb3⟩
  dsimp only
  go_wp2_with fail
  refine (HL.out.2.2.2.1 _).mono ?_
  rintro e w4 ⟨rfl, hb4⟩
  dsimp only
  go_wp2_with fail
  obtain ⟨W5, hW5⟩ : ∃ W5, W5 = (w4.alloc (.cells #[.int .i64 1, .int .i64 k1, .string x1, .slice none 0 0, .int .i64 23, .int .i64 0, .string ⟨#[]⟩, .slice (some ⟨w2.heap.size, 0, none⟩) 1 1, .int .i64 1, .int .i64 k3, .string x3, .slice none 0 0, .int .i64 1, .int .i64 k4, .string x4, .slice none 0 0] 26)).alloc (.cells #[.int .i64 22, .int .i64 0, .string ⟨#[]⟩, .slice (some ⟨w4.heap.size, 0, none⟩) 4 4] 26) := ⟨_, rfl⟩
  rw [← hW5]
  have s1 : w.heap.size + 1 ≤ w1.heap.size := by have := hb1.size; simpa using this
  have s2 := hb2.size
  have s3 : w2.heap.size + 1 ≤ w3.heap.size := by have := hb3.size; simpa using this
  have s4 := hb4.size
  have s5 : W5.heap.size = w4.heap.size + 2 := by rw [hW5]; simp
  have hB45 : Below w4.heap.size w4 W5 := by rw [hW5]; exact ((Below.refl _ _).alloc (Nat.le_refl _) _).alloc (by simp) _
  have r4 : w4.heap[w.heap.size]? = some (.cells #[.int .i64 0, .int .i64 0, .string ⟨#[]⟩, .slice none 0 0] 26 (0, 0)) :=
    (hb4.block _ (by omega)).trans ((hb3.block _ (by simp; omega)).trans ((alloc_old _ _ _ (by omega)).trans ((hb2.block _ (by omega)).trans ((hb1.block _ (by simp)).trans (alloc_at _ _ _ rfl)))))
  have x4' : w4.heap[w2.heap.size]? = some (.cells #[.int .i64 1, .int .i64 k2, .string x2, .slice none 0 0] 26 (0, 0)) :=
    (hb4.block _ (by omega)).trans ((hb3.block _ (by simp)).trans (alloc_at _ _ _ rfl))
  have r5 := (hB45.block _ (by omega)).trans r4
  have x5' := (hB45.block _ (by omega)).trans x4'
  have k5' : W5.heap[w4.heap.size]? = some (.cells #[.int .i64 1, .int .i64 k1, .string x1, .slice none 0 0, .int .i64 23, .int .i64 0, .string ⟨#[]⟩, .slice (some ⟨w2.heap.size, 0, none⟩) 1 1, .int .i64 1, .int .i64 k3, .string x3, .slice none 0 0, .int .i64 1, .int .i64 k4, .string x4, .slice none 0 0] 26 (0, 0)) := by rw [hW5, alloc_old _ _ _ (by simp), alloc_at _ _ _ rfl]
  have a5 : W5.heap[w4.heap.size + 1]? = some (.cells #[.int .i64 22, .int .i64 0, .string ⟨#[]⟩, .slice (some ⟨w4.heap.size, 0, none⟩) 4 4] 26 (0, 0)) := by rw [hW5, alloc_at _ _ _ (by simp)]
  have hBw4 : Below w.heap.size w w4 := (((((Below.refl _ w).alloc (Nat.le_refl _) _).trans (hb1.mono (by simp))).trans (hb2.mono (by omega))).trans (((Below.refl _ w2).alloc (Nat.le_refl _) _).mono (by omega))).trans ((hb3.mono (by simp; omega)).trans (hb4.mono (by omega)))
  have hBw5 : Below w.heap.size w W5 := hBw4.trans (hB45.mono (by omega))
  have hkeep : ∀ w', Below W5.heap.size W5 w' → (w'.cell? ⟨w4.heap.size + 1, 0, none⟩ = some (.int .i64 22) ∧ w'.cell? ⟨w4.heap.size + 1, 1, none⟩ = some (.int .i64 0) ∧ w'.cell? ⟨w4.heap.size + 1, 2, none⟩ = some (.string ⟨#[]⟩) ∧ w'.cell? ⟨w4.heap.size + 1, 3, none⟩ = some (.slice (some ⟨w4.heap.size, 0, none⟩) 4 4)) ∧
      (w'.cell? ⟨w.heap.size, 0, none⟩ = some (.int .i64 0) ∧ w'.cell? ⟨w.heap.size, 1, none⟩ = some (.int .i64 0) ∧ w'.cell? ⟨w.heap.size, 2, none⟩ = some (.string ⟨#[]⟩) ∧ w'.cell? ⟨w.heap.size, 3, none⟩ = some (.slice none 0 0)) ∧
      (w'.frozen? ⟨w.heap.size, 0, none⟩ = false ∧ w'.frozen? ⟨w.heap.size, 1, none⟩ = false ∧ w'.frozen? ⟨w.heap.size, 2, none⟩ = false ∧ w'.frozen? ⟨w.heap.size, 3, none⟩ = false) ∧ w.heap.size < w'.heap.size ∧ w4.heap.size + 1 < w'.heap.size := fun w' hb => by
    have g1 := (hb.block _ (show w4.heap.size + 1 < W5.heap.size by omega)).trans a5
    have g2 := (hb.block _ (show w.heap.size < W5.heap.size by omega)).trans r5
    have g3 := hb.size
    exact ⟨⟨Lib.cell_of_heap g1 0, Lib.cell_of_heap g1 1, Lib.cell_of_heap g1 2, Lib.cell_of_heap g1 3⟩, ⟨Lib.cell_of_heap g2 0, Lib.cell_of_heap g2 1, Lib.cell_of_heap g2 2, Lib.cell_of_heap g2 3⟩, ⟨frozen_block g2, frozen_block g2, frozen_block g2, frozen_block g2⟩, by omega, by omega⟩
  obtain ⟨⟨y0, y1, y2, y3⟩, ⟨z0, z1, z2, z3⟩, ⟨f0, f1, f2, f3⟩, l0, l1⟩ := hkeep W5 (Below.refl _ _)
  have HX := Lib.hid (show _ ∧ _ ∧ _ ∧ _ ∧ _ from ⟨hBw5, r5, x5', k5', a5⟩)
  have HK := Lib.hid hkeep
  have HS := Lib.hid (show _ ∧ _ ∧ _ ∧ _ ∧ _ from ⟨s1, s2, s3, s4, s5⟩)
  clear hBw5 hBw4 r5 x5' k5' a5 hkeep r4 x4' hB45 hW5 hb1 hb2 hb3 hb4 s1 s2 s3 s4
  have L5 := HL.out.2.2.2.2 W5.drew
  have HL5 := Lib.hid L5
  clear L5
  have hmix : Tryd.prog.follows .mixedOrders = true := by kernel_rfl
  refine wp_region_any hmix ?_
  change wpAny _ _ _ _ _ _ _ (World.drew _)
  refine wpAny_ready (rs := [0, 3]) (by kernel_rfl) (by simp) ?_
  refine AllReady.cons rfl (fun K hK => ?_) ?_
  · go_simp
    go_wp2_with (go_at_call 28; refine HL5.out.mono ?_; rintro e wN ⟨rfl, hbN⟩; obtain ⟨⟨y0', y1', y2', y3'⟩, ⟨z0', z1', z2', z3'⟩, ⟨f0', f1', f2', f3'⟩, l0', l1'⟩ := HK.out wN ⟨hbN.os, hbN.tape, hbN.output, hbN.size, hbN.block⟩)
    refine wpAny_ready (rs := [1, 3]) (by kernel_rfl) (by simp) ?_
    refine AllReady.cons rfl (fun K hK => ?_) ?_
    · go_simp
      refine hK _ _ ?_
      clear hK K
      refine wpAny_ready (rs := [2, 3]) (by kernel_rfl) (by simp) ?_
      refine AllReady.cons rfl (fun K hK => ?_) ?_
      · go_simp
        refine hK _ _ ?_
        clear hK K
        refine wpAny_ready (rs := [3]) (by kernel_rfl) (by simp) ?_
        refine AllReady.cons rfl (fun K hK => ?_) ?_
        · go_simp
          refine hK _ _ ?_
          clear hK K
          refine wpAny_ready (rs := [4]) (by kernel_rfl) (by simp) ?_
          refine AllReady.cons rfl (fun K hK => ?_) ?_
          · go_simp
            refine hK _ _ ?_
            clear hK K
            refine wpAny_ready (rs := [5]) (by kernel_rfl) (by simp) ?_
            refine AllReady.cons rfl (fun K hK => ?_) ?_
            · go_simp
              refine hK _ _ ?_
              clear hK K
              refine wpAny_ready (rs := [6]) (by kernel_rfl) (by simp) ?_
              refine AllReady.cons rfl (fun K hK => ?_) ?_
              · go_simp
                refine hK _ _ ?_
                clear hK K
                refine wpAny_done (by kernel_rfl) ?_ _
                go_wp2_with fail
                obtain ⟨W, hW, g0, hBW, hNV⟩ := sample_end (k5 := k5) (x5 := x5) (by have := HS.out.1; have := HS.out.2.1; omega) (by have := HS.out.1; have := HS.out.2.1; have := HS.out.2.2.1; have := HS.out.2.2.2.1; omega) HX.out.1 HX.out.2.1 HX.out.2.2.1 HX.out.2.2.2.1 ⟨hbN.os, hbN.tape, hbN.output, hbN.size, hbN.block⟩
                rw [hW] at g0 hBW hNV
                have q0 := Lib.cell_of_heap g0 0
                have q1 := Lib.cell_of_heap g0 1
                have q2 := Lib.cell_of_heap g0 2
                have q3 := Lib.cell_of_heap g0 3
                refine bodyPost_ret (by simp [results, Tryd.f30, go_sem, q0, q1, q2, q3]; try rfl) rfl ?_
                exact ⟨⟨_, rfl, hNV⟩, hBW⟩
              exact AllReady.nil
            exact AllReady.nil
          exact AllReady.nil
        exact AllReady.nil
      refine AllReady.cons rfl (fun K hK => ?_) ?_
      · go_simp
        refine hK _ _ ?_
        clear hK K
        refine wpAny_ready (rs := [2]) (by kernel_rfl) (by simp) ?_
        refine AllReady.cons rfl (fun K hK => ?_) ?_
        · go_simp
          refine hK _ _ ?_
          clear hK K
          refine wpAny_ready (rs := [4]) (by kernel_rfl) (by simp) ?_
          refine AllReady.cons rfl (fun K hK => ?_) ?_
          · go_simp
            refine hK _ _ ?_
            clear hK K
            refine wpAny_ready (rs := [5]) (by kernel_rfl) (by simp) ?_
            refine AllReady.cons rfl (fun K hK => ?_) ?_
            · go_simp
              refine hK _ _ ?_
              clear hK K
              refine wpAny_ready (rs := [6]) (by kernel_rfl) (by simp) ?_
              refine AllReady.cons rfl (fun K hK => ?_) ?_
              · go_simp
                refine hK _ _ ?_
                clear hK K
                refine wpAny_done (by kernel_rfl) ?_ _
                go_wp2_with fail
                obtain ⟨W, hW, g0, hBW, hNV⟩ := sample_end (k5 := k5) (x5 := x5) (by have := HS.out.1; have := HS.out.2.1; omega) (by have := HS.out.1; have := HS.out.2.1; have := HS.out.2.2.1; have := HS.out.2.2.2.1; omega) HX.out.1 HX.out.2.1 HX.out.2.2.1 HX.out.2.2.2.1 ⟨hbN.os, hbN.tape, hbN.output, hbN.size, hbN.block⟩
                rw [hW] at g0 hBW hNV
                have q0 := Lib.cell_of_heap g0 0
                have q1 := Lib.cell_of_heap g0 1
                have q2 := Lib.cell_of_heap g0 2
                have q3 := Lib.cell_of_heap g0 3
                refine bodyPost_ret (by simp [results, Tryd.f30, go_sem, q0, q1, q2, q3]; try rfl) rfl ?_
                exact ⟨⟨_, rfl, hNV⟩, hBW⟩
              exact AllReady.nil
            exact AllReady.nil
          exact AllReady.nil
        exact AllReady.nil
      exact AllReady.nil
    refine AllReady.cons rfl (fun K hK => ?_) ?_
    · go_simp
      refine hK _ _ ?_
      clear hK K
      refine wpAny_ready (rs := [1]) (by kernel_rfl) (by simp) ?_
      refine AllReady.cons rfl (fun K hK => ?_) ?_
      · go_simp
        refine hK _ _ ?_
        clear hK K
        refine wpAny_ready (rs := [2]) (by kernel_rfl) (by simp) ?_
        refine AllReady.cons rfl (fun K hK => ?_) ?_
        · go_simp
          refine hK _ _ ?_
          clear hK K
          refine wpAny_ready (rs := [4]) (by kernel_rfl) (by simp) ?_
          refine AllReady.cons rfl (fun K hK => ?_) ?_
          · go_simp
            refine hK _ _ ?_
            clear hK K
            refine wpAny_ready (rs := [5]) (by kernel_rfl) (by simp) ?_
            refine AllReady.cons rfl (fun K hK => ?_) ?_
            · go_simp
              refine hK _ _ ?_
              clear hK K
              refine wpAny_ready (rs := [6]) (by kernel_rfl) (by simp) ?_
              refine AllReady.cons rfl (fun K hK => ?_) ?_
              · go_simp
                refine hK _ _ ?_
                clear hK K
                refine wpAny_done (by kernel_rfl) ?_ _
                go_wp2_with fail
                obtain ⟨W, hW, g0, hBW, hNV⟩ := sample_end (k5 := k5) (x5 := x5) (by have := HS.out.1; have := HS.out.2.1; omega) (by have := HS.out.1; have := HS.out.2.1; have := HS.out.2.2.1; have := HS.out.2.2.2.1; omega) HX.out.1 HX.out.2.1 HX.out.2.2.1 HX.out.2.2.2.1 ⟨hbN.os, hbN.tape, hbN.output, hbN.size, hbN.block⟩
                rw [hW] at g0 hBW hNV
                have q0 := Lib.cell_of_heap g0 0
                have q1 := Lib.cell_of_heap g0 1
                have q2 := Lib.cell_of_heap g0 2
                have q3 := Lib.cell_of_heap g0 3
                refine bodyPost_ret (by simp [results, Tryd.f30, go_sem, q0, q1, q2, q3]; try rfl) rfl ?_
                exact ⟨⟨_, rfl, hNV⟩, hBW⟩
              exact AllReady.nil
            exact AllReady.nil
          exact AllReady.nil
        exact AllReady.nil
      exact AllReady.nil
    exact AllReady.nil
  refine AllReady.cons rfl (fun K hK => ?_) ?_
  · go_simp
    refine hK _ _ ?_
    clear hK K
    refine wpAny_ready (rs := [0]) (by kernel_rfl) (by simp) ?_
    refine AllReady.cons rfl (fun K hK => ?_) ?_
    · go_simp
      go_wp2_with (go_at_call 28; refine HL5.out.mono ?_; rintro e wN ⟨rfl, hbN⟩; obtain ⟨⟨y0', y1', y2', y3'⟩, ⟨z0', z1', z2', z3'⟩, ⟨f0', f1', f2', f3'⟩, l0', l1'⟩ := HK.out wN ⟨hbN.os, hbN.tape, hbN.output, hbN.size, hbN.block⟩)
      refine wpAny_ready (rs := [1]) (by kernel_rfl) (by simp) ?_
      refine AllReady.cons rfl (fun K hK => ?_) ?_
      · go_simp
        refine hK _ _ ?_
        clear hK K
        refine wpAny_ready (rs := [2]) (by kernel_rfl) (by simp) ?_
        refine AllReady.cons rfl (fun K hK => ?_) ?_
        · go_simp
          refine hK _ _ ?_
          clear hK K
          refine wpAny_ready (rs := [4]) (by kernel_rfl) (by simp) ?_
          refine AllReady.cons rfl (fun K hK => ?_) ?_
          · go_simp
            refine hK _ _ ?_
            clear hK K
            refine wpAny_ready (rs := [5]) (by kernel_rfl) (by simp) ?_
            refine AllReady.cons rfl (fun K hK => ?_) ?_
            · go_simp
              refine hK _ _ ?_
              clear hK K
              refine wpAny_ready (rs := [6]) (by kernel_rfl) (by simp) ?_
              refine AllReady.cons rfl (fun K hK => ?_) ?_
              · go_simp
                refine hK _ _ ?_
                clear hK K
                refine wpAny_done (by kernel_rfl) ?_ _
                go_wp2_with fail
                obtain ⟨W, hW, g0, hBW, hNV⟩ := sample_end (k5 := k5) (x5 := x5) (by have := HS.out.1; have := HS.out.2.1; omega) (by have := HS.out.1; have := HS.out.2.1; have := HS.out.2.2.1; have := HS.out.2.2.2.1; omega) HX.out.1 HX.out.2.1 HX.out.2.2.1 HX.out.2.2.2.1 ⟨hbN.os, hbN.tape, hbN.output, hbN.size, hbN.block⟩
                rw [hW] at g0 hBW hNV
                have q0 := Lib.cell_of_heap g0 0
                have q1 := Lib.cell_of_heap g0 1
                have q2 := Lib.cell_of_heap g0 2
                have q3 := Lib.cell_of_heap g0 3
                refine bodyPost_ret (by simp [results, Tryd.f30, go_sem, q0, q1, q2, q3]; try rfl) rfl ?_
                exact ⟨⟨_, rfl, hNV⟩, hBW⟩
              exact AllReady.nil
            exact AllReady.nil
          exact AllReady.nil
        exact AllReady.nil
      exact AllReady.nil
    exact AllReady.nil
  exact AllReady.nil
end Go.Proofs.YtpjlgahbbmlngaaDoor

namespace Go.Proofs.YtpjlgahbbmlngaaDoor
set_option linter.unusedVariables false
set_option linter.unusedSimpArgs false
open Go Go.RowKit

/-- a slice of ints that can be read -/
def IntsR (w : World) (A : Option Addr) (l : List Int) : Prop :=
  0 < l.length → ∃ b, A = some ⟨b, 0, none⟩ ∧ b < w.heap.size ∧ ∀ (i : Nat) (x : Int), l[i]? = some x → w.cell? ⟨b, i, none⟩ = some (Value.int .i64 x)
theorem IntsR.below {w w' : World} {A : Option Addr} {l : List Int} (h : IntsR w A l) (hb : Below w.heap.size w w') : IntsR w' A l := by
  intro hl
  obtain ⟨b, rfl, hlt, hg⟩ := h hl
  exact ⟨b, rfl, Nat.lt_of_lt_of_le hlt hb.size, fun i x hx => (hb.cell hlt).trans (hg i x hx)⟩
theorem IntsR.of_own {w : World} {base : Nat} {v : Value} {l : List Nat} (h : w.ownsRow base 3 1 v l.length (intCells l)) :
    ∃ A c, v = .slice A l.length c ∧ IntsR w A (l.map fun (i : Nat) => (i : Int)) := by
  rcases h.2 with ⟨rfl, h0⟩ | ⟨g, cap, cur, rfl, hb, hg, hn, hc, hs, ht⟩
  · have : l = [] := List.eq_nil_of_length_eq_zero h0
    subst this
    exact ⟨none, 0, rfl, fun h => absurd h (by simp)⟩
  · refine ⟨some ⟨g, 0, none⟩, cap, rfl, fun hl => ⟨g, rfl, ?_, fun i x hx => ?_⟩⟩
    · rcases Nat.lt_or_ge g w.heap.size with hlt | hge
      · exact hlt
      · rw [Array.getElem?_eq_none hge] at hg; cases hg
    · have hi : i < l.length := by
        rcases Nat.lt_or_ge i l.length with hlt | hge
        · exact hlt
        · rw [List.getElem?_eq_none (by simpa using hge)] at hx; cases hx
      have hcell : w.cell? ⟨g, i, none⟩ = (intCells l)[i]? := by
        rw [← ht, List.getElem?_take_of_lt (by omega)]
        simp [World.cell?, hg]
      rw [hcell]
      simp only [List.getElem?_map] at hx
      simp only [intCells, List.getElem?_map]
      cases hq : l[i]? with
      | none => rw [hq] at hx; cases hx
      | some y => rw [hq] at hx; simp at hx; simp [hx]

theorem take_step {l1 l2 : List Int} {k : Nat} (h1 : k < l1.length) (h2 : k < l2.length) (h : l1.take k = l2.take k) (he : l1[k] = l2[k]) : l1.take (k + 1) = l2.take (k + 1) := by
  rw [List.take_succ_eq_append_getElem h1, List.take_succ_eq_append_getElem h2, h, he]
theorem take_all {l1 l2 : List Int} (hl : l1.length = l2.length) (h : l1.take l1.length = l2.take l1.length) : l1 = l2 := by
  rw [List.take_length, hl, List.take_length] at h; exact h

set_option maxRecDepth 100000 in
set_option maxHeartbeats 1000000 in
theorem Ints_any (c1 c2 : Nat) (A1 A2 : Option Addr) (l1 l2 : List Int) (w : World) (hl : l1.length ≤ 1000000000) (hE1 : IntsR w A1 l1) (hE2 : IntsR w A2 l2) :
    Calls Tryd.prog 35 #[.slice A1 l1.length c1, .slice A2 l2.length c2] w fun e w' => e = .returned (.bool (decide (l1 = l2))) ∧ Below w.heap.size w w' := by
  by_cases hlen : l1.length = l2.length
  · have q : ((l1.length : Int) != (l2.length : Int)) = false := by simp; omega
    have Hlen := Lib.hid hlen
    clear hlen
    go_enter Tryd.func35, Tryd.ntmps35
    go_wp2_with fail
    go_loopw [5] (fun i wr => ∃ (k : Nat), k ≤ l1.length ∧ i = .int .i64 k ∧ l1.take k = l2.take k ∧ Below w.heap.size w wr) (fun i _ => l1.length - (intOf i).toNat)
    case atStart => exact ⟨0, Nat.zero_le _, rfl, rfl, Below.refl _ _⟩
    case round =>
      obtain ⟨k, hk, rfl, he, hB⟩ := hrel
      have He := Lib.hid he
      have HB := Lib.hid hB
      clear he
      by_cases hlt : k < l1.length
      · have hlt2 : k < l2.length := by have := Hlen.out; omega
        obtain ⟨b1, rfl, hb1, g1⟩ := hE1.below hB (by omega)
        obtain ⟨b2, rfl, hb2, g2⟩ := hE2.below hB (by omega)
        have e1 := g1 k _ (List.getElem?_eq_getElem hlt)
        have e2 := g2 k _ (List.getElem?_eq_getElem hlt2)
        obtain ⟨x, hx⟩ : ∃ x, x = l1[k] := ⟨_, rfl⟩
        obtain ⟨y, hy⟩ : ∃ y, y = l2[k] := ⟨_, rfl⟩
        rw [← hx] at e1
        rw [← hy] at e2
        have hk0 : (0 : Int) ≤ (k : Int) := by omega
        have hk1 : (k : Int) < (l1.length : Int) := by omega
        have hk2 : (k : Int) < (l2.length : Int) := by omega
        have HX := Lib.hid hx
        have HY := Lib.hid hy
        clear hE1 hE2 g1 g2 hx hy hB
        by_cases heq : x = y
        · have Heq := Lib.hid heq
          have q2 : (x != y) = false := by simp [heq]
          have sm : IntKind.i64.wrap ((k : Int) + 1) = ((k + 1 : Nat) : Int) := by rw [IntWalk.i64_in _ (by omega)]; omega
          clear heq
          go_wp2_with fail
          go_quiet (fail)
          go_wp2_with fail
          exact ⟨⟨k + 1, by omega, by go_num, take_step hlt hlt2 He.out (by rw [← HX.out, ← HY.out]; exact Heq.out), below_drewT HB.out _⟩, by simp [intOf]; omega⟩
        · have Heq := Lib.hid heq
          have q2 : (x != y) = true := by simp [heq]
          clear heq
          go_wp2_with fail
          go_quiet (fail)
          go_wp2_with fail
          go_ret
          refine ⟨ret_b ?_, below_drewT HB.out _⟩
          symm
          rw [decide_eq_false_iff_not]
          intro h
          exact Heq.out (by rw [HX.out, HY.out]; simp [h])
      · have hk3 : k = l1.length := by omega
        subst hk3
        clear hE1 hE2 hB
        go_wp2_with fail
        go_ret
        refine ⟨ret_b ?_, HB.out⟩
        symm
        rw [decide_eq_true_iff]
        exact take_all Hlen.out He.out
  · have q : ((l1.length : Int) != (l2.length : Int)) = true := by simp; omega
    have Hlen := Lib.hid hlen
    clear hlen hE1 hE2
    go_enter Tryd.func35, Tryd.ntmps35
    go_wp2_with fail
    go_ret
    refine ⟨ret_b ?_, Below.refl _ _⟩
    symm
    rw [decide_eq_false_iff_not]
    intro h
    exact Hlen.out (by rw [h])
end Go.Proofs.YtpjlgahbbmlngaaDoor
