/-
  TreeDeep: a chain of nodes is formed up to the depth of 1000, and not beyond it; so is what Put makes. No condition: every input. (gen_wte.py)
-/
import Derived.Test.YtpjlgahbbmlngaaDoorTreeDeepp2
import Derived.Test.YtpjlgahbbmlngaaDoorTreeLeavesp16
import Derived.Deep.RegionHeld3
import Derived.Deep.DeepCutAuto
namespace Go.Proofs.YtpjlgahbbmlngaaDoor.lawTreeDeep
set_option linter.unusedVariables false
set_option linter.unusedSimpArgs false
open Go.ChangeShapes Go.WideShapes Go.RowKit

theorem keptN' {wr W : World} {b : Nat} {x0 x1 x2 x3 : Value} {t : Nat} (hb : Below wr.heap.size wr W) (h1 : wr.heap[b]? = some (.cells #[x0, x1, x2, x3] t (0, 0))) :
    W.cell? ⟨b, 0, none⟩ = some x0 ∧ W.cell? ⟨b, 1, none⟩ = some x1 ∧ W.cell? ⟨b, 2, none⟩ = some x2 ∧ W.cell? ⟨b, 3, none⟩ = some x3 := by
  have e1 := (hb.block b (Array.getElem?_eq_some_iff.1 h1).1).trans h1
  exact ⟨Lib.cell_of_heap e1 0, Lib.cell_of_heap e1 1, Lib.cell_of_heap e1 2, Lib.cell_of_heap e1 3⟩
theorem u16_of {n : Int} (h : (Lit.int .u16 n).wf = true) : 0 ≤ n ∧ n ≤ 65535 := by
  have h' : IntKind.u16.min ≤ n ∧ n ≤ IntKind.u16.max := by simpa [Lit.wf] using h
  have e1 : IntKind.u16.min = 0 := rfl
  have e2 : IntKind.u16.max = 65535 := rfl
  omega
/-- what Put makes of a chain of a depth -/
theorem put_chain {W W' : World} {D : Nat} {e : Ending} (h : PutPost W (sampPut (chainN D)) e W') : ∃ (m : Nd) (A : Option Addr) (c : Nat) (f : Int), e = .returned (.tuple #[.agg #[.int .i64 m.kind, .int .i64 m.tok.1, .string m.tok.2, .slice A m.kids.length c], .int .i64 f]) ∧ (D + 2 ≤ 1000 → f = 0 ∧ m.kids.length = 2) ∧ (1000 < D + 2 → f = 4 ∧ m.kids.length = 0) := by
  unfold PutPost at h
  rw [samp_formed] at h
  split at h
  · rename_i hd
    have hd2 := of_decide_eq_true hd
    obtain ⟨A, c, rfl, h1, h2, h3⟩ := h
    exact ⟨sampPut (chainN D), A, c, 0, rfl, fun _ => ⟨rfl, samp_kids _⟩, fun h => by omega⟩
  · rename_i hd
    have hd2 : ¬ D + 2 ≤ 1000 := fun h => hd (decide_eq_true h)
    exact ⟨zeroNd, none, 0, 4, h, fun h => by omega, fun _ => ⟨rfl, rfl⟩⟩

set_option maxRecDepth 100000 in
set_option maxHeartbeats 8000000 in
theorem walk (d0 : Int) (hd0 : (Lit.int .u16 d0).wf = true) (w : World) (hT : Tabs w) :
    Calls Tryd.prog 4 #[.int .u16 d0] w fun e w' => e = .returned (.bool true) ∧ Below w.heap.size w w' := by
  obtain ⟨dn, rfl⟩ : ∃ m : Nat, d0 = (m : Int) := ⟨d0.toNat, by have := u16_of hd0; omega⟩
  have hdn := (u16_of hd0).2
  clear hd0
  obtain ⟨D, hD⟩ : ∃ D, D = dn % 1200 := ⟨_, rfl⟩
  have hD1 : D < 1200 := by rw [hD]; exact Nat.mod_lt _ (by decide)
  have e1 : ((dn : Int)).tmod 1200 = (D : Int) := by rw [Int.tmod_eq_emod_of_nonneg (by omega), hD]; omega
  have e1b : (dn : Int) % 1200 = (D : Int) := by rw [hD]; omega
  have e2 : IntKind.i64.wrap (D : Int) = (D : Int) := IntWalk.i64_in _ (by omega)
  have e3 : IntKind.u16.wrap (D : Int) = (D : Int) := by simp [IntKind.wrap, IntKind.bits, IntKind.signed]; omega
  have HD := Lib.hid hD
  have hlf := leaf_any ⟨#[120]⟩ w (by decide) (by decide)
  have hcn := fun W v (t : Tabs W) (h : NodeV W v (chainN D)) => Count_any (chainN D) v W (by unfold sizeN; rw [chain_count]; omega) t h
  rw [chain_formed, chain_count, chain_deep] at hcn
  obtain ⟨cm, cd, ce, hc1, hc2, hcn⟩ : ∃ cm cd ce : Int, (D ≤ 1000 → cm = ((D + 1 : Nat) : Int) ∧ cd = (D : Int) ∧ ce = 0) ∧ (1000 < D → cm = 0 ∧ cd = 0 ∧ ce = 4) ∧ ∀ W v, Tabs W → NodeV W v (chainN D) → Calls Tryd.prog 20 #[v] W fun e w' => e = .returned (.tuple #[.int .i64 cm, .int .i64 cd, .int .i64 ce]) ∧ Below W.heap.size W w' := by
    rcases Nat.lt_or_ge 1000 D with h | h
    · refine ⟨0, 0, 4, fun h2 => by omega, fun _ => ⟨rfl, rfl, rfl⟩, fun W v t hn => ?_⟩
      have := hcn W v t hn
      rw [if_neg (by simp; omega)] at this
      exact this
    · refine ⟨((D + 1 : Nat) : Int), D, 0, fun _ => ⟨rfl, rfl, rfl⟩, fun h2 => by omega, fun W v t hn => ?_⟩
      have := hcn W v t hn
      rw [if_pos (by simp; omega)] at this
      exact this
  have hif := fun W v (t : Tabs W) (h : NodeV W v (chainN D)) => IsFormed_any (chainN D) v W (by unfold sizeN; rw [chain_count]; omega) t h
  rw [chain_formed] at hif
  obtain ⟨x, b, hgo⟩ := samp_go
  have hsc := sam_count
  have hput : ∀ W v vy bi, Tabs W → NodeP (fun _ => True) W v sampleNd → NodeV W vy (chainN D) → W.heap[bi]? = some (.cells #[.int .i64 1, .int .i64 1] 3 (0, 0)) → Calls Tryd.prog 29 #[v, .slice (some ⟨bi, 0, none⟩) 2 2, vy] W fun e w' => (∃ (m : Nd) (A : Option Addr) (c : Nat) (f : Int), e = .returned (.tuple #[.agg #[.int .i64 m.kind, .int .i64 m.tok.1, .string m.tok.2, .slice A m.kids.length c], .int .i64 f]) ∧ (D + 2 ≤ 1000 → f = 0 ∧ m.kids.length = 2) ∧ (1000 < D + 2 → f = 4 ∧ m.kids.length = 0)) ∧ Below W.heap.size W w' := fun W v vy bi t hv hy hb => by
    have hI : IntsR W (some ⟨bi, 0, none⟩) (intL [1, 1]) := fun _ => ⟨bi, rfl, (Array.getElem?_eq_some_iff.1 hb).1, fun i u hu => by
      rw [Lib.cell_of_heap hb i]
      match i, hu with
      | 0, hu => simpa [intL] using hu
      | 1, hu => simpa [intL] using hu
      | i + 2, hu => simp [intL] at hu⟩
    rcases Nat.lt_or_ge 1000 D with hlt | hge
    · refine (Put_err sampleNd (chainN D) v vy (intL [1, 1]) (some ⟨bi, 0, none⟩) 2 W 4 sam_size (by unfold sizeN; rw [chain_count]; omega) sam_sum t hv hy (by decide) hI (by rw [chain_formed, if_pos (decide_eq_false (by omega))]) (by decide)).mono fun e w' ⟨h1, h2⟩ => ⟨⟨zeroNd, none, 0, 4, h1, fun h => by omega, fun _ => ⟨rfl, rfl⟩⟩, h2⟩
    · exact (Put_res sampleNd x (chainN D) [1, 1] b v vy (some ⟨bi, 0, none⟩) 2 W (by rw [chain_count]; omega) sam_sum t hv hy (by decide) hI sam_formed (by rw [chain_formed]; exact decide_eq_true (by omega)) hgo).mono fun e w' ⟨h1, h2⟩ => ⟨put_chain h1, h2⟩
  have HT := Lib.hid hT
  have HLf := Lib.hid hlf
  have HCn := Lib.hid hcn
  have HIf := Lib.hid hif
  have HPut := Lib.hid hput
  have HCC := Lib.hid (show _ ∧ _ from ⟨hc1, hc2⟩)
  clear hT hlf hcn hif hput hgo hsc hD hc1 hc2
  go_enter Tryd.func4, Tryd.ntmps4
  go_wp2_with (go_at_call 28; refine HLf.out.mono ?_; rintro e w1 ⟨rfl, hb1⟩; have B1 := Lib.hid hb1; clear hb1)
  obtain ⟨w2, hw2⟩ : ∃ u, u = w1.alloc (.cells (nodeCells (chainN 0) none 0) 26) := ⟨_, rfl⟩
  rw [show w1.alloc (.cells #[.int .i64 1, .int .i64 (firstT ⟨#[120]⟩).1, .string (firstT ⟨#[120]⟩).2, .slice none 0 0] 26) = w2 from hw2.symm]
  have hB2 : Below w.heap.size w w2 := by rw [hw2]; exact B1.out.alloc B1.out.size _
  have h3 : w2.heap[w1.heap.size]? = some (.cells (nodeCells (chainN 0) none 0) 26 (0, 0)) := by rw [hw2]; exact alloc_at _ _ _ rfl
  obtain ⟨b3, hb3⟩ : ∃ x, x = w1.heap.size := ⟨_, rfl⟩
  rw [← hb3] at h3
  rw [← hb3]
  have g3 : w.heap.size ≤ b3 := by rw [hb3]; exact B1.out.size
  have H2 := Lib.hid (show _ ∧ _ from ⟨hB2, h3⟩)
  clear hw2 hB2 h3 hb3
  go_loopw [4] (fun i wr => ∃ (k : Nat) (A : Option Addr) (c : Nat), k ≤ D ∧ i = .int .i64 k ∧ Below w.heap.size w wr ∧ wr.heap[b3]? = some (.cells (nodeCells (chainN k) A c) 26 (0, 0)) ∧ (chainN k).kids.length ≤ c ∧ KidsP (fun b => b ≠ b3) wr A (chainN k).kids) (fun i _ => D - (intOf i).toNat)
  case atStart => exact ⟨0, none, 0, Nat.zero_le _, rfl, H2.out.1, H2.out.2, Nat.le_refl _, fun h => by simp [chainN, leafNd, Nd.kids] at h⟩
  case round =>
    obtain ⟨k, A, c, hk, rfl, hB, h3, hcc, hkp⟩ := hrel
    have hk0 : (0 : Int) ≤ (k : Int) := by omega
    obtain ⟨q0, q1, q2, q3⟩ := cells_of_block h3
    have f0 := frozen_block (j := 0) h3
    have f1 := frozen_block (j := 1) h3
    have f2 := frozen_block (j := 2) h3
    have f3 := frozen_block (j := 3) h3
    have hlt3 := (Array.getElem?_eq_some_iff.1 h3).1
    have hne3 : b3 ≠ wr.heap.size := Nat.ne_of_lt hlt3
    by_cases hlt : k < D
    · have hk2 : (k : Int) < (D : Int) := by omega
      have hst := set4 (v0 := .int .i64 25) (v1 := .int .i64 0) (v2 := .string { data := #[] }) (v3 := .slice (some ⟨wr.heap.size, 0, none⟩) 1 1) h3
      have hBs := below4 (b := b3) (v0 := .int .i64 25) (v1 := .int .i64 0) (v2 := .string { data := #[] }) (v3 := .slice (some ⟨wr.heap.size, 0, none⟩) 1 1) hB g3
      have hss : ((((wr.setCell ⟨b3, 0, none⟩ (.int .i64 25)).setCell ⟨b3, 1, none⟩ (.int .i64 0)).setCell ⟨b3, 2, none⟩ (.string { data := #[] })).setCell ⟨b3, 3, none⟩ (.slice (some ⟨wr.heap.size, 0, none⟩) 1 1)).heap.size = wr.heap.size := size4
      have hoth : ∀ b, b ≠ b3 → ((((wr.setCell ⟨b3, 0, none⟩ (.int .i64 25)).setCell ⟨b3, 1, none⟩ (.int .i64 0)).setCell ⟨b3, 2, none⟩ (.string { data := #[] })).setCell ⟨b3, 3, none⟩ (.slice (some ⟨wr.heap.size, 0, none⟩) 1 1)).heap[b]? = wr.heap[b]? := fun b hb => other4 hb
      obtain ⟨W4, hW4⟩ : ∃ u, u = ((((wr.setCell ⟨b3, 0, none⟩ (.int .i64 25)).setCell ⟨b3, 1, none⟩ (.int .i64 0)).setCell ⟨b3, 2, none⟩ (.string { data := #[] })).setCell ⟨b3, 3, none⟩ (.slice (some ⟨wr.heap.size, 0, none⟩) 1 1)) := ⟨_, rfl⟩
      rw [← hW4] at hst hBs hss hoth
      have hal := allocB W4 (.cells (nodeCells (chainN k) A c) 26)
      have hn : (W4.alloc (.cells (nodeCells (chainN k) A c) 26)).heap[wr.heap.size]? = some (.cells (nodeCells (chainN k) A c) 26 (0, 0)) := alloc_at _ _ _ hss.symm
      have hBn : Below w.heap.size w (W4.alloc (.cells (nodeCells (chainN k) A c) 26)) := hBs.alloc hBs.size _
      have hkn : KidsP (fun b => b ≠ b3) (W4.alloc (.cells (nodeCells (chainN k) A c) 26)) (some ⟨wr.heap.size, 0, none⟩) [chainN k] := fun _ => by
        obtain ⟨y0, y1, y2, y3⟩ := cells_of_block hn
        exact ⟨wr.heap.size, 0, rfl, NdsP.add (chainN k, A, c) (Ne.symm hne3) (Array.getElem?_eq_some_iff.1 hn).1 y0 y1 y2 y3 hcc (hkp.kept (by have := hal.size; omega) (fun b hp hb => (hal.block b (by omega)).trans (hoth b hp)) (fun b h _ => h)) .nil⟩
      have hst := keepB hst hal
      rw [hW4] at hBn hst hkn
      have HN := Lib.hid (show _ ∧ _ ∧ _ from ⟨hBn, hst, hkn⟩)
      clear hW4 hss hBs hoth
      have e5 : IntKind.i64.wrap ((k : Int) + 1) = ((k + 1 : Nat) : Int) := by rw [IntWalk.i64_in _ (by omega)]; omega
      clear hal hn hst hBn hkn hB h3 hcc hkp
      go_wp2_with fail
      exact ⟨⟨k + 1, some ⟨wr.heap.size, 0, none⟩, 1, by omega, by go_num, HN.out.1, HN.out.2.1, Nat.le_refl _, HN.out.2.2⟩, by simp only [intOf]; omega⟩
    · have hke : k = D := by omega
      subst hke
      have hk2 : decide ((k : Int) < (k : Int)) = false := by simp
      have hk3 : ¬ (k : Int) < (k : Int) := by omega
      have KZ : Hid (KeepZ (chainN k) A c b3 wr) := ⟨h3, hcc, hkp.kept (Nat.le_refl _) (fun _ _ _ => rfl) (fun _ _ _ => trivial), HT.out.below hB⟩
      have BB := Lib.hid hB
      clear hB h3 hcc hkp f0 f1 f2 f3 hlt3 hne3
      go_wp2_with fail
      clear q0 q1 q2 q3
      refine (HCn.out wr _ KZ.out.tabs KZ.out.node).mono ?_
      rintro e w5 ⟨rfl, hb⟩
      have KZ := Lib.hid (KZ.out.below hb)
      have BB := Lib.hid (BB.out.trans (hb.mono BB.out.size))
      clear hb
      go_upto_region 8 with fail
      have HTT := Lib.hid (show ∀ W, Below w5.heap.size w5 W → Tabs W from fun W hW => KZ.out.tabs.below hW)
      have HNd := Lib.hid (show ∀ W, Below w5.heap.size w5 W → NodeV W (.agg #[.int .i64 (chainN k).kind, .int .i64 (chainN k).tok.1, .string (chainN k).tok.2, .slice A (chainN k).kids.length c]) (chainN k) from fun W hW => (KZ.out.below hW).node)
      go_cut [9, 10] (fun s9 s10 W => ∃ (b10 : Nat) (f : Int) (m : Nd) (A3 : Option Addr) (c3 : Nat), s9 = .pointer (some ⟨b10, 0, none⟩) ∧ s10 = .int .i64 f ∧ (k + 2 ≤ 1000 → f = 0 ∧ m.kids.length = 2) ∧ (1000 < k + 2 → f = 4 ∧ m.kids.length = 0) ∧ W.heap[b10]? = some (.cells (nodeCells m A3 c3) 26 (0, 0)) ∧ Below w5.heap.size w5 W)
      case first =>
        refine wp_region_held_drew (S := (fun W => W.cell? ⟨b3, 0, none⟩ = some (.int .i64 (chainN k).kind) ∧ W.cell? ⟨b3, 1, none⟩ = some (.int .i64 (chainN k).tok.1) ∧ W.cell? ⟨b3, 2, none⟩ = some (.string (chainN k).tok.2) ∧ W.cell? ⟨b3, 3, none⟩ = some (.slice A (chainN k).kids.length c))) (by kernel_rfl) ?_ (fun hHeld => ?_)
        · exact keptN' (Below.drew (Below.refl _ _)) KZ.out.box
        obtain ⟨W0, hw⟩ : ∃ u, u = w5.drew := ⟨_, rfl⟩
        have hB : Below w5.heap.size w5 W0 := by rw [hw]; exact Below.drew (Below.refl _ _)
        rw [← hw] at hHeld
        rw [← hw]
        clear hw
        refine wpAnyH_take (i := 2) (oi := ⟨some 35, _, _, _, _, _⟩) (v := ?_) rfl (by kernel_rfl) (by kernel_rfl) (by kernel_rfl) (fun _ _ _ h => h) (Or.inl ⟨by rfl, ?hy⟩) (by assumption) ?_
        case hy => (intro w hSw; (try dsimp only at hSw); go_simp; (try with_reducible rfl))
        try simp only [Act.put, List.setIfInBounds_toArray, List.set_cons_zero, List.set_cons_succ]
        refine wpAnyH_ready (rs := [0, 1, 7]) (by kernel_rfl) (by simp) ?_
        refine AllReadyH.cons (o := ⟨some 33, _, _, _, _, _⟩) rfl (fun K hK => ?_) (AllReadyH.cons (o := ⟨some 34, _, _, _, _, _⟩) rfl (fun K hK => ?_) (AllReadyH.cons (o := ⟨some 9, _, _, _, _, _⟩) rfl (fun K hK => ?_) AllReadyH.nil))
        · go_simp
          go_at_call 30
          with_reducible refine (sampleP_any W0).mono ?_
          rintro e W1 ⟨⟨vs, rfl, hns⟩, hbC⟩
          have hB := hB.trans (hbC.mono hB.size)
          refine hK.out _ _ ?_ (fun hHeld => ?_)
          · exact keptN' hB KZ.out.box
          clear hK K hbC
          try simp only [Act.put, List.setIfInBounds_toArray, List.set_cons_zero, List.set_cons_succ]
          refine wpAnyH_ready (rs := [1, 7]) (by kernel_rfl) (by simp) ?_
          refine AllReadyH.cons (o := ⟨some 34, _, _, _, _, _⟩) rfl (fun K hK => ?_) (AllReadyH.cons (o := ⟨some 9, _, _, _, _, _⟩) rfl (fun K hK => ?_) AllReadyH.nil)
          · go_simp
            have hal : Below W1.heap.size W1 (W1.alloc (.cells #[.int .i64 1, .int .i64 1] 3)) := allocB _ _
            refine hK.out _ _ ?_ (fun hHeld => ?_)
            · exact keptN' (hB.trans (hal.mono hB.size)) KZ.out.box
            clear hK K
            try simp only [Act.put, List.setIfInBounds_toArray, List.set_cons_zero, List.set_cons_succ]
            obtain ⟨bi, hc⟩ : ∃ c, c = W1.heap.size := ⟨_, rfl⟩
            obtain ⟨W2, hw⟩ : ∃ x, x = W1.alloc (.cells #[.int .i64 1, .int .i64 1] 3) := ⟨_, rfl⟩
            rw [← hw] at hal
            have hns := hns.below hal (fun _ _ _ => trivial) (P' := fun _ => True)
            have hB := hB.trans (hal.mono hB.size)
            have hbi : W2.heap[bi]? = some (.cells #[.int .i64 1, .int .i64 1] 3 (0, 0)) := by rw [hw, hc]; exact heap_alloc_new _ _
            rw [← hw] at hHeld
            rw [← hw]
            rw [← hc]
            clear hw hc hal
            refine wpAnyH_ready (rs := [3, 7]) (by kernel_rfl) (by simp) ?_
            refine AllReadyH.cons (o := ⟨some 36, _, _, _, _, _⟩) rfl (fun K hK => ?_) (AllReadyH.cons (o := ⟨some 9, _, _, _, _, _⟩) rfl (fun K hK => ?_) AllReadyH.nil)
            · go_simp
              go_at_call 29
              with_reducible refine (HPut.out W2 vs _ bi (HTT.out W2 hB) hns (HNd.out W2 hB) hbi).mono ?_
              rintro e W3 ⟨⟨m, A3, c3, f, rfl, hf3, hf4⟩, hbC⟩
              have hB := hB.trans (hbC.mono hB.size)
              refine hK.out _ _ ?_ (fun hHeld => ?_)
              · exact keptN' hB KZ.out.box
              clear hK K hbC
              try simp only [Act.put, List.setIfInBounds_toArray, List.set_cons_zero, List.set_cons_succ]
              refine wpAnyH_take (i := 4) (oi := ⟨some 32, _, _, _, _, _⟩) (v := ?_) rfl (by kernel_rfl) (by kernel_rfl) (by kernel_rfl) (fun _ _ _ h => h) (Or.inl ⟨by rfl, ?hy⟩) (by assumption) ?_
              case hy => (intro w hSw; (try dsimp only at hSw); go_simp; (try with_reducible rfl))
              try simp only [Act.put, List.setIfInBounds_toArray, List.set_cons_zero, List.set_cons_succ]
              refine wpAnyH_take (i := 5) (oi := ⟨some 37, _, _, _, _, _⟩) (v := ?_) rfl (by kernel_rfl) (by kernel_rfl) (by kernel_rfl) (fun _ _ _ h => h) (Or.inl ⟨by rfl, ?hy⟩) (by assumption) ?_
              case hy => (intro w hSw; (try dsimp only at hSw); go_simp; (try with_reducible rfl))
              try simp only [Act.put, List.setIfInBounds_toArray, List.set_cons_zero, List.set_cons_succ]
              refine wpAnyH_take (i := 6) (oi := ⟨some 38, _, _, _, _, _⟩) (v := ?_) rfl (by kernel_rfl) (by kernel_rfl) (by kernel_rfl) (fun _ _ _ h => h) (Or.inl ⟨by rfl, ?hy⟩) (by assumption) ?_
              case hy => (intro w hSw; (try dsimp only at hSw); go_simp; (try with_reducible rfl))
              try simp only [Act.put, List.setIfInBounds_toArray, List.set_cons_zero, List.set_cons_succ]
              refine wpAnyH_ready (rs := [7]) (by kernel_rfl) (by simp) ?_
              refine AllReadyH.cons (o := ⟨some 9, _, _, _, _, _⟩) rfl (fun K hK => ?_) AllReadyH.nil
              go_simp
              have hal : Below W3.heap.size W3 (W3.alloc (.cells #[.int .i64 0, .int .i64 0, .string { data := #[] }, .slice none 0 0] 26)) := allocB _ _
              refine hK.out _ _ ?_ (fun hHeld => ?_)
              · exact keptN' (hB.trans (hal.mono hB.size)) KZ.out.box
              clear hK K
              try simp only [Act.put, List.setIfInBounds_toArray, List.set_cons_zero, List.set_cons_succ]
              obtain ⟨b10, hc⟩ : ∃ c, c = W3.heap.size := ⟨_, rfl⟩
              obtain ⟨W4, hw⟩ : ∃ x, x = W3.alloc (.cells #[.int .i64 0, .int .i64 0, .string { data := #[] }, .slice none 0 0] 26) := ⟨_, rfl⟩
              rw [← hw] at hal
              have g10 : w5.heap.size ≤ b10 := by rw [hc]; exact hB.size
              have hB := hB.trans (hal.mono hB.size)
              have h10 : W4.heap[b10]? = some (.cells #[.int .i64 0, .int .i64 0, .string { data := #[] }, .slice none 0 0] 26 (0, 0)) := by rw [hw, hc]; exact heap_alloc_new _ _
              rw [← hw] at hHeld
              rw [← hw]
              rw [← hc]
              clear hw hc hal
              refine wpAnyH_ready (rs := [8]) (by kernel_rfl) (by simp) ?_
              refine AllReadyH.cons (o := ⟨none, _, _, _, _, _⟩) rfl (fun K hK => ?_) AllReadyH.nil
              have q0 := Lib.cell_of_heap h10 0
              have q1 := Lib.cell_of_heap h10 1
              have q2 := Lib.cell_of_heap h10 2
              have q3 := Lib.cell_of_heap h10 3
              have r0 := frozen_block (j := 0) h10
              have r1 := frozen_block (j := 1) h10
              have r2 := frozen_block (j := 2) h10
              have r3 := frozen_block (j := 3) h10
              have hst := set4 (v0 := .int .i64 m.kind) (v1 := .int .i64 m.tok.1) (v2 := .string m.tok.2) (v3 := .slice A3 m.kids.length c3) h10
              have hB2 : Below w5.heap.size w5 ((((W4.setCell ⟨b10, 0, none⟩ (.int .i64 m.kind)).setCell ⟨b10, 1, none⟩ (.int .i64 m.tok.1)).setCell ⟨b10, 2, none⟩ (.string m.tok.2)).setCell ⟨b10, 3, none⟩ (.slice A3 m.kids.length c3)) := below4 hB g10
              go_simp
              refine hK.out _ _ ?_ (fun hHeld => ?_)
              · exact keptN' hB2 KZ.out.box
              clear hK K q0 q1 q2 q3 r0 r1 r2 r3
              try simp only [Act.put, List.setIfInBounds_toArray, List.set_cons_zero, List.set_cons_succ]
              refine wpAnyH_take (i := 9) (oi := ⟨some 10, _, _, _, _, _⟩) (v := ?_) rfl (by kernel_rfl) (by kernel_rfl) (by kernel_rfl) (fun _ _ _ h => h) (Or.inl ⟨by rfl, ?hy⟩) (by assumption) ?_
              case hy => (intro w hSw; (try dsimp only at hSw); go_simp; (try with_reducible rfl))
              try simp only [Act.put, List.setIfInBounds_toArray, List.set_cons_zero, List.set_cons_succ]
              have h10 := hst
              have hB := hB2
              clear hst hB2
              refine wpAnyH_done (by kernel_rfl) ?_ _
              go_wp2_with fail
              go_meet
              exact ⟨b10, f, m, A3, c3, rfl, rfl, hf3, hf4, h10, hB⟩
            · go_simp
              have hal : Below W2.heap.size W2 (W2.alloc (.cells #[.int .i64 0, .int .i64 0, .string { data := #[] }, .slice none 0 0] 26)) := allocB _ _
              refine hK.out _ _ ?_ (fun hHeld => ?_)
              · exact keptN' (hB.trans (hal.mono hB.size)) KZ.out.box
              clear hK K
              try simp only [Act.put, List.setIfInBounds_toArray, List.set_cons_zero, List.set_cons_succ]
              obtain ⟨b10, hc⟩ : ∃ c, c = W2.heap.size := ⟨_, rfl⟩
              obtain ⟨W6, hw⟩ : ∃ x, x = W2.alloc (.cells #[.int .i64 0, .int .i64 0, .string { data := #[] }, .slice none 0 0] 26) := ⟨_, rfl⟩
              rw [← hw] at hal
              have g10 : w5.heap.size ≤ b10 := by rw [hc]; exact hB.size
              have hns := hns.below hal (fun _ _ _ => trivial) (P' := fun _ => True)
              have hbi := keepB hbi hal
              have hB := hB.trans (hal.mono hB.size)
              have h10 : W6.heap[b10]? = some (.cells #[.int .i64 0, .int .i64 0, .string { data := #[] }, .slice none 0 0] 26 (0, 0)) := by rw [hw, hc]; exact heap_alloc_new _ _
              rw [← hw] at hHeld
              rw [← hw]
              rw [← hc]
              clear hw hc hal
              refine wpAnyH_ready (rs := [3]) (by kernel_rfl) (by simp) ?_
              refine AllReadyH.cons (o := ⟨some 36, _, _, _, _, _⟩) rfl (fun K hK => ?_) AllReadyH.nil
              go_simp
              go_at_call 29
              with_reducible refine (HPut.out W6 vs _ bi (HTT.out W6 hB) hns (HNd.out W6 hB) hbi).mono ?_
              rintro e W7 ⟨⟨m, A3, c3, f, rfl, hf3, hf4⟩, hbC⟩
              have h10 := keepB h10 hbC
              have hB := hB.trans (hbC.mono hB.size)
              refine hK.out _ _ ?_ (fun hHeld => ?_)
              · exact keptN' hB KZ.out.box
              clear hK K hbC
              try simp only [Act.put, List.setIfInBounds_toArray, List.set_cons_zero, List.set_cons_succ]
              refine wpAnyH_take (i := 4) (oi := ⟨some 32, _, _, _, _, _⟩) (v := ?_) rfl (by kernel_rfl) (by kernel_rfl) (by kernel_rfl) (fun _ _ _ h => h) (Or.inl ⟨by rfl, ?hy⟩) (by assumption) ?_
              case hy => (intro w hSw; (try dsimp only at hSw); go_simp; (try with_reducible rfl))
              try simp only [Act.put, List.setIfInBounds_toArray, List.set_cons_zero, List.set_cons_succ]
              refine wpAnyH_take (i := 5) (oi := ⟨some 37, _, _, _, _, _⟩) (v := ?_) rfl (by kernel_rfl) (by kernel_rfl) (by kernel_rfl) (fun _ _ _ h => h) (Or.inl ⟨by rfl, ?hy⟩) (by assumption) ?_
              case hy => (intro w hSw; (try dsimp only at hSw); go_simp; (try with_reducible rfl))
              try simp only [Act.put, List.setIfInBounds_toArray, List.set_cons_zero, List.set_cons_succ]
              refine wpAnyH_take (i := 6) (oi := ⟨some 38, _, _, _, _, _⟩) (v := ?_) rfl (by kernel_rfl) (by kernel_rfl) (by kernel_rfl) (fun _ _ _ h => h) (Or.inl ⟨by rfl, ?hy⟩) (by assumption) ?_
              case hy => (intro w hSw; (try dsimp only at hSw); go_simp; (try with_reducible rfl))
              try simp only [Act.put, List.setIfInBounds_toArray, List.set_cons_zero, List.set_cons_succ]
              refine wpAnyH_ready (rs := [8]) (by kernel_rfl) (by simp) ?_
              refine AllReadyH.cons (o := ⟨none, _, _, _, _, _⟩) rfl (fun K hK => ?_) AllReadyH.nil
              have q0 := Lib.cell_of_heap h10 0
              have q1 := Lib.cell_of_heap h10 1
              have q2 := Lib.cell_of_heap h10 2
              have q3 := Lib.cell_of_heap h10 3
              have r0 := frozen_block (j := 0) h10
              have r1 := frozen_block (j := 1) h10
              have r2 := frozen_block (j := 2) h10
              have r3 := frozen_block (j := 3) h10
              have hst := set4 (v0 := .int .i64 m.kind) (v1 := .int .i64 m.tok.1) (v2 := .string m.tok.2) (v3 := .slice A3 m.kids.length c3) h10
              have hB2 : Below w5.heap.size w5 ((((W7.setCell ⟨b10, 0, none⟩ (.int .i64 m.kind)).setCell ⟨b10, 1, none⟩ (.int .i64 m.tok.1)).setCell ⟨b10, 2, none⟩ (.string m.tok.2)).setCell ⟨b10, 3, none⟩ (.slice A3 m.kids.length c3)) := below4 hB g10
              go_simp
              refine hK.out _ _ ?_ (fun hHeld => ?_)
              · exact keptN' hB2 KZ.out.box
              clear hK K q0 q1 q2 q3 r0 r1 r2 r3
              try simp only [Act.put, List.setIfInBounds_toArray, List.set_cons_zero, List.set_cons_succ]
              refine wpAnyH_take (i := 9) (oi := ⟨some 10, _, _, _, _, _⟩) (v := ?_) rfl (by kernel_rfl) (by kernel_rfl) (by kernel_rfl) (fun _ _ _ h => h) (Or.inl ⟨by rfl, ?hy⟩) (by assumption) ?_
              case hy => (intro w hSw; (try dsimp only at hSw); go_simp; (try with_reducible rfl))
              try simp only [Act.put, List.setIfInBounds_toArray, List.set_cons_zero, List.set_cons_succ]
              have h10 := hst
              have hB := hB2
              clear hst hB2
              refine wpAnyH_done (by kernel_rfl) ?_ _
              go_wp2_with fail
              go_meet
              exact ⟨b10, f, m, A3, c3, rfl, rfl, hf3, hf4, h10, hB⟩
          · go_simp
            have hal : Below W1.heap.size W1 (W1.alloc (.cells #[.int .i64 0, .int .i64 0, .string { data := #[] }, .slice none 0 0] 26)) := allocB _ _
            refine hK.out _ _ ?_ (fun hHeld => ?_)
            · exact keptN' (hB.trans (hal.mono hB.size)) KZ.out.box
            clear hK K
            try simp only [Act.put, List.setIfInBounds_toArray, List.set_cons_zero, List.set_cons_succ]
            obtain ⟨b10, hc⟩ : ∃ c, c = W1.heap.size := ⟨_, rfl⟩
            obtain ⟨W9, hw⟩ : ∃ x, x = W1.alloc (.cells #[.int .i64 0, .int .i64 0, .string { data := #[] }, .slice none 0 0] 26) := ⟨_, rfl⟩
            rw [← hw] at hal
            have g10 : w5.heap.size ≤ b10 := by rw [hc]; exact hB.size
            have hns := hns.below hal (fun _ _ _ => trivial) (P' := fun _ => True)
            have hB := hB.trans (hal.mono hB.size)
            have h10 : W9.heap[b10]? = some (.cells #[.int .i64 0, .int .i64 0, .string { data := #[] }, .slice none 0 0] 26 (0, 0)) := by rw [hw, hc]; exact heap_alloc_new _ _
            rw [← hw] at hHeld
            rw [← hw]
            rw [← hc]
            clear hw hc hal
            refine wpAnyH_ready (rs := [1]) (by kernel_rfl) (by simp) ?_
            refine AllReadyH.cons (o := ⟨some 34, _, _, _, _, _⟩) rfl (fun K hK => ?_) AllReadyH.nil
            go_simp
            have hal : Below W9.heap.size W9 (W9.alloc (.cells #[.int .i64 1, .int .i64 1] 3)) := allocB _ _
            refine hK.out _ _ ?_ (fun hHeld => ?_)
            · exact keptN' (hB.trans (hal.mono hB.size)) KZ.out.box
            clear hK K
            try simp only [Act.put, List.setIfInBounds_toArray, List.set_cons_zero, List.set_cons_succ]
            obtain ⟨bi, hc⟩ : ∃ c, c = W9.heap.size := ⟨_, rfl⟩
            obtain ⟨W10, hw⟩ : ∃ x, x = W9.alloc (.cells #[.int .i64 1, .int .i64 1] 3) := ⟨_, rfl⟩
            rw [← hw] at hal
            have hns := hns.below hal (fun _ _ _ => trivial) (P' := fun _ => True)
            have h10 := keepB h10 hal
            have hB := hB.trans (hal.mono hB.size)
            have hbi : W10.heap[bi]? = some (.cells #[.int .i64 1, .int .i64 1] 3 (0, 0)) := by rw [hw, hc]; exact heap_alloc_new _ _
            rw [← hw] at hHeld
            rw [← hw]
            rw [← hc]
            clear hw hc hal
            refine wpAnyH_ready (rs := [3]) (by kernel_rfl) (by simp) ?_
            refine AllReadyH.cons (o := ⟨some 36, _, _, _, _, _⟩) rfl (fun K hK => ?_) AllReadyH.nil
            go_simp
            go_at_call 29
            with_reducible refine (HPut.out W10 vs _ bi (HTT.out W10 hB) hns (HNd.out W10 hB) hbi).mono ?_
            rintro e W11 ⟨⟨m, A3, c3, f, rfl, hf3, hf4⟩, hbC⟩
            have h10 := keepB h10 hbC
            have hB := hB.trans (hbC.mono hB.size)
            refine hK.out _ _ ?_ (fun hHeld => ?_)
            · exact keptN' hB KZ.out.box
            clear hK K hbC
            try simp only [Act.put, List.setIfInBounds_toArray, List.set_cons_zero, List.set_cons_succ]
            refine wpAnyH_take (i := 4) (oi := ⟨some 32, _, _, _, _, _⟩) (v := ?_) rfl (by kernel_rfl) (by kernel_rfl) (by kernel_rfl) (fun _ _ _ h => h) (Or.inl ⟨by rfl, ?hy⟩) (by assumption) ?_
            case hy => (intro w hSw; (try dsimp only at hSw); go_simp; (try with_reducible rfl))
            try simp only [Act.put, List.setIfInBounds_toArray, List.set_cons_zero, List.set_cons_succ]
            refine wpAnyH_take (i := 5) (oi := ⟨some 37, _, _, _, _, _⟩) (v := ?_) rfl (by kernel_rfl) (by kernel_rfl) (by kernel_rfl) (fun _ _ _ h => h) (Or.inl ⟨by rfl, ?hy⟩) (by assumption) ?_
            case hy => (intro w hSw; (try dsimp only at hSw); go_simp; (try with_reducible rfl))
            try simp only [Act.put, List.setIfInBounds_toArray, List.set_cons_zero, List.set_cons_succ]
            refine wpAnyH_take (i := 6) (oi := ⟨some 38, _, _, _, _, _⟩) (v := ?_) rfl (by kernel_rfl) (by kernel_rfl) (by kernel_rfl) (fun _ _ _ h => h) (Or.inl ⟨by rfl, ?hy⟩) (by assumption) ?_
            case hy => (intro w hSw; (try dsimp only at hSw); go_simp; (try with_reducible rfl))
            try simp only [Act.put, List.setIfInBounds_toArray, List.set_cons_zero, List.set_cons_succ]
            refine wpAnyH_ready (rs := [8]) (by kernel_rfl) (by simp) ?_
            refine AllReadyH.cons (o := ⟨none, _, _, _, _, _⟩) rfl (fun K hK => ?_) AllReadyH.nil
            have q0 := Lib.cell_of_heap h10 0
            have q1 := Lib.cell_of_heap h10 1
            have q2 := Lib.cell_of_heap h10 2
            have q3 := Lib.cell_of_heap h10 3
            have r0 := frozen_block (j := 0) h10
            have r1 := frozen_block (j := 1) h10
            have r2 := frozen_block (j := 2) h10
            have r3 := frozen_block (j := 3) h10
            have hst := set4 (v0 := .int .i64 m.kind) (v1 := .int .i64 m.tok.1) (v2 := .string m.tok.2) (v3 := .slice A3 m.kids.length c3) h10
            have hB2 : Below w5.heap.size w5 ((((W11.setCell ⟨b10, 0, none⟩ (.int .i64 m.kind)).setCell ⟨b10, 1, none⟩ (.int .i64 m.tok.1)).setCell ⟨b10, 2, none⟩ (.string m.tok.2)).setCell ⟨b10, 3, none⟩ (.slice A3 m.kids.length c3)) := below4 hB g10
            go_simp
            refine hK.out _ _ ?_ (fun hHeld => ?_)
            · exact keptN' hB2 KZ.out.box
            clear hK K q0 q1 q2 q3 r0 r1 r2 r3
            try simp only [Act.put, List.setIfInBounds_toArray, List.set_cons_zero, List.set_cons_succ]
            refine wpAnyH_take (i := 9) (oi := ⟨some 10, _, _, _, _, _⟩) (v := ?_) rfl (by kernel_rfl) (by kernel_rfl) (by kernel_rfl) (fun _ _ _ h => h) (Or.inl ⟨by rfl, ?hy⟩) (by assumption) ?_
            case hy => (intro w hSw; (try dsimp only at hSw); go_simp; (try with_reducible rfl))
            try simp only [Act.put, List.setIfInBounds_toArray, List.set_cons_zero, List.set_cons_succ]
            have h10 := hst
            have hB := hB2
            clear hst hB2
            refine wpAnyH_done (by kernel_rfl) ?_ _
            go_wp2_with fail
            go_meet
            exact ⟨b10, f, m, A3, c3, rfl, rfl, hf3, hf4, h10, hB⟩
        · go_simp
          have hal : Below W0.heap.size W0 (W0.alloc (.cells #[.int .i64 1, .int .i64 1] 3)) := allocB _ _
          refine hK.out _ _ ?_ (fun hHeld => ?_)
          · exact keptN' (hB.trans (hal.mono hB.size)) KZ.out.box
          clear hK K
          try simp only [Act.put, List.setIfInBounds_toArray, List.set_cons_zero, List.set_cons_succ]
          obtain ⟨bi, hc⟩ : ∃ c, c = W0.heap.size := ⟨_, rfl⟩
          obtain ⟨W13, hw⟩ : ∃ x, x = W0.alloc (.cells #[.int .i64 1, .int .i64 1] 3) := ⟨_, rfl⟩
          rw [← hw] at hal
          have hB := hB.trans (hal.mono hB.size)
          have hbi : W13.heap[bi]? = some (.cells #[.int .i64 1, .int .i64 1] 3 (0, 0)) := by rw [hw, hc]; exact heap_alloc_new _ _
          rw [← hw] at hHeld
          rw [← hw]
          rw [← hc]
          clear hw hc hal
          refine wpAnyH_ready (rs := [0, 7]) (by kernel_rfl) (by simp) ?_
          refine AllReadyH.cons (o := ⟨some 33, _, _, _, _, _⟩) rfl (fun K hK => ?_) (AllReadyH.cons (o := ⟨some 9, _, _, _, _, _⟩) rfl (fun K hK => ?_) AllReadyH.nil)
          · go_simp
            go_at_call 30
            with_reducible refine (sampleP_any W13).mono ?_
            rintro e W14 ⟨⟨vs, rfl, hns⟩, hbC⟩
            have hbi := keepB hbi hbC
            have hB := hB.trans (hbC.mono hB.size)
            refine hK.out _ _ ?_ (fun hHeld => ?_)
            · exact keptN' hB KZ.out.box
            clear hK K hbC
            try simp only [Act.put, List.setIfInBounds_toArray, List.set_cons_zero, List.set_cons_succ]
            refine wpAnyH_ready (rs := [3, 7]) (by kernel_rfl) (by simp) ?_
            refine AllReadyH.cons (o := ⟨some 36, _, _, _, _, _⟩) rfl (fun K hK => ?_) (AllReadyH.cons (o := ⟨some 9, _, _, _, _, _⟩) rfl (fun K hK => ?_) AllReadyH.nil)
            · go_simp
              go_at_call 29
              with_reducible refine (HPut.out W14 vs _ bi (HTT.out W14 hB) hns (HNd.out W14 hB) hbi).mono ?_
              rintro e W15 ⟨⟨m, A3, c3, f, rfl, hf3, hf4⟩, hbC⟩
              have hB := hB.trans (hbC.mono hB.size)
              refine hK.out _ _ ?_ (fun hHeld => ?_)
              · exact keptN' hB KZ.out.box
              clear hK K hbC
              try simp only [Act.put, List.setIfInBounds_toArray, List.set_cons_zero, List.set_cons_succ]
              refine wpAnyH_take (i := 4) (oi := ⟨some 32, _, _, _, _, _⟩) (v := ?_) rfl (by kernel_rfl) (by kernel_rfl) (by kernel_rfl) (fun _ _ _ h => h) (Or.inl ⟨by rfl, ?hy⟩) (by assumption) ?_
              case hy => (intro w hSw; (try dsimp only at hSw); go_simp; (try with_reducible rfl))
              try simp only [Act.put, List.setIfInBounds_toArray, List.set_cons_zero, List.set_cons_succ]
              refine wpAnyH_take (i := 5) (oi := ⟨some 37, _, _, _, _, _⟩) (v := ?_) rfl (by kernel_rfl) (by kernel_rfl) (by kernel_rfl) (fun _ _ _ h => h) (Or.inl ⟨by rfl, ?hy⟩) (by assumption) ?_
              case hy => (intro w hSw; (try dsimp only at hSw); go_simp; (try with_reducible rfl))
              try simp only [Act.put, List.setIfInBounds_toArray, List.set_cons_zero, List.set_cons_succ]
              refine wpAnyH_take (i := 6) (oi := ⟨some 38, _, _, _, _, _⟩) (v := ?_) rfl (by kernel_rfl) (by kernel_rfl) (by kernel_rfl) (fun _ _ _ h => h) (Or.inl ⟨by rfl, ?hy⟩) (by assumption) ?_
              case hy => (intro w hSw; (try dsimp only at hSw); go_simp; (try with_reducible rfl))
              try simp only [Act.put, List.setIfInBounds_toArray, List.set_cons_zero, List.set_cons_succ]
              refine wpAnyH_ready (rs := [7]) (by kernel_rfl) (by simp) ?_
              refine AllReadyH.cons (o := ⟨some 9, _, _, _, _, _⟩) rfl (fun K hK => ?_) AllReadyH.nil
              go_simp
              have hal : Below W15.heap.size W15 (W15.alloc (.cells #[.int .i64 0, .int .i64 0, .string { data := #[] }, .slice none 0 0] 26)) := allocB _ _
              refine hK.out _ _ ?_ (fun hHeld => ?_)
              · exact keptN' (hB.trans (hal.mono hB.size)) KZ.out.box
              clear hK K
              try simp only [Act.put, List.setIfInBounds_toArray, List.set_cons_zero, List.set_cons_succ]
              obtain ⟨b10, hc⟩ : ∃ c, c = W15.heap.size := ⟨_, rfl⟩
              obtain ⟨W16, hw⟩ : ∃ x, x = W15.alloc (.cells #[.int .i64 0, .int .i64 0, .string { data := #[] }, .slice none 0 0] 26) := ⟨_, rfl⟩
              rw [← hw] at hal
              have g10 : w5.heap.size ≤ b10 := by rw [hc]; exact hB.size
              have hB := hB.trans (hal.mono hB.size)
              have h10 : W16.heap[b10]? = some (.cells #[.int .i64 0, .int .i64 0, .string { data := #[] }, .slice none 0 0] 26 (0, 0)) := by rw [hw, hc]; exact heap_alloc_new _ _
              rw [← hw] at hHeld
              rw [← hw]
              rw [← hc]
              clear hw hc hal
              refine wpAnyH_ready (rs := [8]) (by kernel_rfl) (by simp) ?_
              refine AllReadyH.cons (o := ⟨none, _, _, _, _, _⟩) rfl (fun K hK => ?_) AllReadyH.nil
              have q0 := Lib.cell_of_heap h10 0
              have q1 := Lib.cell_of_heap h10 1
              have q2 := Lib.cell_of_heap h10 2
              have q3 := Lib.cell_of_heap h10 3
              have r0 := frozen_block (j := 0) h10
              have r1 := frozen_block (j := 1) h10
              have r2 := frozen_block (j := 2) h10
              have r3 := frozen_block (j := 3) h10
              have hst := set4 (v0 := .int .i64 m.kind) (v1 := .int .i64 m.tok.1) (v2 := .string m.tok.2) (v3 := .slice A3 m.kids.length c3) h10
              have hB2 : Below w5.heap.size w5 ((((W16.setCell ⟨b10, 0, none⟩ (.int .i64 m.kind)).setCell ⟨b10, 1, none⟩ (.int .i64 m.tok.1)).setCell ⟨b10, 2, none⟩ (.string m.tok.2)).setCell ⟨b10, 3, none⟩ (.slice A3 m.kids.length c3)) := below4 hB g10
              go_simp
              refine hK.out _ _ ?_ (fun hHeld => ?_)
              · exact keptN' hB2 KZ.out.box
              clear hK K q0 q1 q2 q3 r0 r1 r2 r3
              try simp only [Act.put, List.setIfInBounds_toArray, List.set_cons_zero, List.set_cons_succ]
              refine wpAnyH_take (i := 9) (oi := ⟨some 10, _, _, _, _, _⟩) (v := ?_) rfl (by kernel_rfl) (by kernel_rfl) (by kernel_rfl) (fun _ _ _ h => h) (Or.inl ⟨by rfl, ?hy⟩) (by assumption) ?_
              case hy => (intro w hSw; (try dsimp only at hSw); go_simp; (try with_reducible rfl))
              try simp only [Act.put, List.setIfInBounds_toArray, List.set_cons_zero, List.set_cons_succ]
              have h10 := hst
              have hB := hB2
              clear hst hB2
              refine wpAnyH_done (by kernel_rfl) ?_ _
              go_wp2_with fail
              go_meet
              exact ⟨b10, f, m, A3, c3, rfl, rfl, hf3, hf4, h10, hB⟩
            · go_simp
              have hal : Below W14.heap.size W14 (W14.alloc (.cells #[.int .i64 0, .int .i64 0, .string { data := #[] }, .slice none 0 0] 26)) := allocB _ _
              refine hK.out _ _ ?_ (fun hHeld => ?_)
              · exact keptN' (hB.trans (hal.mono hB.size)) KZ.out.box
              clear hK K
              try simp only [Act.put, List.setIfInBounds_toArray, List.set_cons_zero, List.set_cons_succ]
              obtain ⟨b10, hc⟩ : ∃ c, c = W14.heap.size := ⟨_, rfl⟩
              obtain ⟨W18, hw⟩ : ∃ x, x = W14.alloc (.cells #[.int .i64 0, .int .i64 0, .string { data := #[] }, .slice none 0 0] 26) := ⟨_, rfl⟩
              rw [← hw] at hal
              have g10 : w5.heap.size ≤ b10 := by rw [hc]; exact hB.size
              have hns := hns.below hal (fun _ _ _ => trivial) (P' := fun _ => True)
              have hbi := keepB hbi hal
              have hB := hB.trans (hal.mono hB.size)
              have h10 : W18.heap[b10]? = some (.cells #[.int .i64 0, .int .i64 0, .string { data := #[] }, .slice none 0 0] 26 (0, 0)) := by rw [hw, hc]; exact heap_alloc_new _ _
              rw [← hw] at hHeld
              rw [← hw]
              rw [← hc]
              clear hw hc hal
              refine wpAnyH_ready (rs := [3]) (by kernel_rfl) (by simp) ?_
              refine AllReadyH.cons (o := ⟨some 36, _, _, _, _, _⟩) rfl (fun K hK => ?_) AllReadyH.nil
              go_simp
              go_at_call 29
              with_reducible refine (HPut.out W18 vs _ bi (HTT.out W18 hB) hns (HNd.out W18 hB) hbi).mono ?_
              rintro e W19 ⟨⟨m, A3, c3, f, rfl, hf3, hf4⟩, hbC⟩
              have h10 := keepB h10 hbC
              have hB := hB.trans (hbC.mono hB.size)
              refine hK.out _ _ ?_ (fun hHeld => ?_)
              · exact keptN' hB KZ.out.box
              clear hK K hbC
              try simp only [Act.put, List.setIfInBounds_toArray, List.set_cons_zero, List.set_cons_succ]
              refine wpAnyH_take (i := 4) (oi := ⟨some 32, _, _, _, _, _⟩) (v := ?_) rfl (by kernel_rfl) (by kernel_rfl) (by kernel_rfl) (fun _ _ _ h => h) (Or.inl ⟨by rfl, ?hy⟩) (by assumption) ?_
              case hy => (intro w hSw; (try dsimp only at hSw); go_simp; (try with_reducible rfl))
              try simp only [Act.put, List.setIfInBounds_toArray, List.set_cons_zero, List.set_cons_succ]
              refine wpAnyH_take (i := 5) (oi := ⟨some 37, _, _, _, _, _⟩) (v := ?_) rfl (by kernel_rfl) (by kernel_rfl) (by kernel_rfl) (fun _ _ _ h => h) (Or.inl ⟨by rfl, ?hy⟩) (by assumption) ?_
              case hy => (intro w hSw; (try dsimp only at hSw); go_simp; (try with_reducible rfl))
              try simp only [Act.put, List.setIfInBounds_toArray, List.set_cons_zero, List.set_cons_succ]
              refine wpAnyH_take (i := 6) (oi := ⟨some 38, _, _, _, _, _⟩) (v := ?_) rfl (by kernel_rfl) (by kernel_rfl) (by kernel_rfl) (fun _ _ _ h => h) (Or.inl ⟨by rfl, ?hy⟩) (by assumption) ?_
              case hy => (intro w hSw; (try dsimp only at hSw); go_simp; (try with_reducible rfl))
              try simp only [Act.put, List.setIfInBounds_toArray, List.set_cons_zero, List.set_cons_succ]
              refine wpAnyH_ready (rs := [8]) (by kernel_rfl) (by simp) ?_
              refine AllReadyH.cons (o := ⟨none, _, _, _, _, _⟩) rfl (fun K hK => ?_) AllReadyH.nil
              have q0 := Lib.cell_of_heap h10 0
              have q1 := Lib.cell_of_heap h10 1
              have q2 := Lib.cell_of_heap h10 2
              have q3 := Lib.cell_of_heap h10 3
              have r0 := frozen_block (j := 0) h10
              have r1 := frozen_block (j := 1) h10
              have r2 := frozen_block (j := 2) h10
              have r3 := frozen_block (j := 3) h10
              have hst := set4 (v0 := .int .i64 m.kind) (v1 := .int .i64 m.tok.1) (v2 := .string m.tok.2) (v3 := .slice A3 m.kids.length c3) h10
              have hB2 : Below w5.heap.size w5 ((((W19.setCell ⟨b10, 0, none⟩ (.int .i64 m.kind)).setCell ⟨b10, 1, none⟩ (.int .i64 m.tok.1)).setCell ⟨b10, 2, none⟩ (.string m.tok.2)).setCell ⟨b10, 3, none⟩ (.slice A3 m.kids.length c3)) := below4 hB g10
              go_simp
              refine hK.out _ _ ?_ (fun hHeld => ?_)
              · exact keptN' hB2 KZ.out.box
              clear hK K q0 q1 q2 q3 r0 r1 r2 r3
              try simp only [Act.put, List.setIfInBounds_toArray, List.set_cons_zero, List.set_cons_succ]
              refine wpAnyH_take (i := 9) (oi := ⟨some 10, _, _, _, _, _⟩) (v := ?_) rfl (by kernel_rfl) (by kernel_rfl) (by kernel_rfl) (fun _ _ _ h => h) (Or.inl ⟨by rfl, ?hy⟩) (by assumption) ?_
              case hy => (intro w hSw; (try dsimp only at hSw); go_simp; (try with_reducible rfl))
              try simp only [Act.put, List.setIfInBounds_toArray, List.set_cons_zero, List.set_cons_succ]
              have h10 := hst
              have hB := hB2
              clear hst hB2
              refine wpAnyH_done (by kernel_rfl) ?_ _
              go_wp2_with fail
              go_meet
              exact ⟨b10, f, m, A3, c3, rfl, rfl, hf3, hf4, h10, hB⟩
          · go_simp
            have hal : Below W13.heap.size W13 (W13.alloc (.cells #[.int .i64 0, .int .i64 0, .string { data := #[] }, .slice none 0 0] 26)) := allocB _ _
            refine hK.out _ _ ?_ (fun hHeld => ?_)
            · exact keptN' (hB.trans (hal.mono hB.size)) KZ.out.box
            clear hK K
            try simp only [Act.put, List.setIfInBounds_toArray, List.set_cons_zero, List.set_cons_succ]
            obtain ⟨b10, hc⟩ : ∃ c, c = W13.heap.size := ⟨_, rfl⟩
            obtain ⟨W21, hw⟩ : ∃ x, x = W13.alloc (.cells #[.int .i64 0, .int .i64 0, .string { data := #[] }, .slice none 0 0] 26) := ⟨_, rfl⟩
            rw [← hw] at hal
            have g10 : w5.heap.size ≤ b10 := by rw [hc]; exact hB.size
            have hbi := keepB hbi hal
            have hB := hB.trans (hal.mono hB.size)
            have h10 : W21.heap[b10]? = some (.cells #[.int .i64 0, .int .i64 0, .string { data := #[] }, .slice none 0 0] 26 (0, 0)) := by rw [hw, hc]; exact heap_alloc_new _ _
            rw [← hw] at hHeld
            rw [← hw]
            rw [← hc]
            clear hw hc hal
            refine wpAnyH_ready (rs := [0]) (by kernel_rfl) (by simp) ?_
            refine AllReadyH.cons (o := ⟨some 33, _, _, _, _, _⟩) rfl (fun K hK => ?_) AllReadyH.nil
            go_simp
            go_at_call 30
            with_reducible refine (sampleP_any W21).mono ?_
            rintro e W22 ⟨⟨vs, rfl, hns⟩, hbC⟩
            have hbi := keepB hbi hbC
            have h10 := keepB h10 hbC
            have hB := hB.trans (hbC.mono hB.size)
            refine hK.out _ _ ?_ (fun hHeld => ?_)
            · exact keptN' hB KZ.out.box
            clear hK K hbC
            try simp only [Act.put, List.setIfInBounds_toArray, List.set_cons_zero, List.set_cons_succ]
            refine wpAnyH_ready (rs := [3]) (by kernel_rfl) (by simp) ?_
            refine AllReadyH.cons (o := ⟨some 36, _, _, _, _, _⟩) rfl (fun K hK => ?_) AllReadyH.nil
            go_simp
            go_at_call 29
            with_reducible refine (HPut.out W22 vs _ bi (HTT.out W22 hB) hns (HNd.out W22 hB) hbi).mono ?_
            rintro e W23 ⟨⟨m, A3, c3, f, rfl, hf3, hf4⟩, hbC⟩
            have h10 := keepB h10 hbC
            have hB := hB.trans (hbC.mono hB.size)
            refine hK.out _ _ ?_ (fun hHeld => ?_)
            · exact keptN' hB KZ.out.box
            clear hK K hbC
            try simp only [Act.put, List.setIfInBounds_toArray, List.set_cons_zero, List.set_cons_succ]
            refine wpAnyH_take (i := 4) (oi := ⟨some 32, _, _, _, _, _⟩) (v := ?_) rfl (by kernel_rfl) (by kernel_rfl) (by kernel_rfl) (fun _ _ _ h => h) (Or.inl ⟨by rfl, ?hy⟩) (by assumption) ?_
            case hy => (intro w hSw; (try dsimp only at hSw); go_simp; (try with_reducible rfl))
            try simp only [Act.put, List.setIfInBounds_toArray, List.set_cons_zero, List.set_cons_succ]
            refine wpAnyH_take (i := 5) (oi := ⟨some 37, _, _, _, _, _⟩) (v := ?_) rfl (by kernel_rfl) (by kernel_rfl) (by kernel_rfl) (fun _ _ _ h => h) (Or.inl ⟨by rfl, ?hy⟩) (by assumption) ?_
            case hy => (intro w hSw; (try dsimp only at hSw); go_simp; (try with_reducible rfl))
            try simp only [Act.put, List.setIfInBounds_toArray, List.set_cons_zero, List.set_cons_succ]
            refine wpAnyH_take (i := 6) (oi := ⟨some 38, _, _, _, _, _⟩) (v := ?_) rfl (by kernel_rfl) (by kernel_rfl) (by kernel_rfl) (fun _ _ _ h => h) (Or.inl ⟨by rfl, ?hy⟩) (by assumption) ?_
            case hy => (intro w hSw; (try dsimp only at hSw); go_simp; (try with_reducible rfl))
            try simp only [Act.put, List.setIfInBounds_toArray, List.set_cons_zero, List.set_cons_succ]
            refine wpAnyH_ready (rs := [8]) (by kernel_rfl) (by simp) ?_
            refine AllReadyH.cons (o := ⟨none, _, _, _, _, _⟩) rfl (fun K hK => ?_) AllReadyH.nil
            have q0 := Lib.cell_of_heap h10 0
            have q1 := Lib.cell_of_heap h10 1
            have q2 := Lib.cell_of_heap h10 2
            have q3 := Lib.cell_of_heap h10 3
            have r0 := frozen_block (j := 0) h10
            have r1 := frozen_block (j := 1) h10
            have r2 := frozen_block (j := 2) h10
            have r3 := frozen_block (j := 3) h10
            have hst := set4 (v0 := .int .i64 m.kind) (v1 := .int .i64 m.tok.1) (v2 := .string m.tok.2) (v3 := .slice A3 m.kids.length c3) h10
            have hB2 : Below w5.heap.size w5 ((((W23.setCell ⟨b10, 0, none⟩ (.int .i64 m.kind)).setCell ⟨b10, 1, none⟩ (.int .i64 m.tok.1)).setCell ⟨b10, 2, none⟩ (.string m.tok.2)).setCell ⟨b10, 3, none⟩ (.slice A3 m.kids.length c3)) := below4 hB g10
            go_simp
            refine hK.out _ _ ?_ (fun hHeld => ?_)
            · exact keptN' hB2 KZ.out.box
            clear hK K q0 q1 q2 q3 r0 r1 r2 r3
            try simp only [Act.put, List.setIfInBounds_toArray, List.set_cons_zero, List.set_cons_succ]
            refine wpAnyH_take (i := 9) (oi := ⟨some 10, _, _, _, _, _⟩) (v := ?_) rfl (by kernel_rfl) (by kernel_rfl) (by kernel_rfl) (fun _ _ _ h => h) (Or.inl ⟨by rfl, ?hy⟩) (by assumption) ?_
            case hy => (intro w hSw; (try dsimp only at hSw); go_simp; (try with_reducible rfl))
            try simp only [Act.put, List.setIfInBounds_toArray, List.set_cons_zero, List.set_cons_succ]
            have h10 := hst
            have hB := hB2
            clear hst hB2
            refine wpAnyH_done (by kernel_rfl) ?_ _
            go_wp2_with fail
            go_meet
            exact ⟨b10, f, m, A3, c3, rfl, rfl, hf3, hf4, h10, hB⟩
        · go_simp
          have hal : Below W0.heap.size W0 (W0.alloc (.cells #[.int .i64 0, .int .i64 0, .string { data := #[] }, .slice none 0 0] 26)) := allocB _ _
          refine hK.out _ _ ?_ (fun hHeld => ?_)
          · exact keptN' (hB.trans (hal.mono hB.size)) KZ.out.box
          clear hK K
          try simp only [Act.put, List.setIfInBounds_toArray, List.set_cons_zero, List.set_cons_succ]
          obtain ⟨b10, hc⟩ : ∃ c, c = W0.heap.size := ⟨_, rfl⟩
          obtain ⟨W25, hw⟩ : ∃ x, x = W0.alloc (.cells #[.int .i64 0, .int .i64 0, .string { data := #[] }, .slice none 0 0] 26) := ⟨_, rfl⟩
          rw [← hw] at hal
          have g10 : w5.heap.size ≤ b10 := by rw [hc]; exact hB.size
          have hB := hB.trans (hal.mono hB.size)
          have h10 : W25.heap[b10]? = some (.cells #[.int .i64 0, .int .i64 0, .string { data := #[] }, .slice none 0 0] 26 (0, 0)) := by rw [hw, hc]; exact heap_alloc_new _ _
          rw [← hw] at hHeld
          rw [← hw]
          rw [← hc]
          clear hw hc hal
          refine wpAnyH_ready (rs := [0, 1]) (by kernel_rfl) (by simp) ?_
          refine AllReadyH.cons (o := ⟨some 33, _, _, _, _, _⟩) rfl (fun K hK => ?_) (AllReadyH.cons (o := ⟨some 34, _, _, _, _, _⟩) rfl (fun K hK => ?_) AllReadyH.nil)
          · go_simp
            go_at_call 30
            with_reducible refine (sampleP_any W25).mono ?_
            rintro e W26 ⟨⟨vs, rfl, hns⟩, hbC⟩
            have h10 := keepB h10 hbC
            have hB := hB.trans (hbC.mono hB.size)
            refine hK.out _ _ ?_ (fun hHeld => ?_)
            · exact keptN' hB KZ.out.box
            clear hK K hbC
            try simp only [Act.put, List.setIfInBounds_toArray, List.set_cons_zero, List.set_cons_succ]
            refine wpAnyH_ready (rs := [1]) (by kernel_rfl) (by simp) ?_
            refine AllReadyH.cons (o := ⟨some 34, _, _, _, _, _⟩) rfl (fun K hK => ?_) AllReadyH.nil
            go_simp
            have hal : Below W26.heap.size W26 (W26.alloc (.cells #[.int .i64 1, .int .i64 1] 3)) := allocB _ _
            refine hK.out _ _ ?_ (fun hHeld => ?_)
            · exact keptN' (hB.trans (hal.mono hB.size)) KZ.out.box
            clear hK K
            try simp only [Act.put, List.setIfInBounds_toArray, List.set_cons_zero, List.set_cons_succ]
            obtain ⟨bi, hc⟩ : ∃ c, c = W26.heap.size := ⟨_, rfl⟩
            obtain ⟨W27, hw⟩ : ∃ x, x = W26.alloc (.cells #[.int .i64 1, .int .i64 1] 3) := ⟨_, rfl⟩
            rw [← hw] at hal
            have hns := hns.below hal (fun _ _ _ => trivial) (P' := fun _ => True)
            have h10 := keepB h10 hal
            have hB := hB.trans (hal.mono hB.size)
            have hbi : W27.heap[bi]? = some (.cells #[.int .i64 1, .int .i64 1] 3 (0, 0)) := by rw [hw, hc]; exact heap_alloc_new _ _
            rw [← hw] at hHeld
            rw [← hw]
            rw [← hc]
            clear hw hc hal
            refine wpAnyH_ready (rs := [3]) (by kernel_rfl) (by simp) ?_
            refine AllReadyH.cons (o := ⟨some 36, _, _, _, _, _⟩) rfl (fun K hK => ?_) AllReadyH.nil
            go_simp
            go_at_call 29
            with_reducible refine (HPut.out W27 vs _ bi (HTT.out W27 hB) hns (HNd.out W27 hB) hbi).mono ?_
            rintro e W28 ⟨⟨m, A3, c3, f, rfl, hf3, hf4⟩, hbC⟩
            have h10 := keepB h10 hbC
            have hB := hB.trans (hbC.mono hB.size)
            refine hK.out _ _ ?_ (fun hHeld => ?_)
            · exact keptN' hB KZ.out.box
            clear hK K hbC
            try simp only [Act.put, List.setIfInBounds_toArray, List.set_cons_zero, List.set_cons_succ]
            refine wpAnyH_take (i := 4) (oi := ⟨some 32, _, _, _, _, _⟩) (v := ?_) rfl (by kernel_rfl) (by kernel_rfl) (by kernel_rfl) (fun _ _ _ h => h) (Or.inl ⟨by rfl, ?hy⟩) (by assumption) ?_
            case hy => (intro w hSw; (try dsimp only at hSw); go_simp; (try with_reducible rfl))
            try simp only [Act.put, List.setIfInBounds_toArray, List.set_cons_zero, List.set_cons_succ]
            refine wpAnyH_take (i := 5) (oi := ⟨some 37, _, _, _, _, _⟩) (v := ?_) rfl (by kernel_rfl) (by kernel_rfl) (by kernel_rfl) (fun _ _ _ h => h) (Or.inl ⟨by rfl, ?hy⟩) (by assumption) ?_
            case hy => (intro w hSw; (try dsimp only at hSw); go_simp; (try with_reducible rfl))
            try simp only [Act.put, List.setIfInBounds_toArray, List.set_cons_zero, List.set_cons_succ]
            refine wpAnyH_take (i := 6) (oi := ⟨some 38, _, _, _, _, _⟩) (v := ?_) rfl (by kernel_rfl) (by kernel_rfl) (by kernel_rfl) (fun _ _ _ h => h) (Or.inl ⟨by rfl, ?hy⟩) (by assumption) ?_
            case hy => (intro w hSw; (try dsimp only at hSw); go_simp; (try with_reducible rfl))
            try simp only [Act.put, List.setIfInBounds_toArray, List.set_cons_zero, List.set_cons_succ]
            refine wpAnyH_ready (rs := [8]) (by kernel_rfl) (by simp) ?_
            refine AllReadyH.cons (o := ⟨none, _, _, _, _, _⟩) rfl (fun K hK => ?_) AllReadyH.nil
            have q0 := Lib.cell_of_heap h10 0
            have q1 := Lib.cell_of_heap h10 1
            have q2 := Lib.cell_of_heap h10 2
            have q3 := Lib.cell_of_heap h10 3
            have r0 := frozen_block (j := 0) h10
            have r1 := frozen_block (j := 1) h10
            have r2 := frozen_block (j := 2) h10
            have r3 := frozen_block (j := 3) h10
            have hst := set4 (v0 := .int .i64 m.kind) (v1 := .int .i64 m.tok.1) (v2 := .string m.tok.2) (v3 := .slice A3 m.kids.length c3) h10
            have hB2 : Below w5.heap.size w5 ((((W28.setCell ⟨b10, 0, none⟩ (.int .i64 m.kind)).setCell ⟨b10, 1, none⟩ (.int .i64 m.tok.1)).setCell ⟨b10, 2, none⟩ (.string m.tok.2)).setCell ⟨b10, 3, none⟩ (.slice A3 m.kids.length c3)) := below4 hB g10
            go_simp
            refine hK.out _ _ ?_ (fun hHeld => ?_)
            · exact keptN' hB2 KZ.out.box
            clear hK K q0 q1 q2 q3 r0 r1 r2 r3
            try simp only [Act.put, List.setIfInBounds_toArray, List.set_cons_zero, List.set_cons_succ]
            refine wpAnyH_take (i := 9) (oi := ⟨some 10, _, _, _, _, _⟩) (v := ?_) rfl (by kernel_rfl) (by kernel_rfl) (by kernel_rfl) (fun _ _ _ h => h) (Or.inl ⟨by rfl, ?hy⟩) (by assumption) ?_
            case hy => (intro w hSw; (try dsimp only at hSw); go_simp; (try with_reducible rfl))
            try simp only [Act.put, List.setIfInBounds_toArray, List.set_cons_zero, List.set_cons_succ]
            have h10 := hst
            have hB := hB2
            clear hst hB2
            refine wpAnyH_done (by kernel_rfl) ?_ _
            go_wp2_with fail
            go_meet
            exact ⟨b10, f, m, A3, c3, rfl, rfl, hf3, hf4, h10, hB⟩
          · go_simp
            have hal : Below W25.heap.size W25 (W25.alloc (.cells #[.int .i64 1, .int .i64 1] 3)) := allocB _ _
            refine hK.out _ _ ?_ (fun hHeld => ?_)
            · exact keptN' (hB.trans (hal.mono hB.size)) KZ.out.box
            clear hK K
            try simp only [Act.put, List.setIfInBounds_toArray, List.set_cons_zero, List.set_cons_succ]
            obtain ⟨bi, hc⟩ : ∃ c, c = W25.heap.size := ⟨_, rfl⟩
            obtain ⟨W30, hw⟩ : ∃ x, x = W25.alloc (.cells #[.int .i64 1, .int .i64 1] 3) := ⟨_, rfl⟩
            rw [← hw] at hal
            have h10 := keepB h10 hal
            have hB := hB.trans (hal.mono hB.size)
            have hbi : W30.heap[bi]? = some (.cells #[.int .i64 1, .int .i64 1] 3 (0, 0)) := by rw [hw, hc]; exact heap_alloc_new _ _
            rw [← hw] at hHeld
            rw [← hw]
            rw [← hc]
            clear hw hc hal
            refine wpAnyH_ready (rs := [0]) (by kernel_rfl) (by simp) ?_
            refine AllReadyH.cons (o := ⟨some 33, _, _, _, _, _⟩) rfl (fun K hK => ?_) AllReadyH.nil
            go_simp
            go_at_call 30
            with_reducible refine (sampleP_any W30).mono ?_
            rintro e W31 ⟨⟨vs, rfl, hns⟩, hbC⟩
            have hbi := keepB hbi hbC
            have h10 := keepB h10 hbC
            have hB := hB.trans (hbC.mono hB.size)
            refine hK.out _ _ ?_ (fun hHeld => ?_)
            · exact keptN' hB KZ.out.box
            clear hK K hbC
            try simp only [Act.put, List.setIfInBounds_toArray, List.set_cons_zero, List.set_cons_succ]
            refine wpAnyH_ready (rs := [3]) (by kernel_rfl) (by simp) ?_
            refine AllReadyH.cons (o := ⟨some 36, _, _, _, _, _⟩) rfl (fun K hK => ?_) AllReadyH.nil
            go_simp
            go_at_call 29
            with_reducible refine (HPut.out W31 vs _ bi (HTT.out W31 hB) hns (HNd.out W31 hB) hbi).mono ?_
            rintro e W32 ⟨⟨m, A3, c3, f, rfl, hf3, hf4⟩, hbC⟩
            have h10 := keepB h10 hbC
            have hB := hB.trans (hbC.mono hB.size)
            refine hK.out _ _ ?_ (fun hHeld => ?_)
            · exact keptN' hB KZ.out.box
            clear hK K hbC
            try simp only [Act.put, List.setIfInBounds_toArray, List.set_cons_zero, List.set_cons_succ]
            refine wpAnyH_take (i := 4) (oi := ⟨some 32, _, _, _, _, _⟩) (v := ?_) rfl (by kernel_rfl) (by kernel_rfl) (by kernel_rfl) (fun _ _ _ h => h) (Or.inl ⟨by rfl, ?hy⟩) (by assumption) ?_
            case hy => (intro w hSw; (try dsimp only at hSw); go_simp; (try with_reducible rfl))
            try simp only [Act.put, List.setIfInBounds_toArray, List.set_cons_zero, List.set_cons_succ]
            refine wpAnyH_take (i := 5) (oi := ⟨some 37, _, _, _, _, _⟩) (v := ?_) rfl (by kernel_rfl) (by kernel_rfl) (by kernel_rfl) (fun _ _ _ h => h) (Or.inl ⟨by rfl, ?hy⟩) (by assumption) ?_
            case hy => (intro w hSw; (try dsimp only at hSw); go_simp; (try with_reducible rfl))
            try simp only [Act.put, List.setIfInBounds_toArray, List.set_cons_zero, List.set_cons_succ]
            refine wpAnyH_take (i := 6) (oi := ⟨some 38, _, _, _, _, _⟩) (v := ?_) rfl (by kernel_rfl) (by kernel_rfl) (by kernel_rfl) (fun _ _ _ h => h) (Or.inl ⟨by rfl, ?hy⟩) (by assumption) ?_
            case hy => (intro w hSw; (try dsimp only at hSw); go_simp; (try with_reducible rfl))
            try simp only [Act.put, List.setIfInBounds_toArray, List.set_cons_zero, List.set_cons_succ]
            refine wpAnyH_ready (rs := [8]) (by kernel_rfl) (by simp) ?_
            refine AllReadyH.cons (o := ⟨none, _, _, _, _, _⟩) rfl (fun K hK => ?_) AllReadyH.nil
            have q0 := Lib.cell_of_heap h10 0
            have q1 := Lib.cell_of_heap h10 1
            have q2 := Lib.cell_of_heap h10 2
            have q3 := Lib.cell_of_heap h10 3
            have r0 := frozen_block (j := 0) h10
            have r1 := frozen_block (j := 1) h10
            have r2 := frozen_block (j := 2) h10
            have r3 := frozen_block (j := 3) h10
            have hst := set4 (v0 := .int .i64 m.kind) (v1 := .int .i64 m.tok.1) (v2 := .string m.tok.2) (v3 := .slice A3 m.kids.length c3) h10
            have hB2 : Below w5.heap.size w5 ((((W32.setCell ⟨b10, 0, none⟩ (.int .i64 m.kind)).setCell ⟨b10, 1, none⟩ (.int .i64 m.tok.1)).setCell ⟨b10, 2, none⟩ (.string m.tok.2)).setCell ⟨b10, 3, none⟩ (.slice A3 m.kids.length c3)) := below4 hB g10
            go_simp
            refine hK.out _ _ ?_ (fun hHeld => ?_)
            · exact keptN' hB2 KZ.out.box
            clear hK K q0 q1 q2 q3 r0 r1 r2 r3
            try simp only [Act.put, List.setIfInBounds_toArray, List.set_cons_zero, List.set_cons_succ]
            refine wpAnyH_take (i := 9) (oi := ⟨some 10, _, _, _, _, _⟩) (v := ?_) rfl (by kernel_rfl) (by kernel_rfl) (by kernel_rfl) (fun _ _ _ h => h) (Or.inl ⟨by rfl, ?hy⟩) (by assumption) ?_
            case hy => (intro w hSw; (try dsimp only at hSw); go_simp; (try with_reducible rfl))
            try simp only [Act.put, List.setIfInBounds_toArray, List.set_cons_zero, List.set_cons_succ]
            have h10 := hst
            have hB := hB2
            clear hst hB2
            refine wpAnyH_done (by kernel_rfl) ?_ _
            go_wp2_with fail
            go_meet
            exact ⟨b10, f, m, A3, c3, rfl, rfl, hf3, hf4, h10, hB⟩
      case rest =>
        obtain ⟨b10, f, m, A3, c3, rfl, rfl, hf3, hf4, h10, hb⟩ := hcut
        have KZ := Lib.hid (KZ.out.below hb)
        have BB := Lib.hid (BB.out.trans (hb.mono BB.out.size))
        have N10 := Lib.hid h10
        clear h10 hb
        obtain ⟨q0, q1, q2, q3⟩ := cells_of_block KZ.out.box
        have q10 := (cells_of_block N10.out).2.2.2
        have hif := HIf.out
        rcases Nat.lt_or_ge 1000 k with hgt | hle
        · obtain ⟨rfl, rfl, rfl⟩ := HCC.out.2 hgt
          obtain ⟨rfl, hm0⟩ := hf4 (by omega)
          rw [show decide (k ≤ 1000) = false from decide_eq_false (by omega)] at hif
          have HI := Lib.hid hif
          clear hif
          have i1 : decide ((k : Int) ≤ 1000) = false := decide_eq_false (by omega)
          have i2 : ¬ (k : Int) ≤ 1000 := by omega
          have i3 : (m.kids.length : Int) = 0 := by omega
          have i4 : IntKind.i64.wrap ((k : Int) + 2) = (k : Int) + 2 := IntWalk.i64_in _ (by omega)
          have i5 : (1000 : Int) < (k : Int) + 2 := by omega
          go_wp2_with fail
          refine (HI.out wc _ KZ.out.tabs KZ.out.node).mono ?_
          rintro e w9 ⟨rfl, hb⟩
          have KZ := Lib.hid (KZ.out.below hb)
          have BB := Lib.hid (BB.out.trans (hb.mono BB.out.size))
          have q10 := (cells_of_block (keepB N10.out hb)).2.2.2
          clear hb
          go_wp2_with fail
          refine (alive5_any w9 KZ.out.tabs).mono ?_
          rintro e w21 ⟨rfl, hb⟩
          have BBf := Lib.hid (BB.out.trans (hb.mono BB.out.size))
          clear hb
          go_wp2_with fail
          go_ret
          exact ⟨rfl, BBf.out⟩
        · obtain ⟨rfl, rfl, rfl⟩ := HCC.out.1 hle
          rw [show decide (k ≤ 1000) = true from decide_eq_true hle] at hif
          have HI := Lib.hid hif
          clear hif
          have i1 : decide ((k : Int) ≤ 1000) = true := decide_eq_true (by omega)
          have i2 : (k : Int) ≤ 1000 := by omega
          have i4 : IntKind.i64.wrap ((k : Int) + 2) = (k : Int) + 2 := IntWalk.i64_in _ (by omega)
          have i6 : IntKind.i64.wrap ((k : Int) + 1) = ((k + 1 : Nat) : Int) := by rw [IntWalk.i64_in _ (by omega)]; omega
          rcases Nat.lt_or_ge 998 k with hgt2 | hle2
          · obtain ⟨rfl, hm0⟩ := hf4 (by omega)
            have i3 : (m.kids.length : Int) = 0 := by omega
            have i5 : (1000 : Int) < (k : Int) + 2 := by omega
            go_wp2_with fail
            refine (HI.out wc _ KZ.out.tabs KZ.out.node).mono ?_
            rintro e w9 ⟨rfl, hb⟩
            have KZ := Lib.hid (KZ.out.below hb)
            have BB := Lib.hid (BB.out.trans (hb.mono BB.out.size))
            have q10 := (cells_of_block (keepB N10.out hb)).2.2.2
            clear hb
            go_wp2_with fail
            refine (alive5_any w9 KZ.out.tabs).mono ?_
            rintro e w21 ⟨rfl, hb⟩
            have BBf := Lib.hid (BB.out.trans (hb.mono BB.out.size))
            clear hb
            go_wp2_with fail
            go_ret
            exact ⟨rfl, BBf.out⟩
          · obtain ⟨rfl, hm0⟩ := hf3 (by omega)
            have i3 : (m.kids.length : Int) = 2 := by omega
            have i5 : ¬ (1000 : Int) < (k : Int) + 2 := by omega
            go_wp2_with fail
            refine (HI.out wc _ KZ.out.tabs KZ.out.node).mono ?_
            rintro e w9 ⟨rfl, hb⟩
            have KZ := Lib.hid (KZ.out.below hb)
            have BB := Lib.hid (BB.out.trans (hb.mono BB.out.size))
            have q10 := (cells_of_block (keepB N10.out hb)).2.2.2
            clear hb
            go_wp2_with fail
            refine (alive5_any w9 KZ.out.tabs).mono ?_
            rintro e w21 ⟨rfl, hb⟩
            have BBf := Lib.hid (BB.out.trans (hb.mono BB.out.size))
            clear hb
            go_wp2_with fail
            go_ret
            exact ⟨rfl, BBf.out⟩
end Go.Proofs.YtpjlgahbbmlngaaDoor.lawTreeDeep
