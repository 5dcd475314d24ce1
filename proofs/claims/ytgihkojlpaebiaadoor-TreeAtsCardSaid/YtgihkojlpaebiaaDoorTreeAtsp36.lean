/-
  Trees: the specification's CoreAt and Core.
-/
import Derived.Test.YtgihkojlpaebiaaDoorTreeAtsp35
namespace Go.Proofs.YtgihkojlpaebiaaDoor
set_option linter.unusedVariables false
set_option linter.unusedSimpArgs false
open Go Go.RowKit

set_option maxRecDepth 100000 in
set_option maxHeartbeats 2000000 in
theorem CoreAt_any (n : Nd) (b : Nat) (v : Value) (w : World) (hn : countN n ≤ 10000000) (hs : b + sumT (gatN n) ≤ 1000000000000) (hV : NodeV w v n) :
    Calls Tryd.prog 73 #[v, .int .i64 (b : Nat)] w fun e w' => e = .returned (.agg #[.int .i64 ((coreR b (gatN n)).1 : Nat), .int .i64 ((coreR b (gatN n)).2.1 : Nat)]) ∧ Below w.heap.size w w' := by
  have hV0 := hV
  obtain ⟨A, ca, rfl, _⟩ := hV0
  obtain ⟨w0, hw0⟩ : ∃ w0, w0 = (w.alloc (.cells #[.int .i64 n.kind, .int .i64 n.tok.1, .string n.tok.2, .slice A n.kids.length ca] 26)).alloc (.cells #[.int .i64 0, .int .i64 0] 62) := ⟨_, rfl⟩
  have hB0 : Below w.heap.size w w0 := by rw [hw0]; exact ((Below.refl _ _).alloc (Nat.le_refl _) _).alloc (by simp) _
  have hb1 : w0.heap[w.heap.size + 1]? = some (.cells #[.int .i64 0, .int .i64 0] 62 (0, 0)) := by rw [hw0]; exact alloc_at _ _ _ (by simp)
  have hs0 : w0.heap.size = w.heap.size + 2 := by rw [hw0]; simp
  have hLv := RLeavesOf_any n _ w0 hn (hV.below hB0)
  have hle := Nat.le_trans (gatN_le n) hn
  have HLv := Lib.hid hLv
  have HW := Lib.hid hw0
  have HX := Lib.hid (show _ ∧ _ ∧ _ from ⟨hB0, hb1, hs0⟩)
  clear hLv hw0 hB0 hb1 hs0 hV hn
  generalize gatN n = L at *
  go_enter Tryd.func73, Tryd.ntmps73
  go_wp2_with fail
  rw [← HW.out]
  refine HLv.out.mono ?_
  rintro e w1 ⟨sv, rfl, hrow, hbb⟩
  obtain ⟨A1, c1, rfl, hE, _⟩ := TksV.of_own hrow
  have hz := (hbb.block (w.heap.size + 1) (by rw [HX.out.2.2]; omega)).trans HX.out.2.1
  have hs1 := hbb.size
  rw [HX.out.2.2] at hs1
  obtain ⟨w2, hw2⟩ : ∃ w2, w2 = w1.alloc (.cells #[.int .i64 (b : Nat), .int .i64 (b : Nat)] 62) := ⟨_, rfl⟩
  have hb2 : Below w1.heap.size w1 w2 := by rw [hw2]; exact (Below.refl _ _).alloc (Nat.le_refl _) _
  have hc2 : w2.heap[w1.heap.size]? = some (.cells #[.int .i64 ((coreR b (L.take 0)).1 : Nat), .int .i64 ((coreR b (L.take 0)).2.1 : Nat)] 62 (0, 0)) := by rw [hw2]; exact alloc_at _ _ _ rfl
  have hB1 : Below w.heap.size w w1 := HX.out.1.trans (hbb.mono HX.out.1.size)
  have HW2 := Lib.hid hw2
  have H1 := Lib.hid (show _ ∧ _ ∧ _ ∧ _ ∧ _ from ⟨hE, hz, hb2, hc2, hB1⟩)
  have hlt1 : w.heap.size + 1 < w1.heap.size := by omega
  clear hrow hbb hE hz hs1 hw2 hb2 hc2 hB1
  go_wp2_with fail
  rw [← HW2.out]
  go_loopw [1, 7, 8] (fun a fd i wr => ∃ (k : Nat), k ≤ L.length ∧ i = .int .i64 k ∧ a = .int .i64 ((coreR b (L.take k)).2.2.2 : Nat) ∧ fd = .bool (coreR b (L.take k)).2.2.1 ∧ wr.heap[w1.heap.size]? = some (.cells #[.int .i64 ((coreR b (L.take k)).1 : Nat), .int .i64 ((coreR b (L.take k)).2.1 : Nat)] 62 (0, 0)) ∧ Below w1.heap.size w1 wr) (fun _ _ i _ => L.length - (intOf i).toNat)
  case atStart => exact ⟨0, Nat.zero_le _, rfl, rfl, rfl, H1.out.2.2.2.1, H1.out.2.2.1⟩
  case round =>
    obtain ⟨k, hk, rfl, rfl, rfl, hcr, hBr⟩ := hrel
    have hz := (hBr.block (w.heap.size + 1) hlt1).trans H1.out.2.1
    by_cases hlt : k < L.length
    · have hk0 : (0 : Int) ≤ (k : Int) := by omega
      have hk1 : (k : Int) < (L.length : Int) := by omega
      obtain ⟨bb, off, rfl, hbo, m0, m1⟩ := (H1.out.1.below hBr).get hlt
      have hx0 : L[k]? = some L[k] := List.getElem?_eq_getElem hlt
      have hnx := coreR_next (b := b) hx0
      have hat := coreR_at b (L.take k)
      have hsn := sumT_take hx0
      have hsl := sumT_le L (k + 1)
      obtain ⟨⟨xk, xs⟩, hx⟩ : ∃ x, x = L[k] := ⟨_, rfl⟩
      rw [← hx] at m0 m1 hnx hsn
      simp only at m0 m1 hsn
      rw [hsn] at hsl
      obtain ⟨⟨f, t, fd, a⟩, hst⟩ : ∃ s, s = coreR b (L.take k) := ⟨_, rfl⟩
      rw [← hst] at hcr hnx hat ⊢
      simp only at hcr hat ⊢
      have hax : a + xs.size ≤ 1000000000000 := by omega
      have e3 : IntKind.i64.wrap ((k : Int) + 1) = ((k + 1 : Nat) : Int) := by rw [IntWalk.i64_in _ (by omega)]; omega
      have e4 : IntKind.i64.wrap ((a : Int) + (xs.size : Int)) = ((a + xs.size : Nat) : Int) := by rw [IntWalk.i64_in _ (by omega)]; omega
      have htr := fun W => RIsTrivia_any xk xs W
      have HNX := Lib.hid hnx
      have HR := Lib.hid (show _ ∧ _ from ⟨hcr, hBr⟩)
      clear hx hx0 hnx hat hsn hsl hst hz
      unfold stepC at HNX
      simp only at HNX
      cases hq : trivB xk
      · rw [hq] at htr
        have HTR := Lib.hid htr
        clear htr
        cases fd
        · have HN2 : Hid (coreR b (L.take (k + 1)) = (a, a + xs.size, true, a + xs.size)) := Lib.hid (by rw [HNX.out, hq]; rfl)
          clear HNX hq hcr hBr
          go_wp2_with fail
          refine (HTR.out wr).mono ?_
          rintro e w3 ⟨rfl, hb3⟩
          have hc3 := (hb3.block _ (Array.getElem?_eq_some_iff.1 HR.out.1).1).trans HR.out.1
          have q0 := Lib.cell_of_heap hc3 0
          have q1 := Lib.cell_of_heap hc3 1
          have f0 := frozen_block (j := 0) hc3
          have f1 := frozen_block (j := 1) hc3
          have hB3 := HR.out.2.trans (hb3.mono HR.out.2.size)
          have n0 := (hb3.cell (p := ⟨bb, off + k * 2, none⟩) hbo).trans m0
          have n1 := (hb3.cell (p := ⟨bb, off + k * 2 + 1, none⟩) hbo).trans m1
          have hs3 := hB3.size
          have hnb : bb ≠ w1.heap.size := by
            have h9 := (H1.out.1.get hlt)
            obtain ⟨b9, o9, h91, h92, _⟩ := h9
            cases h91
            omega
          have H3 := Lib.hid (show _ ∧ _ from ⟨hc3, hB3⟩)
          clear hc3 hB3 hb3
          go_wp2_with fail
          have hF := set2 (v0 := .int .i64 (a : Nat)) (v1 := .int .i64 ((a + xs.size : Nat) : Int)) H3.out.1
          have hBF := below2 (b := w1.heap.size) (v0 := .int .i64 (a : Nat)) (v1 := .int .i64 ((a + xs.size : Nat) : Int)) H3.out.2 (Nat.le_refl _)
          refine ⟨?_, by simp [intOf]; omega⟩
          exact ⟨k + 1, by omega, by go_num, by rw [HN2.out]; simp, by rw [HN2.out], by rw [HN2.out]; exact hF, hBF⟩
        · have HN2 : Hid (coreR b (L.take (k + 1)) = (f, a + xs.size, true, a + xs.size)) := Lib.hid (by rw [HNX.out, hq]; rfl)
          clear HNX hq hcr hBr
          go_wp2_with fail
          refine (HTR.out wr).mono ?_
          rintro e w3 ⟨rfl, hb3⟩
          have hc3 := (hb3.block _ (Array.getElem?_eq_some_iff.1 HR.out.1).1).trans HR.out.1
          have q0 := Lib.cell_of_heap hc3 0
          have q1 := Lib.cell_of_heap hc3 1
          have f0 := frozen_block (j := 0) hc3
          have f1 := frozen_block (j := 1) hc3
          have hB3 := HR.out.2.trans (hb3.mono HR.out.2.size)
          have n0 := (hb3.cell (p := ⟨bb, off + k * 2, none⟩) hbo).trans m0
          have n1 := (hb3.cell (p := ⟨bb, off + k * 2 + 1, none⟩) hbo).trans m1
          have hs3 := hB3.size
          have hnb : bb ≠ w1.heap.size := by
            have h9 := (H1.out.1.get hlt)
            obtain ⟨b9, o9, h91, h92, _⟩ := h9
            cases h91
            omega
          have H3 := Lib.hid (show _ ∧ _ from ⟨hc3, hB3⟩)
          clear hc3 hB3 hb3
          go_wp2_with fail
          have hF := heap_setCell_same w3 w1.heap.size 1 _ _ (.int .i64 ((a + xs.size : Nat) : Int)) H3.out.1
          have hBF := H3.out.2.setCell (p := ⟨w1.heap.size, 1, none⟩) (Nat.le_refl _) (.int .i64 ((a + xs.size : Nat) : Int))
          refine ⟨?_, by simp [intOf]; omega⟩
          exact ⟨k + 1, by omega, by go_num, by rw [HN2.out]; simp, by rw [HN2.out], by rw [HN2.out]; simpa using hF, hBF⟩
      · rw [hq] at htr
        have HTR := Lib.hid htr
        have HN2 : Hid (coreR b (L.take (k + 1)) = (f, t, fd, a + xs.size)) := Lib.hid (by rw [HNX.out, hq]; rfl)
        clear htr HNX hq hcr hBr
        go_wp2_with fail
        refine (HTR.out wr).mono ?_
        rintro e w3 ⟨rfl, hb3⟩
        have hc3 := (hb3.block _ (Array.getElem?_eq_some_iff.1 HR.out.1).1).trans HR.out.1
        have hB3 := HR.out.2.trans (hb3.mono HR.out.2.size)
        have n0 := (hb3.cell (p := ⟨bb, off + k * 2, none⟩) hbo).trans m0
        have n1 := (hb3.cell (p := ⟨bb, off + k * 2 + 1, none⟩) hbo).trans m1
        have H3 := Lib.hid (show _ ∧ _ from ⟨hc3, hB3⟩)
        clear hc3 hB3 hb3
        go_wp2_with fail
        refine ⟨?_, by simp [intOf]; omega⟩
        exact ⟨k + 1, by omega, by go_num, by rw [HN2.out]; simp, by rw [HN2.out], by rw [HN2.out]; exact H3.out.1, H3.out.2⟩
    · have hke : k = L.length := by omega
      subst hke
      rw [List.take_length] at hcr
      have hj2 : ¬ (L.length : Int) < (L.length : Int) := by omega
      have q0 := Lib.cell_of_heap hcr 0
      have q1 := Lib.cell_of_heap hcr 1
      have r0 := Lib.cell_of_heap hz 0
      have r1 := Lib.cell_of_heap hz 1
      have f0 := frozen_block (j := 0) hz
      have f1 := frozen_block (j := 1) hz
      have HZ := Lib.hid (show _ ∧ _ from ⟨hz, H1.out.2.2.2.2.trans (hBr.mono (by omega))⟩)
      clear hz hcr hBr
      go_wp2_with fail
      have hF := set2 (v0 := .int .i64 ((coreR b L).1 : Nat)) (v1 := .int .i64 ((coreR b L).2.1 : Nat)) HZ.out.1
      have s0 := Lib.cell_of_heap hF 0
      have s1 := Lib.cell_of_heap hF 1
      refine bodyPost_ret (by simp [results, Tryd.f73, go_sem, s0, s1]; try rfl) rfl ?_
      exact ⟨rfl, below2 HZ.out.2 (Nat.le_succ _)⟩

set_option maxRecDepth 100000 in
set_option maxHeartbeats 2000000 in
theorem RCore_any (n x : Nd) (b : Nat) (v : Value) (l : List Int) (Ap : Option Addr) (cp : Nat) (w : World) (hp : partsN n = true) (hC : sizeN n) (hS : sumS n) (hV : NodeP (fun _ => True) w v n) (hl : l.length ≤ 1000000000) (hP : IntsR w Ap l) (hg : goR n l 0 = some (x, b)) :
    Calls Tryd.prog 43 #[v, .slice Ap l.length cp] w fun e w' => e = .returned (.agg #[.int .i64 ((coreR b (leavesN x)).1 : Nat), .int .i64 ((coreR b (leavesN x)).2.1 : Nat)]) ∧ Below w.heap.size w w' := by
  have hV0 := hV
  obtain ⟨A, ca, rfl, _, _⟩ := hV0
  obtain ⟨w0, hw0⟩ : ∃ w0, w0 = (w.alloc (.cells #[.int .i64 n.kind, .int .i64 n.tok.1, .string n.tok.2, .slice A n.kids.length ca] 26)).alloc (.cells #[.int .i64 0, .int .i64 0] 62) := ⟨_, rfl⟩
  have hB0 : Below w.heap.size w w0 := by rw [hw0]; exact ((Below.refl _ _).alloc (Nat.le_refl _) _).alloc (by simp) _
  have hb1 : w0.heap[w.heap.size + 1]? = some (.cells #[.int .i64 0, .int .i64 0] 62 (0, 0)) := by rw [hw0]; exact alloc_at _ _ _ (by simp)
  have hs0 : w0.heap.size = w.heap.size + 2 := by rw [hw0]; simp
  obtain ⟨hcx, hsx, hpx⟩ := goR_facts hg
  have hcx2 : countN x ≤ 10000000 := Nat.le_trans hcx hC
  have hgx := gatN_eq x (hpx hp)
  have hsx2 : b + sumT (gatN x) ≤ 1000000000000 := by rw [hgx]; unfold sumS at hS; omega
  have hgo := RAt_any n x b _ l Ap cp w0 hp hC hS (hV.below hB0 (fun _ _ _ => trivial)) hl (hP.below hB0) hg
  have HN := Lib.hid (show _ ∧ _ ∧ _ from ⟨hcx2, hsx2, hgx⟩)
  have HG := Lib.hid hgo
  have HW := Lib.hid hw0
  have HX := Lib.hid (show _ ∧ _ ∧ _ from ⟨hB0, hb1, hs0⟩)
  clear hcx hsx hpx hcx2 hsx2 hgo hw0 hB0 hb1 hs0 hC hS hV hP hg hp hgx
  go_enter Tryd.func43, Tryd.ntmps43
  go_wp2_with fail
  rw [← HW.out]
  refine HG.out.mono ?_
  rintro e w1 ⟨⟨Ax, cx, rfl, hcap, hkx⟩, hbb⟩
  have hz := (hbb.block (w.heap.size + 1) (by rw [HX.out.2.2]; omega)).trans HX.out.2.1
  have hs1 := hbb.size
  rw [HX.out.2.2] at hs1
  have hlt : w.heap.size + 1 < w1.heap.size := by omega
  have hnb : w.heap.size + 1 ≠ w1.heap.size := by omega
  have hk2 : KidsV (w1.alloc (.cells (nodeCells x Ax cx) 26)) Ax x.kids := ((hkx.later hbb).kids).below ((Below.refl _ _).alloc (Nat.le_refl _) _)
  have hca := CoreAt_any x b _ (w1.alloc (.cells (nodeCells x Ax cx) 26)) HN.out.1 HN.out.2.1 ⟨Ax, cx, rfl, hk2⟩
  rw [HN.out.2.2] at hca
  have hB1 := HX.out.1.trans (hbb.mono HX.out.1.size)
  have HB := Lib.hid (show _ ∧ _ from ⟨hz, hB1.alloc (o := .cells (nodeCells x Ax cx) 26) (by omega)⟩)
  have HCa := Lib.hid hca
  clear hz hbb hs1 hk2 hca hkx hB1 hcap
  go_wp2_with fail
  refine HCa.out.mono ?_
  rintro e w2 ⟨rfl, hb2⟩
  have hs2 := hb2.size
  rw [World.size_alloc] at hs2
  have hz := (hb2.block (w.heap.size + 1) (by rw [World.size_alloc]; omega)).trans ((alloc_old _ _ _ hlt).trans HB.out.1)
  have q0 := Lib.cell_of_heap hz 0
  have f0 := frozen_block (j := 0) hz
  have q1 := Lib.cell_of_heap hz 1
  have f1 := frozen_block (j := 1) hz
  have HB2 := Lib.hid (show _ ∧ _ from ⟨hz, HB.out.2.trans (hb2.mono (by rw [World.size_alloc]; omega))⟩)
  clear hz hb2
  go_wp2_with fail
  have hF := set2 (v0 := .int .i64 ((coreR b (leavesN x)).1 : Nat)) (v1 := .int .i64 ((coreR b (leavesN x)).2.1 : Nat)) HB2.out.1
  have s0 := Lib.cell_of_heap hF 0
  have s1 := Lib.cell_of_heap hF 1
  refine bodyPost_ret (by simp [results, Tryd.f43, go_sem, s0, s1]; try rfl) rfl ?_
  exact ⟨rfl, below2 HB2.out.2 (Nat.le_succ _)⟩
end Go.Proofs.YtgihkojlpaebiaaDoor
