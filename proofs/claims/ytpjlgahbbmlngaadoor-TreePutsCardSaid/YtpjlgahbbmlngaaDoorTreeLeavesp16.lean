/-
  Trees: Count.
-/
import Derived.Test.YtpjlgahbbmlngaaDoorTreeLeavesp15
import Derived.BigQuiet
namespace Go.Proofs.YtpjlgahbbmlngaaDoor
set_option linter.unusedVariables false
set_option linter.unusedSimpArgs false
open Go Go.RowKit

attribute [local go_sem] Oper.semAt_some

theorem longW_take {l : List (List Nat × Nd)} {k : Nat} {x : List Nat × Nd} (h : l[k]? = some x) : longW (l.take (k + 1)) = max (longW (l.take k)) x.1.length := by
  rw [take_snoc h, longW_append]; simp [longW]
theorem NodeV.alloc {w : World} {n : Nd} {v : Value} (h : NodeV w v n) (o : Obj) : NodeV (w.alloc o) v n := h.below ((Below.refl _ _).alloc (Nat.le_refl _) _)
theorem cells_later {w w1 : World} {n : Nd} {A : Option Addr} {c t : Nat} (hb : Below (w.alloc (.cells (nodeCells n A c) t)).heap.size (w.alloc (.cells (nodeCells n A c) t)) w1) :
    w1.heap[w.heap.size]? = some (.cells (nodeCells n A c) t (0, 0)) := (hb.block _ (by simp)).trans (alloc_at _ _ _ rfl)

set_option maxRecDepth 100000 in
set_option maxHeartbeats 2000000 in
theorem Count_any (n : Nd) (v : Value) (w : World) (hC : sizeN n) (hT : Tabs w) (hV : NodeV w v n) :
    Calls Tryd.prog 20 #[v] w fun e w' => e = .returned (if formedB n then .tuple #[.int .i64 (countN n : Nat), .int .i64 (deepN n : Nat), .int .i64 0] else .tuple #[.int .i64 0, .int .i64 0, .int .i64 4]) ∧ Below w.heap.size w w' := by
  have hV0 := hV
  obtain ⟨A, c, rfl, hk⟩ := hV
  have hIF := IsFormed_any n _ (w.alloc (.cells (nodeCells n A c) 26)) hC (hT.below ((Below.refl _ _).alloc (Nat.le_refl _) _)) (hV0.alloc _)
  have hBa : Below w.heap.size w (w.alloc (.cells (nodeCells n A c) 26)) := (Below.refl _ _).alloc (Nat.le_refl _) _
  have HB := Lib.hid (show _ ∧ _ ∧ _ from ⟨hBa, hk, hC⟩)
  clear hBa hT hV0 hk hC
  refine (callsIn_wide (n := 9)).1 ?_
  refine callsIn_of_wp_marks Tryd.func20 rfl trivial ?_ rfl
  simp only [Tryd.ntmps20, List.size_toArray, List.length_cons, List.length_nil, Nat.reduceAdd, Nat.reduceSub, Array.replicate_succ, Array.replicate_zero, List.push_toArray, List.append_toArray, List.nil_append, List.cons_append]
  refine wpIn_wide.2 ?_
  cases hf : formedB n with
  | false =>
    rw [hf] at hIF
    clear hf
    have HIF := Lib.hid hIF
    clear hIF
    go_wp2_with (go_at_call 21; refine HIF.out.mono ?_; rintro e w1 ⟨rfl, hb1⟩)
    exact ⟨.tuple #[.int .i64 0, .int .i64 0, .int .i64 4], by simp [results, Tryd.f20, go_sem], by simp, HB.out.1.trans (hb1.mono HB.out.1.size)⟩
  | true =>
    rw [hf] at hIF
    clear hf
    have HIF := Lib.hid hIF
    clear hIF
    go_wp2_with (first
      | (go_at_call 21; refine HIF.out.mono ?_; rintro e w1 ⟨rfl, hb1⟩; obtain ⟨e0, e1, e2, e3⟩ := cells_of_block (cells_later hb1); have hlt : w.heap.size < w1.heap.size := Nat.lt_of_lt_of_le (by simp) hb1.size; have hne : w.heap.size ≠ w1.heap.size := Nat.ne_of_lt hlt; have hne2 : w.heap.size ≠ w1.heap.size + 1 := by omega)
      | (go_at_call 62; refine (walk_any n A c _).mono ?_; rintro e w' ⟨rfl, rfl⟩))
    obtain ⟨hBa, hk, hC⟩ := HB.out
    have hBw : Below w.heap.size w w1 := hBa.trans (hb1.mono hBa.size)
    have hk1 : KidsV w1 A n.kids := hk.below hBw
    obtain ⟨W0, hW0⟩ : ∃ W0, W0 = ((w1.alloc (.cells #[.int .i64 0] 3)).alloc (.cells #[.int .i64 0] 3)).alloc (.cells (nodeCells n A c) 26) := ⟨_, rfl⟩
    have hB0 : Below w1.heap.size w1 W0 := by rw [hW0]; exact (((Below.refl _ _).alloc (Nat.le_refl _) _).alloc (by simp) _).alloc (by simp; omega) _
    have hs0 : W0.heap.size = w1.heap.size + 3 := by rw [hW0]; simp
    have hb2 : W0.heap[w1.heap.size]? = some (.cells #[.int .i64 0] 3 (0, 0)) := by rw [hW0, alloc_old _ _ _ (by simp; omega), alloc_old _ _ _ (by simp), alloc_at _ _ _ rfl]
    have hb3 : W0.heap[w1.heap.size + 1]? = some (.cells #[.int .i64 0] 3 (0, 0)) := by rw [hW0, alloc_old _ _ _ (by simp), alloc_at _ _ _ (by simp)]
    have hb4 : W0.heap[w1.heap.size + 2]? = some (.cells (nodeCells n A c) 26 (0, 0)) := by rw [hW0, alloc_at _ _ _ (by simp)]
    obtain ⟨c0, c1, c2, c3⟩ := cells_of_block hb4
    have hM0 : Mine (w1.heap.size + 3) w1 (fun _ => False) W0 := ⟨fun b hb => hb.elim, hB0, by omega, by omega⟩
    refine (wpIn_wide (n := 9)).1 ?_
    have hgo : ∀ (Q : Exit → Act → World → Prop) (a : Act) (g : Operand) (ps : Array Tmp) (assign body : Code), (Code.rangeFunc g ps assign body).wpIn Fence.wide 9 Tryd.prog Q a W0 → (Code.rangeFunc g ps assign body).wpIn Fence.wide 9 Tryd.prog Q a (((w1.alloc (.cells #[.int .i64 0] 3)).alloc (.cells #[.int .i64 0] 3)).alloc (.cells (nodeCells n A c) 26)) := fun _ _ _ _ _ _ h => by rw [← hW0]; exact h
    refine hgo _ _ _ _ _ _ ?_
    clear hgo hW0
    have HBW := Lib.hid (And.intro hBw hC)
    refine wpIn_rangeT rfl (by decide) (gf := 84) (lb := #[.pointer (some ⟨w1.heap.size + 2, 0, none⟩)]) rfl trivial (enters_of Tryd.func84 (by kernel_rfl) rfl)
      (walk1_gives w1 n hC (w1.heap.size + 2) A c (9 - 1) (by decide) W0 hB0 (by omega) c0 c1 c2 c3 hk1) (Below.refl _ _) hB0.size EnW.keep (fun O x W args h => EnW.size O x W args h)
      (fun k O W => Mine (w1.heap.size + 3) w1 O W ∧ W.heap[w1.heap.size]? = some (.cells #[.int .i64 (k : Nat)] 3 (0, 0)) ∧ W.heap[w1.heap.size + 1]? = some (.cells #[.int .i64 (longW ((walkN [] n).take k) : Nat)] 3 (0, 0)))
      (fun _ _ _ _ => False)
      (fun k O O' W W' h ht hg => ⟨h.1.turns ht hg, (h.1.block ht (by omega)).trans h.2.1, (h.1.block ht (by omega)).trans h.2.2⟩)
      (fun _ _ _ _ _ _ h _ _ => h)
      ⟨hM0, by rw [hb2]; simp, by rw [hb3]; simp [longW]⟩ ?round ?done ?stop
    case round =>
      rintro l k O ⟨p, x⟩ args W hO hn ⟨hM, hr1, hr2⟩ hx ⟨pv, Ak, ck, rfl, hkv, hpos, hpo⟩
      simp only at hpos hkv
      obtain ⟨a0, cp, rfl⟩ := own_slice hpos
      gi_wp2
      refine ⟨Below.refl _ _, fun W2 hT2 hs2 hi2 he2 => ?_⟩
      obtain ⟨hM2, hq1, hq2⟩ := hi2
      have hkl : k < countN n := by
        have := (List.getElem?_eq_some_iff.1 hx).1
        rwa [walkN_length] at this
      have hw : wrap64 ((k : Int) + 1) = (k : Int) + 1 := w64a hkl hC
      have l1 : W2.cell? ⟨w1.heap.size, 0, none⟩ = some (.int .i64 (k : Nat)) := Lib.cell_of_heap hq1 0
      have l2 : W2.cell? ⟨w1.heap.size + 1, 0, none⟩ = some (.int .i64 (longW ((walkN [] n).take k) : Nat)) := Lib.cell_of_heap hq2 0
      have f1 : W2.frozen? ⟨w1.heap.size, 0, none⟩ = false := frozen_block hq1
      have f2 : W2.frozen? ⟨w1.heap.size + 1, 0, none⟩ = false := frozen_block hq2
      have hn1 : w1.heap.size + 1 ≠ w1.heap.size := by omega
      have hn2 : w1.heap.size ≠ w1.heap.size + 1 := by omega
      have hst := longW_take hx
      have HX := Lib.hid (show _ ∧ _ ∧ _ ∧ _ from ⟨hM2, hq1, hq2, hst⟩)
      clear hM2 hq1 hq2 hst hT2 hs2 he2 hM hr1 hr2 hpos hpo hkv hx hO hn hB0 hs0 hb2 hb3 hb4 c0 c1 c2 c3 hM0 hC hkl e0 e1 e2 e3 hlt hne hne2 hb1 hk1 hk hBw hBa
      have hend : ∀ d : Nat, longW ((walkN [] n).take (k + 1)) = d → postT w1.heap.size (fun k O W => Mine (w1.heap.size + 3) w1 O W ∧ W.heap[w1.heap.size]? = some (.cells #[.int .i64 (k : Nat)] 3 (0, 0)) ∧ W.heap[w1.heap.size + 1]? = some (.cells #[.int .i64 (longW ((walkN [] n).take k) : Nat)] 3 (0, 0))) (fun _ _ _ _ => False) O (k + 1) W2 .normal { tmps := #[], defers := [] } ((W2.setCell ⟨w1.heap.size, 0, none⟩ (.int .i64 ((k : Int) + 1))).setCell ⟨w1.heap.size + 1, 0, none⟩ (.int .i64 (d : Int))) := fun d hd => by
        obtain ⟨hM2, hq1, hq2, _⟩ := HX.out
        have s1 := hM2.set (b := w1.heap.size) (j := 0) (.int .i64 ((k : Int) + 1)) (by omega) (Nat.le_refl _)
        have s2 := s1.1.set (b := w1.heap.size + 1) (j := 0) (.int .i64 (d : Int)) (by omega) (by omega)
        refine ⟨s1.2.trans s2.2, s2.1, (block_other (by omega)).trans ((set_block hq1).trans (by simp)), ?_⟩
        rw [hd]
        exact set_block ((block_other (by omega)).trans hq2)
      have HE := Lib.hid hend
      clear hend
      by_cases hmx : longW ((walkN [] n).take k) < p.length
      · have hd : longW ((walkN [] n).take (k + 1)) = p.length := by rw [HX.out.2.2.2]; exact Nat.max_eq_right (Nat.le_of_lt hmx)
        have HD := Lib.hid hd
        clear hd
        gi_wp2
        exact HE.out _ HD.out
      · have hd : longW ((walkN [] n).take (k + 1)) = longW ((walkN [] n).take k) := by rw [HX.out.2.2.2]; exact Nat.max_eq_left (Nat.le_of_not_lt hmx)
        have HD := Lib.hid hd
        clear hd
        gi_wp2
        exact HE.out _ HD.out
    case done =>
      rintro D O W hD _ ⟨hM, hq1, hq2⟩ hKD
      rw [walkN_length] at hq1
      rw [List.take_length, longW_walkN, List.length_nil, Nat.zero_add] at hq2
      have l1 := Lib.cell_of_heap hq1 0
      have l2 := Lib.cell_of_heap hq2 0
      clear hq1 hq2
      go_wp2_with fail
      go_quiet (fail)
      go_wp2_with fail
      refine ⟨by simp, .inl ⟨_, _, rfl, run_takeDeferred (show (W.drewN _).heap[D]? = _ from hKD), ?_⟩⟩
      exact ⟨.tuple #[.int .i64 (countN n : Nat), .int .i64 (deepN n : Nat), .int .i64 0], by simp [results, Tryd.f20, go_sem], rfl, hBw.trans ((hM.below.mono hBw.size).trans ⟨rfl, rfl, rfl, by simp, fun b hb => World.putObj_heap_other (by have := hBw.size; omega)⟩)⟩
    case stop =>
      rintro D O cd k W hD _ hkl h hKD
      exact h.elim
end Go.Proofs.YtpjlgahbbmlngaaDoor
