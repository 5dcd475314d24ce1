/-
  Trees: width.
-/
import Derived.Test.YtpjlgahbbmlngaaDoorTreeLeavesp15
namespace Go.Proofs.YtpjlgahbbmlngaaDoor
set_option linter.unusedVariables false
set_option linter.unusedSimpArgs false
open Go Go.RowKit

attribute [local go_sem] Oper.semAt_some

/-- how many bytes tokens have -/
def sumT : List Tok → Nat
  | [] => 0
  | t :: l => t.2.size + sumT l
theorem sumT_append : ∀ a b : List Tok, sumT (a ++ b) = sumT a + sumT b
  | [], b => by simp [sumT]
  | t :: a, b => by simp only [List.cons_append, sumT, sumT_append a b]; omega
theorem sumT_take {l : List Tok} {k : Nat} {x : Tok} (h : l[k]? = some x) : sumT (l.take (k + 1)) = sumT (l.take k) + x.2.size := by
  rw [take_snoc h, sumT_append]; simp [sumT]
theorem sumT_le (l : List Tok) (k : Nat) : sumT (l.take k) ≤ sumT l := by
  conv => rhs; rw [← List.take_append_drop k l, sumT_append]
  omega
def sumS (n : Nd) : Prop := sumT (leavesN n) ≤ 1000000000000
theorem wrapSum {a b c : Nat} (h : a + b ≤ c) (hc : c ≤ 1000000000000) : wrap64 ((a : Int) + (b : Int)) = (a : Int) + (b : Int) := by unfold wrap64; omega

set_option maxRecDepth 100000 in
set_option maxHeartbeats 2000000 in
theorem width_any (n : Nd) (v : Value) (w : World) (hC : sizeN n) (hS : sumS n) (hV : NodeV w v n) :
    Calls Tryd.prog 60 #[v] w fun e w' => e = .returned (.int .i64 (sumT (leavesN n) : Nat)) ∧ Below w.heap.size w w' := by
  obtain ⟨A, c, rfl, hk⟩ := hV
  refine (callsIn_wide (n := 9)).1 ?_
  refine callsIn_of_wp_marks Tryd.func60 rfl trivial ?_ rfl
  simp only [Tryd.ntmps60, List.size_toArray, List.length_cons, List.length_nil, Nat.reduceAdd, Nat.reduceSub, Array.replicate_succ, Array.replicate_zero, List.push_toArray, List.append_toArray, List.nil_append, List.cons_append]
  refine wpIn_wide.2 ?_
  go_wp2_with (go_at_call 57; refine (leaves_any n A c _).mono ?_; rintro e w' ⟨rfl, rfl⟩)
  obtain ⟨W0, hW0⟩ : ∃ W0, W0 = ((w.alloc (.cells (nodeCells n A c) 26)).alloc (.cells #[.int .i64 0] 3)).alloc (.cells (nodeCells n A c) 26) := ⟨_, rfl⟩
  have hB0 : Below w.heap.size w W0 := by rw [hW0]; exact (((Below.refl _ _).alloc (Nat.le_refl _) _).alloc (by simp) _).alloc (by simp; omega) _
  have hs0 : W0.heap.size = w.heap.size + 3 := by rw [hW0]; simp
  have hb2 : W0.heap[w.heap.size + 1]? = some (.cells #[.int .i64 0] 3 (0, 0)) := by rw [hW0, alloc_old _ _ _ (by simp), alloc_at _ _ _ (by simp)]
  have hb3 : W0.heap[w.heap.size + 2]? = some (.cells (nodeCells n A c) 26 (0, 0)) := by rw [hW0, alloc_at _ _ _ (by simp)]
  obtain ⟨c0, c1, c2, c3⟩ := cells_of_block hb3
  have hM0 : Mine (w.heap.size + 3) w (fun _ => False) W0 := ⟨fun b hb => hb.elim, hB0, by omega, by omega⟩
  refine (wpIn_wide (n := 9)).1 ?_
  have hgo : ∀ (Q : Exit → Act → World → Prop) (a : Act) (g : Operand) (ps : Array Tmp) (assign body : Code), (Code.rangeFunc g ps assign body).wpIn Fence.wide 9 Tryd.prog Q a W0 → (Code.rangeFunc g ps assign body).wpIn Fence.wide 9 Tryd.prog Q a (((w.alloc (.cells (nodeCells n A c) 26)).alloc (.cells #[.int .i64 0] 3)).alloc (.cells (nodeCells n A c) 26)) := fun _ _ _ _ _ _ h => by rw [← hW0]; exact h
  refine hgo _ _ _ _ _ _ ?_
  clear hgo hW0
  refine wpIn_rangeT rfl (by decide) (gf := 81) (lb := #[.pointer (some ⟨w.heap.size + 2, 0, none⟩)]) rfl trivial (enters_of Tryd.func81 (by kernel_rfl) rfl)
    (leaves1_gives w n hC (w.heap.size + 2) A c W0 hB0 (by omega) c0 c1 c2 c3 hk) (Below.refl _ _) hB0.size EnL.keep (fun O x W args h => EnL.size O x W args h)
    (fun k O W => Mine (w.heap.size + 3) w O W ∧ W.heap[w.heap.size + 1]? = some (.cells #[.int .i64 (sumT ((leavesN n).take k) : Nat)] 3 (0, 0)))
    (fun _ _ _ _ => False)
    (fun k O O' W W' h ht hg => ⟨h.1.turns ht hg, (h.1.block ht (by omega)).trans h.2⟩)
    (fun _ _ _ _ _ _ h _ _ => h)
    ⟨hM0, by rw [hb2]; simp [sumT]⟩ ?round ?done ?stop
  case round =>
    rintro l k O x args W hO hn ⟨hM, hr2⟩ hx rfl
    gi_wp2
    refine ⟨(Below.refl _ _).alloc (Nat.le_refl _) _, fun W2 hT2 hs2 hi2 he2 => ?_⟩
    have hbx : W2.heap[W.heap.size]? = some (.cells #[.int .i64 x.1, .string x.2] 23 (0, 0)) := (hT2.block _ (by simp) (fun h => Nat.lt_irrefl _ (hO _ h))).trans (alloc_at _ _ _ rfl)
    obtain ⟨hM2, hq2⟩ := hi2
    have d1 : W2.cell? ⟨W.heap.size, 1, none⟩ = some (.string x.2) := Lib.cell_of_heap hbx 1
    have l2 : W2.cell? ⟨w.heap.size + 1, 0, none⟩ = some (.int .i64 (sumT ((leavesN n).take k) : Nat)) := Lib.cell_of_heap hq2 0
    have f2 : W2.frozen? ⟨w.heap.size + 1, 0, none⟩ = false := frozen_block hq2
    have hst := sumT_take hx
    have hw : wrap64 ((sumT ((leavesN n).take k) : Int) + (x.2.size : Int)) = (sumT ((leavesN n).take k) : Int) + (x.2.size : Int) := wrapSum (by rw [← hst]; exact sumT_le _ _) hS
    have hM3 := hM2.set (b := w.heap.size + 1) (j := 0) (.int .i64 ((sumT ((leavesN n).take k) : Int) + (x.2.size : Int))) (by omega) (by omega)
    have hq3 := set_block (v := .int .i64 ((sumT ((leavesN n).take k) : Int) + (x.2.size : Int))) hq2
    have HX := Lib.hid (show _ ∧ _ ∧ _ from ⟨hM3, hq3, hst⟩)
    clear hM3 hq3 hst hM2 hq2 hbx hT2 hs2 he2 hM hr2 hO hn hx hB0 hs0 hb2 hb3 c0 c1 c2 c3 hM0 hC hS
    gi_wp2
    exact ⟨HX.out.1.2, HX.out.1.1, by rw [HX.out.2.1, HX.out.2.2]; simp⟩
  case done =>
    rintro D O W hD _ ⟨hM, hq1⟩ hKD
    rw [List.take_length] at hq1
    have l1 := Lib.cell_of_heap hq1 0
    clear hq1
    go_wp2_with fail
    refine ⟨by simp, .inl ⟨_, _, rfl, run_takeDeferred hKD, ?_⟩⟩
    exact ⟨.int .i64 (sumT (leavesN n) : Nat), by simp [results, Tryd.f60, go_sem], rfl, hM.below.trans ⟨rfl, rfl, rfl, by simp, fun b hb => World.putObj_heap_other (by omega)⟩⟩
  case stop =>
    rintro D O cd k W hD _ hkl h hKD
    exact h.elim
end Go.Proofs.YtpjlgahbbmlngaaDoor
