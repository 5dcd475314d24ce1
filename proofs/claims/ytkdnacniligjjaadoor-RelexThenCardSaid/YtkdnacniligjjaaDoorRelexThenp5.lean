/-
  The merger in memory: add.
-/
import Derived.Test.YtkdnacniligjjaaDoorRelexThenp3
import Derived.Test.YtkdnacniligjjaaDoorRelexCommonsp28
import Derived.Deep.AppendLies
namespace Go.Proofs.YtkdnacniligjjaaDoor
set_option linter.unusedVariables false
set_option linter.unusedSimpArgs false
open Go.RowKit

theorem mg_set7 {wA : World} {b : Nat} {X : ByteArray} {vf vs vp vm vm' : Value} {k j : Nat} {sh : Int} (h : wA.heap[b]? = some (.cells (mgCells X vf vs vp k j sh vm) 98 (0, 0))) :
    (wA.setCell ⟨b, 7, none⟩ vm').heap[b]? = some (.cells (mgCells X vf vs vp k j sh vm') 98 (0, 0)) := by
  unfold World.setCell
  simp only [Array.getElem?_modify, h]
  simp [mgCells]

set_option maxRecDepth 100000 in
set_option maxHeartbeats 2000000 in
theorem add_any (b base : Nat) (X : ByteArray) (vf vs vp vm : Value) (k j : Nat) (sh : Int) (ms : List Ed) (e : Ed) (w : World) (hbb : b < base) (hbw : base ≤ w.heap.size) (hml : ms.length ≤ 100000)
    (hown : w.ownsRow base 47 3 vm ms.length (edsCells ms)) (hb : w.heap[b]? = some (.cells (mgCells X vf vs vp k j sh vm) 98 (0, 0))) :
    Calls Tryd.prog 99 #[.pointer (some ⟨b, 0, none⟩), .agg #[.int .i64 e.f, .int .i64 e.t, .string e.s]] w fun en w' => en = .returned (.tuple #[]) ∧
      ∃ vm', w'.heap[b]? = some (.cells (mgCells X vf vs vp k j sh vm') 98 (0, 0)) ∧ w'.ownsRow base 47 3 vm' (ms ++ [e]).length (edsCells (ms ++ [e])) ∧ Below b w w' ∧ (∀ c, c < base → c ≠ b → w'.heap[c]? = w.heap[c]?) ∧ ∀ c, c < w.heap.size → c ≠ b → some c ≠ vm.ownBlock → w'.heap[c]? = w.heap[c]? := by
  obtain ⟨i0, hi0, hz0, hz1, hz2⟩ := info_parts infoEdit
  have hbl : b < w.heap.size := by omega
  have hne : some b ≠ vm.ownBlock := fun h => by have := (hown.lt b h.symm).1; omega
  have m7 : w.cell? ⟨b, 7, none⟩ = some vm := Lib.cell_of_heap hb 7
  have f7 : w.frozen? ⟨b, 7, none⟩ = false := by simp [World.frozen?, hb]
  obtain ⟨ef, et, es⟩ := e
  have HB := Lib.hid hb
  have hW : Below w.heap.size w (((w.alloc (.cells #[.int .i64 ef, .int .i64 et, .string es] 47)).alloc (.cells #[.int .i64 ef, .int .i64 et, .string es] 47)).drew) := Below.drew (((Below.refl _ _).alloc (Nat.le_refl _) _).alloc (by simp) _)
  have HW := Lib.hid hW
  clear hb hW
  go_enter Tryd.func99, Tryd.ntmps99
  go_wp2_with fail
  go_region_law ((first
     | (refine step_append_lies _ (by rfl) _ _ _ (by rfl) base 47 i0 _ 3 32 Tryd.underlying33 hi0 hz0 hz1 hz2 rfl (by omega) vm ms.length (edsCells ms) (by rfl) (((hown.alloc _).alloc _).drew)
          ⟨w.heap.size + 1, 0, none⟩ 1 1 (edCells ⟨ef, et, es⟩) (by rfl) (by rfl) (World.news_of_block (cs := #[.int .i64 ef, .int .i64 et, .string es]) (t := 47) (fr := (0, 0)) (heap_alloc2 w _ _)) (by simp [edCells, Value.oneCell'])
          (by omega) (by unfold maxLen; omega) (by omega) (by simp; omega) (w.heap.size + 2) (by simp) ?_
        intro gg cap w1 hown1 hgrow hat hlt9
        have n7 : w1.cell? ⟨b, 7, none⟩ = some vm := (hgrow.cell_far ⟨b, 7, none⟩ (by simp; omega) hne).trans (((bcell HW.out).1 b 7 hbl).trans m7)
        have l7 : w1.frozen? ⟨b, 7, none⟩ = false := (hgrow.frozen_far ⟨b, 7, none⟩ (by simp; omega) hne).trans (((bcell HW.out).2 b 7 hbl).trans f7)
        have nb : w1.heap[b]? = w.heap[b]? := (hgrow.block b (by simp; omega) hne).trans (HW.out.block b hbl))))
  all_goals
    go_wp2_with fail
    go_end0
    refine ⟨rfl, _, mg_set7 (nb.trans HB.out), ?_, ?_, ?_, ?_⟩
    · rw [List.length_append, edsCells_append]
      exact ownsRow_setCell_below hown1 (a := ⟨b, 7, none⟩) hbb _
    · exact ((HW.out.mono (Nat.le_of_lt hbl)).grown hgrow (by simp; omega) (fun g hg => by have := (hown.lt g hg).1; omega)).setCell (p := ⟨b, 7, none⟩) (Nat.le_refl _) _
    · intro c hc hne2
      rw [Below.heap_setCell _ _ _ _ hne2]
      exact (hgrow.block c (by simp; omega) (fun h => by have := (hown.lt c h.symm).1; omega)).trans (HW.out.block c (by omega))
    · intro c hc hne2 hno
      rw [Below.heap_setCell _ _ _ _ hne2]
      exact (hgrow.block c (by simp; omega) hno).trans (HW.out.block c hc)
end Go.Proofs.YtkdnacniligjjaaDoor
