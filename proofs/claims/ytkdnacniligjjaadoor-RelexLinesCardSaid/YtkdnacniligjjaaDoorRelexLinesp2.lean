/-
  The contract of the specification's Places.
-/
import Derived.Test.YtkdnacniligjjaaDoorRelexThenp8
import Derived.Test.YtkdnacniligjjaaDoorRelexCommonsp28
import Derived.Deep.AppendLies
namespace Go.Proofs.YtkdnacniligjjaaDoor
set_option linter.unusedVariables false
set_option linter.unusedSimpArgs false
open Go.RowKit

theorem heap_alloc2' (w : World) (o o2 : Obj) : ((w.alloc o).alloc o2).heap[w.heap.size + 1]? = some o2 := heap_alloc2 w o o2

set_option maxRecDepth 100000 in
set_option maxHeartbeats 1000000 in
theorem rPlaces_own (n : Int) (c : Nat) (A : Option Addr) (l : List Ed) (w : World) (hl : Small l) (hn : n ≤ 60000) (hr : rising n 0 l = true) (hE : EdsV w A l) :
    Calls Tryd.prog 60 #[.slice A l.length c] w fun e w' => ∃ v, e = .returned v ∧ w'.ownsRow w.heap.size 84 2 v l.length (spCells (placedL 0 l)) ∧ Below w.heap.size w w' := by
  have hl1 := hl.1
  obtain ⟨i0, hi0, hz0, hz1, hz2⟩ := info_parts infoSpan
  have Hr := Lib.hid hr
  clear hr
  go_enter Tryd.func60, Tryd.ntmps60
  go_wp2_with fail
  go_loopw [3, 4, 5] (fun v sh i wr => ∃ (k : Nat), k ≤ l.length ∧ i = .int .i64 k ∧ sh = .int .i64 (sumG (l.take k)) ∧ wr.ownsRow w.heap.size 84 2 v k (spCells ((placedL 0 l).take k)) ∧ Below w.heap.size w wr) (fun _ _ i _ => l.length - (intOf i).toNat)
  case atStart => exact ⟨0, by omega, rfl, by simp [sumG], ⟨by simp [spCells], .inl ⟨rfl, rfl⟩⟩, Below.refl _ _⟩
  case round =>
    obtain ⟨k, hk, rfl, rfl, hown, hB⟩ := hrel
    have hbd := sumG_take_bd hn (Int.le_refl 0) hl Hr.out k
    by_cases hlt : k < l.length
    · obtain ⟨b, off, rfl, hb, c1, c2, c3⟩ := (hE.below hB).get hlt
      have hg := rising_get Hr.out hlt
      have hsz := hl.get hlt
      have hS := Lib.hid (sumG_take_succ hlt)
      have hgd : growE l[k] = (l[k].s.size : Int) - (l[k].t - l[k].f) := rfl
      have Hg := Lib.hid hgd
      have hb1 := hB.size
      clear hE hgd
      have hbox : ∀ w1 : World, ((((wr.alloc (.cells #[.int .i64 l[k].f, .int .i64 l[k].t, .string l[k].s] 47)).alloc (.cells #[.int .i64 (l[k].f + sumG (l.take k)), .int .i64 (l[k].f + sumG (l.take k) + (l[k].s.size : Int))] 84)).grownBy w1 u3.ownBlock) →
          w1.cell? ⟨wr.heap.size, 0, none⟩ = some (.int .i64 l[k].f) ∧ w1.cell? ⟨wr.heap.size, 1, none⟩ = some (.int .i64 l[k].t) ∧ w1.cell? ⟨wr.heap.size, 2, none⟩ = some (.string l[k].s)) := by
        intro w1 hgrow
        have hne : u3.ownBlock ≠ some wr.heap.size := fun h => by have := (hown.lt _ h).2; omega
        refine ⟨?_, ?_, ?_⟩ <;> (rw [hgrow.cell_far _ (by simp; try omega) (Ne.symm hne)]; simp)
      have Hbox := Lib.hid hbox
      clear hbox
      go_wp2_with (at_builtin; refine wpList_append_own _ rfl _ _ 92 rfl w.heap.size 84 i0 _ 2 16 Tryd.underlying92 hi0 hz0 hz1 hz2 rfl (by decide) _ _ _ rfl ((hown.alloc _).alloc _) ⟨wr.heap.size + 1, 0, none⟩ 1 1 [.int .i64 (l[k].f + sumG (l.take k)), .int .i64 (l[k].f + sumG (l.take k) + (l[k].s.size : Int))] rfl rfl ?c1 ?c2 ?c3 ?c4 ?c5 ?_)
      case c1 => exact World.news_of_block (heap_alloc2' wr _ _)
      case c2 => simp [Value.oneCell']
      case c3 => unfold maxLen; omega
      case c4 => omega
      case c5 => simp; omega
      intro v' w1 hown1 hgrow _
      obtain ⟨d1, d2, d3⟩ := Hbox.out w1 hgrow
      go_wp2_with fail
      refine ⟨⟨k + 1, by omega, by go_num, ?_, ?_, ?_⟩, by simp [intOf]; omega⟩
      · rw [hS.out, Hg.out]
      · have hpl : k < (placedL 0 l).length := by rw [placedL_length]; exact hlt
        rw [List.take_succ_eq_append_getElem hpl, spCells_append, placedL_get 0 l k hlt hpl, Int.zero_add]
        exact hown1
      · exact ((hB.alloc hB.size _).alloc (by simp; omega) _).grown hgrow (by simp; omega) (fun g hg => (hown.lt g hg).1)
    · have hke : k = l.length := by omega
      subst hke
      go_wp2_with fail
      go_ret
      refine ⟨_, rfl, ?_, hB⟩
      have : (placedL 0 l).take l.length = placedL 0 l := by rw [← placedL_length 0 l, List.take_length]
      rw [← this]
      exact hown
end Go.Proofs.YtkdnacniligjjaaDoor
