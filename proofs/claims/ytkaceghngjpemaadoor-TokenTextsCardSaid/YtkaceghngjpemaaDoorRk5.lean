/-
  The contract of the specification's Lex.
-/
import Derived.Test.YtkaceghngjpemaaDoorRk4
namespace Go.Proofs.YtkaceghngjpemaaDoor
set_option linter.unusedVariables false
set_option linter.unusedSimpArgs false
open Go.RowKit

set_option maxRecDepth 100000 in
set_option maxHeartbeats 2000000 in
theorem RLex_own (s : ByteArray) (w : World) (hs : s.size ≤ 60000) :
    Calls Tryd.prog 25 #[.string s] w fun e w' => ∃ v, e = .returned v ∧ w'.ownsRow w.heap.size 44 2 v (lexL s).length (tkCells (lexL s)) ∧ Below w.heap.size w w' := by
  obtain ⟨i0, hi0, hz0, hz1, hz2⟩ := info_parts infoTok
  go_enter Tryd.func25, Tryd.ntmps25
  go_wp2_with fail
  go_loopw [3, 4, 5] (fun v i _ wr => ∃ (k : Nat) (pre : List Tok), k ≤ s.size ∧ i = .int .i64 k ∧ pre ++ lexL (s.extract k s.size) = lexL s ∧ pre.length ≤ k ∧ wr.ownsRow w.heap.size 44 2 v pre.length (tkCells pre) ∧ Below w.heap.size w wr) (fun _ i _ _ => s.size - (intOf i).toNat)
  case atStart => exact ⟨0, [], Nat.zero_le _, rfl, by rw [show s.extract 0 s.size = s from all_head s]; rfl, by simp, World.ownsRow_nil _ _ _ _, Below.refl _ _⟩
  case round =>
    obtain ⟨k, pre, hk, rfl, he, hl, hown, hB⟩ := hrel
    have hk0 : (0 : Int) ≤ (k : Int) := by omega
    by_cases hlt : k < s.size
    · have hks : (k : Int) < (s.size : Int) := by omega
      have hz := tail_size s k
      have hnx := Next_any s k wr hs hlt
      obtain ⟨f1, f2⟩ := firstP_le (s.extract k s.size) (by omega)
      rw [lexL_step (by omega), tail_tail] at he
      have hxs : ((s.extract k s.size).extract 0 (firstP (s.extract k s.size)).2).size = (firstP (s.extract k s.size)).2 := by rw [ByteArray.size_extract]; omega
      unfold nextR at hnx
      obtain ⟨⟨kd, n⟩, hp⟩ : ∃ p, p = firstP (s.extract k s.size) := ⟨_, rfl⟩
      rw [← hp] at hnx f1 f2 he hxs
      simp only at hnx f1 f2 he hxs
      obtain ⟨x, hx⟩ : ∃ x, x = (s.extract k s.size).extract 0 n := ⟨_, rfl⟩
      rw [← hx] at hnx he hxs
      have Hnx := Lib.hid hnx
      have He := Lib.hid he
      have HX := Lib.hid hxs
      have hxz : (x.size : Int) ≤ (s.size : Int) := by omega
      have hxk : k + x.size ≤ s.size := by omega
      have hx1 : 1 ≤ x.size := by omega
      have hb1 := hB.size
      clear hnx he hp hx hxs
      go_wp2_with fail
      refine Hnx.out.mono ?_
      rintro e w2 ⟨rfl, hb2⟩
      have hown2 := ownsRow_belowT hown hb2
      have hB2 := hB.trans (hb2.mono hb1)
      have hb3 := hB2.size
      have hblk : ((w2.alloc (.cells #[.int .i64 kd, .string x] 44)).alloc (.cells #[.int .i64 kd, .string x] 44)).heap[w2.heap.size]? = some (.cells #[.int .i64 kd, .string x] 44 (0, 0)) := (Below.heap_alloc _ _ _ (by simp)).trans (heap_alloc_new w2 _)
      have HBlk := Lib.hid hblk
      have hbw : Below w.heap.size w ((w2.alloc (.cells #[.int .i64 kd, .string x] 44)).alloc (.cells #[.int .i64 kd, .string x] 44)) := (hB2.alloc hb3 _).alloc (by simp; omega) _
      have HBw := Lib.hid hbw
      clear hblk hbw
      go_wp2_with (at_builtin; refine wpList_append_own _ rfl _ _ 23 rfl w.heap.size 44 i0 _ 2 24 Tryd.underlying23 hi0 hz0 hz1 hz2 rfl (by decide) _ _ _ rfl ((hown2.alloc _).alloc _) ⟨w2.heap.size + 1, 0, none⟩ 1 1 [.int .i64 kd, .string x] rfl rfl ?c1 ?c2 ?c3 ?c4 ?c5 ?_)
      case c1 => exact World.news_of_block (heap_alloc2T w2 _ _)
      case c2 => simp [Value.oneCell']
      case c3 => unfold maxLen; omega
      case c4 => omega
      case c5 => simp; omega
      intro v' w4 hown4 hgrow _
      have hB4 := HBw.out.grown hgrow (by simp; omega) (fun g hg => (hown2.lt g hg).1)
      have hb4 : w4.heap[w2.heap.size]? = some (.cells #[.int .i64 kd, .string x] 44 (0, 0)) := by
        rw [hgrow.block w2.heap.size (by simp; omega) (fun e => by have := (hown2.lt _ e.symm).2; omega)]
        exact HBlk.out
      have m1 : w4.cell? ⟨w2.heap.size, 1, none⟩ = some (.string x) := Lib.cell_of_heap hb4 1
      rw [← tkCells_append pre (kd, x)] at hown4
      have Ho4 := Lib.hid hown4
      have HB4 := Lib.hid hB4
      have sk : IntKind.i64.wrap ((k : Int) + (x.size : Int)) = ((k + x.size : Nat) : Int) := by rw [IntWalk.i64_in _ (by omega)]; omega
      clear hown hown2 hown4 hB hB2 hB4 hgrow hb4
      go_wp2_with fail
      refine ⟨⟨k + x.size, pre ++ [(kd, x)], by omega, by go_num, ?_, by simp; omega, ?_, HB4.out⟩, by simp only [intOf]; omega⟩
      · rw [List.append_assoc, HX.out]; exact He.out
      · have h := Ho4.out
        rw [show (pre ++ [((kd, x) : Tok)]).length = pre.length + 1 by simp]
        exact h
    · have hex : (s.extract k s.size).size = 0 := by rw [tail_size]; omega
      rw [lexL_nil hex, List.append_nil] at he
      subst he
      have q : decide ((k : Int) < (s.size : Int)) = false := by simp; omega
      clear hl
      go_wp2_with fail
      go_ret
      exact ⟨_, rfl, hown, hB⟩
end Go.Proofs.YtkaceghngjpemaaDoor
