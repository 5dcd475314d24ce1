/-
  The contracts of the specification's Lines.
-/
import Derived.Test.YtmbpjjehnfjdiaaDoorFeedMath
import Derived.Test.YtmbpjjehnfjdiaaDoorSp
import Derived.Deep.AppendLies
namespace Go.Proofs.YtmbpjjehnfjdiaaDoor
set_option linter.unusedVariables false
set_option linter.unusedSimpArgs false
open Go.RowKit

theorem linesL_drop {l : List UInt8} {fr k : Nat} (hk : k < l.length) : linesL fr k (l.drop k) = if l[k] = 10 then ((fr : Int), (k : Int)) :: linesL (k + 1) (k + 1) (l.drop (k + 1)) else linesL fr (k + 1) (l.drop (k + 1)) := by
  rw [List.drop_eq_getElem_cons hk]; rfl

set_option maxRecDepth 100000 in
set_option maxHeartbeats 1000000 in
theorem rLines_own (s : ByteArray) (w : World) (hs : s.size ≤ 60000) :
    Calls Tryd.prog 22 #[.string s] w fun e w' => ∃ v, e = .returned v ∧ w'.ownsRow w.heap.size 39 2 v (linesOf (byt s)).length (spCells (linesOf (byt s))) ∧ Below w.heap.size w w' := by
  obtain ⟨i0, hi0, hz0, hz1, hz2⟩ := info_parts infoSpan
  go_enter Tryd.func22, Tryd.ntmps22
  go_wp2_with fail
  go_loopw [3, 4, 5] (fun v fr i wr => ∃ (k f : Nat) (pre : List (Int × Int)), k ≤ s.size ∧ f ≤ k ∧ pre.length ≤ k ∧ i = .int .i64 k ∧ fr = .int .i64 f ∧ pre ++ linesL f k ((byt s).drop k) = linesOf (byt s) ∧ wr.ownsRow w.heap.size 39 2 v pre.length (spCells pre) ∧ Below w.heap.size w wr) (fun _ _ i _ => s.size - (intOf i).toNat)
  case atStart => exact ⟨0, 0, [], by omega, by omega, by simp, rfl, rfl, rfl, ⟨by simp [spCells], .inl ⟨rfl, rfl⟩⟩, Below.refl _ _⟩
  case round =>
    obtain ⟨k, f, pre, hk, hf, hpl, rfl, rfl, he, hown, hB⟩ := hrel
    by_cases hlt : k < s.size
    · have g1 : k < (byt s).length := by rw [byt_length]; exact hlt
      rw [linesL_drop g1] at he
      by_cases hq : s[k]'hlt = 10
      · have q2 : (((s[k]'hlt).toNat : Int) == 10) = true := by rw [hq]; rfl
        rw [if_pos (show (byt s)[k] = 10 from hq)] at he
        have He := Lib.hid he
        clear he hq g1
        have hb1 := hB.size
        go_wp2_with (at_builtin; refine wpList_append_own _ rfl _ _ 44 rfl w.heap.size 39 i0 _ 2 16 Tryd.underlying44 hi0 hz0 hz1 hz2 rfl (by decide) _ _ _ rfl (hown.alloc _) ⟨wr.heap.size, 0, none⟩ 1 1 [.int .i64 (f : Int), .int .i64 (k : Int)] rfl rfl ?c1 ?c2 ?c3 ?c4 ?c5 ?_)
        case c1 => exact World.news_of_block (heap_alloc_new wr _)
        case c2 => simp [Value.oneCell']
        case c3 => unfold maxLen; omega
        case c4 => omega
        case c5 => simp; omega
        intro v' w1 hown1 hgrow _
        go_wp2_with fail
        refine ⟨⟨k + 1, k + 1, pre ++ [((f : Int), (k : Int))], by omega, by omega, by simp; omega, by go_num, by go_num, by rw [List.append_assoc]; exact He.out, ?_, ?_⟩, by simp [intOf]; omega⟩
        · rw [List.length_append, spCells_append]
          exact hown1
        · exact (hB.alloc hB.size _).grown hgrow (by simp; omega) (fun g hg => (hown.lt g hg).1)
      · have q2 : (((s[k]'hlt).toNat : Int) == 10) = false := by
          rw [beq_eq_false_iff_ne]
          intro h
          exact hq (UInt8.toNat_inj.1 (by change (s[k]'hlt).toNat = 10; omega))
        rw [if_neg (show ¬ (byt s)[k] = 10 from hq)] at he
        have He := Lib.hid he
        clear he hq g1
        go_wp2_with fail
        exact ⟨⟨k + 1, f, pre, by omega, by omega, by omega, by go_num, rfl, He.out, hown, hB⟩, by simp [intOf]; omega⟩
    · have hke : k = s.size := by omega
      subst hke
      rw [List.drop_of_length_le (by rw [byt_length]; exact Nat.le_refl _)] at he
      have He := Lib.hid he
      clear he
      have hb1 := hB.size
      go_wp2_with (at_builtin; refine wpList_append_own _ rfl _ _ 44 rfl w.heap.size 39 i0 _ 2 16 Tryd.underlying44 hi0 hz0 hz1 hz2 rfl (by decide) _ _ _ rfl (hown.alloc _) ⟨wr.heap.size, 0, none⟩ 1 1 [.int .i64 (f : Int), .int .i64 (s.size : Int)] rfl rfl ?c1 ?c2 ?c3 ?c4 ?c5 ?_)
      case c1 => exact World.news_of_block (heap_alloc_new wr _)
      case c2 => simp [Value.oneCell']
      case c3 => unfold maxLen; omega
      case c4 => omega
      case c5 => simp; omega
      intro v' w1 hown1 hgrow _
      go_wp2_with fail
      go_ret
      refine ⟨_, rfl, ?_, (hB.alloc hB.size _).grown hgrow (by simp; omega) (fun g hg => (hown.lt g hg).1)⟩
      rw [← He.out]
      simp only [linesL]
      rw [List.length_append, spCells_append]
      exact hown1
end Go.Proofs.YtmbpjjehnfjdiaaDoor
