/-
  Contracts of lines, lineOf, begin, placeOf of place.
-/
import Derived.Test.YtmbpjjehnfjdiaaDoorPl1
import Derived.Test.YtmbpjjehnfjdiaaDoorOwn
import Derived.Test.YtmbpjjehnfjdiaaDoorRLines
namespace Go.Proofs.YtmbpjjehnfjdiaaDoor
set_option linter.unusedVariables false
set_option linter.unusedSimpArgs false
open Go.RowKit

theorem nl_str : (Value.string { data := #[10] }) = .string ⟨#[(10 : UInt8)]⟩ := rfl

set_option maxRecDepth 100000 in
set_option maxHeartbeats 1000000 in
theorem lines_own (s : ByteArray) (w : World) (hs : s.size ≤ 60000) :
    Calls Tryd.prog 38 #[.string s] w fun e w' => ∃ v, e = .returned v ∧ w'.ownsRow w.heap.size 39 2 v (linesOf (byt s)).length (spCells (linesOf (byt s))) ∧ Below w.heap.size w w' := by
  obtain ⟨i0, hi0, hz0, hz1, hz2⟩ := info_parts infoSpan
  have hcf := count_feeds (byt s)
  have hfl := feedsL_le (byt s)
  rw [byt_length] at hfl
  have Hcf := Lib.hid hcf
  clear hcf
  go_enter Tryd.func38, Tryd.ntmps38
  go_wp2_with fail
  with_reducible refine (Tryd.strings_Count_one _ _ _).mono ?_
  rw [show Lib.countByte s.data.toList 10 = feedsL (byt s) from Hcf.out]
  rintro e w1 ⟨rfl, rfl⟩
  go_wp2_with (at_make; refine wpList_make_own _ rfl _ _ 44 rfl w1.heap.size 39 i0 _ 2 Tryd.underlying44 hi0 hz0 hz1 _ _ _ (feedsL (byt s) + 1) rfl rfl (by omega) (by rw [hz2]; omega) (by unfold maxLen; omega) (Nat.le_refl _) ?_)
  intro w2 hown1 hgrow1
  have hb1 : Below w1.heap.size w1 w2 := (Below.refl _ _).grown hgrow1 (Nat.le_refl _) (fun k hk => by cases hk)
  go_wp2_with fail
  go_loopw [3, 4] (fun v fr wr => ∃ (f : Nat) (pre : List (Int × Int)), f ≤ s.size ∧ pre.length ≤ f ∧ fr = .int .i64 (f : Int) ∧ pre ++ linesL f f ((byt s).drop f) = linesOf (byt s) ∧ wr.ownsRow w1.heap.size 39 2 v pre.length (spCells pre) ∧ Below w1.heap.size w1 wr) (fun _ fr _ => s.size - (intOf fr).toNat)
  case atStart => exact ⟨0, [], by omega, by simp, rfl, rfl, hown1, hb1⟩
  case round =>
    obtain ⟨f, pre, hf, hpl, rfl, he, hown, hB⟩ := hrel
    rw [linesL_step] at he
    have hbz := hB.size
    by_cases h0 : feedsL ((byt s).drop f) = 0
    · rw [if_pos h0, List.length_drop, byt_length, show f + (s.size - f) = s.size by omega] at he
      have hto : f + feedAt ((byt s).drop f) 0 = s.size := by rw [feedAt_none _ _ (by omega), List.length_drop, byt_length]; omega
      have He := Lib.hid he
      have Hto := Lib.hid hto
      clear he hto h0
      go_wp2_with fail
      with_reducible refine (lineEnd_any s f _ hs hf).mono ?_
      rw [Hto.out]
      rintro e w3 ⟨rfl, rfl⟩
      go_wp2_with (at_builtin; refine wpList_append_own _ rfl _ _ 44 rfl w1.heap.size 39 i0 _ 2 16 Tryd.underlying44 hi0 hz0 hz1 hz2 rfl (by decide) _ _ _ rfl (hown.alloc _) ⟨wr.heap.size, 0, none⟩ 1 1 [.int .i64 (f : Int), .int .i64 (s.size : Int)] rfl rfl ?c1 ?c2 ?c3 ?c4 ?c5 ?_)
      case c1 => exact World.news_of_block (heap_alloc_new wr _)
      case c2 => simp [Value.oneCell']
      case c3 => unfold maxLen; omega
      case c4 => omega
      case c5 => simp; omega
      intro v' w4 hown4 hgrow _
      go_wp2_with fail
      go_ret
      refine ⟨_, rfl, ?_, (hB.alloc hB.size _).grown hgrow (by simp; omega) (fun g hg => (hown.lt g hg).1)⟩
      rw [← He.out, List.length_append, spCells_append]
      exact hown4
    · rw [if_neg h0] at he
      have hlt := feedAt_lt ((byt s).drop f) 0 (by omega)
      rw [List.length_drop, byt_length] at hlt
      rw [List.drop_drop] at he
      obtain ⟨to, hto⟩ : ∃ to, to = f + feedAt ((byt s).drop f) 0 := ⟨_, rfl⟩
      have hdd : f + (feedAt ((byt s).drop f) 0 + 1) = to + 1 := by omega
      rw [hdd, ← hto] at he
      have hts : to < s.size := by omega
      have htf : f ≤ to := by omega
      have He := Lib.hid he
      have Hto := Lib.hid hto.symm
      have q : (((to : Nat) : Int) == (s.size : Int)) = false := by rw [beq_eq_false_iff_ne]; omega
      clear he hto h0 hlt hdd
      go_wp2_with fail
      with_reducible refine (lineEnd_any s f _ hs hf).mono ?_
      rw [Hto.out]
      rintro e w3 ⟨rfl, rfl⟩
      go_wp2_with (at_builtin; refine wpList_append_own _ rfl _ _ 44 rfl w1.heap.size 39 i0 _ 2 16 Tryd.underlying44 hi0 hz0 hz1 hz2 rfl (by decide) _ _ _ rfl (hown.alloc _) ⟨wr.heap.size, 0, none⟩ 1 1 [.int .i64 (f : Int), .int .i64 (to : Int)] rfl rfl ?c1 ?c2 ?c3 ?c4 ?c5 ?_)
      case c1 => exact World.news_of_block (heap_alloc_new wr _)
      case c2 => simp [Value.oneCell']
      case c3 => unfold maxLen; omega
      case c4 => omega
      case c5 => simp; omega
      intro v' w4 hown4 hgrow _
      go_wp2_with fail
      refine ⟨⟨to + 1, pre ++ [((f : Int), (to : Int))], by omega, by simp; omega, by go_num, by rw [List.append_assoc]; exact He.out, ?_, (hB.alloc hB.size _).grown hgrow (by simp; omega) (fun g hg => (hown.lt g hg).1)⟩, by simp [intOf]; omega⟩
      rw [List.length_append, spCells_append]
      exact hown4

/-- what lineOf says of a number -/
def LineR (s : ByteArray) (n : Int) (e : Ending) : Prop :=
  (∃ k : Nat, n = k ∧ k ≤ feedsL (byt s) ∧ e = .returned (.tuple #[.agg #[.int .i64 (lst (byt s) k : Int), .int .i64 (feedAt (byt s) k : Int)], .bool true])) ∨
  ((n < 0 ∨ (feedsL (byt s) : Int) < n) ∧ e = .returned (.tuple #[.agg #[.int .i64 0, .int .i64 0], .bool false]))
theorem lst_le_len (s : ByteArray) (i : Nat) (h : i ≤ feedsL (byt s)) : lst (byt s) i ≤ s.size := by have := (lst_feeds (byt s) i h).2; rwa [byt_length] at this
theorem feedAt_le_len (s : ByteArray) (i : Nat) : feedAt (byt s) i ≤ s.size := by have := feedAt_le (byt s) i; rwa [byt_length] at this
end Go.Proofs.YtmbpjjehnfjdiaaDoor
