/-
  The contract of the specification's Cut of layer 3.
-/
import Derived.Test.YtkaceghngjpemaaDoorTkSelf
import Derived.BigQuiet
import Derived.Deep.QuietTactic
namespace Go.Proofs.YtkaceghngjpemaaDoor
set_option linter.unusedVariables false
set_option linter.unusedSimpArgs false
open Go.RowKit

def cutF : Nat → List Tok → List Tok
  | _, [] => []
  | left, p :: r => (p.1, p.2.extract 0 (min p.2.size left)) :: cutF (left - min p.2.size left) r
/-- a copy of tokens that is not large -/
def cutT (l : List Tok) : List Tok := cutF 20001 (l.take 20001)
theorem cutF_length : ∀ (l : List Tok) (left : Nat), (cutF left l).length = l.length
  | [], _ => rfl
  | p :: r, left => by simp only [cutF, List.length_cons]; rw [cutF_length r]
theorem cutF_cat : ∀ (l : List Tok) (left : Nat), (catL (cutF left l)).length ≤ left
  | [], _ => Nat.zero_le _
  | p :: r, left => by
    have h := cutF_cat r (left - min p.2.size left)
    have hs : (p.2.extract 0 (min p.2.size left)).size = min p.2.size left := by rw [ByteArray.size_extract]; omega
    show (byt (p.2.extract 0 (min p.2.size left)) ++ catL (cutF (left - min p.2.size left) r)).length ≤ left
    rw [List.length_append, byt_length, hs]
    omega
theorem cutF_small : ∀ (l : List Tok) (left : Nat), ∀ p ∈ cutF left l, p.2.size ≤ left
  | [], _, p, hp => by cases hp
  | q :: r, left, p, hp => by
    rcases List.mem_cons.1 hp with rfl | hp
    · simp only [ByteArray.size_extract]; omega
    · have := cutF_small r _ p hp; omega
theorem cutT_length (l : List Tok) : (cutT l).length ≤ 20001 := by unfold cutT; rw [cutF_length, List.length_take]; omega
theorem cutT_cat (l : List Tok) : (catL (cutT l)).length ≤ 20001 := cutF_cat _ _
theorem cutT_small (l : List Tok) : ∀ p ∈ cutT l, p.2.size ≤ 20001 := cutF_small _ _

set_option maxRecDepth 100000 in
set_option maxHeartbeats 2000000 in
theorem RCut_own (c : Nat) (A : Option Addr) (l : List Tok) (w : World) (hl : l.length ≤ maxLen) (hsz : ∀ p ∈ l, p.2.size ≤ maxLen) (hE : TksV w A l) :
    Calls Tryd.prog 26 #[.slice A l.length c] w fun e w' => ∃ v, e = .returned v ∧ w'.ownsRow w.heap.size 44 2 v (cutT l).length (tkCells (cutT l)) ∧ Below w.heap.size w w' := by
  unfold maxLen at hl hsz
  obtain ⟨i0, hi0, hz0, hz1, hz2⟩ := info_parts infoTok
  have HE := Lib.hid hE
  have HS := Lib.hid hsz
  clear hE hsz
  go_enter Tryd.func26, Tryd.ntmps26
  go_wp2_with fail
  go_loopw [3, 4, 5, 6] (fun v lf i _ wr => ∃ (k left : Nat) (pre : List Tok) (v0 : Value), v0 = v ∧ k ≤ l.length ∧ k ≤ 20001 ∧ i = .int .i64 k ∧ lf = .int .i64 left ∧ left ≤ 20001 ∧ pre.length ≤ k ∧ k ≤ pre.length ∧ pre ++ cutF left ((l.take 20001).drop k) = cutT l ∧ wr.ownsRow w.heap.size 44 2 v0 pre.length (tkCells pre) ∧ Below w.heap.size w wr) (fun _ _ i _ _ => l.length - (intOf i).toNat)
  case atStart => exact ⟨0, 20001, [], _, rfl, Nat.zero_le _, by omega, rfl, rfl, Nat.le_refl _, Nat.le_refl _, Nat.le_refl _, rfl, World.ownsRow_nil _ _ _ _, Below.refl _ _⟩
  case round =>
    obtain ⟨k, left, pre, v, rfl, hk, hk2, rfl, rfl, hle, hpl, hpl2, he, hown, hB⟩ := hrel
    have hk0 : (0 : Int) ≤ (k : Int) := by omega
    by_cases hlt : k < l.length
    · have hk3 : (k : Int) < (l.length : Int) := by omega
      by_cases h20 : k ≤ 20000
      · have h20i : (k : Int) ≤ 20000 := by omega
        have h20q : decide ((k : Int) ≤ 20000) = true := by simp; omega
        obtain ⟨b, off, rfl, hbb, m0, m1⟩ := (HE.out.below hB).get hlt
        have hxs := HS.out l[k] (List.getElem_mem hlt)
        have hdrop : (l.take 20001).drop k = l[k] :: (l.take 20001).drop (k + 1) := by
          rw [List.drop_eq_getElem_cons (by rw [List.length_take]; omega), List.getElem_take]
        rw [hdrop] at he
        obtain ⟨⟨kd, x⟩, hx⟩ : ∃ p, p = l[k] := ⟨_, rfl⟩
        rw [← hx] at m0 m1 hxs he
        simp only [cutF] at m0 m1 hxs he
        by_cases hlx : left < x.size
        · have hme : min x.size left = left := by omega
          have hye : x.extract 0 (min x.size left) = x.extract 0 left := by rw [hme]
          rw [hye, hme] at he
          have hyz : (x.extract 0 left).size = left := by rw [ByteArray.size_extract]; omega
          obtain ⟨y, hy⟩ : ∃ y, y = x.extract 0 left := ⟨_, rfl⟩
          rw [← hy] at he hyz
          have He := Lib.hid he
          have hmx : left ≤ x.size := by omega
          have hml : left ≤ left := by omega
          have hm1 : (0 : Int) ≤ (left : Int) := by omega
          have hm2 : (left : Int) ≤ (x.size : Int) := by omega
          have sm : IntKind.i64.wrap ((left : Int) - (y.size : Int)) = ((left - left : Nat) : Int) := by rw [hyz, IntWalk.i64_in _ (by omega)]; omega
          have hyb : (y.size : Int) ≤ (left : Int) := by omega
          have hs1 := hB.size
          have HYZ := Lib.hid hyz
          have HY := Lib.hid hy
          clear hx hdrop he hyz hye hme hy
          go_wp2_with fail
          go_quiet (fail)
          rw [← HY.out]
          obtain ⟨w2, hw2⟩ : ∃ w2, w2 = wr.drewN nq := ⟨_, rfl⟩
          rw [← hw2]
          have hown2 : w2.ownsRow w.heap.size 44 2 v pre.length (tkCells pre) := by rw [hw2]; exact hown
          have hB2 : Below w.heap.size w w2 := by rw [hw2]; exact below_drewT hB _
          have m02 : w2.cell? ⟨b, off + k * 2, none⟩ = some (.int .i64 kd) := by rw [hw2]; exact m0
          have hs2 := hB2.size
          clear hw2 hown hB m0 m1
          go_wp2_with (at_builtin; refine wpList_append_own _ rfl _ _ 23 rfl w.heap.size 44 i0 _ 2 24 Tryd.underlying23 hi0 hz0 hz1 hz2 rfl (by decide) _ _ _ rfl (hown2.alloc _) ⟨w2.heap.size, 0, none⟩ 1 1 [.int .i64 kd, .string y] rfl rfl ?c1a ?c2a ?c3a ?c4a ?c5a ?_)
          case c1a => exact World.news_of_block (heap_alloc_new w2 _)
          case c2a => simp [Value.oneCell']
          case c3a => unfold maxLen; omega
          case c4a => omega
          case c5a => first | omega | (simp; omega)
          intro v' w4 hown4 hgrow _
          have hB4 := (hB2.alloc hs2 (.cells #[.int .i64 kd, .string y] 44)).grown hgrow (by simp; omega) (fun g hg => (hown2.lt g hg).1)
          rw [← tkCells_append pre (kd, y)] at hown4
          have Ho4 := Lib.hid hown4
          have HB4 := Lib.hid hB4
          clear hown2 hown4 hB2 hB4 hgrow
          go_wp2_with fail
          refine ⟨⟨k + 1, left - left, pre ++ [(kd, y)], _, rfl, by omega, by omega, by go_num, by go_num, by omega, by simp; omega, by simp; omega, by rw [List.append_assoc]; exact He.out, ?_, HB4.out⟩, by simp only [intOf]; omega⟩
          rw [show (pre ++ [((kd, y) : Tok)]).length = pre.length + 1 by simp]
          exact Ho4.out
        · have hme : min x.size left = x.size := by omega
          have hye : x.extract 0 (min x.size left) = x := by rw [hme]; exact all_head x
          rw [hye, hme] at he
          have He := Lib.hid he
          have hmx : x.size ≤ x.size := by omega
          have hml : x.size ≤ left := by omega
          have hm1 : (0 : Int) ≤ (x.size : Int) := by omega
          have hm2 : (x.size : Int) ≤ (x.size : Int) := by omega
          have sm : IntKind.i64.wrap ((left : Int) - (x.size : Int)) = ((left - x.size : Nat) : Int) := by rw [IntWalk.i64_in _ (by omega)]; omega
          have hyb : (x.size : Int) ≤ (left : Int) := by omega
          have hs1 := hB.size
          clear hx hdrop he hye hme
          go_wp2_with fail
          go_quiet (fail)
          obtain ⟨w2, hw2⟩ : ∃ w2, w2 = wr.drewN nq := ⟨_, rfl⟩
          rw [← hw2]
          have hown2 : w2.ownsRow w.heap.size 44 2 v pre.length (tkCells pre) := by rw [hw2]; exact hown
          have hB2 : Below w.heap.size w w2 := by rw [hw2]; exact below_drewT hB _
          have m02 : w2.cell? ⟨b, off + k * 2, none⟩ = some (.int .i64 kd) := by rw [hw2]; exact m0
          have hs2 := hB2.size
          clear hw2 hown hB m0 m1
          go_wp2_with (at_builtin; refine wpList_append_own _ rfl _ _ 23 rfl w.heap.size 44 i0 _ 2 24 Tryd.underlying23 hi0 hz0 hz1 hz2 rfl (by decide) _ _ _ rfl (hown2.alloc _) ⟨w2.heap.size, 0, none⟩ 1 1 [.int .i64 kd, .string x] rfl rfl ?c1b ?c2b ?c3b ?c4b ?c5b ?_)
          case c1b => exact World.news_of_block (heap_alloc_new w2 _)
          case c2b => simp [Value.oneCell']
          case c3b => unfold maxLen; omega
          case c4b => omega
          case c5b => first | omega | (simp; omega)
          intro v' w4 hown4 hgrow _
          have hB4 := (hB2.alloc hs2 (.cells #[.int .i64 kd, .string x] 44)).grown hgrow (by simp; omega) (fun g hg => (hown2.lt g hg).1)
          rw [← tkCells_append pre (kd, x)] at hown4
          have Ho4 := Lib.hid hown4
          have HB4 := Lib.hid hB4
          clear hown2 hown4 hB2 hB4 hgrow
          go_wp2_with fail
          refine ⟨⟨k + 1, left - x.size, pre ++ [(kd, x)], _, rfl, by omega, by omega, by go_num, by go_num, by omega, by simp; omega, by simp; omega, by rw [List.append_assoc]; exact He.out, ?_, HB4.out⟩, by simp only [intOf]; omega⟩
          rw [show (pre ++ [((kd, x) : Tok)]).length = pre.length + 1 by simp]
          exact Ho4.out
      · have h20i : ¬ (k : Int) ≤ 20000 := by omega
        have h20q : decide ((k : Int) ≤ 20000) = false := by simp; omega
        have hdrop : (l.take 20001).drop k = [] := List.drop_eq_nil_of_le (by rw [List.length_take]; omega)
        rw [hdrop] at he
        simp only [cutF, List.append_nil] at he
        subst he
        clear hdrop
        go_wp2_with fail
        go_ret
        exact ⟨_, rfl, hown, hB⟩
    · have hdrop : (l.take 20001).drop k = [] := List.drop_eq_nil_of_le (by rw [List.length_take]; omega)
      rw [hdrop] at he
      simp only [cutF, List.append_nil] at he
      subst he
      have hk3 : decide ((k : Int) < (l.length : Int)) = false := by simp; omega
      clear hdrop
      go_wp2_with fail
      go_ret
      exact ⟨_, rfl, hown, hB⟩
end Go.Proofs.YtkaceghngjpemaaDoor
