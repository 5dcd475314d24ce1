/-
  relex: the laws' over: that what is taken over is the same in both lists.
-/
import Derived.Test.YtkdnacniligjjaaDoorRelexCommonsp21
import Derived.Test.YtkdnacniligjjaaDoorRelexCommonsp7
import Derived.Deep.RegionHeld3
namespace Go.Proofs.YtkdnacniligjjaaDoor
set_option linter.unusedVariables false
set_option linter.unusedSimpArgs false
open Go.RowKit

theorem slice_head {A : Option Addr} {L : List Tok} {a c : Nat} (hal : a ≤ L.length) (hlc : L.length ≤ c) :
    ∃ A1, (∀ W, (Instr.slice 22 (.slice A L.length c) none (some (.int .i64 (a : Int))) none).run Tryd.prog W = .ok (.slice A1 a c) W) ∧ ∀ W, TksV W A L → TksV W A1 (L.take a) := by
  refine ⟨if c = 0 then A else A.map (·.add (0 * 2)), fun W => ?_, fun W hT => ?_⟩
  · rw [run_slice_h W 22 _ _ _ undTok .i64 _ (by omega) (by omega), elemTok, sizeTok]
    simp [Result.andThen, sliced]
  · have := seg_tks (d := 0) (a := a) hal hlc hT
    rw [List.drop_zero] at this
    exact this

set_option maxRecDepth 100000 in
set_option maxHeartbeats 2000000 in
theorem over_any (c d : Nat) (A B : Option Addr) (S Z : List Tok) (f b : Nat) (w : World) (h1 : f + b ≤ S.length) (h2 : f + b ≤ Z.length) (hS : S.length ≤ 20000) (hZ : Z.length ≤ 20000) (hc : S.length ≤ c) (hd : Z.length ≤ d) (hA : A = none → S = [] ∧ c = 0) (hB : B = none → Z = [] ∧ d = 0) (e1 : S.take f = Z.take f) (e2 : S.drop (S.length - b) = Z.drop (Z.length - b)) (hE : TksV w A S) (hF : TksV w B Z) :
    Calls Tryd.prog 32 #[.slice A S.length c, .slice B Z.length d, .int .i64 (f : Int), .int .i64 (b : Int)] w fun e w' => e = .returned (.bool true) ∧ Below w.heap.size w w' := by
  obtain ⟨A1, s1, t1⟩ := slice_head (A := A) (L := S) (a := f) (by omega) hc
  obtain ⟨A2, s2, t2⟩ := slice_head (A := B) (L := Z) (a := f) (by omega) hd
  obtain ⟨A3, s3, _, t3⟩ := slice_tail (A := A) (L := S) (d := S.length - b) (by omega) hc hA
  obtain ⟨A4, s4, _, t4⟩ := slice_tail (A := B) (L := Z) (d := Z.length - b) (by omega) hd hB
  have v1 : ((S.length - b : Nat) : Int) = (S.length : Int) - (b : Int) := by omega
  have v2 : ((Z.length - b : Nat) : Int) = (Z.length : Int) - (b : Int) := by omega
  have s3' := s3
  have s4' := s4
  rw [v1] at s3'
  rw [v2] at s4'
  have w1 : IntKind.i64.wrap ((S.length : Int) - (b : Int)) = ((S.length - b : Nat) : Int) := by rw [IntWalk.i64_in _ (by omega)]; omega
  have w2 : IntKind.i64.wrap ((Z.length : Int) - (b : Int)) = ((Z.length - b : Nat) : Int) := by rw [IntWalk.i64_in _ (by omega)]; omega
  have H1 : Hid (∀ W, Below w.heap.size w W → Calls Tryd.prog 31 #[.slice A1 f c, .slice A2 f d] W fun e w' => e = .returned (.bool true) ∧ Below W.heap.size W w') := Lib.hid (fun W hW => by
    have g1 := t1 W (hE.below hW)
    have g2 := t2 W (hF.below hW)
    have := RSame_any c d A1 A2 (S.take f) (Z.take f) W (by rw [List.length_take]; omega) g1 g2
    rw [← e1, decide_eq_true rfl, List.length_take, show min f S.length = f by omega] at this
    exact this)
  have H2 : Hid (∀ W, Below w.heap.size w W → Calls Tryd.prog 31 #[.slice A3 (S.length - (S.length - b)) (c - (S.length - b)), .slice A4 (Z.length - (Z.length - b)) (d - (Z.length - b))] W fun e w' => e = .returned (.bool true) ∧ Below W.heap.size W w') := Lib.hid (fun W hW => by
    have g1 := t3 W (hE.below hW)
    have g2 := t4 W (hF.below hW)
    have := RSame_any (c - (S.length - b)) (d - (Z.length - b)) A3 A4 (S.drop (S.length - b)) (Z.drop (Z.length - b)) W (by rw [List.length_drop]; omega) g1 g2
    rw [decide_eq_true e2, List.length_drop, List.length_drop] at this
    exact this)
  clear t1 t2 t3 t4 e1 e2 hE hF hA hB v1 v2
  go_enter Tryd.func32, Tryd.ntmps32
  go_wp2_with fail
  go_region_held3 (fun _ => True) (trivial) ((first
    | (go_at_call 31
       with_reducible refine (H1.out _ ?_).mono ?_
       · (repeat (first | with_reducible exact Below.refl _ _ | with_reducible assumption | with_reducible refine Below.drew ?_ | with_reducible refine below_drewT ?_ _ | with_reducible refine below_callX ?_ (Nat.le_refl _) hbA))
       rintro e wA ⟨rfl, hbA⟩)
    | (go_at_call 31
       with_reducible refine (H2.out _ ?_).mono ?_
       · (repeat (first | with_reducible exact Below.refl _ _ | with_reducible assumption | with_reducible refine Below.drew ?_ | with_reducible refine below_drewT ?_ _ | with_reducible refine below_callX ?_ (Nat.le_refl _) hbA))
       rintro e wB ⟨rfl, hbB⟩)))
  all_goals
    have hBB : Below w.heap.size w wB := by
      repeat (first | with_reducible exact Below.refl _ _ | with_reducible assumption | with_reducible refine Below.drew ?_ | with_reducible refine below_drewT ?_ _ | with_reducible refine below_callX ?_ (Nat.le_refl _) hbB | with_reducible refine below_callX ?_ (Nat.le_refl _) hbA)
    go_wp2_with fail
    go_ret
    exact ⟨rfl, hBB⟩
end Go.Proofs.YtkdnacniligjjaaDoor
