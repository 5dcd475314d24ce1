/-
  Trees: the specification's Changed of formed nodes is the program's.
-/
import Derived.Test.YtgihkojlpaebiaaDoorTreeSamep4
namespace Go.Proofs.YtgihkojlpaebiaaDoor
set_option linter.unusedVariables false
set_option linter.unusedSimpArgs false
set_option linter.unnecessarySimpa false
open Go Go.RowKit

theorem chR_none : ∀ (m : Nat) (a b : Nd), deepN a < m → sameS a b = true → chR m a b = ([], false)
  | 0, _, _, h, _ => absurd h (Nat.not_lt_zero _)
  | m + 1, a, b, h, hs => by
    rw [sameS_eq, Bool.and_eq_true] at hs
    obtain ⟨hal, he⟩ := hs
    have hlen : a.kids.length = b.kids.length := by
      have hal2 := hal
      unfold alikeR at hal2
      simp only [Bool.and_eq_true, decide_eq_true_eq] at hal2
      exact hal2.2.2
    simp only [chR]
    rw [if_neg (by rw [hal]; decide)]
    obtain ⟨g1, _⟩ := chL_one (chR m) a.kids b.kids 0 0 hlen (fun x hx y => chR_two m x y (by have := kid_depth hx; omega))
    rw [eqF_dfA a.kids b.kids 0 0 hlen (fun x hx y => sameT_S (depthN_of _ x (kid_depth hx)))] at he
    rw [g1, if_pos (of_decide_eq_true he)]
theorem RChanged_form (a b : Nd) (va vb : Value) (w : World) (hCa : sizeN a) (hCb : sizeN b) (ha : NodeP (fun _ => True) w va a) (hb : NodeP (fun _ => True) w vb b) (hpa : partsN a = true) (hpb : partsN b = true) :
    Calls Tryd.prog 34 #[va, vb] w fun e w' => (∃ v', e = .returned (.tuple #[v', .bool (chR (deepN a + 1) a b).2]) ∧ w'.ownsRow w.heap.size 3 1 v' (chR (deepN a + 1) a b).1.length (intCells (chR (deepN a + 1) a b).1)) ∧ Below w.heap.size w w' := by
  cases hs : sameS a b with
  | true =>
    refine (RChanged_same a b va vb w hCa ha.node hb.node hs).mono ?_
    rintro e w' ⟨rfl, hB⟩
    rw [chR_none _ a b (Nat.lt_succ_self _) hs]
    exact ⟨⟨_, rfl, World.ownsRow_nil _ _ _ _⟩, hB⟩
  | false =>
    refine (RChanged_differ a b va vb w hCa hCb ha hb hs).mono ?_
    rintro e w' ⟨⟨v', rfl, hrow⟩, hB⟩
    rw [chR_two _ a b (Nat.lt_succ_self _), hs, chR_rChR _ a b (Nat.lt_succ_self _) hpa hpb hs]
    exact ⟨⟨v', rfl, hrow⟩, hB⟩
end Go.Proofs.YtgihkojlpaebiaaDoor
