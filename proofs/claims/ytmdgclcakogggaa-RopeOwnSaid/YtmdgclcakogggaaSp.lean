/-
  Rows of spans of the call's own.
-/
import Derived.Test.YtmdgclcakogggaaMem
import Derived.Test.YtmdgclcakogggaaRows
import Derived.StillTailTactics
import Derived.Deep.RegionHeld3
namespace Go.Proofs.Ytmdgclcakogggaa
set_option linter.unusedVariables false
set_option linter.unusedSimpArgs false
open Go.RowKit

theorem infoSpan : (Try.prog.info? 60).map (fun i => (i.zero, i.size, i.bytes)) = some (some (.agg #[.int .i64 0, .int .i64 0]), 2, 16) := by kernel_rfl
theorem ownsRow_below {w w' : World} {base e size n : Nat} {v : Value} {xs : List Value} (h : w.ownsRow base e size v n xs) (hb : Below w.heap.size w w') : w'.ownsRow base e size v n xs := by
  refine ⟨h.1, ?_⟩
  rcases h.2 with h | ⟨g, cap, cur, hv, hg, hh, h1, h2, h3, h4⟩
  · exact .inl h
  · have hlt : g < w.heap.size := by
      rcases Nat.lt_or_ge g w.heap.size with h | h
      · exact h
      · rw [Array.getElem?_eq_none h] at hh; cases hh
    exact .inr ⟨g, cap, cur, hv, hg, (hb.block g hlt).trans hh, h1, h2, h3, h4⟩
def spCells (l : List (Int × Int)) : List Value := l.flatMap fun p => [.int .i64 p.1, .int .i64 p.2]
theorem spCells_length (l : List (Int × Int)) : (spCells l).length = l.length * 2 := by
  unfold spCells
  induction l with
  | nil => rfl
  | cons e l ih => simp [List.flatMap_cons, ih]; omega
theorem spCells_append (l : List (Int × Int)) (p : Int × Int) : spCells (l ++ [p]) = spCells l ++ [.int .i64 p.1, .int .i64 p.2] := by simp [spCells]

theorem sp_get {w : World} {base g n cap : Nat} {l : List (Int × Int)} (h : w.ownsRow base 60 2 (.slice (some ⟨g, 0, none⟩) n cap) n (spCells l)) {k : Nat} (hk : k < l.length) :
    w.cell? ⟨g, k * 2, none⟩ = some (.int .i64 l[k].1) ∧ w.cell? ⟨g, k * 2 + 1, none⟩ = some (.int .i64 l[k].2) := by
  have hlen : n * 2 = l.length * 2 := by have := h.1; rw [spCells_length] at this; omega
  have key : ∀ (l : List (Int × Int)) (k : Nat) (hk : k < l.length), (spCells l)[k * 2]? = some (.int .i64 l[k].1) ∧ (spCells l)[k * 2 + 1]? = some (.int .i64 l[k].2) := by
    intro l
    induction l with
    | nil => intro k hk; simp at hk
    | cons p l ih =>
      intro k hk
      have hx : spCells (p :: l) = .int .i64 p.1 :: .int .i64 p.2 :: spCells l := by simp [spCells]
      rw [hx]
      match k with
      | 0 => simp
      | k + 1 =>
        have := ih k (by simpa using hk)
        rw [show (k + 1) * 2 = k * 2 + 2 by omega, show k * 2 + 2 + 1 = k * 2 + 1 + 2 by omega]
        simpa using this
  exact ⟨by rw [h.cellAt _ (by omega)]; exact (key l k hk).1, by rw [h.cellAt _ (by omega)]; exact (key l k hk).2⟩
end Go.Proofs.Ytmdgclcakogggaa
