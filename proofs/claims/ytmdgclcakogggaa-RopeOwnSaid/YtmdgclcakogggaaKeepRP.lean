/-
  What is left alone by stores into rows of other types: ropes, pieces, edits.
-/
import Derived.Test.YtmdgclcakogggaaRp
import Derived.Test.YtmdgclcakogggaaOwn
namespace Go.Proofs.Ytmdgclcakogggaa
set_option linter.unusedVariables false
set_option linter.unusedSimpArgs false
open Go.RowKit

/-- blocks of ropes and of pieces are as they were -/
def KeepRP (w w' : World) : Prop := w.heap.size ≤ w'.heap.size ∧ ∀ (b : Nat) (cs : Array Value) (T : TypeId), (T = 79 ∨ T = 47) → w.heap[b]? = some (.cells cs T (0, 0)) → w'.heap[b]? = w.heap[b]?
theorem PcAt.keepT {w w' : World} {B B' : Nat} (hB : B ≤ B') (hk : KeepRP w w') : ∀ {t : Pc} {v : Value}, PcAt w B v t → PcAt w' B' v t
  | .nil, v, h => h
  | .leaf s, v, h => by
    obtain ⟨b, rfl, hb, hh⟩ := h
    exact ⟨b, rfl, by omega, (hk.2 b _ _ (.inl rfl) hh).trans hh⟩
  | .node l r, v, h => by
    obtain ⟨b, vl, vr, rfl, hb, hh, h1, h2, h3⟩ := h
    exact ⟨b, vl, vr, rfl, by omega, (hk.2 b _ _ (.inl rfl) hh).trans hh, h1.keepT hB hk, h2.keepT hB hk, h3⟩
theorem RopeAt.keepT {w w' : World} {v bf : Value} {t : Pc} (h : RopeAt w v t bf) (hk : KeepRP w w') : RopeAt w' v t bf := by
  obtain ⟨r, vroot, rfl, hh, hp, hg⟩ := h
  exact ⟨r, vroot, rfl, (hk.2 r _ _ (.inr rfl) hh).trans hh, hp.keepT hk.1 hk, hg⟩
theorem EdsV.keepAt {w w' : World} {A : Option Addr} {l : List Ed} (h : EdsV w A l) (hs : w.heap.size ≤ w'.heap.size) (hc : ∀ b off, A = some ⟨b, off, none⟩ → b < w.heap.size → w'.heap[b]? = w.heap[b]?) : EdsV w' A l := by
  intro hl
  obtain ⟨b, off, rfl, hb, hg⟩ := h hl
  have he : ∀ o, w'.cell? ⟨b, o, none⟩ = w.cell? ⟨b, o, none⟩ := fun o => World.cell?_of_block (w := w) (hc b off rfl hb)
  exact ⟨b, off, rfl, by omega, fun i e hi => by
    obtain ⟨h1, h2, h3⟩ := hg i e hi
    exact ⟨by rw [he]; exact h1, by rw [he]; exact h2, by rw [he]; exact h3⟩⟩
theorem own_pos {w : World} {base e size n : Nat} {v : Value} {xs : List Value} (h : w.ownsRow base e size v n xs) (hn : 0 < n) : ∃ g cap, v = .slice (some ⟨g, 0, none⟩) n cap ∧ base ≤ g ∧ g < w.heap.size := by
  obtain ⟨ao, cap, rfl, hao⟩ := own_shape h
  obtain ⟨g, rfl, h1, h2⟩ := hao hn
  exact ⟨g, cap, rfl, h1, h2⟩
end Go.Proofs.Ytmdgclcakogggaa
