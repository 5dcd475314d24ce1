/-
  Plain mathematics of Merge: what the merged list is, at the end.; Rows of the call's own: their shapes.
-/
import Derived.Test.YtkdnacniligjjaaDoorRelexThenp2
import Derived.Test.YtkdnacniligjjaaDoorRelexCommonsp12
import Derived.Test.YtkdnacniligjjaaDoorRelexCommonsp28
namespace Go.Proofs.YtkdnacniligjjaaDoor
set_option linter.unusedVariables false
set_option linter.unusedSimpArgs false

theorem new_le (t : ByteArray) (z : Nat) : ∀ (l : List Ed) (a : Nat), ∀ e ∈ l, e.s.size ≤ (editedL t z a l).length
  | [], _, e, h => by cases h
  | d :: l, a, e, h => by
    simp only [editedL, List.length_append]
    rcases List.mem_cons.1 h with rfl | h
    · have : e.s.data.toList.length = e.s.size := byt_length e.s
      omega
    · have := new_le t z l d.t.toNat e h
      omega

theorem SmAt.first {T : ByteArray} {F G : List Ed} (h1 : checkE T.size F = 0) (h2 : checkE (applyB T F).size G = 0) :
    SmAt T (applyB T F) (editedL (applyB T F) (applyB T F).size 0 G) F G 0 0 0 [] := by
  refine ⟨Nat.zero_le _, Nat.zero_le _, by simp [sumG], Nat.zero_le _, 0, 0, ?_⟩
  exact Semi.begin_ (checkE_ok h1).2.2.1 (checkE_ok h2).2.2.1

theorem SmAt.last {T : ByteArray} {F G ms : List Ed} {sh : Int} (h1 : checkE T.size F = 0) (h2 : checkE (applyB T F).size G = 0)
    (h : SmAt T (applyB T F) (editedL (applyB T F) (applyB T F).size 0 G) F G F.length G.length sh ms) :
    Small ms ∧ ms.length ≤ F.length + G.length ∧ applyB T ms = applyB (applyB T F) G ∧ rising T.size 0 ms = true ∧ (ms.length ≤ 100 → checkE T.size ms = 0) := by
  obtain ⟨a, p, hs⟩ := h.semi
  rw [List.drop_length, List.drop_length] at hs
  obtain ⟨hr, he⟩ := hs.end_
  obtain ⟨c1, c2, c3, c4⟩ := checkE_ok h1
  obtain ⟨d1, d2, d3, d4⟩ := checkE_ok h2
  have ha : applyB T ms = applyB (applyB T F) G := congrArg mkB he
  have s1 := applyB_size hr
  have s2 := applyB_size d3
  rw [ha] at s1
  have hm := h.hm
  refine ⟨⟨by omega, fun e hm' => ?_⟩, hm, ha, hr, fun hc => checkE_of c1 hc hr (by omega)⟩
  have h3 := new_le T T.size ms 0 e hm'
  have h4 : (applyB T ms).size = (editedL T T.size 0 ms).length := mkB_size _
  rw [ha] at h4
  omega
end Go.Proofs.YtkdnacniligjjaaDoor

namespace Go.Proofs.YtkdnacniligjjaaDoor
set_option linter.unusedVariables false
set_option linter.unusedSimpArgs false
open Go.RowKit

theorem ownsRow_less {w : World} {base base' e size n : Nat} {v : Value} {xs : List Value} (h : w.ownsRow base e size v n xs) (hb : base' ≤ base) : w.ownsRow base' e size v n xs := by
  refine ⟨h.1, ?_⟩
  rcases h.2 with h | ⟨g, cap, cur, hv, hg, hh⟩
  · exact .inl h
  · exact .inr ⟨g, cap, cur, hv, by omega, hh⟩
theorem own_shape {w : World} {base e size n : Nat} {v : Value} {xs : List Value} (h : w.ownsRow base e size v n xs) : ∃ ao cap, v = .slice ao n cap ∧ (0 < n → ∃ g, ao = some ⟨g, 0, none⟩ ∧ base ≤ g ∧ g < w.heap.size) := by
  rcases h.2 with ⟨rfl, rfl⟩ | ⟨g, cap, cur, rfl, hb, hg, _⟩
  · exact ⟨none, 0, rfl, fun h => by omega⟩
  · have hlt : g < w.heap.size := by
      rcases Nat.lt_or_ge g w.heap.size with h | h
      · exact h
      · rw [Array.getElem?_eq_none h] at hg; cases hg
    exact ⟨_, cap, rfl, fun _ => ⟨g, rfl, hb, hlt⟩⟩
end Go.Proofs.YtkdnacniligjjaaDoor
