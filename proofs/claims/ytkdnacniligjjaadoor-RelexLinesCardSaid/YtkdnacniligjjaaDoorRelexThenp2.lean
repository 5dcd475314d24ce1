/-
  Plain mathematics of Merge, by the indexes at which both lists are.
-/
import Derived.Test.YtkdnacniligjjaaDoorRelexThenp1
import Derived.Test.YtkdnacniligjjaaDoorRelexCommonsp12
namespace Go.Proofs.YtkdnacniligjjaaDoor
set_option linter.unusedVariables false
set_option linter.unusedSimpArgs false

theorem drop_take_snoc {α : Type} (G : List α) (s j : Nat) (hs : s ≤ j) (hj : j < G.length) : (G.drop s).take (j + 1 - s) = (G.drop s).take (j - s) ++ [G[j]] := by
  have h1 : j - s < (G.drop s).length := by rw [List.length_drop]; omega
  rw [show j + 1 - s = (j - s) + 1 by omega, List.take_succ_eq_append_getElem h1, List.getElem_drop]
  congr 3
  omega

/-- while edits that touch are taken: k, j are how many of both lists are done -/
structure TkAt (T X : ByteArray) (F G gs0 : List Ed) (A fr s0 k j l1 l2 : Nat) (lg : Ed) (y u : Nat) (sh : Int) : Prop where
  hk0 : 0 < k
  hk : k ≤ F.length
  hj0 : s0 < j
  hj : j ≤ G.length
  hsh : sh = sumG (F.take k)
  hl : (placedL 0 F)[k - 1]? = some ((l1 : Int), (l2 : Int))
  hg : G[j - 1]? = some lg
  mid : Mid T X gs0 A fr sh l1 l2 lg (F.drop k) (G.drop j) ((G.drop s0).take (j - s0)) y u

theorem placed_at {F : List Ed} {k : Nat} (hk : k < F.length) : (placedL 0 F)[k]? = some (F[k].f + sumG (F.take k), F[k].f + sumG (F.take k) + F[k].s.size) := by
  rw [List.getElem?_eq_getElem (by rw [placedL_length]; exact hk), placedL_get 0 F k hk, Int.zero_add]

theorem TkAt.takeF {T X : ByteArray} {F G gs0 : List Ed} {A fr s0 k j l1 l2 : Nat} {lg : Ed} {y u : Nat} {sh : Int} (h : TkAt T X F G gs0 A fr s0 k j l1 l2 lg y u sh) (hk : k < F.length) (ht : F[k].f + sh ≤ lg.t) :
    ∃ l1' l2' y' : Nat, TkAt T X F G gs0 A fr s0 (k + 1) j l1' l2' lg y' u (sh + growE F[k]) := by
  have hm := h.mid
  rw [List.drop_eq_getElem_cons hk] at hm
  obtain ⟨l1', l2', y', e1, e2, hm'⟩ := hm.takeF ht
  refine ⟨l1', l2', y', ⟨by omega, by omega, h.hj0, h.hj, by rw [h.hsh, sumG_take_succ hk], ?_, h.hg, hm'⟩⟩
  rw [show k + 1 - 1 = k by omega, placed_at hk, ← h.hsh, ← e1, e2, e1]

theorem TkAt.takeG {T X : ByteArray} {F G gs0 : List Ed} {A fr s0 k j l1 l2 : Nat} {lg : Ed} {y u : Nat} {sh : Int} (h : TkAt T X F G gs0 A fr s0 k j l1 l2 lg y u sh) (hj : j < G.length) (ht : G[j].f ≤ l2) :
    ∃ u' : Nat, TkAt T X F G gs0 A fr s0 k (j + 1) l1 l2 G[j] y u' sh := by
  have hm := h.mid
  rw [List.drop_eq_getElem_cons hj] at hm
  obtain ⟨u', e1, hm'⟩ := hm.takeG ht
  have := h.hj0
  refine ⟨u', ⟨h.hk0, h.hk, by omega, by omega, h.hsh, h.hl, ?_, ?_⟩⟩
  · rw [show j + 1 - 1 = j by omega]; exact List.getElem?_eq_getElem hj
  · rw [drop_take_snoc G s0 j (by omega) hj]; exact hm'

/-- nothing more touches -/
structure TkEnd (F G : List Ed) (k j l1 l2 : Nat) (lg : Ed) (sh : Int) : Prop where
  ef : ∀ h : k < F.length, ¬ (lg.f ≤ F[k].f + sh + F[k].s.size ∧ F[k].f + sh ≤ lg.t)
  eg : ∀ h : j < G.length, ¬ (G[j].f ≤ l2 ∧ (l1 : Int) ≤ G[j].t)

/-- both lists are half done -/
structure SmAt (T X : ByteArray) (out : List UInt8) (F G : List Ed) (k j : Nat) (sh : Int) (ms : List Ed) : Prop where
  hk : k ≤ F.length
  hj : j ≤ G.length
  hsh : sh = sumG (F.take k)
  hm : ms.length ≤ k + j
  semi : ∃ a p : Nat, Semi T X out sh (F.drop k) (G.drop j) ms a p

theorem SmAt.stepF {T X : ByteArray} {out : List UInt8} {F G : List Ed} {k j : Nat} {sh : Int} {ms : List Ed} (h : SmAt T X out F G k j sh ms) (hk : k < F.length) (hg : ∀ hj : j < G.length, F[k].f + sh + F[k].s.size ≤ G[j].f) :
    SmAt T X out F G (k + 1) j (sh + growE F[k]) (ms ++ [F[k]]) := by
  obtain ⟨a, p, hs⟩ := h.semi
  rw [List.drop_eq_getElem_cons hk] at hs
  obtain ⟨a', p', h'⟩ := hs.stepF (fun g l e => by
    have hj : j < G.length := by
      rcases Nat.lt_or_ge j G.length with h | h
      · exact h
      · rw [List.drop_eq_nil_of_le h] at e; cases e
    rw [List.drop_eq_getElem_cons hj] at e
    injection e with e1 e2
    rw [← e1]; exact hg hj)
  have := h.hm
  exact ⟨by omega, h.hj, by rw [h.hsh, sumG_take_succ hk], by simp; omega, a', p', h'⟩

theorem SmAt.stepG {T X : ByteArray} {out : List UInt8} {F G : List Ed} {k j : Nat} {sh : Int} {ms : List Ed} (h : SmAt T X out F G k j sh ms) (hj : j < G.length) (hf : ∀ hk : k < F.length, G[j].t ≤ F[k].f + sh) :
    SmAt T X out F G k (j + 1) sh (ms ++ [⟨G[j].f - sh, G[j].t - sh, G[j].s⟩]) := by
  obtain ⟨a, p, hs⟩ := h.semi
  rw [List.drop_eq_getElem_cons hj] at hs
  obtain ⟨a', p', h'⟩ := hs.stepG (fun f l e => by
    have hk : k < F.length := by
      rcases Nat.lt_or_ge k F.length with h | h
      · exact h
      · rw [List.drop_eq_nil_of_le h] at e; cases e
    rw [List.drop_eq_getElem_cons hk] at e
    injection e with e1 e2
    rw [← e1]; exact hf hk)
  have := h.hm
  exact ⟨h.hk, by omega, h.hsh, by simp; omega, a', p', h'⟩

/-- the first two that touch -/
theorem SmAt.start {T X : ByteArray} {out : List UInt8} {F G : List Ed} {k j : Nat} {sh : Int} {ms : List Ed} (h : SmAt T X out F G k j sh ms) (hk : k < F.length) (hj : j < G.length)
    (t1 : G[j].f ≤ F[k].f + sh + F[k].s.size) (t2 : F[k].f + sh ≤ G[j].t) :
    ∃ A fr l1 l2 y u : Nat, (A : Int) = min (F[k].f + sh) G[j].f ∧ (fr : Int) = A - sh ∧ TkAt T X F G (G.drop j) A fr j (k + 1) (j + 1) l1 l2 G[j] y u (sh + growE F[k]) ∧
      (∀ k' j' l1' l2' y' u' lg' sh', TkAt T X F G (G.drop j) A fr j k' j' l1' l2' lg' y' u' sh' → TkEnd F G k' j' l1' l2' lg' sh' → k < k' →
        ∃ a' : Nat, (a' : Int) = (max l2' u' : Nat) - sh' ∧ A ≤ max l2' u' ∧ max l2' u' ≤ X.size ∧ rising (max l2' u' : Nat) A ((G.drop j).take (j' - j)) = true ∧
          SmAt T X out F G k' j' sh' (ms ++ [⟨fr, a', mkB (editedL X (max l2' u') A ((G.drop j).take (j' - j)))⟩])) := by
  obtain ⟨a, p, hs⟩ := h.semi
  have hs1 := hs
  rw [List.drop_eq_getElem_cons hk, List.drop_eq_getElem_cons hj] at hs
  obtain ⟨A, fr, l1, l2, y, u, e1, e2, e3, e4, e5, b1, b2, b3, hM⟩ := Mid.start hs t1 t2
  rw [← List.drop_eq_getElem_cons hj] at hM
  refine ⟨A, fr, l1, l2, y, u, e1, e2, ⟨by omega, by omega, by omega, by omega, by rw [h.hsh, sumG_take_succ hk], ?_, ?_, ?_⟩, ?_⟩
  · rw [show k + 1 - 1 = k by omega, placed_at hk, ← h.hsh, ← e3, e4, e3]
  · rw [show j + 1 - 1 = j by omega]; exact List.getElem?_eq_getElem hj
  · rw [drop_take_snoc G j j (Nat.le_refl _) hj, Nat.sub_self, List.take_zero]; exact hM
  · intro k' j' l1' l2' y' u' lg' sh' hT hE hkk
    have hM' := hT.mid
    obtain ⟨a', g1, g2, g3, g4, g5⟩ := Mid.stop hs1 hM' b1 b2 b3
      (fun f l e => by
        have hk' : k' < F.length := by
          rcases Nat.lt_or_ge k' F.length with h | h
          · exact h
          · rw [List.drop_eq_nil_of_le h] at e; cases e
        rw [List.drop_eq_getElem_cons hk'] at e
        injection e with q1 q2
        rw [← q1]; exact hE.ef hk')
      (fun g l e => by
        have hj' : j' < G.length := by
          rcases Nat.lt_or_ge j' G.length with h | h
          · exact h
          · rw [List.drop_eq_nil_of_le h] at e; cases e
        rw [List.drop_eq_getElem_cons hj'] at e
        injection e with q1 q2
        rw [← q1]; exact hE.eg hj')
    have h1 := h.hm
    have h2 := hT.hj0
    exact ⟨a', g1, g3, g4, g5, ⟨hT.hk, hT.hj, hT.hsh, by simp; omega, a', _, g2⟩⟩
end Go.Proofs.YtkdnacniligjjaaDoor
