/-
  Trees: the specification's Changed: plain functions, and that they say the same as the program's.
-/
import Derived.Test.YtpjlgahbbmlngaaDoorTreePutp1
namespace Go.Proofs.YtpjlgahbbmlngaaDoor
set_option linter.unusedVariables false
set_option linter.unusedSimpArgs false
set_option linter.unnecessarySimpa false
open Go Go.RowKit

/-- levels enough -/
def sameS (a b : Nd) : Bool := sameT (deepN a + 1) a b
/-- how many kids differ, and which one last -/
def dfA : Nat → List Nd → List Nd → Nat × Nat → Nat × Nat
  | i, x :: l, y :: k, q => if sameS x y = true then dfA (i + 1) l k q else dfA (i + 1) l k (q.1 + 1, i)
  | _, _, _, q => q
def rChR : Nat → Nd → Nd → List Nat
  | 0, _, _ => []
  | m + 1, a, b => if a.kind = b.kind ∧ a.kind ≠ 1 ∧ a.kids.length = b.kids.length then
      if (dfA 0 a.kids b.kids (0, 0)).1 = 1 then
        match a.kids[(dfA 0 a.kids b.kids (0, 0)).2]?, b.kids[(dfA 0 a.kids b.kids (0, 0)).2]? with
        | some x, some y => (dfA 0 a.kids b.kids (0, 0)).2 :: rChR m x y
        | _, _ => []
      else []
    else []
theorem dfA_step {l k : List Nd} {i : Nat} {x y : Nd} {q : Nat × Nat} (hx : l[i]? = some x) (hy : k[i]? = some y) :
    dfA i (l.drop i) (k.drop i) q = if sameS x y = true then dfA (i + 1) (l.drop (i + 1)) (k.drop (i + 1)) q else dfA (i + 1) (l.drop (i + 1)) (k.drop (i + 1)) (q.1 + 1, i) := by
  obtain ⟨h1, e1⟩ := List.getElem?_eq_some_iff.1 hx
  obtain ⟨h2, e2⟩ := List.getElem?_eq_some_iff.1 hy
  rw [List.drop_eq_getElem_cons h1, e1, List.drop_eq_getElem_cons h2, e2]
  rfl
theorem dfA_end {l k : List Nd} {i : Nat} {q : Nat × Nat} (h : l.length ≤ i) : dfA i (l.drop i) (k.drop i) q = q := by
  rw [List.drop_eq_nil_of_le h]
  cases k.drop i <;> rfl
theorem dfA_ge : ∀ (l k : List Nd) (i : Nat) (q : Nat × Nat), q.1 ≤ (dfA i l k q).1
  | [], [], _, _ => Nat.le_refl _
  | [], _ :: _, _, _ => Nat.le_refl _
  | _ :: _, [], _, _ => Nat.le_refl _
  | x :: l, y :: k, i, q => by
    simp only [dfA]
    split
    · exact dfA_ge l k _ _
    · exact Nat.le_trans (Nat.le_succ _) (dfA_ge l k (i + 1) (q.1 + 1, i))
/-- the other kid counts on -/
theorem dfA_at : ∀ (l k : List Nd) (i : Nat) (q : Nat × Nat), (dfA i l k q).1 = q.1 → dfA i l k q = q
  | [], [], _, _, _ => rfl
  | [], _ :: _, _, _, _ => rfl
  | _ :: _, [], _, _, _ => rfl
  | x :: l, y :: k, i, q, h => by
    simp only [dfA] at h ⊢
    split at h
    · rename_i hs
      rw [if_pos hs]; exact dfA_at l k _ _ h
    · have := dfA_ge l k (i + 1) (q.1 + 1, i)
      omega
/-- what chL says, by what differs -/
theorem chL_two (r : Nd → Nd → List Nat × Bool) : ∀ (l k : List Nd) (i : Nat) (pos : List Nat), l.length = k.length → (∀ x ∈ l, ∀ y, (r x y).2 = !(sameS x y)) →
    ∀ mny at', (dfA i l k (mny, at')).1 = mny → chL r i l k pos true = (pos, true)
  | [], [], _, _, _, _, _, _, _ => rfl
  | [], _ :: _, _, _, h, _, _, _, _ => by simp at h
  | _ :: _, [], _, _, h, _, _, _, _ => by simp at h
  | x :: l, y :: k, i, pos, hl, hr, mny, at', h => by
    simp only [chL, dfA] at h ⊢
    have h1 := hr x (.head _) y
    split at h
    · rename_i hs
      rw [if_pos (by rw [h1, hs]; rfl)]
      exact chL_two r l k (i + 1) pos (by simpa using hl) (fun z hz => hr z (.tail _ hz)) mny at' h
    · have := dfA_ge l k (i + 1) (mny + 1, i)
      simp only at this
      omega
theorem chL_more (r : Nd → Nd → List Nat × Bool) : ∀ (l k : List Nd) (i : Nat) (pos : List Nat), l.length = k.length → (∀ x ∈ l, ∀ y, (r x y).2 = !(sameS x y)) →
    ∀ mny at', mny < (dfA i l k (mny, at')).1 → chL r i l k pos true = ([], true)
  | [], [], _, _, _, _, _, _, h => by simp [dfA] at h
  | [], _ :: _, _, _, h, _, _, _, _ => by simp at h
  | _ :: _, [], _, _, h, _, _, _, _ => by simp at h
  | x :: l, y :: k, i, pos, hl, hr, mny, at', h => by
    simp only [chL, dfA] at h ⊢
    have h1 := hr x (.head _) y
    split at h
    · rename_i hs
      rw [if_pos (by rw [h1, hs]; rfl)]
      exact chL_more r l k (i + 1) pos (by simpa using hl) (fun z hz => hr z (.tail _ hz)) mny at' h
    · rename_i hs
      rw [if_neg (by rw [h1]; simpa using hs), if_pos trivial]
theorem chL_one (r : Nd → Nd → List Nat × Bool) : ∀ (l k : List Nd) (i : Nat) (at' : Nat), l.length = k.length → (∀ x ∈ l, ∀ y, (r x y).2 = !(sameS x y)) →
    chL r i l k [] false = (if (dfA i l k (0, at')).1 = 0 then ([], false) else if (dfA i l k (0, at')).1 = 1 then
      (match l[(dfA i l k (0, at')).2 - i]?, k[(dfA i l k (0, at')).2 - i]? with
        | some x, some y => (dfA i l k (0, at')).2 :: (r x y).1
        | _, _ => [], true) else ([], true)) ∧ ((dfA i l k (0, at')).1 = 1 → i ≤ (dfA i l k (0, at')).2 ∧ (dfA i l k (0, at')).2 - i < l.length)
  | [], [], _, _, _, _ => ⟨by simp [chL, dfA], by simp [dfA]⟩
  | [], _ :: _, _, _, h, _ => by simp at h
  | _ :: _, [], _, _, h, _ => by simp at h
  | x :: l, y :: k, i, at', hl, hr => by
    have h1 := hr x (.head _) y
    have hl' : l.length = k.length := by simpa using hl
    have hr' : ∀ z ∈ l, ∀ y, (r z y).2 = !(sameS z y) := fun z hz => hr z (.tail _ hz)
    simp only [chL, dfA]
    by_cases hs : sameS x y = true
    · rw [if_pos hs, if_pos (by rw [h1, hs]; rfl)]
      obtain ⟨g1, g2⟩ := chL_one r l k (i + 1) at' hl' hr'
      refine ⟨?_, fun h => ?_⟩
      · rw [g1]
        by_cases h0 : (dfA (i + 1) l k (0, at')).1 = 0
        · rw [if_pos h0, if_pos h0]
        · rw [if_neg h0, if_neg h0]
          by_cases h2 : (dfA (i + 1) l k (0, at')).1 = 1
          · rw [if_pos h2, if_pos h2]
            have g3 := g2 h2
            have e : (dfA (i + 1) l k (0, at')).2 - i = ((dfA (i + 1) l k (0, at')).2 - (i + 1)) + 1 := by omega
            rw [e]
            simp only [List.getElem?_cons_succ]
          · rw [if_neg h2, if_neg h2]
      · have g3 := g2 h
        simp only [List.length_cons]
        omega
    · rw [if_neg hs, if_neg (by rw [h1]; simpa using hs), if_neg (by decide)]
      have hge := dfA_ge l k (i + 1) (0 + 1, i)
      simp only at hge
      by_cases h2 : (dfA (i + 1) l k (0 + 1, i)).1 = 1
      · have h3 := dfA_at l k (i + 1) (0 + 1, i) h2
        rw [chL_two r l k (i + 1) _ hl' hr' (0 + 1) i h2]
        rw [h3]
        simp
      · rw [chL_more r l k (i + 1) _ hl' hr' (0 + 1) i (by omega)]
        rw [if_neg (by omega), if_neg h2]
        exact ⟨rfl, fun h => absurd h h2⟩
/-- the one that differs differs -/
theorem dfA_diff : ∀ (l k : List Nd) (i at' : Nat), l.length = k.length → (dfA i l k (0, at')).1 = 1 → ∀ {x y : Nd}, l[(dfA i l k (0, at')).2 - i]? = some x → k[(dfA i l k (0, at')).2 - i]? = some y → sameS x y = false
  | [], [], _, _, _, h, _, _, _, _ => by simp [dfA] at h
  | [], _ :: _, _, _, h, _, _, _, _, _ => by simp at h
  | _ :: _, [], _, _, h, _, _, _, _, _ => by simp at h
  | u :: l, v :: k, i, at', hl, h, x, y, hx, hy => by
    simp only [dfA] at h hx hy
    by_cases hs : sameS u v = true
    · rw [if_pos hs] at h hx hy
      have g := (chL_one (fun a b => ([], !(sameS a b))) l k (i + 1) at' (by simpa using hl) (fun _ _ _ => rfl)).2 h
      have e : (dfA (i + 1) l k (0, at')).2 - i = ((dfA (i + 1) l k (0, at')).2 - (i + 1)) + 1 := by omega
      rw [e] at hx hy
      simp only [List.getElem?_cons_succ] at hx hy
      exact dfA_diff l k (i + 1) at' (by simpa using hl) h hx hy
    · rw [if_neg hs] at h hx hy
      have h3 := dfA_at l k (i + 1) (0 + 1, i) h
      rw [h3] at hx hy
      simp at hx hy
      subst hx
      subst hy
      simpa using hs
theorem sameT_S {m : Nat} {a b : Nd} (h : DepthN m a) : sameT m a b = sameS a b := sameT_eq m _ a b h (depthN_of _ a (Nat.lt_succ_self _))
theorem eqF_dfA {s : Nd → Nd → Bool} : ∀ (l k : List Nd) (i at' : Nat), l.length = k.length → (∀ x ∈ l, ∀ y, s x y = sameS x y) → eqF s l k = decide ((dfA i l k (0, at')).1 = 0)
  | [], [], _, _, _, _ => by simp [eqF, dfA]
  | [], _ :: _, _, _, h, _ => by simp at h
  | _ :: _, [], _, _, h, _ => by simp at h
  | x :: l, y :: k, i, at', hl, hs => by
    simp only [eqF, dfA]
    rw [hs x (.head _) y]
    by_cases h : sameS x y = true
    · rw [if_pos h, h, Bool.true_and]
      exact eqF_dfA l k (i + 1) at' (by simpa using hl) (fun z hz => hs z (.tail _ hz))
    · rw [if_neg h]
      have h2 : sameS x y = false := by simpa using h
      have := dfA_ge l k (i + 1) (0 + 1, i)
      simp only at this
      rw [h2, Bool.false_and, eq_comm, decide_eq_false_iff_not]
      omega
theorem sameS_eq (a b : Nd) : sameS a b = (alikeR a.kind b.kind a.tok b.tok a.kids.length b.kids.length && eqF (sameT (deepN a)) a.kids b.kids) := rfl
theorem kid_depth {a x : Nd} (hx : x ∈ a.kids) : deepN x < deepN a := by
  obtain ⟨k, hk⟩ := List.getElem?_of_mem hx
  have h1 := deepL_at hk
  have h2 := kids_deep a
  omega
theorem chR_two : ∀ (m : Nat) (a b : Nd), deepN a < m → (chR m a b).2 = !(sameS a b)
  | 0, _, _, h => absurd h (Nat.not_lt_zero _)
  | m + 1, a, b, h => by
    simp only [chR]
    rw [sameS_eq]
    by_cases hal : alikeR a.kind b.kind a.tok b.tok a.kids.length b.kids.length = false
    · rw [if_pos hal, hal]; rfl
    · rw [if_neg hal]
      have hal2 : alikeR a.kind b.kind a.tok b.tok a.kids.length b.kids.length = true := by simpa using hal
      have hlen : a.kids.length = b.kids.length := by
        unfold alikeR at hal2
        simp only [Bool.and_eq_true, decide_eq_true_eq] at hal2
        exact hal2.2.2
      obtain ⟨g1, _⟩ := chL_one (chR m) a.kids b.kids 0 0 hlen (fun x hx y => chR_two m x y (by have := kid_depth hx; omega))
      rw [g1, hal2, Bool.true_and, eqF_dfA a.kids b.kids 0 0 hlen (fun x hx y => sameT_S (depthN_of _ x (kid_depth hx)))]
      by_cases h0 : (dfA 0 a.kids b.kids (0, 0)).1 = 0
      · rw [if_pos h0, decide_eq_true h0]; rfl
      · rw [if_neg h0, decide_eq_false h0]
        split <;> rfl
theorem part_tokC {a : Nd} (h : partsN a = true) (h1 : a.kind ≠ 1) : a.tok = (0, ByteArray.empty) := by
  cases a with
  | mk k t l =>
    simp only [partsN, Bool.and_eq_true] at h
    have h2 := h.1
    have h1' : ¬ k = 1 := h1
    rw [isPart_else h1'] at h2
    split at h2
    · simp at h2
    · simp only [Bool.and_eq_true, decide_eq_true_eq] at h2
      exact h2.2
theorem part_leaf {a : Nd} (h : partsN a = true) (h1 : a.kind = 1) : a.kids = [] := by
  cases a with
  | mk k t l =>
    simp only [Nd.kind] at h1
    subst h1
    simp only [partsN, Bool.and_eq_true] at h
    have h2 := h.1
    rw [isPart_one, Bool.and_eq_true] at h2
    simpa [Nd.kids] using h2.1
theorem chR_rChR : ∀ (m : Nat) (a b : Nd), deepN a < m → partsN a = true → partsN b = true → sameS a b = false → (chR m a b).1 = rChR m a b
  | 0, _, _, h, _, _, _ => absurd h (Nat.not_lt_zero _)
  | m + 1, a, b, h, hpa, hpb, hs => by
    simp only [chR, rChR]
    by_cases hal : alikeR a.kind b.kind a.tok b.tok a.kids.length b.kids.length = false
    · rw [if_pos hal]
      by_cases hc : a.kind = b.kind ∧ a.kind ≠ 1 ∧ a.kids.length = b.kids.length
      · exfalso
        have ht : a.tok = b.tok := by rw [part_tokC hpa hc.2.1, part_tokC hpb (by rw [← hc.1]; exact hc.2.1)]
        unfold alikeR at hal
        rw [decide_eq_true hc.1, decide_eq_true ht, decide_eq_true hc.2.2] at hal
        cases hal
      · rw [if_neg hc]
    · rw [if_neg hal]
      have hal2 : alikeR a.kind b.kind a.tok b.tok a.kids.length b.kids.length = true := by simpa using hal
      have hal3 := hal2
      unfold alikeR at hal3
      simp only [Bool.and_eq_true, decide_eq_true_eq] at hal3
      have hlen := hal3.2.2
      have h1 : a.kind ≠ 1 := fun h1 => by
        have e1 := part_leaf hpa h1
        rw [sameS_eq, hal2, Bool.true_and, e1] at hs
        rw [e1] at hlen
        have e2 : b.kids = [] := List.eq_nil_of_length_eq_zero hlen.symm
        rw [e2] at hs
        simp [eqF] at hs
      rw [if_pos ⟨hal3.1, h1, hlen⟩]
      obtain ⟨g1, g2⟩ := chL_one (chR m) a.kids b.kids 0 0 hlen (fun x hx y => chR_two m x y (by have := kid_depth hx; omega))
      rw [g1]
      by_cases h0 : (dfA 0 a.kids b.kids (0, 0)).1 = 0
      · rw [if_pos h0, if_neg (by omega)]
      · rw [if_neg h0]
        by_cases h2 : (dfA 0 a.kids b.kids (0, 0)).1 = 1
        · rw [if_pos h2, if_pos h2]
          have g3 := g2 h2
          simp only [Nat.sub_zero] at g3 ⊢
          have hx0 : a.kids[(dfA 0 a.kids b.kids (0, 0)).2]? = some a.kids[(dfA 0 a.kids b.kids (0, 0)).2] := List.getElem?_eq_getElem g3.2
          have hy0 : b.kids[(dfA 0 a.kids b.kids (0, 0)).2]? = some b.kids[(dfA 0 a.kids b.kids (0, 0)).2] := List.getElem?_eq_getElem (by omega)
          rw [hx0, hy0]
          simp only
          congr 1
          have hd := kid_depth (List.mem_of_getElem? hx0)
          refine chR_rChR m _ _ (by omega) (partsL_get (partsN_kids hpa) hx0) (partsL_get (partsN_kids hpb) hy0) (dfA_diff _ _ 0 0 hlen h2 (by simpa using hx0) (by simpa using hy0))
        · rw [if_neg h2, if_neg h2]
end Go.Proofs.YtpjlgahbbmlngaaDoor
