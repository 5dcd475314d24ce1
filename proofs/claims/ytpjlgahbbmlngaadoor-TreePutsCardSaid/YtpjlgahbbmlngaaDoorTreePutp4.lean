/-
  Trees: what Put makes, and where it differs from the tree before.
-/
import Derived.Test.YtpjlgahbbmlngaaDoorTreeOwnp3
import Derived.Test.YtpjlgahbbmlngaaDoorTreePutp2
import Derived.Test.YtpjlgahbbmlngaaDoorTreeLeavesp32
namespace Go.Proofs.YtpjlgahbbmlngaaDoor
set_option linter.unusedVariables false
set_option linter.unusedSimpArgs false
set_option linter.unnecessarySimpa false
open Go Go.RowKit

theorem set_self {l : List Nd} {i : Nat} {k : Nd} (h : l[i]? = some k) : l.set i k = l := by
  apply List.ext_getElem?
  intro j
  rw [List.getElem?_set]
  split
  · rename_i e
    subst e
    have := (List.getElem?_eq_some_iff.1 h).1
    rw [if_pos this, h]
  · rfl
theorem putN_self : ∀ (p : List Nat) (n x : Nd), atN n p = some x → putN n p x = n
  | [], n, x, h => by simp only [atN, Option.some.injEq] at h; simp [putN, h]
  | i :: p, n, x, h => by
    simp only [atN] at h
    simp only [putN]
    cases hj : n.kids[i]? with
    | none => rfl
    | some k =>
      simp only [hj] at h ⊢
      rw [putN_self p k x h, set_self hj]
      cases n; rfl
theorem atN_putN : ∀ (p : List Nat) (n x y : Nd), atN n p = some x → atN (putN n p y) p = some y
  | [], n, x, y, h => rfl
  | i :: p, n, x, y, h => by
    simp only [atN] at h
    simp only [putN]
    cases hj : n.kids[i]? with
    | none => simp [hj] at h
    | some k =>
      simp only [hj] at h ⊢
      have hi : i < n.kids.length := (List.getElem?_eq_some_iff.1 hj).1
      simp only [atN, Nd.kids]
      have e : (n.kids.set i (putN k p y))[i]? = some (putN k p y) := by rw [List.getElem?_set]; simp [hi]
      have e2 : ((Nd.mk n.kind n.tok (n.kids.set i (putN k p y))).kids)[i]? = some (putN k p y) := e
      first
        | rw [e]; exact atN_putN p k x y h
        | (simp only [Nd.kids] at e; rw [e]; exact atN_putN p k x y h)
theorem goR_of_at : ∀ (p : List Nat) (n x : Nd) (b : Nat), atN n p = some x → ∃ b', goR n (intL p) b = some (x, b')
  | [], n, x, b, h => by
    simp only [atN, Option.some.injEq] at h
    exact ⟨b, by simp [intL, goR, h]⟩
  | i :: p, n, x, b, h => by
    simp only [atN] at h
    cases hj : n.kids[i]? with
    | none => simp [hj] at h
    | some k =>
      simp only [hj] at h
      have hi : i < n.kids.length := (List.getElem?_eq_some_iff.1 hj).1
      simp only [intL, List.map_cons]
      rw [goR_cons, if_neg (by omega)]
      simp only [Int.toNat_natCast, hj]
      exact goR_of_at p k x _ h
theorem eqF_eqN {r : Nd → Nd → Bool} (hr : ∀ x y, r x y = true → x = y) : ∀ {a b : List Nd}, eqF r a b = true → a = b
  | [], [], _ => rfl
  | [], _ :: _, h => by simp [eqF] at h
  | _ :: _, [], h => by simp [eqF] at h
  | x :: a, y :: b, h => by
    simp only [eqF, Bool.and_eq_true] at h
    rw [hr x y h.1, eqF_eqN hr h.2]
theorem sameT_eqN : ∀ (m : Nat) (a b : Nd), sameT m a b = true → a = b
  | 0, _, _, h => by simp [sameT] at h
  | m + 1, a, b, h => by
    simp only [sameT, Bool.and_eq_true] at h
    have h1 := h.1
    unfold alikeR at h1
    simp only [Bool.and_eq_true, decide_eq_true_eq] at h1
    have hk := eqF_eqN (sameT_eqN m) h.2
    cases a; cases b
    simp only [Nd.kind, Nd.tok, Nd.kids] at h1 hk
    rw [h1.1, h1.2.1, hk]
theorem sameS_self (a : Nd) : sameS a a = true := sameT_refl _ a (depthN_of _ a (Nat.lt_succ_self _))
theorem dfA_self : ∀ (l : List Nd) (i : Nat) (q : Nat × Nat), dfA i l l q = q
  | [], _, _ => rfl
  | x :: l, i, q => by simp only [dfA]; rw [if_pos (sameS_self x)]; exact dfA_self l _ _
theorem dfA_setI : ∀ (l : List Nd) (i0 j : Nat) (k w : Nd) (q : Nat × Nat), l[j]? = some k → dfA i0 l (l.set j w) q = if sameS k w = true then q else (q.1 + 1, i0 + j)
  | [], _, _, _, _, _, h => by simp at h
  | x :: l, i0, 0, k, w, q, h => by
    obtain rfl := Option.some.inj h
    simp only [List.set_cons_zero, dfA]
    rw [dfA_self, dfA_self]; rfl
  | x :: l, i0, j + 1, k, w, q, h => by
    simp only [List.set_cons_succ, dfA]
    rw [if_pos (sameS_self x), dfA_setI l (i0 + 1) j k w q (by simpa using h)]
    rw [show i0 + 1 + j = i0 + (j + 1) by omega]
/-- none differs -/
theorem dfA_none : ∀ (l k : List Nd) (i : Nat) (q : Nat × Nat), l.length = k.length → (dfA i l k q).1 = q.1 → l = k
  | [], [], _, _, _, _ => rfl
  | [], _ :: _, _, _, h, _ => by simp at h
  | _ :: _, [], _, _, h, _ => by simp at h
  | x :: l, y :: k, i, q, hl, h => by
    simp only [dfA] at h
    by_cases hs : sameS x y = true
    · rw [if_pos hs] at h
      rw [sameT_eqN _ _ _ hs, dfA_none l k (i + 1) q (by simpa using hl) h]
    · rw [if_neg hs] at h
      have := dfA_ge l k (i + 1) (q.1 + 1, i)
      simp only at this
      omega
/-- the one that differs, set, gives the other list -/
theorem dfA_put : ∀ (l k : List Nd) (i at' : Nat) (y : Nd), l.length = k.length → (dfA i l k (0, at')).1 = 1 → k[(dfA i l k (0, at')).2 - i]? = some y → l.set ((dfA i l k (0, at')).2 - i) y = k
  | [], [], _, _, _, _, h, _ => by simp [dfA] at h
  | [], _ :: _, _, _, _, h, _, _ => by simp at h
  | _ :: _, [], _, _, _, h, _, _ => by simp at h
  | u :: l, v :: k, i, at', y, hl, h, hy => by
    simp only [dfA] at h hy ⊢
    by_cases hs : sameS u v = true
    · rw [if_pos hs] at h hy ⊢
      have g := (chL_one (fun a b => ([], !(sameS a b))) l k (i + 1) at' (by simpa using hl) (fun _ _ _ => rfl)).2 h
      have e : (dfA (i + 1) l k (0, at')).2 - i = ((dfA (i + 1) l k (0, at')).2 - (i + 1)) + 1 := by omega
      rw [e] at hy ⊢
      simp only [List.getElem?_cons_succ] at hy
      rw [List.set_cons_succ, dfA_put l k (i + 1) at' y (by simpa using hl) h hy, sameT_eqN _ _ _ hs]
    · rw [if_neg hs] at h hy ⊢
      have h3 := dfA_at l k (i + 1) (0 + 1, i) h
      have h4 := dfA_none l k (i + 1) (0 + 1, i) (by simpa using hl) h
      rw [h3] at hy ⊢
      simp only [Nat.sub_self, List.getElem?_cons_zero, Option.some.injEq] at hy ⊢
      rw [List.set_cons_zero, hy, h4]
theorem alike_len {a b : Nd} (h : alikeR a.kind b.kind a.tok b.tok a.kids.length b.kids.length = true) : a.kind = b.kind ∧ a.tok = b.tok ∧ a.kids.length = b.kids.length := by
  unfold alikeR at h
  simpa only [Bool.and_eq_true, decide_eq_true_eq] using h
/-- where alone two trees differ: there the one put into the other gives it -/
theorem chR_put : ∀ (m : Nat) (a b : Nd), deepN a < m → sameS a b = false → ∃ z x, atN a (chR m a b).1 = some z ∧ atN b (chR m a b).1 = some x ∧ putN a (chR m a b).1 x = b
  | 0, _, _, h, _ => absurd h (Nat.not_lt_zero _)
  | m + 1, a, b, h, hs => by
    simp only [chR]
    by_cases hal : alikeR a.kind b.kind a.tok b.tok a.kids.length b.kids.length = false
    · rw [if_pos hal]; exact ⟨a, b, rfl, rfl, rfl⟩
    · rw [if_neg hal]
      have hal2 : alikeR a.kind b.kind a.tok b.tok a.kids.length b.kids.length = true := by simpa using hal
      obtain ⟨hk, ht, hlen⟩ := alike_len hal2
      obtain ⟨g1, g2⟩ := chL_one (chR m) a.kids b.kids 0 0 hlen (fun x hx y => chR_two m x y (by have := kid_depth hx; omega))
      rw [g1]
      by_cases h0 : (dfA 0 a.kids b.kids (0, 0)).1 = 0
      · rw [sameS_eq, hal2, Bool.true_and, eqF_dfA a.kids b.kids 0 0 hlen (fun x hx y => sameT_S (depthN_of _ x (kid_depth hx))), decide_eq_true h0] at hs
        cases hs
      · rw [if_neg h0]
        by_cases h1 : (dfA 0 a.kids b.kids (0, 0)).1 = 1
        · rw [if_pos h1]
          have g3 := g2 h1
          have hd := fun x y => @dfA_diff a.kids b.kids 0 0 hlen h1 x y
          have hp := fun y => dfA_put a.kids b.kids 0 0 y hlen h1
          generalize (dfA 0 a.kids b.kids (0, 0)).2 = i at g3 hd hp ⊢
          simp only [Nat.sub_zero] at g3 hd hp ⊢
          have hx : a.kids[i]? = some a.kids[i] := List.getElem?_eq_getElem g3.2
          have hy : b.kids[i]? = some (b.kids[i]'(by omega)) := List.getElem?_eq_getElem (by omega)
          generalize a.kids[i] = x at hx
          generalize b.kids[i]'_ = y at hy
          rw [hx, hy]
          obtain ⟨z, v, q1, q2, q3⟩ := chR_put m x y (by have := kid_depth (List.mem_of_getElem? hx); omega) (hd x y hx hy)
          refine ⟨z, v, by simp [atN, hx, q1], by simp [atN, hy, q2], ?_⟩
          simp only [putN, hx]
          rw [q3, hp y hy, hk, ht]
          cases b; rfl
        · rw [if_neg h1]; exact ⟨a, b, rfl, rfl, rfl⟩
/-- it is no shorter than where something was put -/
theorem chR_far : ∀ (m : Nat) (p : List Nat) (a z y : Nd), deepN a < m → atN a p = some z → sameS a (putN a p y) = false → p.length ≤ (chR m a (putN a p y)).1.length
  | 0, _, _, _, _, h, _, _ => absurd h (Nat.not_lt_zero _)
  | m + 1, [], _, _, _, _, _, _ => Nat.zero_le _
  | m + 1, i :: p, .mk ak at' al, z, y, h, hz, hs => by
    simp only [atN] at hz
    have hz' : (match al[i]? with | some k => atN k p | none => none) = some z := hz
    clear hz
    cases hj : al[i]? with
    | none => simp [hj] at hz'
    | some k =>
      simp only [hj] at hz'
      have hj' : (Nd.mk ak at' al).kids[i]? = some k := hj
      have e : putN (.mk ak at' al) (i :: p) y = .mk ak at' (al.set i (putN k p y)) := by simp only [putN, hj']; rfl
      rw [e] at hs ⊢
      have hdk : ∀ x ∈ al, deepN x < m := fun x hx => by have := kid_depth (a := .mk ak at' al) (x := x) hx; omega
      clear e hj' h
      have hal : alikeR ak ak at' at' al.length (al.set i (putN k p y)).length = true := by unfold alikeR; simp
      have hlen : al.length = (al.set i (putN k p y)).length := by simp
      have hset := dfA_setI al 0 i k (putN k p y) (0, 0) hj
      have hi : i < al.length := (List.getElem?_eq_some_iff.1 hj).1
      have e3 : (al.set i (putN k p y))[i]? = some (putN k p y) := by rw [List.getElem?_set]; simp [hi]
      by_cases hk : sameS k (putN k p y) = true
      · exfalso
        rw [← sameT_eqN _ _ _ hk, set_self hj, sameS_self] at hs
        cases hs
      · rw [if_neg hk] at hset
        simp only [Nat.zero_add] at hset
        have g1 := (chL_one (chR m) al (al.set i (putN k p y)) 0 0 hlen (fun x hx y => chR_two m x y (hdk x hx))).1
        have e4 : (chR (m + 1) (.mk ak at' al) (.mk ak at' (al.set i (putN k p y)))) = if alikeR ak ak at' at' al.length (al.set i (putN k p y)).length = false then (([] : List Nat), true) else chL (chR m) 0 al (al.set i (putN k p y)) [] false := rfl
        rw [e4, if_neg (by rw [hal]; decide), g1, hset]
        have := chR_far m p k z y (hdk k (List.mem_of_getElem? hj)) hz' (by simpa using hk)
        simp only [hj, e3, Nat.sub_zero]
        simp
        omega
mutual
theorem putN_sum : ∀ (n : Nd) (p : List Nat) (y : Nd), sumT (leavesN (putN n p y)) ≤ sumT (leavesN n) + sumT (leavesN y)
  | n, [], y => by simp [putN]
  | .mk k t l, i :: p, y => by
    simp only [putN, Nd.kids, Nd.kind, Nd.tok]
    split
    · rename_i z hz
      have := putL_sum l i p y z hz
      simp only [leavesN, sumT_append]; omega
    · omega
theorem putL_sum : ∀ (l : List Nd) (i : Nat) (p : List Nat) (y z : Nd), l[i]? = some z → sumT (leavesL (l.set i (putN z p y))) ≤ sumT (leavesL l) + sumT (leavesN y)
  | [], i, p, y, z, h => by simp at h
  | x :: l, 0, p, y, z, h => by
    obtain rfl := Option.some.inj h
    have := putN_sum x p y
    simp only [List.set_cons_zero, leavesL, sumT_append]; omega
  | x :: l, i + 1, p, y, z, h => by
    have := putL_sum l i p y z (by simpa using h)
    simp only [List.set_cons_succ, leavesL, sumT_append]; omega
end
theorem atN_deep : ∀ (p : List Nat) (n x : Nd), atN n p = some x → deepN x ≤ deepN n
  | [], n, x, h => by simp only [atN, Option.some.injEq] at h; rw [h]; exact Nat.le_refl _
  | i :: p, n, x, h => by
    simp only [atN] at h
    cases hj : n.kids[i]? with
    | none => simp [hj] at h
    | some k =>
      simp only [hj] at h
      have h1 := atN_deep p k x h
      have h2 := kid_depth (List.mem_of_getElem? hj)
      omega
/-- what stands in a tree that is formed is formed -/
theorem formed_part {n x : Nd} {p : List Nat} {b b' : Nat} (hf : formedB n = true) (hc : countN n ≤ 20000) (hg : goR n (intL p) b = some (x, b')) : formedB x = true := by
  obtain ⟨h1, _, h3⟩ := goR_facts hg
  have h2 := atN_deep p n x (goR_at p n x b b' hg)
  have h4 := leavesN_le x
  unfold formedB at hf ⊢
  simp only [Bool.and_eq_true, decide_eq_true_eq] at hf ⊢
  exact ⟨⟨h3 hf.1.1, by omega⟩, by omega⟩
end Go.Proofs.YtpjlgahbbmlngaaDoor
