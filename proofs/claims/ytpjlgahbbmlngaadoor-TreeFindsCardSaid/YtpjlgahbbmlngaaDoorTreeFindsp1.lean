/-
  Trees: the specification's Find and Cover as plain functions, and that they are what the program finds.
-/
import Derived.Test.YtpjlgahbbmlngaaDoorTreeLeavesp32
namespace Go.Proofs.YtpjlgahbbmlngaaDoor
set_option linter.unusedVariables false
set_option linter.unusedSimpArgs false
open Go Go.RowKit

theorem walkK_append (pos : List Nat) : ∀ (a b : List Nd) (i : Nat), walkK pos i (a ++ b) = walkK pos i a ++ walkK pos (i + a.length) b
  | [], b, i => by simp [walkK]
  | y :: a, b, i => by
    rw [List.cons_append, walkK, walkK_append pos a b (i + 1), walkK, List.append_assoc]
    simp [Nat.add_assoc, Nat.add_comm 1]
theorem walkK_take (pos : List Nat) {l : List Nd} {k : Nat} {y : Nd} (h : l[k]? = some y) : walkK pos 0 (l.take (k + 1)) = walkK pos 0 (l.take k) ++ walkN (pos ++ [k]) y := by
  have hk := (List.getElem?_eq_some_iff.1 h).1
  rw [take_snoc h, walkK_append]
  simp [walkK, List.length_take, Nat.min_eq_left (Nat.le_of_lt hk)]
theorem partsL_cut : ∀ {l : List Nd} (k : Nat), partsL l = true → partsL (l.take k) = true
  | [], k, h => by simp [partsL]
  | y :: l, 0, h => by simp [partsL]
  | y :: l, k + 1, h => by
    simp only [partsL, Bool.and_eq_true, List.take_succ_cons] at h ⊢
    exact ⟨h.1, partsL_cut k h.2⟩
theorem sum_pos : ∀ {l : List Tok}, (∀ t ∈ l, 0 < t.2.size) → l ≠ [] → 0 < sumT l
  | [], _, h => absurd rfl h
  | t :: l, h, _ => by
    have := h t (.head _)
    simp only [sumT]; omega
theorem leaf_tok {p : Tok} (h : isTok p = true) : 0 < p.2.size := by
  rcases Nat.eq_zero_or_pos p.2.size with h0 | h0
  · unfold isTok lexesB at h
    rw [lexL_nil (by omega)] at h
    simp at h
  · exact h0
mutual
theorem leaves_pos : ∀ {n : Nd}, partsN n = true → ∀ t ∈ leavesN n, 0 < t.2.size
  | .mk k t l, h, u, hu => by
    simp only [partsN, Bool.and_eq_true] at h
    simp only [leavesN, List.mem_append] at hu
    rcases hu with hu | hu
    · split at hu
      · rename_i hk
        subst hk
        have h1 := h.1
        rw [isPart_one, Bool.and_eq_true] at h1
        simp only [List.mem_singleton] at hu
        subst hu
        exact leaf_tok h1.2
      · simp at hu
    · exact leavesL_pos h.2 u hu
theorem leavesL_pos : ∀ {l : List Nd}, partsL l = true → ∀ t ∈ leavesL l, 0 < t.2.size
  | [], _, u, hu => by simp [leavesL] at hu
  | n :: l, h, u, hu => by
    simp only [partsL, Bool.and_eq_true] at h
    simp only [leavesL, List.mem_append] at hu
    exact hu.elim (leaves_pos h.1 u) (leavesL_pos h.2 u)
end

-- Find
/-- the last of the first k kids that has leaves and begins at an offset or before it -/
def bestP (off : Int) (l : List Nd) : Nat → Int
  | 0 => -1
  | k + 1 => match l[k]? with
    | some y => if decide (0 < (leavesN y).length) && decide (((sumT (leavesL (l.take k)) : Nat) : Int) ≤ off) then (k : Int) else bestP off l k
    | none => bestP off l k
def rfindN : Nat → Nd → Int → List Nat
  | 0, _, _ => []
  | m + 1, n, off => if n.kind = 1 then [] else match n.kids[(bestP off n.kids n.kids.length).toNat]? with
    | some y => (bestP off n.kids n.kids.length).toNat :: rfindN m y (off - ((sumT (leavesL (n.kids.take (bestP off n.kids n.kids.length).toNat)) : Nat) : Int))
    | none => []
theorem bestP_last (off : Int) (l : List Nd) : ∀ m, m ≤ l.length →
    (bestP off l m = -1 ∧ ∀ j y, j < m → l[j]? = some y → ¬ (0 < (leavesN y).length ∧ ((sumT (leavesL (l.take j)) : Nat) : Int) ≤ off)) ∨
    ∃ k y, k < m ∧ bestP off l m = (k : Int) ∧ l[k]? = some y ∧ (0 < (leavesN y).length ∧ ((sumT (leavesL (l.take k)) : Nat) : Int) ≤ off) ∧ ∀ j z, k < j → j < m → l[j]? = some z → ¬ (0 < (leavesN z).length ∧ ((sumT (leavesL (l.take j)) : Nat) : Int) ≤ off)
  | 0, _ => .inl ⟨rfl, fun j y h => by omega⟩
  | m + 1, hm => by
    have e1 : l[m]? = some l[m] := List.getElem?_eq_getElem (by omega)
    simp only [bestP, e1]
    by_cases hh : (0 < (leavesN l[m]).length ∧ ((sumT (leavesL (l.take m)) : Nat) : Int) ≤ off)
    · rw [if_pos (by simp [hh.1, hh.2])]
      exact .inr ⟨m, _, Nat.lt_succ_self _, rfl, e1, hh, fun j s' h1 h2 => by omega⟩
    · rw [if_neg (by simpa using hh)]
      rcases bestP_last off l m (by omega) with ⟨h1, h2⟩ | ⟨k, y, h1, h2, h3, h4, h5⟩
      · refine .inl ⟨h1, fun j s hj hs => ?_⟩
        rcases Nat.lt_succ_iff_lt_or_eq.1 hj with h | rfl
        · exact h2 j s h hs
        · rw [e1] at hs; obtain rfl := Option.some.inj hs; exact hh
      · refine .inr ⟨k, y, by omega, h2, h3, h4, fun j s' hj1 hj2 hs => ?_⟩
        rcases Nat.lt_succ_iff_lt_or_eq.1 hj2 with h | rfl
        · exact h5 j s' hj1 h hs
        · rw [e1] at hs; obtain rfl := Option.some.inj hs; exact hh
theorem first_leaf : ∀ {l : List Nd}, leavesL l ≠ [] → ∃ j y, l[j]? = some y ∧ leavesN y ≠ [] ∧ leavesL (l.take j) = []
  | [], h => absurd rfl h
  | y :: l, h => by
    by_cases hy : leavesN y = []
    · simp only [leavesL, hy, List.nil_append] at h
      obtain ⟨j, z, h1, h2, h3⟩ := first_leaf h
      exact ⟨j + 1, z, by simpa using h1, h2, by simp [leavesL, hy, h3]⟩
    · exact ⟨0, y, rfl, hy, by simp [leavesL]⟩
theorem best_spec {off : Int} {l : List Nd} (h0 : 0 ≤ off) (hl : leavesL l ≠ []) : ∃ b y, bestP off l l.length = ((b : Nat) : Int) ∧ l[b]? = some y ∧ leavesN y ≠ [] ∧ ((sumT (leavesL (l.take b)) : Nat) : Int) ≤ off ∧
    (leavesL (l.drop (b + 1)) = [] ∨ off < ((sumT (leavesL (l.take b)) + sumT (leavesN y) : Nat) : Int)) := by
  rcases bestP_last off l l.length (Nat.le_refl _) with ⟨h1, h2⟩ | ⟨b, y, h1, h2, h3, h4, h5⟩
  · obtain ⟨j, y, k1, k2, k3⟩ := first_leaf hl
    exact absurd ⟨List.length_pos_iff.2 k2, by rw [k3]; simp [sumT]; omega⟩ (h2 j y (List.getElem?_eq_some_iff.1 k1).1 k1)
  · refine ⟨b, y, h2, h3, List.length_pos_iff.1 h4.1, h4.2, ?_⟩
    by_cases hd : leavesL (l.drop (b + 1)) = []
    · exact .inl hd
    · right
      obtain ⟨j, z, k1, k2, k3⟩ := first_leaf hd
      rw [List.getElem?_drop] at k1
      have k4 := h5 (b + 1 + j) z (by omega) (List.getElem?_eq_some_iff.1 k1).1 k1
      have k5 : leavesL (l.take (b + 1 + j)) = leavesL (l.take (b + 1)) := by
        rw [List.take_add, leavesL_append, k3, List.append_nil]
      rw [k5, leavesL_next h3, sumT_append] at k4
      have := List.length_pos_iff.2 k2
      omega
def skipC (O S : Int) (e : Nat) (ts : List Tok) : Prop := ts = [] ∨ (((e + sumT ts : Nat) : Int) ≤ O ∧ ((e + sumT ts : Nat) : Int) < S)
theorem skipC_append {O S : Int} {e : Nat} {a b : List Tok} (h : skipC O S e (a ++ b)) : skipC O S e a ∧ skipC O S (e + sumT a) b := by
  rcases h with h | ⟨h1, h2⟩
  · obtain ⟨ha, hb⟩ := List.append_eq_nil_iff.1 h
    exact ⟨.inl ha, .inl hb⟩
  · rw [sumT_append] at h1 h2
    exact ⟨.inr ⟨by omega, by omega⟩, .inr ⟨by omega, by omega⟩⟩
mutual
theorem find_skip {O S : Int} (rest : List (List Nat × Nd)) : ∀ (n : Nd) (pos : List Nat) (e : Nat), partsN n = true → skipC O S e (leavesN n) → findL O S e (walkN pos n ++ rest) = findL O S (e + sumT (leavesN n)) rest
  | .mk k t l, pos, e, hp, hs => by
    simp only [partsN, Bool.and_eq_true] at hp
    simp only [walkN, List.cons_append, findL]
    by_cases hk : k = 1
    · subst hk
      have h1 := hp.1
      rw [isPart_one, Bool.and_eq_true] at h1
      obtain rfl := List.isEmpty_iff.1 h1.1
      simp only [leavesN, leavesL, if_true, List.append_nil, sumT] at hs ⊢
      have hs2 := hs.resolve_left (by simp)
      simp only [sumT] at hs2
      have hh : ¬ hitF O S (e + t.2.size) (.mk 1 t []) = true := by
        intro h
        unfold hitF at h
        simp only [Bool.and_eq_true, Bool.or_eq_true, decide_eq_true_eq] at h
        have := h.2
        omega
      rw [if_neg (by simpa only [Nd.tok] using hh)]
      simp [walkK, Nd.tok]
    · have ht := part_tok hp.1 hk
      simp only [leavesN, if_neg hk, List.nil_append] at hs ⊢
      rw [if_neg (by simp [hitF, Nd.kind, hk])]
      simp only [Nd.tok, ht, Nat.add_zero]
      exact find_skipK rest l pos 0 e hp.2 hs
theorem find_skipK {O S : Int} (rest : List (List Nat × Nd)) : ∀ (l : List Nd) (pos : List Nat) (i e : Nat), partsL l = true → skipC O S e (leavesL l) → findL O S e (walkK pos i l ++ rest) = findL O S (e + sumT (leavesL l)) rest
  | [], pos, i, e, _, _ => by simp [walkK, leavesL, sumT]
  | y :: l, pos, i, e, hp, hs => by
    simp only [partsL, Bool.and_eq_true] at hp
    simp only [leavesL] at hs ⊢
    obtain ⟨h1, h2⟩ := skipC_append hs
    rw [walkK, List.append_assoc, find_skip _ y _ e hp.1 h1, find_skipK rest l pos (i + 1) _ hp.2 h2, sumT_append, Nat.add_assoc]
end
theorem find_at {O S : Int} : ∀ (m : Nat) (n : Nd) (pos : List Nat) (e : Nat) (rest : List (List Nat × Nd)), partsN n = true → deepN n < m → leavesN n ≠ [] → (e : Int) ≤ O → ((e + sumT (leavesN n) : Nat) : Int) ≤ S →
    (O < ((e + sumT (leavesN n) : Nat) : Int) ∨ (O = ((e + sumT (leavesN n) : Nat) : Int) ∧ S = ((e + sumT (leavesN n) : Nat) : Int))) → findL O S e (walkN pos n ++ rest) = some (pos ++ rfindN m n (O - (e : Int)))
  | 0, _, _, _, _, _, h, _, _, _, _ => absurd h (Nat.not_lt_zero _)
  | m + 1, .mk k t l, pos, e, rest, hp, hd, hl, he, hS, hO => by
    have hdk := kids_deep (.mk k t l)
    simp only [partsN, Bool.and_eq_true] at hp
    simp only [walkN, List.cons_append, findL]
    by_cases hk : k = 1
    · subst hk
      have h1 := hp.1
      rw [isPart_one, Bool.and_eq_true] at h1
      obtain rfl := List.isEmpty_iff.1 h1.1
      simp only [leavesN, leavesL, if_true, List.append_nil, sumT] at hO
      have hh : hitF O S (e + t.2.size) (.mk 1 t []) = true := by
        unfold hitF
        simp only [Bool.and_eq_true, Bool.or_eq_true, decide_eq_true_eq]
        exact ⟨rfl, by omega⟩
      rw [if_pos (by simpa only [Nd.tok] using hh)]
      simp [rfindN, Nd.kind]
    · have ht := part_tok hp.1 hk
      simp only [leavesN, if_neg hk, List.nil_append] at hl hS hO
      rw [if_neg (by simp [hitF, Nd.kind, hk])]
      simp only [Nd.tok, ht, Nat.add_zero]
      obtain ⟨b, y, g1, g2, g3, g4, g5⟩ := best_spec (off := O - (e : Int)) (by omega) hl
      have hsplit : l = l.take b ++ y :: l.drop (b + 1) := by
        have h1 := (List.getElem?_eq_some_iff.1 g2)
        obtain ⟨hb, hy⟩ := h1
        rw [← hy, ← List.drop_eq_getElem_cons hb, List.take_append_drop]
      have hblen : (l.take b).length = b := by
        have := (List.getElem?_eq_some_iff.1 g2).1
        rw [List.length_take]; omega
      have hpy : partsN y = true := partsL_get hp.2 g2
      have hypos := sum_pos (leaves_pos hpy) g3
      have hsum : sumT (leavesL l) = sumT (leavesL (l.take b)) + (sumT (leavesN y) + sumT (leavesL (l.drop (b + 1)))) := by
        conv => lhs; rw [hsplit]
        rw [leavesL_append, sumT_append, leavesL, sumT_append]
      have hskip : skipC O S e (leavesL (l.take b)) := .inr ⟨by omega, by omega⟩
      have hw : walkK pos 0 l = walkK pos 0 (l.take b) ++ (walkN (pos ++ [b]) y ++ walkK pos (b + 1) (l.drop (b + 1))) := by
        conv => lhs; rw [hsplit]
        rw [walkK_append, walkK, hblen, Nat.zero_add]
      rw [hw, List.append_assoc, find_skipK _ _ _ _ _ (partsL_cut b hp.2) hskip, List.append_assoc]
      have hdy : deepN y < m := by
        have := deepL_at g2
        simp only [Nd.kids] at hdk
        omega
      have hcase : O < ((e + sumT (leavesL (l.take b)) + sumT (leavesN y) : Nat) : Int) ∨ (O = ((e + sumT (leavesL (l.take b)) + sumT (leavesN y) : Nat) : Int) ∧ S = ((e + sumT (leavesL (l.take b)) + sumT (leavesN y) : Nat) : Int)) := by
        rcases g5 with g5 | g5
        · rw [g5] at hsum
          simp only [sumT, Nat.add_zero] at hsum
          omega
        · omega
      rw [find_at m y (pos ++ [b]) (e + sumT (leavesL (l.take b))) _ hpy hdy g3 (by omega) (by omega) hcase]
      have hz : (O - (e : Int) - ((sumT (leavesL (l.take b)) : Nat) : Int)) = O - ((e + sumT (leavesL (l.take b)) : Nat) : Int) := by omega
      simp only [rfindN, Nd.kind, if_neg hk, Nd.kids, g1, Int.toNat_natCast, g2, hz]
      simp
theorem find_none {O S : Int} : ∀ (L : List (List Nat × Nd)) (e : Nat), leavesW L = [] → findL O S e L = none
  | [], _, _ => rfl
  | x :: L, e, h => by
    have h2 : leavesW (x :: L) = leafOf x ++ leavesW L := by simp [leavesW]
    rw [h2] at h
    obtain ⟨h3, h4⟩ := List.append_eq_nil_iff.1 h
    have hk : x.2.kind ≠ 1 := fun hk => by simp [leafOf, hk] at h3
    simp only [findL]
    rw [if_neg (by simp [hitF, hk])]
    exact find_none L _ h4
/-- what Find returns is what the specification finds -/
theorem findR_eq {n : Nd} {off : Int} {m : Nat} (hf : formedB n = true) (hm : deepN n < m) : findR n off = if off < 0 ∨ ((sumT (leavesN n) : Nat) : Int) < off then (2, []) else if leavesN n = [] then (5, []) else (0, rfindN m n off) := by
  have hfb := hf
  unfold formedB at hf
  simp only [Bool.and_eq_true, decide_eq_true_eq] at hf
  have hp := hf.1.1
  unfold findR
  rw [if_neg (by rw [hfb]; decide)]
  split
  · rfl
  · rename_i hr
    by_cases hl : leavesN n = []
    · rw [if_pos hl, find_none _ _ (by rw [leavesW_walkN]; exact hl)]
    · rw [if_neg hl]
      have h := find_at (O := off) (S := ((sumT (leavesN n) : Nat) : Int)) m n [] 0 [] hp hm hl (by omega) (by omega) (by omega)
      rw [List.append_nil] at h
      rw [h]
      simp

-- Cover
/-- the last of the first k kids whose span holds a span -/
def bestC (a c : Int) (l : List Nd) (e : Nat) : Nat → Int
  | 0 => -1
  | k + 1 => match l[k]? with
    | some y => if decide (((e + sumT (leavesL (l.take k)) : Nat) : Int) ≤ a) && decide (c ≤ ((e + sumT (leavesL (l.take k)) + sumT (leavesN y) : Nat) : Int)) then (k : Int) else bestC a c l e k
    | none => bestC a c l e k
def rcovN : Nat → Nd → Nat → Int → Int → List Nat
  | 0, _, _, _, _ => []
  | m + 1, n, e, a, c => if bestC a c n.kids e n.kids.length < 0 then [] else match n.kids[(bestC a c n.kids e n.kids.length).toNat]? with
    | some y => (bestC a c n.kids e n.kids.length).toNat :: rcovN m y (e + sumT (leavesL (n.kids.take (bestC a c n.kids e n.kids.length).toNat))) a c
    | none => []
theorem bestC_is (a c : Int) (l : List Nd) (e : Nat) : ∀ k, k ≤ l.length → (bestC a c l e k = -1 ∨ ∃ b y, b < k ∧ bestC a c l e k = ((b : Nat) : Int) ∧ l[b]? = some y ∧ ((e + sumT (leavesL (l.take b)) : Nat) : Int) ≤ a ∧ c ≤ ((e + sumT (leavesL (l.take b)) + sumT (leavesN y) : Nat) : Int))
  | 0, _ => .inl rfl
  | k + 1, hk => by
    have e1 : l[k]? = some l[k] := List.getElem?_eq_getElem (by omega)
    simp only [bestC, e1]
    split
    · rename_i h
      simp only [Bool.and_eq_true, decide_eq_true_eq] at h
      exact .inr ⟨k, _, Nat.lt_succ_self _, rfl, e1, h.1, h.2⟩
    · rcases bestC_is a c l e k (by omega) with h | ⟨b, y, h1, h2⟩
      · exact .inl h
      · exact .inr ⟨b, y, by omega, h2⟩
def holdsB (a c : Int) (s : Nat × Nat) : Bool := decide ((s.1 : Int) ≤ a) && decide (c ≤ (s.2 : Int))
def lastH (a c : Int) : List (List Nat × Nd) → List (Nat × Nat) → Option (List Nat)
  | x :: L, s :: sp => (lastH a c L sp).or (if holdsB a c s then some x.1 else none)
  | _, _ => none
theorem lastH_append (a c : Int) : ∀ (L1 L2 : List (List Nat × Nd)) (s1 s2 : List (Nat × Nat)), L1.length = s1.length → lastH a c (L1 ++ L2) (s1 ++ s2) = (lastH a c L2 s2).or (lastH a c L1 s1)
  | [], L2, [], s2, _ => by simp [lastH]
  | [], L2, _ :: _, s2, h => by simp at h
  | _ :: _, L2, [], s2, h => by simp at h
  | x :: L1, L2, s :: s1, s2, h => by
    simp only [List.cons_append, lastH]
    rw [lastH_append a c L1 L2 s1 s2 (by simpa using h), Option.or_assoc]
theorem lastH_cov (a c : Int) {L : List (List Nat × Nd)} {sp : List (Nat × Nat)} (h : L.length = sp.length) : ∀ k, k ≤ L.length → covK L sp a c k = (lastH a c (L.take k) (sp.take k)).getD []
  | 0, _ => by simp [covK, lastH]
  | k + 1, hk => by
    have e1 : L[k]? = some L[k] := List.getElem?_eq_getElem (by omega)
    have e2 : sp[k]? = some (sp[k]'(by omega)) := List.getElem?_eq_getElem (by omega)
    rw [take_snoc e1, take_snoc e2, lastH_append a c _ _ _ _ (by rw [List.length_take, List.length_take]; omega)]
    simp only [covK, e1, e2, lastH, Option.none_or]
    rw [lastH_cov a c h k (by omega)]
    by_cases hh : holdsB a c (sp[k]'(by omega)) = true
    · rw [if_pos hh]
      unfold holdsB at hh
      rw [if_pos hh]; simp
    · rw [if_neg hh]
      unfold holdsB at hh
      rw [if_neg hh]; simp
theorem cov_at (a c : Int) : ∀ (m : Nat) (n : Nd) (pos : List Nat) (e : Nat), partsN n = true → deepN n < m → lastH a c (walkN pos n) (spansN e n) = if holdsB a c (e, e + sumT (leavesN n)) then some (pos ++ rcovN m n e a c) else none
  | 0, _, _, _, _, h => absurd h (Nat.not_lt_zero _)
  | m + 1, n, pos, e, hp, hd => by
    have hdk := kids_deep n
    have hpl := partsN_kids hp
    have htot := totN_sum n hp
    have htok : n.kids ≠ [] → n.tok.2.size = 0 := fun hne => by
      cases n with
      | mk k t l =>
        simp only [partsN, Bool.and_eq_true] at hp
        exact (part_kids hp.1 hne).2
    have key : ∀ k, k ≤ n.kids.length → lastH a c (walkK pos 0 (n.kids.take k)) (spansL e (n.kids.take k)) = if bestC a c n.kids e k < 0 then none else match n.kids[(bestC a c n.kids e k).toNat]? with
        | some y => some (pos ++ (bestC a c n.kids e k).toNat :: rcovN m y (e + sumT (leavesL (n.kids.take (bestC a c n.kids e k).toNat))) a c)
        | none => none := by
      intro k
      induction k with
      | zero => intro _; simp [walkK, spansL, lastH, bestC]
      | succ k ih =>
        intro hk
        have e1 : n.kids[k]? = some n.kids[k] := List.getElem?_eq_getElem (by omega)
        have hpt : totL (n.kids.take k) = sumT (leavesL (n.kids.take k)) := totL_sum _ (partsL_cut k hpl)
        have hpy := partsL_get hpl e1
        have hdy : deepN n.kids[k] < m := by
          have := deepL_at e1
          omega
        rw [walkK_take pos e1, spansL_take e1, lastH_append a c _ _ _ _ (by rw [walkK_length, spansL_length]), cov_at a c m _ (pos ++ [k]) _ hpy hdy, ih (by omega), hpt]
        simp only [bestC, e1]
        by_cases hh : holdsB a c (e + sumT (leavesL (n.kids.take k)), e + sumT (leavesL (n.kids.take k)) + sumT (leavesN n.kids[k])) = true
        · rw [if_pos hh]
          unfold holdsB at hh
          simp only [hh, if_true, Option.some_or]
          rw [if_neg (by omega)]
          simp [e1]
        · rw [if_neg hh]
          unfold holdsB at hh
          simp only [hh]
          simp
    have hk := key n.kids.length (Nat.le_refl _)
    rw [List.take_length] at hk
    have hsp : spansL (e + n.tok.2.size) n.kids = spansL e n.kids := by
      by_cases hne : n.kids = []
      · rw [hne]; simp [spansL]
      · rw [htok hne]; rfl
    rw [walkN_eq, spansN_eq, hsp]
    simp only [lastH]
    rw [hk, htot]
    simp only [rcovN]
    rcases bestC_is a c n.kids e n.kids.length (Nat.le_refl _) with h | ⟨b, y, h1, h2, h3, h4, h5⟩
    · rw [h]
      simp
    · have hle : sumT (leavesL (n.kids.take b)) + sumT (leavesN y) ≤ sumT (leavesN n) := by
        have k1 := leavesL_cut n.kids (b + 1)
        rw [leavesL_next h3, sumT_append] at k1
        have := leavesN_kids n
        omega
      have hho : holdsB a c (e, e + sumT (leavesN n)) = true := by
        unfold holdsB
        simp only [Bool.and_eq_true, decide_eq_true_eq]
        omega
      simp only [hho, h2, if_true]
      rw [if_neg (by omega), if_neg (by omega)]
      simp [h3]
/-- what Cover returns is what the specification comes to -/
theorem coverR_eq {n : Nd} {a c : Int} {m : Nat} (hf : formedB n = true) (hm : deepN n < m) : coverR n a c = if a < 0 ∨ c < a ∨ ((sumT (leavesN n) : Nat) : Int) < c then (2, []) else (0, rcovN m n 0 a c) := by
  have hfb := hf
  unfold formedB at hf
  simp only [Bool.and_eq_true, decide_eq_true_eq] at hf
  have hp := hf.1.1
  unfold coverR
  rw [if_neg (by rw [hfb]; decide), totN_sum n hp]
  split
  · rfl
  · rename_i hr
    have hlen : (walkN [] n).length = (spansN 0 n).length := by rw [walkN_length, spansN_length]
    rw [lastH_cov a c hlen _ (Nat.le_refl _), List.take_length, hlen, List.take_length, cov_at a c m n [] 0 hp hm]
    have hho : holdsB a c (0, 0 + sumT (leavesN n)) = true := by
      unfold holdsB
      simp only [Bool.and_eq_true, decide_eq_true_eq]
      omega
    rw [hho]
    simp
end Go.Proofs.YtpjlgahbbmlngaaDoor
