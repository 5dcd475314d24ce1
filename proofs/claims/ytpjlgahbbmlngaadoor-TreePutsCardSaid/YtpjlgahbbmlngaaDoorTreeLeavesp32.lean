/-
  Trees: what stands at an index of a walk: its position, its span, what is at the position; Find's and Cover's results (plain functions).; Trees: what is small of a copy that is not large; what a walk of a statement keeps of it.; Arguments opened: tokens' cells.; Trees: a Node as an argument.
-/
import Derived.Test.YtpjlgahbbmlngaaDoorTreeLeavesp17
import Derived.Test.YtpjlgahbbmlngaaDoorTreeLeavesp19
import Derived.Test.YtpjlgahbbmlngaaDoorTreeLeavesp31
import Derived.Test.YtpjlgahbbmlngaaDoorTreeLeavesp26
import Derived.Test.YtpjlgahbbmlngaaDoorTreeLeavesp27
import Derived.Test.YtpjlgahbbmlngaaDoorTreeLeavesp29
import Derived.Test.YtpjlgahbbmlngaaDoorTreeLeavesp5
import Derived.Deep.Slices
import Derived.Lib.SmallJoins
namespace Go.Proofs.YtpjlgahbbmlngaaDoor
set_option linter.unusedVariables false
set_option linter.unusedSimpArgs false
open Go Go.RowKit

theorem part_kids {k : Int} {t : Tok} {l : List Nd} (h : isPartN (.mk k t l) = true) (hl : l ≠ []) : k ≠ 1 ∧ t.2.size = 0 := by
  by_cases hk : k = 1
  · subst hk
    rw [isPart_one, Bool.and_eq_true] at h
    exact absurd (List.isEmpty_iff.1 h.1) hl
  · refine ⟨hk, ?_⟩
    rw [isPart_else hk] at h
    split at h
    · cases h
    · simp only [Bool.and_eq_true, decide_eq_true_eq] at h
      rw [h.2]; rfl
theorem part_tok {k : Int} {t : Tok} {l : List Nd} (h : isPartN (.mk k t l) = true) (hk : k ≠ 1) : t.2.size = 0 := by
  rw [isPart_else hk] at h
  split at h
  · cases h
  · simp only [Bool.and_eq_true, decide_eq_true_eq] at h
    rw [h.2]; rfl
mutual
theorem endW_walkN (pos : List Nat) : ∀ n : Nd, endW (walkN pos n) = totN n
  | .mk k t l => by
    have h := endW_walkK pos 0 l
    simp only [walkN, endW, totN, h, Nd.tok]
theorem endW_walkK (pos : List Nat) (i : Nat) : ∀ l : List Nd, endW (walkK pos i l) = totL l
  | [] => rfl
  | n :: l => by rw [walkK, endW_append, totL, endW_walkN _ n, endW_walkK pos (i + 1) l]
end
mutual
theorem totN_sum : ∀ n : Nd, partsN n = true → totN n = sumT (leavesN n)
  | .mk k t l, h => by
    simp only [partsN, Bool.and_eq_true] at h
    have h2 := totL_sum l h.2
    simp only [totN, leavesN, sumT_append, h2]
    by_cases hk : k = 1
    · rw [if_pos hk]; simp [sumT]
    · rw [if_neg hk, part_tok h.1 hk]; simp [sumT]
theorem totL_sum : ∀ l : List Nd, partsL l = true → totL l = sumT (leavesL l)
  | [], _ => rfl
  | n :: l, h => by
    simp only [partsL, Bool.and_eq_true] at h
    simp only [totL, leavesL, sumT_append, totN_sum n h.1, totL_sum l h.2]
end
def intL (p : List Nat) : List Int := p.map fun (i : Nat) => (i : Int)
theorem intL_append (a b : List Nat) : intL (a ++ b) = intL a ++ intL b := by simp [intL]
/-- what stands at an index of a walk -/
structure AtW (pos : List Nat) (n : Nd) (e b k : Nat) (p : List Nat) (x : Nd) : Prop where
  split : ∃ q pre post spre spost, p = pos ++ q ∧ walkN pos n = pre ++ (walkN p x ++ post) ∧ pre.length = k ∧ spansN e n = spre ++ (spansN (e + endW pre) x ++ spost) ∧ spre.length = k ∧ goR n (intL q) b = some (x, b + endW pre)
mutual
theorem atW : ∀ (n : Nd) (pos : List Nat) (e b k : Nat) (p : List Nat) (x : Nd), partsN n = true → (walkN pos n)[k]? = some (p, x) → AtW pos n e b k p x
  | .mk kd t l, pos, e, b, 0, p, x, hp, h => by
    have h2 : (pos, Nd.mk kd t l) = (p, x) := by simpa [walkN] using h
    obtain ⟨rfl, rfl⟩ := Prod.mk.inj h2
    exact ⟨⟨[], [], [], [], [], by simp, by simp, rfl, by simp [endW], rfl, by simp [intL, goR, endW]⟩⟩
  | .mk kd t l, pos, e, b, k + 1, p, x, hp, h => by
    simp only [partsN, Bool.and_eq_true] at hp
    have h2 : (walkK pos 0 l)[k]? = some (p, x) := by simpa [walkN] using h
    obtain ⟨j, q, kid, pre, post, spre, spost, hj, rfl, h3, h4, h5, h6, h7⟩ := atWK l pos 0 (e + t.2.size) b k p x hp.2 h2
    have hne : l ≠ [] := by rintro rfl; simp at hj
    obtain ⟨hk1, ht0⟩ := part_kids hp.1 hne
    refine ⟨⟨j :: q, (pos, .mk kd t l) :: pre, post, (e, e + (t.2.size + totL l)) :: spre, spost, by simp, by simp [walkN, h3], by simp [h4], ?_, by simp [h6], ?_⟩⟩
    · rw [spansN, h5]
      simp only [endW, Nd.tok, List.cons_append]
      rw [show e + (t.2.size + endW pre) = e + t.2.size + endW pre by omega]
    · simp only [intL, List.map_cons, endW, Nd.tok, ht0, Nat.zero_add]
      rw [goR_kid (by omega) (by simpa [Nd.kids] using hj)]
      simpa [Nd.kids, intL] using h7
theorem atWK : ∀ (l : List Nd) (pos : List Nat) (i e b k : Nat) (p : List Nat) (x : Nd), partsL l = true → (walkK pos i l)[k]? = some (p, x) →
    ∃ j q kid pre post spre spost, l[j]? = some kid ∧ p = pos ++ ((i + j) :: q) ∧ walkK pos i l = pre ++ (walkN p x ++ post) ∧ pre.length = k ∧ spansL e l = spre ++ (spansN (e + endW pre) x ++ spost) ∧ spre.length = k ∧ goR kid (intL q) (b + sumT (leavesL (l.take j))) = some (x, b + endW pre)
  | [], pos, i, e, b, k, p, x, _, h => by simp [walkK] at h
  | y :: l, pos, i, e, b, k, p, x, hp, h => by
    simp only [partsL, Bool.and_eq_true] at hp
    rw [walkK] at h
    rcases Nat.lt_or_ge k (walkN (pos ++ [i]) y).length with hlt | hge
    · rw [List.getElem?_append_left hlt] at h
      obtain ⟨q, pre, post, spre, spost, rfl, h3, h4, h5, h6, h7⟩ := (atW y (pos ++ [i]) e b k p x hp.1 h).split
      refine ⟨0, q, y, pre, post ++ walkK pos (i + 1) l, spre, spost ++ spansL (e + totN y) l, rfl, by simp, by rw [walkK, h3]; simp, h4, by rw [spansL, h5]; simp, h6, ?_⟩
      simpa [leavesL, sumT] using h7
    · rw [List.getElem?_append_right hge] at h
      obtain ⟨j, q, kid, pre, post, spre, spost, hj, rfl, h3, h4, h5, h6, h7⟩ := atWK l pos (i + 1) (e + totN y) (b + totN y) _ p x hp.2 h
      refine ⟨j + 1, q, kid, walkN (pos ++ [i]) y ++ pre, post, spansN e y ++ spre, spost, by simpa using hj, by simp; omega, by rw [walkK, h3]; simp [Nat.add_assoc, Nat.add_comm 1 j], by simp [h4]; omega, ?_, ?_, ?_⟩
      · rw [spansL, h5, endW_append, endW_walkN]; simp [Nat.add_assoc]
      · rw [List.length_append, spansN_length, h6, walkN_length] at *
        omega
      · rw [List.take_succ_cons, leavesL, sumT_append, endW_append, endW_walkN, ← totN_sum y hp.1]
        rw [Nat.add_assoc] at h7
        rw [h7, Nat.add_assoc]
end
theorem walkK_get (pos : List Nat) : ∀ (l : List Nd) (i j : Nat) (kid : Nd), l[j]? = some kid → ∃ m : Nat, (walkK pos i l)[m]? = some (pos ++ [i + j], kid)
  | y :: l, i, 0, kid, h => by
    obtain rfl := Option.some.inj h
    exact ⟨0, by rw [walkK, walkN_eq]; simp⟩
  | y :: l, i, j + 1, kid, h => by
    obtain ⟨m, hm⟩ := walkK_get pos l (i + 1) j kid (by simpa using h)
    refine ⟨(walkN (pos ++ [i]) y).length + m, ?_⟩
    rw [walkK, List.getElem?_append_right (by omega), Nat.add_sub_cancel_left, hm]
    simp [Nat.add_assoc, Nat.add_comm 1 j]
/-- a kid comes later in the walk -/
theorem kid_later {n : Nd} {k i : Nat} {p : List Nat} {x kid : Nd} (hp : partsN n = true) (h : (walkN [] n)[k]? = some (p, x)) (hk : x.kids[i]? = some kid) : ∃ j : Nat, k < j ∧ (walkN [] n)[j]? = some (p ++ [i], kid) := by
  obtain ⟨q, pre, post, spre, spost, _, h3, h4, _⟩ := (atW n [] 0 0 k p x hp h).split
  obtain ⟨m, hm⟩ := walkK_get p x.kids 0 i kid hk
  have hml := (List.getElem?_eq_some_iff.1 hm).1
  refine ⟨k + 1 + m, by omega, ?_⟩
  rw [h3, List.getElem?_append_right (by omega), walkN_eq, show k + 1 + m - pre.length = m + 1 by omega]
  rw [List.cons_append, List.getElem?_cons_succ, List.getElem?_append_left hml, hm]
  simp
theorem at_span {n : Nd} {k : Nat} {p : List Nat} {x : Nd} (hp : partsN n = true) (h : (walkN [] n)[k]? = some (p, x)) : ∃ b, goR n (intL p) 0 = some (x, b) ∧ (spansN 0 n)[k]? = some (b, b + totN x) ∧ b = endW ((walkN [] n).take k) := by
  obtain ⟨q, pre, post, spre, spost, hq, h3, h4, h5, h6, h7⟩ := (atW n [] 0 0 k p x hp h).split
  rw [List.nil_append] at hq
  subst hq
  refine ⟨endW pre, by simpa using h7, ?_, ?_⟩
  · rw [h5, List.getElem?_append_right (by omega), h6, Nat.sub_self, spansN_eq]
    simp
  · rw [h3, ← h4]; simp
theorem goR_snoc : ∀ {p : List Int} {n x kid : Nd} {b b' i : Nat}, goR n p b = some (x, b') → x.kids[i]? = some kid → goR n (p ++ [(i : Int)]) b = some (kid, b' + sumT (leavesL (x.kids.take i)))
  | [], n, x, kid, b, b', i, h, hk => by
    simp only [goR, Option.some.injEq, Prod.mk.injEq] at h
    obtain ⟨rfl, rfl⟩ := h
    rw [List.nil_append, goR_kid (by omega) (by simpa using hk)]
    simp [goR]
  | j :: p, n, x, kid, b, b', i, h, hk => by
    rw [List.cons_append, goR_cons]
    rw [goR_cons] at h
    split at h
    · cases h
    · rename_i hn
      rw [if_neg hn]
      split at h
      · rename_i y hy
        exact goR_snoc h hk
      · cases h

-- Find's leaf holds the byte
theorem findL_hold {off size : Int} : ∀ (l : List (List Nat × Nd)) (e : Nat), l.all (fun x => isPartN x.2) = true → (e : Int) ≤ off → off < size → ((e + endW l : Nat) : Int) = size →
    ∃ k p x, findL off size e l = some p ∧ l[k]? = some (p, x) ∧ x.kind = 1 ∧ ((e + endW (l.take k) : Nat) : Int) ≤ off ∧ off < ((e + endW (l.take k) + x.tok.2.size : Nat) : Int)
  | [], e, _, h1, h2, h3 => by simp only [endW] at h3; omega
  | (p, x) :: l, e, hp, h1, h2, h3 => by
    rw [List.all_cons, Bool.and_eq_true] at hp
    by_cases hh : hitF off size (e + x.tok.2.size) x = true
    · have hh2 := hh
      simp only [hitF, Bool.and_eq_true, Bool.or_eq_true, decide_eq_true_eq] at hh2
      refine ⟨0, p, x, by simp [findL, hh], rfl, hh2.1, by simpa [endW] using h1, ?_⟩
      simp only [List.take_zero, endW, Nat.add_zero]
      rcases hh2.2 with h | h <;> omega
    · have hle : ((e + x.tok.2.size : Nat) : Int) ≤ off := by
        by_cases hk : x.kind = 1
        · simp only [hitF, Bool.and_eq_true, Bool.or_eq_true, decide_eq_true_eq, not_and, not_or] at hh
          have := (hh hk).1
          omega
        · cases x with
          | mk k t kl =>
            have := part_tok (l := kl) hp.1 hk
            simp only [Nd.tok] at *
            omega
      simp only [endW] at h3
      obtain ⟨k, p', x', g1, g2, g3, g4, g5⟩ := findL_hold l (e + x.tok.2.size) hp.2 hle h2 (by omega)
      refine ⟨k + 1, p', x', by simp only [findL]; rw [if_neg hh]; exact g1, by simpa using g2, g3, ?_, ?_⟩
      · simp only [List.take_succ_cons, endW]; omega
      · simp only [List.take_succ_cons, endW]; omega
theorem find_holds {n : Nd} {off : Nat} (hf : formedB n = true) (hlt : off < sumT (leavesN n)) : ∃ p x b, findR n off = (0, p) ∧ goR n (intL p) 0 = some (x, b) ∧ x.kind = 1 ∧ b ≤ off ∧ off < b + sumT (leavesN x) ∧ p.length ≤ 1000 := by
  have hfb := hf
  unfold formedB at hf
  simp only [Bool.and_eq_true, decide_eq_true_eq] at hf
  have hp := hf.1.1
  have hall := parts_walkN [] n
  rw [hp] at hall
  have hen := endW_walkN [] n
  rw [totN_sum n hp] at hen
  obtain ⟨k, p, x, g1, g2, g3, g4, g5⟩ := findL_hold (off := (off : Int)) (size := (sumT (leavesN n) : Nat)) (walkN [] n) 0 hall (by omega) (by omega) (by omega)
  obtain ⟨b, h1, _, hb⟩ := at_span hp g2
  have hx : sumT (leavesN x) = x.tok.2.size := by
    have hxp := List.all_eq_true.1 hall _ (List.mem_of_getElem? g2)
    cases x with
    | mk kd t l =>
      simp only [Nd.kind] at g3
      subst g3
      rw [isPart_one, Bool.and_eq_true] at hxp
      obtain rfl := List.isEmpty_iff.1 hxp.1
      simp [leavesN, leavesL, sumT, Nd.tok]
  have hlong := longW_mem (List.mem_of_getElem? g2)
  rw [longW_walkN] at hlong
  refine ⟨p, x, b, ?_, h1, g3, by omega, by omega, ?_⟩
  · unfold findR
    rw [if_neg (by rw [hfb]; decide), if_neg (by omega), g1]
  · have := hf.1.2
    simp only [List.length_nil, Nat.zero_add] at hlong
    omega

-- Cover's node is the last one that holds the span
theorem covK_last {L : List (List Nat × Nd)} {sp : List (Nat × Nat)} {s1 s2 : Int} (hlen : L.length = sp.length) : ∀ (m : Nat), m ≤ L.length →
    (covK L sp s1 s2 m = [] ∧ ∀ j s, j < m → sp[j]? = some s → ¬ ((s.1 : Int) ≤ s1 ∧ s2 ≤ (s.2 : Int))) ∨
    ∃ k x s, k < m ∧ L[k]? = some x ∧ sp[k]? = some s ∧ covK L sp s1 s2 m = x.1 ∧ ((s.1 : Int) ≤ s1 ∧ s2 ≤ (s.2 : Int)) ∧ ∀ j s', k < j → j < m → sp[j]? = some s' → ¬ ((s'.1 : Int) ≤ s1 ∧ s2 ≤ (s'.2 : Int))
  | 0, _ => .inl ⟨rfl, fun j s h => by omega⟩
  | m + 1, hm => by
    have e1 : L[m]? = some L[m] := List.getElem?_eq_getElem (by omega)
    have e2 : sp[m]? = some (sp[m]'(by omega)) := List.getElem?_eq_getElem (by omega)
    simp only [covK, e1, e2]
    by_cases hh : (((sp[m]'(by omega)).1 : Int) ≤ s1 ∧ s2 ≤ ((sp[m]'(by omega)).2 : Int))
    · rw [if_pos (by simp [hh.1, hh.2])]
      exact .inr ⟨m, _, _, Nat.lt_succ_self _, e1, e2, rfl, hh, fun j s' h1 h2 => by omega⟩
    · rw [if_neg (by simpa using hh)]
      rcases covK_last (s1 := s1) (s2 := s2) hlen m (by omega) with ⟨h1, h2⟩ | ⟨k, x, s, h1, h2, h3, h4, h5, h6⟩
      · refine .inl ⟨h1, fun j s hj hs => ?_⟩
        rcases Nat.lt_succ_iff_lt_or_eq.1 hj with h | rfl
        · exact h2 j s h hs
        · rw [e2] at hs; obtain rfl := Option.some.inj hs; exact hh
      · refine .inr ⟨k, x, s, by omega, h2, h3, h4, h5, fun j s' hj1 hj2 hs => ?_⟩
        rcases Nat.lt_succ_iff_lt_or_eq.1 hj2 with h | rfl
        · exact h6 j s' hj1 h hs
        · rw [e2] at hs; obtain rfl := Option.some.inj hs; exact hh
theorem cover_holds {n : Nd} {a c : Nat} (hf : formedB n = true) (hac : a ≤ c) (hc : c ≤ sumT (leavesN n)) : ∃ p x b, coverR n a c = (0, p) ∧ goR n (intL p) 0 = some (x, b) ∧ b ≤ a ∧ c ≤ b + sumT (leavesN x) ∧ p.length ≤ 1000 ∧
    ∀ i kid, x.kids[i]? = some kid → ¬ (b + sumT (leavesL (x.kids.take i)) ≤ a ∧ c ≤ b + sumT (leavesL (x.kids.take i)) + sumT (leavesN kid)) := by
  have hfb := hf
  unfold formedB at hf
  simp only [Bool.and_eq_true, decide_eq_true_eq] at hf
  have hp := hf.1.1
  have hall := parts_walkN [] n
  rw [hp] at hall
  have htot := totN_sum n hp
  have hlen : (walkN [] n).length = (spansN 0 n).length := by rw [walkN_length, spansN_length]
  rcases covK_last (s1 := (a : Int)) (s2 := (c : Int)) hlen (walkN [] n).length (Nat.le_refl _) with ⟨h1, h2⟩ | ⟨k, ⟨p, x⟩, s, h1, h2, h3, h4, h5, h6⟩
  · exact absurd ⟨by omega, by simp only [htot]; omega⟩ (h2 0 _ (by rw [walkN_length]; exact countN_pos n) (spansN_head n))
  · obtain ⟨b, g1, g2, g3⟩ := at_span hp h2
    rw [h3] at g2
    obtain rfl := Option.some.inj g2
    have hxp : partsN x = true := (goR_facts g1).2.2 hp
    have hxt := totN_sum x hxp
    have hlong := longW_mem (List.mem_of_getElem? h2)
    rw [longW_walkN] at hlong
    refine ⟨p, x, b, ?_, g1, by simp only at h5; omega, by simp only [hxt] at h5; omega, ?_, fun i kid hk => ?_⟩
    · unfold coverR
      rw [if_neg (by rw [hfb]; decide), if_neg (by omega), h4]
    · have := hf.1.2
      simp only [List.length_nil, Nat.zero_add] at hlong
      omega
    · obtain ⟨j, hj1, hj2⟩ := kid_later hp h2 hk
      obtain ⟨b', k1, k2, k3⟩ := at_span hp hj2
      have hkp : partsN kid = true := (goR_facts k1).2.2 hp
      have hkt := totN_sum kid hkp
      rw [intL_append] at k1
      have k4 := goR_snoc g1 hk
      have k5 : (kid, b') = (kid, b + sumT (leavesL (x.kids.take i))) := Option.some.inj (k1.symm.trans k4)
      have k6 := (Prod.mk.inj k5).2
      have := h6 j _ hj1 (List.getElem?_eq_some_iff.1 hj2).1 k2
      simp only [hkt] at this
      rw [← k6]
      omega
end Go.Proofs.YtpjlgahbbmlngaaDoor

namespace Go.Proofs.YtpjlgahbbmlngaaDoor
set_option linter.unusedVariables false
set_option linter.unusedSimpArgs false
open Go Go.RowKit

mutual
theorem sumT_gat : ∀ n : Nd, sumT (gatN n) = sumF (fun t => t.2.size) n
  | .mk k t l => by
    have := sumT_gatL l
    simp only [gatN, sumF]
    split
    · simp [sumT]
    · exact this
theorem sumT_gatL : ∀ l : List Nd, sumT (gatL l) = sumFL (fun t => t.2.size) l
  | [] => rfl
  | n :: l => by simp only [gatL, sumFL]; rw [sumT_append, sumT_gat n, sumT_gatL l]
end
/-- a copy that is not large -/
structure SmZ (z : Nd) : Prop where
  count : countN z ≤ 600
  sh : shN z
theorem SmZ.of_cut {most : Nat} (h1 : 1 ≤ most) (h6 : most ≤ 600) (n : Nd) : SmZ (cutM most n) :=
  ⟨by have := cutN_count n most 0 h1; unfold cutM; omega, cutN_sh n most 0⟩
theorem SmZ.size {z : Nd} (h : SmZ z) : sizeN z := by have := h.count; unfold sizeN; omega
theorem SmZ.sum {z : Nd} (h : SmZ z) : sumS z := by have := shN_sum h.sh; have := h.count; unfold sumS; omega
theorem SmZ.sm {z : Nd} (h : SmZ z) : smT z := shN_sm h.sh
theorem SmZ.sumW {z : Nd} (h : SmZ z) : sumF (fun t => t.2.size) z ≤ 12000600 := by have := shN_sumF h.sh; have := h.count; omega
theorem SmZ.gat {z : Nd} (h : SmZ z) : sumT (gatN z) ≤ 1000000000 := by rw [sumT_gat]; have := h.sumW; omega
theorem formed_gat {z : Nd} (h : formedB z = true) : gatN z = leavesN z := gatN_eq z (by
  unfold formedB at h
  simp only [Bool.and_eq_true] at h
  exact h.1.1)
theorem leavesN_le (z : Nd) : (leavesN z).length ≤ countN z := by
  have h1 := leavesW_le (walkN [] z)
  rw [leavesW_walkN, walkN_length] at h1
  exact h1
/-- the copy in a variable's block: what each later world still has of it -/
structure KeepZ (z : Nd) (A : Option Addr) (c b : Nat) (W : World) : Prop where
  box : W.heap[b]? = some (.cells (nodeCells z A c) 26 (0, 0))
  cap : z.kids.length ≤ c
  kids : KidsP (fun _ => True) W A z.kids
  tabs : Tabs W
theorem KeepZ.below {z : Nd} {A : Option Addr} {c b : Nat} {W W' : World} (h : KeepZ z A c b W) (hb : Below W.heap.size W W') : KeepZ z A c b W' :=
  ⟨(hb.block b (Array.getElem?_eq_some_iff.1 h.box).1).trans h.box, h.cap, h.kids.below hb (fun _ _ _ => trivial), h.tabs.below hb⟩
theorem KeepZ.node {z : Nd} {A : Option Addr} {c b : Nat} {W : World} (h : KeepZ z A c b W) : NodeV W (.agg #[.int .i64 z.kind, .int .i64 z.tok.1, .string z.tok.2, .slice A z.kids.length c]) z := ⟨A, c, rfl, h.kids.kids⟩
theorem KeepZ.nodeC {z : Nd} {A : Option Addr} {c b : Nat} {W : World} (h : KeepZ z A c b W) : NodeP (fun _ => True) W (.agg #[.int .i64 z.kind, .int .i64 z.tok.1, .string z.tok.2, .slice A z.kids.length c]) z := ⟨A, c, rfl, h.cap, h.kids⟩
theorem tabs_alloc {w : World} {o : Obj} (h : Tabs w) : Tabs (w.alloc o) := h.below ((Below.refl _ _).alloc (Nat.le_refl _) _)
theorem KeepZ.of {z : Nd} {A : Option Addr} {c : Nat} {w1 : World} {P : Nat → Prop} (hc : z.kids.length ≤ c) (hk : KidsP P w1 A z.kids) (hT : Tabs w1) : KeepZ z A c w1.heap.size (w1.alloc (.cells (nodeCells z A c) 26)) :=
  ⟨alloc_at _ _ _ rfl, hc, hk.below ((Below.refl _ _).alloc (Nat.le_refl _) _) (fun _ _ _ => trivial), tabs_alloc hT⟩
end Go.Proofs.YtpjlgahbbmlngaaDoor

namespace Go.Proofs.YtpjlgahbbmlngaaDoor
set_option linter.unusedVariables false
set_option linter.unusedSimpArgs false
open Go Go.Deep

theorem cellsTok : Tryd.prog.cellsOf 23 = 2 := by kernel_rfl
theorem cells3T : Tryd.prog.cellsOf 3 = 1 := by kernel_rfl
theorem cells9T : Tryd.prog.cellsOf 9 = 1 := by kernel_rfl
theorem build_listT {α : Type} {Q : Nat → α → Prop} : ∀ n : Nat, (∀ i, i < n → ∃ e, Q i e) → ∃ l : List α, l.length = n ∧ ∀ i e, l[i]? = some e → Q i e
  | 0, _ => ⟨[], rfl, fun i e h => by simp at h⟩
  | n + 1, h => by
    obtain ⟨l, hl, hq⟩ := build_listT n (fun i hi => h i (by omega))
    obtain ⟨e, he⟩ := h n (by omega)
    refine ⟨l ++ [e], by simp [hl], fun i x hx => ?_⟩
    rw [List.getElem?_append] at hx
    by_cases hi : i < l.length
    · rw [if_pos hi] at hx; exact hq i x hx
    · rw [if_neg hi] at hx
      have : i - l.length = 0 := by
        rcases Nat.eq_zero_or_pos (i - l.length) with h0 | h0
        · exact h0
        · rw [List.getElem?_eq_none (by simp; omega)] at hx; cases hx
      rw [this] at hx
      have hin : i = n := by omega
      simp at hx
      subst hx
      subst hin
      exact he
def tkC (p : Tok) : List Value := [.int .i64 p.1, .string p.2]

section
variable {H : Type} {enc : TypeId × Value → H} {w : World} {base : Nat} {spare : Nat → Bool} {held : Bool}

set_option maxRecDepth 100000 in
theorem tok_of {fuel : Nat} {cs : List Value} {x : DataW H × List MemPlace} (h : DataW.trod enc Tryd.prog w base spare held fuel 23 cs = some x) :
    ∃ p : Tok, cs = tkC p ∧ p.2.size ≤ maxLen := by
  obtain ⟨xs, n, _, _, hlen, hxs, hf⟩ := DataW.trod_struct Tryd.underlying23 h
  rw [cellsTok] at hlen
  match cs, hlen with
  | [c0, c1], _ =>
    have h0 := hf 0 { name := "Kind", type := 3, offset := 0, embedded := false, tag := "", pkgPath := "", byteOffset := 0 } rfl
    have h1 := hf 1 { name := "Text", type := 9, offset := 1, embedded := false, tag := "", pkgPath := "", byteOffset := 8 } rfl
    dsimp only at h0 h1
    rw [cells3T] at h0
    rw [cells9T] at h1
    have hx : ∀ i, i < xs.length → ∃ y, xs[i]? = some y := fun i hi => ⟨_, List.getElem?_eq_getElem hi⟩
    have h3 : xs.length = 2 := hxs
    obtain ⟨y0, e0⟩ := hx 0 (by omega)
    obtain ⟨y1, e1⟩ := hx 1 (by omega)
    rw [e0] at h0
    rw [e1] at h1
    obtain ⟨a, ha, _, wa⟩ := DataW.trod_int Tryd.underlying3 h0
    obtain ⟨s, hs, _, ws⟩ := DataW.trod_string Tryd.underlying9 h1
    simp at ha hs
    subst ha hs
    exact ⟨(a, s), rfl, ws⟩

end
end Go.Proofs.YtpjlgahbbmlngaaDoor

namespace Go.Proofs.YtpjlgahbbmlngaaDoor
set_option linter.unusedVariables false
set_option linter.unusedSimpArgs false
open Go Go.RowKit Go.Deep Go.WideShapes Go.ChangeShapes

theorem cellsNode : Tryd.prog.cellsOf 26 = 4 := by kernel_rfl
theorem cellsNodes : Tryd.prog.cellsOf 24 = 1 := by kernel_rfl
theorem spot_none {w : World} {a : Addr} {n : Nat} {cs : List Value} (h : w.cells? 0 a n = some cs) (hn : 0 < n) (h0 : ∀ u, cs[0]? = some u → u.oneCell' = true) (hc : ∃ k, cs[0]? = some (.int .i64 k)) : ∃ b off, a = ⟨b, off, none⟩ ∧ b < w.heap.size := by
  obtain ⟨_, _, hc0⟩ := World.cells?_some h
  have hc00 := hc0 0 hn
  obtain ⟨k, hk⟩ := hc
  rw [hk] at hc00
  have hsp : a.spot = none := by
    have hz : a.add 0 = a := by simp [Addr.add]
    rw [hz] at hc00
    simp only [World.cell?] at hc00
    split at hc00
    · split at hc00
      · simp at hc00
      · rename_i hns; simpa using hns
    · simp at hc00
  obtain ⟨b, off, sp⟩ := a
  simp only at hsp
  subst hsp
  refine ⟨b, off, rfl, ?_⟩
  rcases Nat.lt_or_ge b w.heap.size with hlt | hge
  · exact hlt
  · simp [World.cell?, Addr.add, Array.getElem?_eq_none hge] at hc00

section
variable {H : Type} {enc : TypeId × Value → H} {w : World} {spare : Nat → Bool} {held : Bool}
set_option maxRecDepth 100000 in
theorem node_cells (fuel : Nat) : ∀ {cs : List Value} {x : DataW H × List MemPlace}, DataW.trod enc Tryd.prog w 0 spare held fuel 26 cs = some x →
    ∃ y : Pn, cs = cells4 y ∧ (y.1.kids.length ≤ y.2.2 ∧ KidsP (fun _ => True) w y.2.1 y.1.kids) ∧ rawN y.1 := by
  induction fuel using Nat.strongRecOn with
  | _ fuel ih =>
    intro cs x h
    obtain ⟨xs, n, rfl, _, hlen, hxs, hf⟩ := DataW.trod_struct Tryd.underlying26 h
    rw [cellsNode] at hlen
    obtain ⟨c0, c1, c2, c3, rfl⟩ : ∃ c0 c1 c2 c3, cs = [c0, c1, c2, c3] := by
      match cs, hlen with
      | [c0, c1, c2, c3], _ => exact ⟨c0, c1, c2, c3, rfl⟩
    have h0 := hf 0 { name := "Kind", type := 3, offset := 0, embedded := false, tag := "", pkgPath := "", byteOffset := 0 } rfl
    have h1 := hf 1 { name := "Token", type := 23, offset := 1, embedded := false, tag := "", pkgPath := "", byteOffset := 8 } rfl
    have h2 := hf 2 { name := "Kids", type := 24, offset := 3, embedded := false, tag := "", pkgPath := "", byteOffset := 32 } rfl
    dsimp only at h0 h1 h2
    rw [cells3T] at h0
    rw [cellsTok] at h1
    rw [cellsNodes] at h2
    have h3 : xs.length = 3 := hxs
    have hx : ∀ i, i < xs.length → ∃ y, xs[i]? = some y := fun i hi => ⟨_, List.getElem?_eq_getElem hi⟩
    obtain ⟨y0, e0⟩ := hx 0 (by omega)
    obtain ⟨y1, e1⟩ := hx 1 (by omega)
    obtain ⟨y2, e2⟩ := hx 2 (by omega)
    rw [e0] at h0
    rw [e1] at h1
    rw [e2] at h2
    obtain ⟨k, hk, _, _⟩ := DataW.trod_int Tryd.underlying3 h0
    obtain ⟨⟨tk, tx⟩, hp, hps⟩ := tok_of h1
    simp [tkC] at hk hp
    obtain rfl := hk
    obtain ⟨rfl, rfl⟩ := hp
    rcases DataW.trod_slice Tryd.underlying24 h2 with ⟨hcs, _⟩ | ⟨a', len, cap, elems, rest, n', hn', hcs, _, hb, hl, hm, hel, hi, _⟩
    · simp at hcs
      subst hcs
      exact ⟨(.mk k (tk, tx) [], none, 0), rfl, ⟨Nat.le_refl _, fun hl => by simp [Nd.kids] at hl⟩, hps, Nat.zero_le _, trivial⟩
    · simp at hcs
      subst hcs
      rw [cellsNode] at hi
      obtain ⟨ys, hyl, hq⟩ := build_listT (Q := fun i (y : Pn) => w.cells? 0 (a'.add (i * 4)) 4 = some (cells4 y) ∧ (y.1.kids.length ≤ y.2.2 ∧ KidsP (fun _ => True) w y.2.1 y.1.kids) ∧ rawN y.1) len (fun i hi' => by
        have hii := hi i hi'
        rw [List.getElem?_eq_getElem (by omega)] at hii
        obtain ⟨cs', hc1, hc2⟩ := Option.bind_eq_some_iff.1 hii
        obtain ⟨y, rfl, hy1, hy2⟩ := ih n' (by omega) hc2
        exact ⟨y, hc1, hy1, hy2⟩)
      subst hyl
      refine ⟨(.mk k (tk, tx) (ys.map (·.1)), some a', cap), by simp [cells4, Nd.kind, Nd.tok, Nd.kids], ⟨by simpa [Nd.kids] using hl, fun hpos => ?_⟩, hps, by simp; omega, rawL_of fun z hz => ?_⟩
      · have hpos' : 0 < ys.length := by simpa [Nd.kids] using hpos
        have hz0 := (hq 0 _ (List.getElem?_eq_getElem hpos')).1
        obtain ⟨b, off, he, hbl⟩ := spot_none hz0 (by decide) (by intro u hu; simp [cells4] at hu; subst hu; rfl) ⟨_, rfl⟩
        have ha' : a' = ⟨b, off, none⟩ := by
          have hz : a'.add (0 * 4) = a' := by simp [Addr.add]
          rw [← hz]; exact he
        subst ha'
        refine ⟨b, off, rfl, NdsP.of_cells trivial hbl ys off fun i y hy => ?_⟩
        obtain ⟨q1, q2, _⟩ := hq i y hy
        obtain ⟨_, _, hcc⟩ := World.cells?_some q1
        have hadd : ∀ j : Nat, ((⟨b, off, none⟩ : Addr).add (i * 4)).add j = ⟨b, off + i * 4 + j, none⟩ := by
          intro j
          unfold Addr.add
          by_cases h1 : i * 4 = 0 <;> by_cases h2 : j = 0 <;> simp [h1, h2]
        have hcell : ∀ j, j < 4 → w.cell? ⟨b, off + i * 4 + j, none⟩ = (cells4 y)[j]? := fun j hj => by rw [← hadd]; exact hcc j hj
        exact ⟨hcell 0 (by decide), hcell 1 (by decide), hcell 2 (by decide), hcell 3 (by decide), q2.1, q2.2⟩
      · obtain ⟨y, hy, rfl⟩ := List.mem_map.1 hz
        obtain ⟨i, hi', rfl⟩ := List.getElem_of_mem hy
        exact (hq i _ (List.getElem?_eq_getElem hi')).2.2

set_option maxRecDepth 100000 in
theorem node_of_arg {r : Reach} {b0 : Nat} {v : Value} {d : DataW H} {ps : List MemPlace} (hval : Value.okWide Tryd.prog w r b0 26 v) (h : DataW.Trod enc Tryd.prog w 0 (fun _ => true) true 26 v d ps) :
    ∃ n : Nd, NodeV w v n ∧ rawN n := by
  obtain ⟨cs, rfl, hsz⟩ := okWide_struct Tryd.underlying26 hval
  obtain ⟨fuel, hf⟩ := h
  obtain ⟨y, hc, ⟨_, hk⟩, hr⟩ := node_cells fuel hf
  have hcs : cs = #[.int .i64 y.1.kind, .int .i64 y.1.tok.1, .string y.1.tok.2, .slice y.2.1 y.1.kids.length y.2.2] := by
    apply Array.ext'
    simpa [Value.cells, cells4] using hc
  subst hcs
  exact ⟨y.1, ⟨y.2.1, y.2.2, rfl, hk.kids⟩, hr⟩
end
end Go.Proofs.YtpjlgahbbmlngaaDoor
