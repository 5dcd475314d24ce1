/-
  Plain mathematics of layer 3: a token that ends ahead of a string's end is the same, whatever comes behind the string.; Plain mathematics of the specification of layer 3: its tests are those of the program.; A slice of strings in memory; the specification's lists of words and signs, and its has.
-/
import Derived.Test.YtgihkojlpaebiaaDoorTreeFormsp9
import Derived.Test.YtgihkojlpaebiaaDoorTreeFormsp5
namespace Go.Proofs.YtgihkojlpaebiaaDoor
set_option linter.unusedVariables false
set_option linter.unusedSimpArgs false

theorem u8x (b : UInt8) (n : Nat) (hn : n < 256) : (((b.toNat : Int) == (n : Int)) = true) ↔ b = UInt8.ofNat n := by
  rw [beq_iff_eq]
  constructor
  · intro h
    apply UInt8.toNat_inj.1
    rw [UInt8.toNat_ofNat_of_lt' (by omega)]
    omega
  · intro h
    rw [h, UInt8.toNat_ofNat_of_lt' (by omega)]
theorem begin6_b0x {s : ByteArray} (h : beginK s = 6) : b0 s = 34 := by
  cases hq : (((b0 s).toNat : Int) == 34)
  · exfalso
    unfold beginK at h
    rw [hq] at h
    simp only [Bool.false_eq_true, if_false] at h
    repeat' split at h
    all_goals omega
  · exact (u8x _ 34 (by omega)).1 hq
theorem byt_append (s t : ByteArray) : byt (s ++ t) = byt s ++ byt t := by unfold byt; rw [ByteArray.data_append, Array.toList_append]
theorem size_append (s t : ByteArray) : (s ++ t).size = s.size + t.size := by rw [← byt_length, byt_append, List.length_append, byt_length, byt_length]
theorem tail_append (s t : ByteArray) {k : Nat} (h : k ≤ s.size) : (s ++ t).extract k (s ++ t).size = s.extract k s.size ++ t := by
  apply bytj
  rw [byt_drop, byt_append, byt_append, byt_drop, List.drop_append_of_le_length (by rw [byt_length]; exact h)]
theorem head_append (s t : ByteArray) {n : Nat} (h : n ≤ s.size) : (s ++ t).extract 0 n = s.extract 0 n := by
  apply bytj
  rw [byt_take, byt_take, byt_append, List.take_append_of_le_length (by rw [byt_length]; exact h)]
theorem run_append {p : UInt8 → Bool} : ∀ (a b : List UInt8), runL p a < a.length → runL p (a ++ b) = runL p a
  | [], b, h => by simp at h
  | c :: a, b, h => by
    simp only [runL, List.cons_append] at h ⊢
    split
    · rename_i hp
      rw [if_pos hp] at h
      simp only [List.length_cons] at h
      rw [run_append a b (by omega)]
    · rfl
theorem b0_append {s : ByteArray} (t : ByteArray) (h : 0 < s.size) : b0 (s ++ t) = b0 s := by
  have hl := byt_length s
  unfold b0
  rw [byt_append]
  cases h2 : byt s with
  | nil => rw [h2] at hl; simp at hl; omega
  | cons a l => rfl
theorem b1_append {s : ByteArray} (t : ByteArray) (h : 1 < s.size) : b1 (s ++ t) = b1 s := by
  have hl := byt_length s
  unfold b1
  rw [byt_append]
  cases h2 : byt s with
  | nil => rw [h2] at hl; simp at hl; omega
  | cons a l =>
    cases l with
    | nil => rw [h2] at hl; simp at hl; omega
    | cons c l => rfl
theorem preB_append {s p : ByteArray} (t : ByteArray) (h : p.size ≤ s.size) : preB (s ++ t) p = preB s p := by
  unfold preB
  rw [head_append s t h, size_append, decide_eq_true (show p.size ≤ s.size + t.size by omega), decide_eq_true h]
theorem preB_more {s p : ByteArray} (t : ByteArray) (h : preB s p = true) : preB (s ++ t) p = true := by
  rw [preB_append t (preB_le h)]; exact h
theorem signs_two : ∀ k, k < 22 → (signsB[k]?.getD ByteArray.empty).size ≤ 2 := by decide +kernel
theorem signs_pos : ∀ k, k < 22 → 0 < (signsB[k]?.getD ByteArray.empty).size := by decide +kernel
theorem signTo_append {s : ByteArray} (t : ByteArray) (h : 2 ≤ s.size) : ∀ k, k ≤ 22 → signTo (s ++ t) k = signTo s k
  | 0, _ => rfl
  | k + 1, hk => by
    have h2 := signs_two k (by omega)
    simp only [signTo]
    rw [preB_append t (by omega), signTo_append t h k (by omega)]
theorem signTo_more {s : ByteArray} (t : ByteArray) : ∀ k, k ≤ 22 → 0 < signTo s k → 0 < signTo (s ++ t) k
  | 0, _, h => h
  | k + 1, hk, h => by
    have hp := signs_pos k (by omega)
    simp only [signTo] at h ⊢
    by_cases h1 : preB (s ++ t) (signsB[k]?.getD ByteArray.empty) = true
    · rw [if_pos h1]; exact hp
    · rw [if_neg h1]
      have h2 : ¬ preB s (signsB[k]?.getD ByteArray.empty) = true := fun h3 => h1 (preB_more t h3)
      rw [if_neg h2] at h
      exact signTo_more t k (by omega) h
theorem beginK_append {s : ByteArray} (t : ByteArray) (h : 2 ≤ s.size) : beginK (s ++ t) = beginK s := by
  unfold beginK
  rw [b0_append t (by omega), preB_append t (show slashes.size ≤ s.size from h), show signN (s ++ t) = signN s from signTo_append t h 22 (Nat.le_refl _)]
theorem beginK_more {s : ByteArray} (t : ByteArray) (hz : 0 < s.size) (h : beginK s ≠ 8) : beginK (s ++ t) ≠ 8 := by
  intro h8
  apply h
  unfold beginK at h8 ⊢
  rw [b0_append t hz] at h8
  by_cases c1 : blankB (b0 s) = true
  · rw [if_pos c1] at h8; omega
  rw [if_neg c1] at h8 ⊢
  by_cases c2 : preB (s ++ t) slashes = true
  · rw [if_pos c2] at h8; omega
  have c2' : ¬ preB s slashes = true := fun h3 => c2 (preB_more t h3)
  rw [if_neg c2] at h8
  rw [if_neg c2']
  by_cases c3 : digitB (b0 s) = true
  · rw [if_pos c3] at h8; omega
  rw [if_neg c3] at h8 ⊢
  by_cases c4 : partB (b0 s) = true
  · rw [if_pos c4] at h8; omega
  rw [if_neg c4] at h8 ⊢
  by_cases c5 : ((b0 s).toNat : Int) == 34
  · rw [if_pos c5] at h8; omega
  rw [if_neg c5] at h8 ⊢
  by_cases c6 : 0 < signN (s ++ t)
  · rw [if_pos c6] at h8; omega
  have c6' : ¬ 0 < signN s := fun h3 => c6 (signTo_more t 22 (Nat.le_refl _) h3)
  rw [if_neg c6']
theorem plainP_append {s : ByteArray} (t : ByteArray) (hz : 0 < s.size) (h : 2 ≤ s.size ∨ ((b0 s).toNat : Int) ≠ 92) : plainP (s ++ t) = plainP s := by
  unfold plainP
  rw [b0_append t hz]
  by_cases c1 : (((b0 s).toNat : Int) == 34) = true
  · rw [if_pos c1, if_pos c1]
  rw [if_neg c1, if_neg c1]
  by_cases c2 : (((b0 s).toNat : Int) == 10) = true
  · rw [if_pos c2, if_pos c2]
  rw [if_neg c2, if_neg c2]
  by_cases c3 : (((b0 s).toNat : Int) == 92) = true
  · rw [if_pos c3, if_pos c3]
    have h2 : 2 ≤ s.size := by
      rcases h with h | h
      · exact h
      · exact absurd (eq_of_beq c3) h
    unfold pairP
    have hu : ¬ (s ++ t).size < 2 := by rw [size_append]; omega
    have hs : ¬ s.size < 2 := by omega
    rw [b1_append t (by omega), if_neg hu, if_neg hs]
  · rw [if_neg c3, if_neg c3]
theorem plainP_pos {s : ByteArray} (h : 0 < (plainP s).2) : 2 ≤ s.size ∨ ((b0 s).toNat : Int) ≠ 92 := by
  by_cases c3 : ((b0 s).toNat : Int) = 92
  · left
    unfold plainP at h
    rw [c3] at h
    have : (0 : Nat) < (pairP s).2 := h
    unfold pairP at this
    by_cases hs : s.size < 2
    · rw [if_pos hs] at this; simp at this
    · omega
  · exact .inr c3
theorem textF_append : ∀ (f g : Nat) (s t : ByteArray) (k n : Nat), f ≤ g → textF f s k = some n → textF g (s ++ t) k = some n
  | 0, _, _, _, _, _, _, h => by cases h
  | f + 1, g, s, t, k, n, hg, h => by
    obtain ⟨g, rfl⟩ : ∃ g', g = g' + 1 := ⟨g - 1, by omega⟩
    simp only [textF] at h ⊢
    by_cases h0 : s.size = 0
    · rw [if_pos h0] at h; cases h
    · rw [if_neg h0] at h
      rw [if_neg (by rw [size_append]; omega)]
      by_cases h1 : 0 < (plainP s).2
      · have hp := plainP_append t (by omega) (plainP_pos h1)
        have hle := plainP_le (s := s) (by omega)
        rw [if_pos h1] at h
        rw [hp, if_pos h1, tail_append s t hle.1]
        exact textF_append f g _ t _ n (by omega) h
      · rw [if_neg h1] at h
        by_cases h3 : (((b0 s).toNat : Int) == 34) = true
        · have hp := plainP_append (s := s) t (by omega) (.inr (by have := eq_of_beq h3; omega))
          rw [if_pos h3] at h
          rw [hp, if_neg h1, b0_append t (by omega), if_pos h3]
          exact h
        · rw [if_neg h3] at h; cases h
theorem textF_none : ∀ (f g : Nat) (s t : ByteArray) (k : Nat), s.size ≤ f → ¬ noFeed (byt s) → textF f s k = none → textF g (s ++ t) k = none
  | _, 0, _, _, _, _, _, _ => rfl
  | 0, g + 1, s, t, k, hf, hn, h => by
    exfalso; apply hn
    rw [List.eq_nil_of_length_eq_zero (l := byt s) (by rw [byt_length]; omega)]
    exact noFeed_nil
  | f + 1, g + 1, s, t, k, hf, hn, h => by
    have h0 : ¬ s.size = 0 := by
      intro h0; apply hn
      rw [List.eq_nil_of_length_eq_zero (l := byt s) (by rw [byt_length]; omega)]
      exact noFeed_nil
    simp only [textF] at h ⊢
    rw [if_neg h0] at h
    rw [if_neg (by rw [size_append]; omega)]
    have hts := tail_size s (plainP s).2
    by_cases h1 : 0 < (plainP s).2
    · have hp := plainP_append t (by omega) (plainP_pos h1)
      have hle := plainP_le (s := s) (by omega)
      rw [if_pos h1] at h
      rw [hp, if_pos h1, tail_append s t hle.1]
      refine textF_none f g _ t _ (by omega) ?_ h
      intro hnf
      apply hn
      rw [byt_drop] at hnf
      have := noFeed_append (plain_nf s) hnf
      rwa [List.take_append_drop] at this
    · rw [if_neg h1] at h
      by_cases h3 : (((b0 s).toNat : Int) == 34) = true
      · rw [if_pos h3] at h; cases h
      · have h4 : 2 ≤ s.size ∨ ((b0 s).toNat : Int) ≠ 92 := by
          by_cases c3 : ((b0 s).toNat : Int) = 92
          · left
            by_cases hs : 2 ≤ s.size
            · exact hs
            · exfalso; apply hn
              have hl := byt_length s
              have e0 : b0 s = (byt s).getD 0 0 := rfl
              intro x hx
              cases h5 : byt s with
              | nil => rw [h5] at hx; cases hx
              | cons a l =>
                cases l with
                | nil =>
                  rw [h5] at hx e0
                  have hxa : x = a := List.mem_singleton.1 hx
                  have e0' : b0 s = a := e0
                  rw [hxa, ← e0', beq_eq_false_iff_ne]; omega
                | cons c l => rw [h5] at hl; simp at hl; omega
          · exact .inr c3
        have hp := plainP_append t (by omega) h4
        rw [hp, if_neg h1, b0_append t (by omega), if_neg h3]
theorem badF_append (s t : ByteArray) : ∀ (f g k : Nat), k + f = s.size → f ≤ g → badF f s k < s.size → badF g (s ++ t) k = badF f s k
  | 0, g, k, hk, _, h => by simp only [badF] at h; omega
  | f + 1, g, k, hk, hg, h => by
    obtain ⟨g, rfl⟩ : ∃ g', g = g' + 1 := ⟨g - 1, by omega⟩
    have hts := tail_size s k
    simp only [badF] at h ⊢
    rw [tail_append s t (by omega)]
    by_cases h8 : beginK (s.extract k s.size) = 8
    · rw [if_pos h8] at h ⊢
      have hle := badF_le s f (k + 1)
      rw [if_pos (by rw [beginK_append t (by omega)]; exact h8)]
      exact badF_append s t f g (k + 1) (by omega) (by omega) h
    · rw [if_neg h8, if_neg (beginK_more t (by omega) h8)]
theorem run_feed (l : List UInt8) (h : runL lineB l < l.length) : ¬ noFeed l := by
  intro hn
  have hh : (l.drop (runL lineB l)).head? = some (l[runL lineB l]'h) := by rw [List.drop_eq_getElem_cons h]; rfl
  have h1 := run_end (p := lineB) l _ hh
  have h2 := hn _ (List.getElem_mem h)
  unfold lineB at h1
  rw [bne_eq_false_iff_eq] at h1
  rw [beq_eq_false_iff_ne] at h2
  exact h2 h1

/-- a token that ends ahead of the end -/
theorem firstP_append (s t : ByteArray) (hz : 0 < s.size) (h : (firstP s).2 < s.size) : firstP (s ++ t) = firstP s := by
  have hle := firstP_le s hz
  have hs2 : 2 ≤ s.size := by omega
  have hb := beginK_append t hs2
  have hl := byt_length s
  unfold firstP at h ⊢
  rw [hb]
  rcases beginK_is s with hk | hk | hk | hk | hk | hk | hk
  · rw [hk] at h ⊢
    have h' : runL blankB (byt s) < s.size := h
    show (1, runL blankB (byt (s ++ t))) = ((1 : Int), runL blankB (byt s))
    rw [byt_append, run_append _ _ (by omega)]
  · rw [hk] at h ⊢
    have h' : runL lineB (byt s) < s.size := h
    show (2, runL lineB (byt (s ++ t))) = ((2 : Int), runL lineB (byt s))
    rw [byt_append, run_append _ _ (by omega)]
  · rw [hk] at h ⊢
    have h' : runL partB (byt s) < s.size := h
    show nameP (s ++ t) = nameP s
    unfold nameP
    rw [byt_append, run_append _ _ (by omega), head_append s t (by omega)]
  · rw [hk] at h ⊢
    have h' : runL digitB (byt s) < s.size := h
    show (5, runL digitB (byt (s ++ t))) = ((5 : Int), runL digitB (byt s))
    rw [byt_append, run_append _ _ (by omega)]
  · rw [hk] at h ⊢
    have h' : (textP s).2 < s.size := h
    show textP (s ++ t) = textP s
    have htl := tail_append s t (show 1 ≤ s.size by omega)
    have hts := tail_size s 1
    unfold textP at h' ⊢
    cases he : textE s with
    | some n =>
      have h1 : textE (s ++ t) = some n := by
        unfold textE at he ⊢
        rw [htl]
        exact textF_append _ _ _ t 1 n (by rw [size_append]; omega) he
      rw [h1]
    | none =>
      rw [he] at h'
      simp only at h'
      have hnf := run_feed (byt s) (by omega)
      have h1 : textE (s ++ t) = none := by
        unfold textE at he ⊢
        rw [htl]
        refine textF_none _ _ _ t 1 (by omega) ?_ he
        intro hn
        apply hnf
        rw [byt_drop] at hn
        have hq : b0 s = 34 := begin6_b0x hk
        intro x hx
        rw [← List.take_append_drop 1 (byt s)] at hx
        rcases List.mem_append.1 hx with hx | hx
        · have e0 : b0 s = (byt s).getD 0 0 := rfl
          cases h5 : byt s with
          | nil => rw [h5] at hx; simp at hx
          | cons a l =>
            rw [h5] at hx e0
            have hxa : x = a := List.mem_singleton.1 hx
            have e0' : b0 s = a := e0
            rw [hxa, ← e0', hq]; rfl
        · exact hn x hx
      rw [h1, byt_append, run_append _ _ (by omega)]
  · rw [hk]
    show (7, signN (s ++ t)) = ((7 : Int), signN s)
    rw [show signN (s ++ t) = signN s from signTo_append t hs2 22 (Nat.le_refl _)]
  · rw [hk] at h ⊢
    have h' : badN s < s.size := h
    show (8, badN (s ++ t)) = ((8 : Int), badN s)
    unfold badN at h' ⊢
    rw [badF_append s t (s.size - 1) ((s ++ t).size - 1) 1 (by omega) (by rw [size_append]; omega) h']
end Go.Proofs.YtgihkojlpaebiaaDoor

namespace Go.Proofs.YtgihkojlpaebiaaDoor
set_option linter.unusedVariables false
set_option linter.unusedSimpArgs false

def letterB (b : UInt8) : Bool := decide (97 ≤ (b.toNat : Int)) && decide ((b.toNat : Int) ≤ 122) || (decide (65 ≤ (b.toNat : Int)) && decide ((b.toNat : Int) ≤ 90) || (b.toNat : Int) == 95)
theorem part_letter (b : UInt8) : partB b = (letterB b || digitB b) := by
  unfold partB letterB greatB
  cases decide (97 ≤ (b.toNat : Int)) <;> cases decide ((b.toNat : Int) ≤ 122) <;> cases decide (65 ≤ (b.toNat : Int)) <;> cases decide ((b.toNat : Int) ≤ 90) <;> cases ((b.toNat : Int) == 95) <;> cases digitB b <;> rfl
theorem letter_digit {b : UInt8} (h : letterB b = true) : digitB b = false := by
  unfold letterB at h; unfold digitB
  simp only [Bool.or_eq_true, Bool.and_eq_true, decide_eq_true_eq, beq_iff_eq] at h
  simp only [Bool.and_eq_false_iff, decide_eq_false_iff_not]
  omega

theorem ext_of {s : ByteArray} {m : Nat} (l : List UInt8) : s.extract 0 m = mkB l ↔ (byt s).take m = l := by
  constructor
  · intro h
    have := congrArg byt h
    rw [byt_take] at this
    rw [this]; exact mkB_toList l
  · intro h
    apply bytj
    rw [byt_take, h]; exact (mkB_toList l).symm
theorem ext_ext (t : ByteArray) (k m : Nat) : (t.extract k t.size).extract 0 m = t.extract k (k + m) := by
  apply bytj
  rw [byt_take, byt_drop]
  show _ = sub t k (k + m)
  rw [sub_eq, Nat.add_sub_cancel_left]; rfl
theorem ext_ext' (t : ByteArray) {k e : Nat} (h : k ≤ e) : t.extract k e = (t.extract k t.size).extract 0 (e - k) := by
  rw [ext_ext, Nat.add_sub_cancel' h]

theorem pre_one {s : ByteArray} (x : UInt8) (hz : 0 < s.size) : preB s (mkB [x]) = decide (b0 s = x) := by
  unfold preB b0
  rw [mkB_size]
  obtain ⟨b, l, hb⟩ : ∃ b l, byt s = b :: l := by
    have := byt_length s
    cases h : byt s with
    | nil => rw [h] at this; simp at this; omega
    | cons b l => exact ⟨b, l, rfl⟩
  rw [show decide ((([x] : List UInt8)).length ≤ s.size) = true by simp; omega, Bool.true_and]
  congr 1
  rw [eq_iff_iff, show ([x] : List UInt8).length = 1 from rfl, ext_of, hb]
  simp
theorem pre_two {s : ByteArray} (x y : UInt8) (hz : 0 < s.size) : preB s (mkB [x, y]) = (decide (2 ≤ s.size) && decide (b0 s = x) && decide (b1 s = y)) := by
  unfold preB b0 b1
  rw [mkB_size]
  by_cases h2 : 2 ≤ s.size
  · obtain ⟨b, c, l, hb⟩ : ∃ b c l, byt s = b :: c :: l := by
      have := byt_length s
      match h : byt s with
      | [] => rw [h] at this; simp at this; omega
      | [b] => rw [h] at this; simp at this; omega
      | b :: c :: l => exact ⟨b, c, l, rfl⟩
    rw [show decide ((([x, y] : List UInt8)).length ≤ s.size) = true by simp; omega, Bool.true_and, decide_eq_true h2, Bool.true_and, ← Bool.decide_and]
    congr 1
    rw [eq_iff_iff, show ([x, y] : List UInt8).length = 2 from rfl, ext_of, hb]
    simp
  · rw [show decide ((([x, y] : List UInt8)).length ≤ s.size) = false by simp; omega, decide_eq_false h2]
    rfl

/-- is a text in a list? -/
def hasB (l : List ByteArray) (s : ByteArray) : Bool := l.any fun x => decide (s = x)
/-- the size of the sign at the beginning, by the specification -/
def signAt (s : ByteArray) : Nat := if 2 ≤ s.size ∧ hasB signsB (s.extract 0 2) = true then 2 else if hasB signsB (s.extract 0 1) = true then 1 else 0

theorem one_mem {s : ByteArray} (hz : 0 < s.size) : hasB signsB (s.extract 0 1) = (decide (b0 s = 33) || decide (b0 s = 40) || decide (b0 s = 41) || decide (b0 s = 42) || decide (b0 s = 43) || decide (b0 s = 44) || decide (b0 s = 45) || decide (b0 s = 46) || decide (b0 s = 58) || decide (b0 s = 59) || decide (b0 s = 60) || decide (b0 s = 61) || decide (b0 s = 91) || decide (b0 s = 93) || decide (b0 s = 123) || decide (b0 s = 124) || decide (b0 s = 125)) := by
  obtain ⟨b, l, hb⟩ : ∃ b l, byt s = b :: l := by
    have := byt_length s
    cases h : byt s with
    | nil => rw [h] at this; simp at this; omega
    | cons b l => exact ⟨b, l, rfl⟩
  unfold hasB signsB b0
  rw [hb]
  rw [Bool.eq_iff_iff]
  simp only [decide_eq_true_eq, List.any_cons, List.any_nil, Bool.false_eq_true, ext_of, hb, Bool.or_eq_true, or_false, List.take_succ_cons, List.take_zero, List.getD_cons_zero, List.cons.injEq, and_true, reduceCtorEq, and_false, false_or, or_assoc]
theorem two_mem {s : ByteArray} (h2 : 2 ≤ s.size) : hasB signsB (s.extract 0 2) = (decide (b0 s = 38 ∧ b1 s = 38) || decide (b0 s = 45 ∧ b1 s = 62) || decide (b0 s = 61 ∧ b1 s = 61) || decide (b0 s = 61 ∧ b1 s = 62) || decide (b0 s = 124 ∧ b1 s = 124)) := by
  obtain ⟨b, c, l, hb⟩ : ∃ b c l, byt s = b :: c :: l := by
    have := byt_length s
    match h : byt s with
    | [] => rw [h] at this; simp at this; omega
    | [b] => rw [h] at this; simp at this; omega
    | b :: c :: l => exact ⟨b, c, l, rfl⟩
  unfold hasB signsB b0 b1
  rw [hb]
  rw [Bool.eq_iff_iff]
  simp only [decide_eq_true_eq, List.any_cons, List.any_nil, Bool.false_eq_true, ext_of, hb, Bool.or_eq_true, or_false, List.take_succ_cons, List.take_zero, List.getD_cons_zero, List.getD_cons_succ, List.cons.injEq, and_true, reduceCtorEq, and_false, false_or, or_assoc]

theorem signN_eq {s : ByteArray} (hz : 0 < s.size) : signN s = if preB s (mkB [125]) then 1 else if preB s (mkB [124, 124]) then 2 else if preB s (mkB [124]) then 1 else if preB s (mkB [123]) then 1 else if preB s (mkB [93]) then 1 else if preB s (mkB [91]) then 1 else if preB s (mkB [61, 62]) then 2 else if preB s (mkB [61, 61]) then 2 else if preB s (mkB [61]) then 1 else if preB s (mkB [60]) then 1 else if preB s (mkB [59]) then 1 else if preB s (mkB [58]) then 1 else if preB s (mkB [46]) then 1 else if preB s (mkB [45, 62]) then 2 else if preB s (mkB [45]) then 1 else if preB s (mkB [44]) then 1 else if preB s (mkB [43]) then 1 else if preB s (mkB [42]) then 1 else if preB s (mkB [41]) then 1 else if preB s (mkB [40]) then 1 else if preB s (mkB [38, 38]) then 2 else if preB s (mkB [33]) then 1 else 0 := rfl

set_option maxRecDepth 100000 in
theorem sign_bytes : ∀ n, n < 256 → ∀ z c38 c61 c62 c124 : Bool,
    (if (z && (decide (UInt8.ofNat n = 38) && c38 || (decide (UInt8.ofNat n = 45) && c62 || (decide (UInt8.ofNat n = 61) && c61 || (decide (UInt8.ofNat n = 61) && c62 || decide (UInt8.ofNat n = 124) && c124))))) = true then 2 else if (decide (UInt8.ofNat n = 33) || decide (UInt8.ofNat n = 40) || decide (UInt8.ofNat n = 41) || decide (UInt8.ofNat n = 42) || decide (UInt8.ofNat n = 43) || decide (UInt8.ofNat n = 44) || decide (UInt8.ofNat n = 45) || decide (UInt8.ofNat n = 46) || decide (UInt8.ofNat n = 58) || decide (UInt8.ofNat n = 59) || decide (UInt8.ofNat n = 60) || decide (UInt8.ofNat n = 61) || decide (UInt8.ofNat n = 91) || decide (UInt8.ofNat n = 93) || decide (UInt8.ofNat n = 123) || decide (UInt8.ofNat n = 124) || decide (UInt8.ofNat n = 125)) = true then 1 else 0)
    = (if decide (UInt8.ofNat n = 125) = true then 1 else if (z && decide (UInt8.ofNat n = 124) && c124) = true then 2 else if decide (UInt8.ofNat n = 124) = true then 1 else if decide (UInt8.ofNat n = 123) = true then 1 else if decide (UInt8.ofNat n = 93) = true then 1 else if decide (UInt8.ofNat n = 91) = true then 1 else if (z && decide (UInt8.ofNat n = 61) && c62) = true then 2 else if (z && decide (UInt8.ofNat n = 61) && c61) = true then 2 else if decide (UInt8.ofNat n = 61) = true then 1 else if decide (UInt8.ofNat n = 60) = true then 1 else if decide (UInt8.ofNat n = 59) = true then 1 else if decide (UInt8.ofNat n = 58) = true then 1 else if decide (UInt8.ofNat n = 46) = true then 1 else if (z && decide (UInt8.ofNat n = 45) && c62) = true then 2 else if decide (UInt8.ofNat n = 45) = true then 1 else if decide (UInt8.ofNat n = 44) = true then 1 else if decide (UInt8.ofNat n = 43) = true then 1 else if decide (UInt8.ofNat n = 42) = true then 1 else if decide (UInt8.ofNat n = 41) = true then 1 else if decide (UInt8.ofNat n = 40) = true then 1 else if (z && decide (UInt8.ofNat n = 38) && c38) = true then 2 else if decide (UInt8.ofNat n = 33) = true then 1 else 0) := by
  decide +kernel
theorem signAt_eq {s : ByteArray} (hz : 0 < s.size) : signAt s = signN s := by
  have h := sign_bytes (b0 s).toNat (b0 s).toNat_lt (decide (2 ≤ s.size)) (decide (b1 s = 38)) (decide (b1 s = 61)) (decide (b1 s = 62)) (decide (b1 s = 124))
  rw [UInt8.ofNat_toNat] at h
  rw [signN_eq hz]
  simp only [pre_one _ hz, pre_two _ _ hz]
  rw [← h]
  unfold signAt
  rw [one_mem hz]
  by_cases h2 : 2 ≤ s.size
  · rw [two_mem h2, decide_eq_true h2]
    simp only [h2, true_and, Bool.true_and, Bool.decide_and, Bool.or_assoc]
  · rw [decide_eq_false h2]
    simp only [h2, false_and, if_false, Bool.false_and, Bool.false_eq_true]

theorem hasB_take {l : List ByteArray} {s : ByteArray} {k : Nat} (hk : k < l.length) : hasB (l.take (k + 1)) s = (hasB (l.take k) s || decide (s = l[k])) := by
  unfold hasB
  rw [List.take_succ_eq_append_getElem hk, List.any_append, List.any_cons, List.any_nil, Bool.or_false]
theorem wordTo_take (s : ByteArray) : ∀ k, k ≤ 12 → wordTo s k = hasB (wordsB.take k) s
  | 0, _ => rfl
  | k + 1, h => by
    have hk : k < wordsB.length := by rw [wordsB_length]; omega
    simp only [wordTo]
    rw [hasB_take hk, wordTo_take s k (by omega), List.getElem?_eq_getElem hk, Option.getD_some]
theorem wordTo_mem (s : ByteArray) : wordB s = hasB wordsB s := wordTo_take s 12 (Nat.le_refl _)

/-- does a token that is no TkBad begin here, or a quotation mark? -/
def beginsB (s : ByteArray) : Bool := blankB (b0 s) || letterB (b0 s) || digitB (b0 s) || ((b0 s).toNat : Int) == 34 || preB s slashes || decide (0 < signN s)
theorem begins_eq (s : ByteArray) : beginsB s = decide (beginK s ≠ 8) := by
  unfold beginsB beginK
  rw [part_letter]
  cases blankB (b0 s) <;> cases letterB (b0 s) <;> cases digitB (b0 s) <;> cases (((b0 s).toNat : Int) == 34) <;> cases preB s slashes <;> by_cases h : 0 < signN s <;> simp [h]
end Go.Proofs.YtgihkojlpaebiaaDoor

namespace Go.Proofs.YtgihkojlpaebiaaDoor
set_option linter.unusedVariables false
set_option linter.unusedSimpArgs false
open Go.RowKit

def StrsV (w : World) (b : Nat) (l : List ByteArray) : Prop := b < w.heap.size ∧ ∀ i s, l[i]? = some s → w.cell? ⟨b, i, none⟩ = some (.string s)
theorem StrsV.below {w w' : World} {b : Nat} {l : List ByteArray} (h : StrsV w b l) (hb : Below w.heap.size w w') : StrsV w' b l :=
  ⟨Nat.lt_of_lt_of_le h.1 hb.size, fun i s hi => (hb.cell h.1).trans (h.2 i s hi)⟩
theorem StrsV.drewN {w : World} {b : Nat} {l : List ByteArray} (h : StrsV w b l) (n : Nat) : StrsV (w.drewN n) b l := ⟨h.1, h.2⟩
theorem StrsV.drew {w : World} {b : Nat} {l : List ByteArray} (h : StrsV w b l) : StrsV w.drew b l := ⟨h.1, h.2⟩
theorem StrsV.block {w : World} {b : Nat} {cs : Array Value} {l : List ByteArray} {t : TypeId} {fr : Nat × Nat} (h : w.heap[b]? = some (.cells cs t fr)) (hcs : cs.toList = l.map .string) : StrsV w b l := by
  refine ⟨?_, fun i s hi => ?_⟩
  · rcases Nat.lt_or_ge b w.heap.size with hlt | hge
    · exact hlt
    · rw [Array.getElem?_eq_none hge] at h; cases h
  · have : w.cell? ⟨b, i, none⟩ = cs.toList[i]? := by rw [Array.getElem?_toList]; simp [World.cell?, h]
    rw [this, hcs, List.getElem?_map, hi]; rfl
end Go.Proofs.YtgihkojlpaebiaaDoor
