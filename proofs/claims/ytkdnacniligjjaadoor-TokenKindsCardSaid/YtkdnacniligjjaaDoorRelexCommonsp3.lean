/-
  Plain mathematics of layer 3: a token that ends ahead of a string's end is the same, whatever comes behind the string.; Plain mathematics of layer 3: the tokens of a string that ends with a line feed, and of what comes behind it: two blanks become one.
-/
import Derived.Test.YtkdnacniligjjaaDoorRelexCommonsp2
namespace Go.Proofs.YtkdnacniligjjaaDoor
set_option linter.unusedVariables false
set_option linter.unusedSimpArgs false

theorem u8x (b : UInt8) (n : Nat) (hn : n < 256) : (((b.toNat : Int) == (n : Int)) = true) ↔ b = UInt8.ofNat n := by
  rw [beq_iff_eq]
  constructor
  · intro h
    apply UInt8.toNat_inj.1
    rw [UInt8.toNat_ofNat_of_lt' (by omega)]
    omega
  · intro h
    rw [h, UInt8.toNat_ofNat_of_lt' (by omega)]
theorem begin6_b0x {s : ByteArray} (h : beginK s = 6) : b0 s = 34 := by
  cases hq : (((b0 s).toNat : Int) == 34)
  · exfalso
    unfold beginK at h
    rw [hq] at h
    simp only [Bool.false_eq_true, if_false] at h
    repeat' split at h
    all_goals omega
  · exact (u8x _ 34 (by omega)).1 hq
theorem byt_append (s t : ByteArray) : byt (s ++ t) = byt s ++ byt t := by unfold byt; rw [ByteArray.data_append, Array.toList_append]
theorem size_append (s t : ByteArray) : (s ++ t).size = s.size + t.size := by rw [← byt_length, byt_append, List.length_append, byt_length, byt_length]
theorem tail_append (s t : ByteArray) {k : Nat} (h : k ≤ s.size) : (s ++ t).extract k (s ++ t).size = s.extract k s.size ++ t := by
  apply bytj
  rw [byt_drop, byt_append, byt_append, byt_drop, List.drop_append_of_le_length (by rw [byt_length]; exact h)]
theorem head_append (s t : ByteArray) {n : Nat} (h : n ≤ s.size) : (s ++ t).extract 0 n = s.extract 0 n := by
  apply bytj
  rw [byt_take, byt_take, byt_append, List.take_append_of_le_length (by rw [byt_length]; exact h)]
theorem run_append {p : UInt8 → Bool} : ∀ (a b : List UInt8), runL p a < a.length → runL p (a ++ b) = runL p a
  | [], b, h => by simp at h
  | c :: a, b, h => by
    simp only [runL, List.cons_append] at h ⊢
    split
    · rename_i hp
      rw [if_pos hp] at h
      simp only [List.length_cons] at h
      rw [run_append a b (by omega)]
    · rfl
theorem b0_append {s : ByteArray} (t : ByteArray) (h : 0 < s.size) : b0 (s ++ t) = b0 s := by
  have hl := byt_length s
  unfold b0
  rw [byt_append]
  cases h2 : byt s with
  | nil => rw [h2] at hl; simp at hl; omega
  | cons a l => rfl
theorem b1_append {s : ByteArray} (t : ByteArray) (h : 1 < s.size) : b1 (s ++ t) = b1 s := by
  have hl := byt_length s
  unfold b1
  rw [byt_append]
  cases h2 : byt s with
  | nil => rw [h2] at hl; simp at hl; omega
  | cons a l =>
    cases l with
    | nil => rw [h2] at hl; simp at hl; omega
    | cons c l => rfl
theorem preB_append {s p : ByteArray} (t : ByteArray) (h : p.size ≤ s.size) : preB (s ++ t) p = preB s p := by
  unfold preB
  rw [head_append s t h, size_append, decide_eq_true (show p.size ≤ s.size + t.size by omega), decide_eq_true h]
theorem preB_more {s p : ByteArray} (t : ByteArray) (h : preB s p = true) : preB (s ++ t) p = true := by
  rw [preB_append t (preB_le h)]; exact h
theorem signs_two : ∀ k, k < 22 → (signsB[k]?.getD ByteArray.empty).size ≤ 2 := by decide +kernel
theorem signs_pos : ∀ k, k < 22 → 0 < (signsB[k]?.getD ByteArray.empty).size := by decide +kernel
theorem signTo_append {s : ByteArray} (t : ByteArray) (h : 2 ≤ s.size) : ∀ k, k ≤ 22 → signTo (s ++ t) k = signTo s k
  | 0, _ => rfl
  | k + 1, hk => by
    have h2 := signs_two k (by omega)
    simp only [signTo]
    rw [preB_append t (by omega), signTo_append t h k (by omega)]
theorem signTo_more {s : ByteArray} (t : ByteArray) : ∀ k, k ≤ 22 → 0 < signTo s k → 0 < signTo (s ++ t) k
  | 0, _, h => h
  | k + 1, hk, h => by
    have hp := signs_pos k (by omega)
    simp only [signTo] at h ⊢
    by_cases h1 : preB (s ++ t) (signsB[k]?.getD ByteArray.empty) = true
    · rw [if_pos h1]; exact hp
    · rw [if_neg h1]
      have h2 : ¬ preB s (signsB[k]?.getD ByteArray.empty) = true := fun h3 => h1 (preB_more t h3)
      rw [if_neg h2] at h
      exact signTo_more t k (by omega) h
theorem beginK_append {s : ByteArray} (t : ByteArray) (h : 2 ≤ s.size) : beginK (s ++ t) = beginK s := by
  unfold beginK
  rw [b0_append t (by omega), preB_append t (show slashes.size ≤ s.size from h), show signN (s ++ t) = signN s from signTo_append t h 22 (Nat.le_refl _)]
theorem beginK_more {s : ByteArray} (t : ByteArray) (hz : 0 < s.size) (h : beginK s ≠ 8) : beginK (s ++ t) ≠ 8 := by
  intro h8
  apply h
  unfold beginK at h8 ⊢
  rw [b0_append t hz] at h8
  by_cases c1 : blankB (b0 s) = true
  · rw [if_pos c1] at h8; omega
  rw [if_neg c1] at h8 ⊢
  by_cases c2 : preB (s ++ t) slashes = true
  · rw [if_pos c2] at h8; omega
  have c2' : ¬ preB s slashes = true := fun h3 => c2 (preB_more t h3)
  rw [if_neg c2] at h8
  rw [if_neg c2']
  by_cases c3 : digitB (b0 s) = true
  · rw [if_pos c3] at h8; omega
  rw [if_neg c3] at h8 ⊢
  by_cases c4 : partB (b0 s) = true
  · rw [if_pos c4] at h8; omega
  rw [if_neg c4] at h8 ⊢
  by_cases c5 : ((b0 s).toNat : Int) == 34
  · rw [if_pos c5] at h8; omega
  rw [if_neg c5] at h8 ⊢
  by_cases c6 : 0 < signN (s ++ t)
  · rw [if_pos c6] at h8; omega
  have c6' : ¬ 0 < signN s := fun h3 => c6 (signTo_more t 22 (Nat.le_refl _) h3)
  rw [if_neg c6']
theorem plainP_append {s : ByteArray} (t : ByteArray) (hz : 0 < s.size) (h : 2 ≤ s.size ∨ ((b0 s).toNat : Int) ≠ 92) : plainP (s ++ t) = plainP s := by
  unfold plainP
  rw [b0_append t hz]
  by_cases c1 : (((b0 s).toNat : Int) == 34) = true
  · rw [if_pos c1, if_pos c1]
  rw [if_neg c1, if_neg c1]
  by_cases c2 : (((b0 s).toNat : Int) == 10) = true
  · rw [if_pos c2, if_pos c2]
  rw [if_neg c2, if_neg c2]
  by_cases c3 : (((b0 s).toNat : Int) == 92) = true
  · rw [if_pos c3, if_pos c3]
    have h2 : 2 ≤ s.size := by
      rcases h with h | h
      · exact h
      · exact absurd (eq_of_beq c3) h
    unfold pairP
    have hu : ¬ (s ++ t).size < 2 := by rw [size_append]; omega
    have hs : ¬ s.size < 2 := by omega
    rw [b1_append t (by omega), if_neg hu, if_neg hs]
  · rw [if_neg c3, if_neg c3]
theorem plainP_pos {s : ByteArray} (h : 0 < (plainP s).2) : 2 ≤ s.size ∨ ((b0 s).toNat : Int) ≠ 92 := by
  by_cases c3 : ((b0 s).toNat : Int) = 92
  · left
    unfold plainP at h
    rw [c3] at h
    have : (0 : Nat) < (pairP s).2 := h
    unfold pairP at this
    by_cases hs : s.size < 2
    · rw [if_pos hs] at this; simp at this
    · omega
  · exact .inr c3
theorem textF_append : ∀ (f g : Nat) (s t : ByteArray) (k n : Nat), f ≤ g → textF f s k = some n → textF g (s ++ t) k = some n
  | 0, _, _, _, _, _, _, h => by cases h
  | f + 1, g, s, t, k, n, hg, h => by
    obtain ⟨g, rfl⟩ : ∃ g', g = g' + 1 := ⟨g - 1, by omega⟩
    simp only [textF] at h ⊢
    by_cases h0 : s.size = 0
    · rw [if_pos h0] at h; cases h
    · rw [if_neg h0] at h
      rw [if_neg (by rw [size_append]; omega)]
      by_cases h1 : 0 < (plainP s).2
      · have hp := plainP_append t (by omega) (plainP_pos h1)
        have hle := plainP_le (s := s) (by omega)
        rw [if_pos h1] at h
        rw [hp, if_pos h1, tail_append s t hle.1]
        exact textF_append f g _ t _ n (by omega) h
      · rw [if_neg h1] at h
        by_cases h3 : (((b0 s).toNat : Int) == 34) = true
        · have hp := plainP_append (s := s) t (by omega) (.inr (by have := eq_of_beq h3; omega))
          rw [if_pos h3] at h
          rw [hp, if_neg h1, b0_append t (by omega), if_pos h3]
          exact h
        · rw [if_neg h3] at h; cases h
theorem textF_none : ∀ (f g : Nat) (s t : ByteArray) (k : Nat), s.size ≤ f → ¬ noFeed (byt s) → textF f s k = none → textF g (s ++ t) k = none
  | _, 0, _, _, _, _, _, _ => rfl
  | 0, g + 1, s, t, k, hf, hn, h => by
    exfalso; apply hn
    rw [List.eq_nil_of_length_eq_zero (l := byt s) (by rw [byt_length]; omega)]
    exact noFeed_nil
  | f + 1, g + 1, s, t, k, hf, hn, h => by
    have h0 : ¬ s.size = 0 := by
      intro h0; apply hn
      rw [List.eq_nil_of_length_eq_zero (l := byt s) (by rw [byt_length]; omega)]
      exact noFeed_nil
    simp only [textF] at h ⊢
    rw [if_neg h0] at h
    rw [if_neg (by rw [size_append]; omega)]
    have hts := tail_size s (plainP s).2
    by_cases h1 : 0 < (plainP s).2
    · have hp := plainP_append t (by omega) (plainP_pos h1)
      have hle := plainP_le (s := s) (by omega)
      rw [if_pos h1] at h
      rw [hp, if_pos h1, tail_append s t hle.1]
      refine textF_none f g _ t _ (by omega) ?_ h
      intro hnf
      apply hn
      rw [byt_drop] at hnf
      have := noFeed_append (plain_nf s) hnf
      rwa [List.take_append_drop] at this
    · rw [if_neg h1] at h
      by_cases h3 : (((b0 s).toNat : Int) == 34) = true
      · rw [if_pos h3] at h; cases h
      · have h4 : 2 ≤ s.size ∨ ((b0 s).toNat : Int) ≠ 92 := by
          by_cases c3 : ((b0 s).toNat : Int) = 92
          · left
            by_cases hs : 2 ≤ s.size
            · exact hs
            · exfalso; apply hn
              have hl := byt_length s
              have e0 : b0 s = (byt s).getD 0 0 := rfl
              intro x hx
              cases h5 : byt s with
              | nil => rw [h5] at hx; cases hx
              | cons a l =>
                cases l with
                | nil =>
                  rw [h5] at hx e0
                  have hxa : x = a := List.mem_singleton.1 hx
                  have e0' : b0 s = a := e0
                  rw [hxa, ← e0', beq_eq_false_iff_ne]; omega
                | cons c l => rw [h5] at hl; simp at hl; omega
          · exact .inr c3
        have hp := plainP_append t (by omega) h4
        rw [hp, if_neg h1, b0_append t (by omega), if_neg h3]
theorem badF_append (s t : ByteArray) : ∀ (f g k : Nat), k + f = s.size → f ≤ g → badF f s k < s.size → badF g (s ++ t) k = badF f s k
  | 0, g, k, hk, _, h => by simp only [badF] at h; omega
  | f + 1, g, k, hk, hg, h => by
    obtain ⟨g, rfl⟩ : ∃ g', g = g' + 1 := ⟨g - 1, by omega⟩
    have hts := tail_size s k
    simp only [badF] at h ⊢
    rw [tail_append s t (by omega)]
    by_cases h8 : beginK (s.extract k s.size) = 8
    · rw [if_pos h8] at h ⊢
      have hle := badF_le s f (k + 1)
      rw [if_pos (by rw [beginK_append t (by omega)]; exact h8)]
      exact badF_append s t f g (k + 1) (by omega) (by omega) h
    · rw [if_neg h8, if_neg (beginK_more t (by omega) h8)]
theorem run_feed (l : List UInt8) (h : runL lineB l < l.length) : ¬ noFeed l := by
  intro hn
  have hh : (l.drop (runL lineB l)).head? = some (l[runL lineB l]'h) := by rw [List.drop_eq_getElem_cons h]; rfl
  have h1 := run_end (p := lineB) l _ hh
  have h2 := hn _ (List.getElem_mem h)
  unfold lineB at h1
  rw [bne_eq_false_iff_eq] at h1
  rw [beq_eq_false_iff_ne] at h2
  exact h2 h1

/-- a token that ends ahead of the end -/
theorem firstP_append (s t : ByteArray) (hz : 0 < s.size) (h : (firstP s).2 < s.size) : firstP (s ++ t) = firstP s := by
  have hle := firstP_le s hz
  have hs2 : 2 ≤ s.size := by omega
  have hb := beginK_append t hs2
  have hl := byt_length s
  unfold firstP at h ⊢
  rw [hb]
  rcases beginK_is s with hk | hk | hk | hk | hk | hk | hk
  · rw [hk] at h ⊢
    have h' : runL blankB (byt s) < s.size := h
    show (1, runL blankB (byt (s ++ t))) = ((1 : Int), runL blankB (byt s))
    rw [byt_append, run_append _ _ (by omega)]
  · rw [hk] at h ⊢
    have h' : runL lineB (byt s) < s.size := h
    show (2, runL lineB (byt (s ++ t))) = ((2 : Int), runL lineB (byt s))
    rw [byt_append, run_append _ _ (by omega)]
  · rw [hk] at h ⊢
    have h' : runL partB (byt s) < s.size := h
    show nameP (s ++ t) = nameP s
    unfold nameP
    rw [byt_append, run_append _ _ (by omega), head_append s t (by omega)]
  · rw [hk] at h ⊢
    have h' : runL digitB (byt s) < s.size := h
    show (5, runL digitB (byt (s ++ t))) = ((5 : Int), runL digitB (byt s))
    rw [byt_append, run_append _ _ (by omega)]
  · rw [hk] at h ⊢
    have h' : (textP s).2 < s.size := h
    show textP (s ++ t) = textP s
    have htl := tail_append s t (show 1 ≤ s.size by omega)
    have hts := tail_size s 1
    unfold textP at h' ⊢
    cases he : textE s with
    | some n =>
      have h1 : textE (s ++ t) = some n := by
        unfold textE at he ⊢
        rw [htl]
        exact textF_append _ _ _ t 1 n (by rw [size_append]; omega) he
      rw [h1]
    | none =>
      rw [he] at h'
      simp only at h'
      have hnf := run_feed (byt s) (by omega)
      have h1 : textE (s ++ t) = none := by
        unfold textE at he ⊢
        rw [htl]
        refine textF_none _ _ _ t 1 (by omega) ?_ he
        intro hn
        apply hnf
        rw [byt_drop] at hn
        have hq : b0 s = 34 := begin6_b0x hk
        intro x hx
        rw [← List.take_append_drop 1 (byt s)] at hx
        rcases List.mem_append.1 hx with hx | hx
        · have e0 : b0 s = (byt s).getD 0 0 := rfl
          cases h5 : byt s with
          | nil => rw [h5] at hx; simp at hx
          | cons a l =>
            rw [h5] at hx e0
            have hxa : x = a := List.mem_singleton.1 hx
            have e0' : b0 s = a := e0
            rw [hxa, ← e0', hq]; rfl
        · exact hn x hx
      rw [h1, byt_append, run_append _ _ (by omega)]
  · rw [hk]
    show (7, signN (s ++ t)) = ((7 : Int), signN s)
    rw [show signN (s ++ t) = signN s from signTo_append t hs2 22 (Nat.le_refl _)]
  · rw [hk] at h ⊢
    have h' : badN s < s.size := h
    show (8, badN (s ++ t)) = ((8 : Int), badN s)
    unfold badN at h' ⊢
    rw [badF_append s t (s.size - 1) ((s ++ t).size - 1) 1 (by omega) (by rw [size_append]; omega) h']
end Go.Proofs.YtkdnacniligjjaaDoor

namespace Go.Proofs.YtkdnacniligjjaaDoor
set_option linter.unusedVariables false
set_option linter.unusedSimpArgs false

/-- a token put behind others: a blank behind a blank becomes one with it -/
def pushT (acc : List Tok) (p : Tok) : List Tok :=
  match acc.getLast? with
  | some q => if q.1 = 1 ∧ p.1 = 1 then acc.dropLast ++ [(q.1, q.2 ++ p.2)] else acc ++ [p]
  | none => acc ++ [p]
def mergeT (acc m : List Tok) : List Tok := m.foldl pushT acc
theorem pushT_nil (p : Tok) : pushT [] p = [p] := rfl
theorem pushT_snoc (acc : List Tok) (q p : Tok) : pushT (acc ++ [q]) p = if q.1 = 1 ∧ p.1 = 1 then acc ++ [(q.1, q.2 ++ p.2)] else acc ++ [q] ++ [p] := by
  unfold pushT
  rw [List.getLast?_concat, List.dropLast_concat]
theorem mergeT_snoc (acc m : List Tok) (p : Tok) : mergeT acc (m ++ [p]) = pushT (mergeT acc m) p := by unfold mergeT; rw [List.foldl_append]; rfl
theorem mergeT_cons (acc m : List Tok) (p : Tok) : mergeT acc (p :: m) = mergeT (pushT acc p) m := rfl
/-- no two blanks meet -/
def NoTwo (l : List Tok) : Prop := ∀ (i : Nat) (p q : Tok), l[i]? = some p → l[i + 1]? = some q → ¬ (p.1 = 1 ∧ q.1 = 1)
theorem noTwo_tail {p : Tok} {l : List Tok} (h : NoTwo (p :: l)) : NoTwo l := fun i a b ha hb => h (i + 1) a b (by rw [List.getElem?_cons_succ]; exact ha) (by rw [List.getElem?_cons_succ]; exact hb)
theorem mergeT_plain : ∀ (m : List Tok) (acc : List Tok) (q : Tok), NoTwo (q :: m) → mergeT (acc ++ [q]) m = acc ++ [q] ++ m
  | [], acc, q, _ => by simp [mergeT]
  | p :: m, acc, q, h => by
    have h0 := h 0 q p rfl rfl
    rw [mergeT_cons, pushT_snoc, if_neg h0, mergeT_plain m (acc ++ [q]) p (noTwo_tail h)]
    simp
theorem lexL_two (s : ByteArray) : NoTwo (lexL s) := fun i p q h1 h2 => by
  have h := lexL_pair s.size s (Nat.le_refl _) i p q h1 h2
  intro hh
  unfold badPair at h
  rw [hh.1, hh.2] at h
  simp at h
theorem mergeT_nil (s : ByteArray) : mergeT [] (lexL s) = lexL s := by
  have h := lexL_two s
  cases hl : lexL s with
  | nil => rfl
  | cons p m =>
    rw [hl] at h
    rw [mergeT_cons, pushT_nil]
    exact mergeT_plain m [] p h
def allBlank (z : ByteArray) : Prop := ∀ x ∈ byt z, blankB x = true
theorem run_all_append {p : UInt8 → Bool} : ∀ (a b : List UInt8), (∀ x ∈ a, p x = true) → runL p (a ++ b) = a.length + runL p b
  | [], b, _ => by simp
  | c :: a, b, h => by
    simp only [runL, List.cons_append]
    rw [if_pos (h c (by simp)), run_all_append a b (fun x hx => h x (by simp [hx]))]
    simp only [List.length_cons]
    omega
theorem b0_mem {s : ByteArray} (hz : 0 < s.size) : b0 s ∈ byt s := List.mem_of_mem_head? (b0_head hz)
/-- blanks, and what comes behind them -/
theorem lexL_blank {z : ByteArray} (b : ByteArray) (hz : 0 < z.size) (ha : allBlank z) :
    lexL (z ++ b) = (1, z ++ b.extract 0 (runL blankB (byt b))) :: lexL (b.extract (runL blankB (byt b)) b.size) := by
  have hsz := size_append z b
  have hk : beginK (z ++ b) = 1 := by
    unfold beginK
    rw [b0_append b hz, ha _ (b0_mem hz)]; rfl
  have hf : firstP (z ++ b) = (1, z.size + runL blankB (byt b)) := by
    unfold firstP
    rw [hk]
    show (1, runL blankB (byt (z ++ b))) = _
    rw [byt_append, run_all_append _ _ ha, byt_length]
  have hle := runL_le blankB (byt b)
  rw [byt_length] at hle
  rw [lexL_step (by omega), hf]
  have e1 : (z ++ b).extract 0 (z.size + runL blankB (byt b)) = z ++ b.extract 0 (runL blankB (byt b)) := by
    apply bytj
    rw [byt_take, byt_append, byt_append, byt_take, ← byt_length z, List.take_length_add_append]
  have e2 : (z ++ b).extract (z.size + runL blankB (byt b)) (z ++ b).size = b.extract (runL blankB (byt b)) b.size := by
    apply bytj
    rw [byt_drop, byt_append, byt_drop, ← byt_length z, List.drop_length_add_append]
  simp only
  rw [e1, e2]
/-- a string that ends with a line feed: its last token is a blank, and all others stay as they are -/
theorem lexL_fed : ∀ (n : Nat) (a : ByteArray), a.size ≤ n → 0 < a.size → (byt a).getLast? = some 10 →
    ∃ (init : List Tok) (z : ByteArray), lexL a = init ++ [(1, z)] ∧ 0 < z.size ∧ allBlank z ∧ ∀ b, lexL (a ++ b) = init ++ lexL (z ++ b)
  | 0, a, h, hz, _ => by omega
  | n + 1, a, h, hz, hl => by
    have hle := firstP_le a hz
    have hst := lexL_step hz
    have hts := tail_size a (firstP a).2
    by_cases hlt : (firstP a).2 < a.size
    · have hl2 : (byt (a.extract (firstP a).2 a.size)).getLast? = some 10 := by
        rw [byt_drop, List.getLast?_drop, if_neg (by rw [byt_length]; omega)]; exact hl
      obtain ⟨init, z, h1, h2, h3, h4⟩ := lexL_fed n (a.extract (firstP a).2 a.size) (by omega) (by omega) hl2
      refine ⟨((firstP a).1, a.extract 0 (firstP a).2) :: init, z, by rw [hst, h1]; rfl, h2, h3, fun b => ?_⟩
      have hst2 := lexL_step (s := a ++ b) (by rw [size_append]; omega)
      rw [hst2, firstP_append a b hz hlt, head_append a b (by omega), tail_append a b (by omega), h4 b]
      rfl
    · have hn : (firstP a).2 = a.size := by omega
      have hk : (firstP a).1 = 1 := by
        by_cases h1 : (firstP a).1 = 1
        · exact h1
        · exfalso
          have hnf := firstP_nf a hz h1
          rw [hn, ← byt_length, List.take_length] at hnf
          have := hnf 10 (List.mem_of_getLast? hl)
          exact absurd this (by decide)
      have hb := (firstP_kinds a).1 hk
      have hr : (firstP a).2 = runL blankB (byt a) := by unfold firstP; rw [hb]; rfl
      refine ⟨[], a, ?_, hz, ?_, fun b => rfl⟩
      · rw [hst, hk, hn, lexL_nil (by rw [tail_size]; omega)]
        have : a.extract 0 a.size = a := by apply bytj; rw [byt_drop, List.drop_zero]
        rw [this]; rfl
      · intro x hx
        refine run_all (byt a) x ?_
        rw [← hr, hn, ← byt_length, List.take_length]
        exact hx
/-- the tokens of a string that is empty or ends with a line feed, and of what comes behind it -/
theorem lexL_lines (a b : ByteArray) (ha : a.size = 0 ∨ (byt a).getLast? = some 10) : lexL (a ++ b) = mergeT (lexL a) (lexL b) := by
  by_cases hz : a.size = 0
  · have he : a ++ b = b := by
      apply bytj
      rw [byt_append, List.eq_nil_of_length_eq_zero (l := byt a) (by rw [byt_length]; exact hz)]; rfl
    rw [he, lexL_nil hz, mergeT_nil]
  · have hl : (byt a).getLast? = some 10 := by
      rcases ha with ha | ha
      · exact absurd ha hz
      · exact ha
    obtain ⟨init, z, h1, h2, h3, h4⟩ := lexL_fed a.size a (Nat.le_refl _) (by omega) hl
    rw [h4 b, h1, lexL_blank b h2 h3]
    have htwo := lexL_two (z ++ b)
    rw [lexL_blank b h2 h3] at htwo
    by_cases hr : runL blankB (byt b) = 0
    · have e1 : z ++ b.extract 0 0 = z := by
        apply bytj
        rw [byt_append, byt_take]; simp
      have e2 : b.extract 0 b.size = b := by apply bytj; rw [byt_drop, List.drop_zero]
      rw [hr, e1, e2] at htwo ⊢
      rw [mergeT_plain _ _ _ htwo]
      simp
    · have hle := runL_le blankB (byt b)
      rw [byt_length] at hle
      have hbz : 0 < b.size := by omega
      have hkb : beginK b = 1 := by
        have hb0 : blankB (b0 b) = true := run_all (byt b) _ (by
          have hh := b0_head hbz
          cases hc : byt b with
          | nil => rw [hc] at hr; exact absurd rfl hr
          | cons c l =>
            rw [hc] at hh hr
            have hcc : c = b0 b := Option.some.inj hh
            obtain ⟨m, hm⟩ : ∃ m, runL blankB (c :: l) = m + 1 := ⟨runL blankB (c :: l) - 1, by omega⟩
            rw [hm, List.take_succ_cons, hcc]
            simp)
        unfold beginK; rw [hb0]; rfl
      have hfb : firstP b = (1, runL blankB (byt b)) := by unfold firstP; rw [hkb]; rfl
      have hstb := lexL_step hbz
      rw [hfb] at hstb
      simp only at hstb
      rw [hstb, mergeT_cons, pushT_snoc, if_pos ⟨rfl, rfl⟩, mergeT_plain _ _ _ htwo]
      simp
end Go.Proofs.YtkdnacniligjjaaDoor
