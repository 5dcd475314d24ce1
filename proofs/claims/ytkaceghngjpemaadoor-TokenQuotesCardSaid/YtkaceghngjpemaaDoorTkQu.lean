/-
  Plain mathematics of layer 3: Unquote of Quote, and Quote of Unquote.
-/
import Derived.Test.YtkaceghngjpemaaDoorTkUnq
namespace Go.Proofs.YtkaceghngjpemaaDoor
set_option linter.unusedVariables false
set_option linter.unusedSimpArgs false

theorem u8n (b : UInt8) (n : Nat) (hn : n < 256) : (((b.toNat : Int) == (n : Int)) = true) ↔ b = UInt8.ofNat n := by
  rw [beq_iff_eq]
  constructor
  · intro h
    apply UInt8.toNat_inj.1
    rw [UInt8.toNat_ofNat_of_lt' (by omega)]
    omega
  · intro h
    rw [h, UInt8.toNat_ofNat_of_lt' (by omega)]
theorem qByte_10 : qByte 10 = [92, 110] := by decide
theorem qByte_34 : qByte 34 = [92, 34] := by decide
theorem qByte_92 : qByte 92 = [92, 92] := by decide
theorem qByte_else {b : UInt8} (h1 : ((b.toNat : Int) == 10) = false) (h2 : ((b.toNat : Int) == 34) = false) (h3 : ((b.toNat : Int) == 92) = false) : qByte b = [b] := by
  unfold qByte; rw [h1, h2, h3]; rfl
theorem plain_q {s : ByteArray} {b : UInt8} {rest : List UInt8} (h : byt s = qByte b ++ rest) : (plainP s).2 = (qByte b).length ∧ plainC s = b := by
  have hl := byt_length s
  have e0 : b0 s = (byt s).getD 0 0 := rfl
  have e1 : b1 s = (byt s).getD 1 0 := rfl
  have two : ∀ c : UInt8, byt s = [92, c] ++ rest → b0 s = 92 ∧ b1 s = c ∧ ¬ s.size < 2 := fun c hc => by
    rw [e0, e1, ← hl, hc]; simp
  cases h1 : ((b.toNat : Int) == 10)
  · cases h2 : ((b.toNat : Int) == 34)
    · cases h3 : ((b.toNat : Int) == 92)
      · have hq := qByte_else h1 h2 h3
        rw [hq] at h
        have hb : b0 s = b := by rw [e0, h]; rfl
        rw [hq]
        unfold plainP plainC
        rw [hb, h1, h2, h3]
        exact ⟨rfl, rfl⟩
      · have hb : b = 92 := (u8n b 92 (by omega)).1 h3
        subst hb
        rw [qByte_92] at h ⊢
        obtain ⟨z0, z1, z2⟩ := two _ h
        unfold plainP plainC pairP
        rw [z0, z1, if_neg z2]
        exact ⟨rfl, rfl⟩
    · have hb : b = 34 := (u8n b 34 (by omega)).1 h2
      subst hb
      rw [qByte_34] at h ⊢
      obtain ⟨z0, z1, z2⟩ := two _ h
      unfold plainP plainC pairP
      rw [z0, z1, if_neg z2]
      exact ⟨rfl, rfl⟩
  · have hb : b = 10 := (u8n b 10 (by omega)).1 h1
    subst hb
    rw [qByte_10] at h ⊢
    obtain ⟨z0, z1, z2⟩ := two _ h
    unfold plainP plainC pairP
    rw [z0, z1, if_neg z2]
    exact ⟨rfl, rfl⟩
theorem tail_q {s : ByteArray} {b : UInt8} {rest : List UInt8} (h : byt s = qByte b ++ rest) : byt (s.extract (plainP s).2 s.size) = rest := by
  rw [byt_drop, (plain_q h).1, h]
  exact List.drop_left' rfl
theorem textF_q : ∀ (l : List UInt8) (f : Nat) (s : ByteArray) (k : Nat), byt s = qList l ++ [34] → s.size ≤ f → textF f s k = some (k + s.size)
  | l, 0, s, k, h, hf => by
    have hl := byt_length s
    rw [h] at hl
    simp at hl
    omega
  | [], f + 1, s, k, h, hf => by
    have hl := byt_length s
    rw [h] at hl
    have hz : s.size = 1 := by simpa [qList] using hl.symm
    have hb : b0 s = 34 := by unfold b0; rw [h]; rfl
    have hp : plainP s = (0, 0) := by unfold plainP; rw [hb]; rfl
    simp only [textF]
    rw [if_neg (by omega), hp, if_neg (by simp), hb, if_pos (by decide), hz]
  | b :: l, f + 1, s, k, h, hf => by
    have hl := byt_length s
    have h' : byt s = qByte b ++ (qList l ++ [34]) := by rw [h]; simp [qList]
    have hq := qByte_le b
    have ht := tail_q h'
    have hp := (plain_q h').1
    have hts := tail_size s (plainP s).2
    rw [h'] at hl
    simp only [List.length_append, List.length_cons, List.length_nil] at hl
    simp only [textF]
    have he := textF_q l f (s.extract (plainP s).2 s.size) (k + (plainP s).2) ht (by omega)
    rw [if_neg (by omega), if_pos (by omega), he, hts]
    exact congrArg some (by omega)
theorem unqF_q : ∀ (l : List UInt8) (f : Nat) (s : ByteArray), byt s = qList l ++ [34] → s.size ≤ f → unqF f s = l
  | l, 0, s, h, hf => by
    have hl := byt_length s
    rw [h] at hl
    simp at hl
    omega
  | [], f + 1, s, h, hf => by
    have hl := byt_length s
    rw [h] at hl
    have hz : s.size = 1 := by simpa [qList] using hl.symm
    simp only [unqF]
    rw [if_pos (by omega)]
  | b :: l, f + 1, s, h, hf => by
    have hl := byt_length s
    have h' : byt s = qByte b ++ (qList l ++ [34]) := by rw [h]; simp [qList]
    have hq := qByte_le b
    have ht := tail_q h'
    have hp := plain_q h'
    have hts := tail_size s (plainP s).2
    rw [h'] at hl
    simp only [List.length_append, List.length_cons, List.length_nil] at hl
    simp only [unqF]
    rw [if_neg (by omega), hp.2, unqF_q l f _ ht (by omega)]

theorem byt_quote (s : ByteArray) : byt (quoteB s) = 34 :: qList (byt s) ++ [34] := by
  unfold quoteB byt quoteL
  simp
theorem begin_34 {s : ByteArray} (h : b0 s = 34) : beginK s = 6 := by
  have hp : preB s slashes = false := by
    cases hq : preB s slashes
    · rfl
    · have := preB_b0 hq
      rw [h] at this
      exact absurd this (by decide)
  unfold beginK
  rw [h, hp, show blankB (34 : UInt8) = false from by decide, show digitB (34 : UInt8) = false from by decide, show partB (34 : UInt8) = false from by decide]
  rfl
theorem quote_text (s : ByteArray) : textE (quoteB s) = some (quoteB s).size ∧ unqF (quoteB s).size ((quoteB s).extract 1 (quoteB s).size) = byt s := by
  have hb := byt_quote s
  have ht : byt ((quoteB s).extract 1 (quoteB s).size) = qList (byt s) ++ [34] := by rw [byt_drop, hb]; rfl
  have hz := tail_size (quoteB s) 1
  have hq := quote_data s
  refine ⟨?_, unqF_q _ _ _ ht (by omega)⟩
  unfold textE
  rw [textF_q _ _ _ 1 ht (by omega), hz]
  exact congrArg some (by omega)
theorem whole_extract (s : ByteArray) : s.extract 0 s.size = s := by
  apply bytj
  rw [byt_drop, List.drop_zero]
theorem quote_tok (s : ByteArray) (h : (qList (byt s)).length + 2 ≤ 20000) : isTok (6, quoteB s) = true := by
  obtain ⟨h1, _⟩ := quote_text s
  have hq := quote_data s
  have hb0 : b0 (quoteB s) = 34 := by unfold b0; rw [byt_quote]; rfl
  have hk := begin_34 hb0
  have hf : firstP (quoteB s) = (6, (quoteB s).size) := by
    have ht : firstP (quoteB s) = textP (quoteB s) := by unfold firstP; rw [hk]; rfl
    rw [ht]
    unfold textP
    rw [h1]
  have hl : lexL (quoteB s) = [(6, quoteB s)] := by
    rw [lexL_step (by omega), hf]
    simp only
    rw [whole_extract, lexL_nil (by rw [tail_size]; omega)]
  unfold isTok lexesB
  rw [hl, decide_eq_true (show (quoteB s).size ≤ 20000 by omega)]
  simp
theorem unquote_quote (s : ByteArray) (h : (qList (byt s)).length + 2 ≤ 20000) : unquoteR 6 (quoteB s) = (s, 0) := by
  unfold unquoteR
  rw [if_pos ⟨rfl, quote_tok s h⟩, (quote_text s).2]
  have : (⟨(byt s).toArray⟩ : ByteArray) = s := by cases s; simp [byt]
  rw [this]

theorem plain_take {s : ByteArray} (hz0 : 0 < s.size) (h : 0 < (plainP s).2) : (byt s).take (plainP s).2 = qByte (plainC s) := by
  have hl := byt_length s
  have e0 : b0 s = (byt s).getD 0 0 := rfl
  have e1 : b1 s = (byt s).getD 1 0 := rfl
  have one : 0 < s.size → (byt s).take 1 = [b0 s] := fun hz => by
    rw [e0]
    cases h2 : byt s with
    | nil => rw [h2] at hl; simp at hl; omega
    | cons a l => rfl
  have two : ¬ s.size < 2 → (byt s).take 2 = [b0 s, b1 s] := fun hz => by
    rw [e0, e1]
    cases h2 : byt s with
    | nil => rw [h2] at hl; simp at hl; omega
    | cons a l =>
      cases l with
      | nil => rw [h2] at hl; simp at hl; omega
      | cons c l => rfl
  cases h1 : (((b0 s).toNat : Int) == 34)
  · cases h2 : (((b0 s).toNat : Int) == 10)
    · cases h3 : (((b0 s).toNat : Int) == 92)
      · have hz := hz0
        unfold plainP plainC
        rw [h1, h2, h3]
        simp only [Bool.false_eq_true, if_false]
        rw [one hz, qByte_else h2 h1 h3]
      · have hb : b0 s = 92 := (u8n _ 92 (by omega)).1 h3
        unfold plainP at h ⊢
        unfold plainC
        rw [h1, h2, h3] at h ⊢
        simp only [Bool.false_eq_true, if_false, if_true] at h ⊢
        unfold pairP at h ⊢
        by_cases hz : s.size < 2
        · rw [if_pos hz] at h; simp at h
        · rw [if_neg hz] at h ⊢
          have h2t := two hz
          rw [hb] at h2t
          cases g1 : (((b1 s).toNat : Int) == 110)
          · cases g2 : (((b1 s).toNat : Int) == 34)
            · cases g3 : (((b1 s).toNat : Int) == 92)
              · rw [g1, g2, g3] at h; simp at h
              · have hc : b1 s = 92 := (u8n _ 92 (by omega)).1 g3
                simp only [Bool.false_eq_true, if_false, if_true]
                rw [h2t, hc]; decide
            · have hc : b1 s = 34 := (u8n _ 34 (by omega)).1 g2
              simp only [Bool.false_eq_true, if_false, if_true]
              rw [h2t, hc]; decide
          · have hc : b1 s = 110 := (u8n _ 110 (by omega)).1 g1
            simp only [if_true]
            rw [h2t, hc]; decide
    · unfold plainP at h
      rw [h1, h2] at h
      simp at h
  · unfold plainP at h
    rw [h1] at h
    simp at h
/-- a whole text, written again -/
theorem textF_whole : ∀ (f : Nat) (s : ByteArray) (k : Nat), s.size ≤ f → textF f s k = some (k + s.size) → byt s = qList (unqF f s) ++ [34]
  | 0, s, k, _, h => by cases h
  | f + 1, s, k, hf, h => by
    simp only [textF] at h
    by_cases h0 : s.size = 0
    · rw [if_pos h0] at h; cases h
    · rw [if_neg h0] at h
      have hple := plainP_le (s := s) (by omega)
      have hts := tail_size s (plainP s).2
      by_cases h1 : 0 < (plainP s).2
      · rw [if_pos h1] at h
        have hle := textF_le _ _ _ _ h
        have h2 : textF f (s.extract (plainP s).2 s.size) (k + (plainP s).2) = some (k + (plainP s).2 + (s.extract (plainP s).2 s.size).size) := by
          rw [h, hts]; exact congrArg some (by omega)
        have ih := textF_whole f _ _ (by omega) h2
        simp only [unqF]
        rw [if_neg (by omega)]
        simp only [qList]
        rw [List.append_assoc, ← ih, byt_drop, ← plain_take (by omega) h1, List.take_append_drop]
      · rw [if_neg h1] at h
        by_cases h3 : (((b0 s).toNat : Int) == 34) = true
        · rw [if_pos h3] at h
          have h4 := Option.some.inj h
          have hz : s.size = 1 := by omega
          simp only [unqF]
          rw [if_pos (by omega)]
          have hb : b0 s = 34 := (u8n _ 34 (by omega)).1 h3
          have hl := byt_length s
          have e0 : b0 s = (byt s).getD 0 0 := rfl
          cases h5 : byt s with
          | nil => rw [h5] at hl; simp at hl; omega
          | cons a l =>
            cases l with
            | nil =>
              rw [h5, hb] at e0
              rw [e0]; rfl
            | cons c l => rw [h5] at hl; simp at hl; omega
        · rw [if_neg h3] at h; cases h
theorem begin6_b0 {s : ByteArray} (h : beginK s = 6) : b0 s = 34 := by
  cases hq : (((b0 s).toNat : Int) == 34)
  · exfalso
    unfold beginK at h
    rw [hq] at h
    simp only [Bool.false_eq_true, if_false] at h
    repeat' split at h
    all_goals omega
  · exact (u8n _ 34 (by omega)).1 hq
theorem first6 {s : ByteArray} (h : (firstP s).1 = 6) : beginK s = 6 := by
  unfold firstP at h
  rcases beginK_is s with hb | hb | hb | hb | hb | hb | hb
  · rw [hb] at h; simp at h
  · rw [hb] at h; simp at h
  · rw [hb] at h
    have hn : (nameP s).1 = 4 ∨ (nameP s).1 = 3 := by unfold nameP; simp only; split <;> simp
    have hh' : (nameP s).1 = 6 := h
    omega
  · rw [hb] at h; simp at h
  · exact hb
  · rw [hb] at h; simp at h
  · rw [hb] at h; simp at h
theorem tok_first {s : ByteArray} {k : Int} (h : isTok (k, s) = true) : (firstP s).1 = k := by
  unfold isTok lexesB at h
  rw [Bool.and_eq_true] at h
  have h2 : lexL s = [(k, s)] := of_decide_eq_true h.2
  have hz : 0 < s.size := by
    rcases Nat.eq_zero_or_pos s.size with h0 | h0
    · rw [lexL_nil h0] at h2; cases h2
    · exact h0
  have h3 := lexL_step hz
  rw [h2] at h3
  have h4 := congrArg (fun l : List Tok => l.head?.map Prod.fst) h3
  simp only [List.head?_cons, Option.map_some] at h4
  exact (Option.some.inj h4).symm
theorem isTok_b0 {s : ByteArray} (h : isTok (6, s) = true) : b0 s = 34 := begin6_b0 (first6 (tok_first h))
/-- Quote of Unquote is the text -/
theorem quote_unquote {s : ByteArray} (h : isTok (6, s) = true) : quoteR (unquoteR 6 s).1 = (s, 0) := by
  obtain ⟨z1, z2, z3⟩ := isTok_text h
  have hb := isTok_b0 h
  have hts := tail_size s 1
  have hw : byt (s.extract 1 s.size) = qList (unqF s.size (s.extract 1 s.size)) ++ [34] := by
    refine textF_whole s.size _ 1 (by omega) ?_
    have : textE s = textF s.size (s.extract 1 s.size) 1 := rfl
    rw [← this, z3, hts]; exact congrArg some (by omega)
  have hs : byt s = 34 :: (byt (s.extract 1 s.size)) := by
    rw [byt_drop]
    have hl := byt_length s
    have e0 : b0 s = (byt s).getD 0 0 := rfl
    cases h5 : byt s with
    | nil => rw [h5] at hl; simp at hl; omega
    | cons a l => rw [h5, hb] at e0; rw [show a = 34 from e0.symm]; rfl
  have hu : (unquoteR 6 s).1 = ⟨(unqF s.size (s.extract 1 s.size)).toArray⟩ := by unfold unquoteR; rw [if_pos ⟨rfl, h⟩]
  rw [hu]
  have hbu : byt (⟨(unqF s.size (s.extract 1 s.size)).toArray⟩ : ByteArray) = unqF s.size (s.extract 1 s.size) := by unfold byt; simp
  have hq : quoteB ⟨(unqF s.size (s.extract 1 s.size)).toArray⟩ = s := by
    apply bytj
    rw [byt_quote, hbu, hs, hw]; rfl
  have hsz : (qList (unqF s.size (s.extract 1 s.size))).length + 2 = s.size := by
    have := byt_length s
    rw [hs, hw] at this
    simp at this
    omega
  unfold quoteR
  rw [hbu, if_pos (by omega), hq]
end Go.Proofs.YtkaceghngjpemaaDoor
