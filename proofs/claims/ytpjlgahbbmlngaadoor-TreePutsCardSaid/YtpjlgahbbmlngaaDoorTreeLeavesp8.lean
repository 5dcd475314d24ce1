/-
  Plain mathematics of layer 3: neighbours, and where line feeds are.; Plain mathematics of layer 3: a token that ends ahead of a string's end is the same, whatever comes behind the string.
-/
import Derived.Test.YtpjlgahbbmlngaaDoorTreeLeavesp4
namespace Go.Proofs.YtpjlgahbbmlngaaDoor
set_option linter.unusedVariables false
set_option linter.unusedSimpArgs false

def noFeed (l : List UInt8) : Prop := ∀ b ∈ l, ((b.toNat : Int) == 10) = false
theorem noFeed_nil : noFeed [] := fun _ h => by cases h
theorem noFeed_append {a b : List UInt8} (h : noFeed a) (h2 : noFeed b) : noFeed (a ++ b) := fun x hx => by
  rcases List.mem_append.1 hx with h' | h'
  · exact h x h'
  · exact h2 x h'
theorem run_all {p : UInt8 → Bool} : ∀ (l : List UInt8), ∀ b ∈ l.take (runL p l), p b = true
  | [], b, h => by simp at h
  | a :: l, b, h => by
    simp only [runL] at h
    split at h
    · rename_i hp
      rw [List.take_succ_cons] at h
      rcases List.mem_cons.1 h with rfl | h
      · exact hp
      · exact run_all l b h
    · simp at h
theorem run_end {p : UInt8 → Bool} : ∀ (l : List UInt8) (b : UInt8), (l.drop (runL p l)).head? = some b → p b = false
  | [], b, h => by simp at h
  | a :: l, b, h => by
    simp only [runL] at h
    split at h
    · rw [List.drop_succ_cons] at h
      exact run_end l b h
    · rename_i hp
      rw [List.drop_zero, List.head?_cons] at h
      injection h with h
      subst h
      simpa using hp
theorem b0_head {s : ByteArray} (hz : 0 < s.size) : (byt s).head? = some (b0 s) := by
  unfold b0
  cases h : byt s with
  | nil => have := byt_length s; rw [h] at this; simp at this; omega
  | cons a l => rfl
theorem run_noFeed {p : UInt8 → Bool} (hp : ∀ b, p b = true → ((b.toNat : Int) == 10) = false) (l : List UInt8) : noFeed (l.take (runL p l)) := fun b h => hp b (run_all l b h)
theorem digit_nf (b : UInt8) (h : digitB b = true) : ((b.toNat : Int) == 10) = false := by
  unfold digitB at h
  rw [Bool.and_eq_true] at h
  have := of_decide_eq_true h.1
  rw [beq_eq_false_iff_ne]; omega
theorem great_nf (b : UInt8) (h : greatB b = true) : ((b.toNat : Int) == 10) = false := by
  unfold greatB at h
  rw [Bool.and_eq_true] at h
  have := of_decide_eq_true h.1
  rw [beq_eq_false_iff_ne]; omega
theorem part_nf (b : UInt8) (h : partB b = true) : ((b.toNat : Int) == 10) = false := by
  unfold partB at h
  rw [Bool.or_eq_true, Bool.or_eq_true, Bool.or_eq_true, Bool.and_eq_true] at h
  rcases h with ((h | h) | h) | h
  · have := of_decide_eq_true h.1
    rw [beq_eq_false_iff_ne]; omega
  · exact great_nf b h
  · exact digit_nf b h
  · have := eq_of_beq h
    rw [beq_eq_false_iff_ne]; omega
theorem line_nf (b : UInt8) (h : lineB b = true) : ((b.toNat : Int) == 10) = false := by
  unfold lineB at h
  rw [bne_iff_ne] at h
  rw [beq_eq_false_iff_ne]; exact h
theorem blank_nf (b : UInt8) (h : blankB b = false) : ((b.toNat : Int) == 10) = false := by
  unfold blankB at h
  rw [Bool.or_eq_false_iff, Bool.or_eq_false_iff, Bool.or_eq_false_iff] at h
  exact h.1.2
theorem plain_nf (s : ByteArray) : noFeed ((byt s).take (plainP s).2) := by
  have hlen := byt_length s
  have h0 : b0 s = (byt s).getD 0 0 := rfl
  have h1 : b1 s = (byt s).getD 1 0 := rfl
  unfold plainP
  split
  · simp only [List.take_zero]; exact noFeed_nil
  · split
    · simp only [List.take_zero]; exact noFeed_nil
    · rename_i n1 n2
      split
      · rename_i n3
        unfold pairP
        split
        · simp only [List.take_zero]; exact noFeed_nil
        · rename_i n4
          have key : ((b1 s).toNat : Int) ≠ 10 → noFeed ((byt s).take 2) := by
            intro hb
            rw [h0] at n2
            rw [h1] at hb
            intro x hx
            cases hl : byt s with
            | nil => rw [hl] at hlen; simp at hlen; omega
            | cons a l =>
              cases l with
              | nil => rw [hl] at hlen; simp at hlen; omega
              | cons c l =>
                rw [hl] at hx n2 hb
                simp at hx n2 hb
                rcases hx with rfl | rfl
                · rw [beq_eq_false_iff_ne]; exact n2
                · rw [beq_eq_false_iff_ne]; exact hb
          split
          · rename_i n5
            exact key (by have := eq_of_beq n5; omega)
          · split
            · rename_i n6
              exact key (by have := eq_of_beq n6; omega)
            · split
              · rename_i n7
                exact key (by have := eq_of_beq n7; omega)
              · simp only [List.take_zero]; exact noFeed_nil
      · intro x hx
        rw [h0] at n2
        cases hl : byt s with
        | nil => rw [hl] at hx; simp at hx
        | cons a l =>
          rw [hl] at hx n2
          simp at hx n2
          subst hx
          rw [beq_eq_false_iff_ne]; exact n2
theorem textF_nf : ∀ (f : Nat) (s : ByteArray) (k n : Nat), textF f s k = some n → noFeed ((byt s).take (n - k))
  | 0, _, _, _, h => by cases h
  | f + 1, s, k, n, h => by
    simp only [textF] at h
    by_cases h0 : s.size = 0
    · rw [if_pos h0] at h; cases h
    · rw [if_neg h0] at h
      split at h
      · have h2 := textF_nf f _ _ n h
        have hle := textF_le f _ _ n h
        rw [byt_drop] at h2
        rw [show n - k = (plainP s).2 + (n - (k + (plainP s).2)) by omega, List.take_add]
        exact noFeed_append (plain_nf s) h2
      · split at h
        · rename_i h3
          injection h with h
          rw [show n - k = 1 by omega]
          intro x hx
          have e0 : b0 s = (byt s).getD 0 0 := rfl
          rw [e0] at h3
          cases hl : byt s with
          | nil => rw [hl] at hx; simp at hx
          | cons a l =>
            rw [hl] at hx h3
            simp at hx h3
            subst hx
            rw [beq_eq_false_iff_ne]; omega
        · cases h
theorem badF_nf (s : ByteArray) (hb : noFeed ((byt s).take 1)) : ∀ (f k : Nat), noFeed ((byt s).take k) → k + f ≤ s.size → noFeed ((byt s).take (badF f s k))
  | 0, k, h, _ => h
  | f + 1, k, h, hk => by
    simp only [badF]
    split
    · rename_i h8
      refine badF_nf s hb f (k + 1) ?_ (by omega)
      have hlt : k < s.size := by omega
      rw [List.take_add]
      refine noFeed_append h ?_
      have hnb : blankB (b0 (s.extract k s.size)) = false := by
        cases hq : blankB (b0 (s.extract k s.size))
        · rfl
        · unfold beginK at h8; rw [hq] at h8; simp at h8
      rw [b0_tail hlt] at hnb
      intro x hx
      have hl : k < (byt s).length := by rw [byt_length]; exact hlt
      rw [List.drop_eq_getElem_cons hl] at hx
      have hx2 : x = (byt s)[k] := List.mem_singleton.1 hx
      rw [hx2]
      exact blank_nf _ hnb
    · exact h
theorem signs_nf : ∀ k, k < 22 → noFeed (byt (signsB[k]?.getD ByteArray.empty)) := by
  have h : ∀ k, k < 22 → ∀ b ∈ byt (signsB[k]?.getD ByteArray.empty), ((b.toNat : Int) == 10) = false := by decide +kernel
  exact h
theorem byt_take (s : ByteArray) (n : Nat) : byt (s.extract 0 n) = (byt s).take n := by
  unfold byt
  rw [ByteArray.data_extract, Array.toList_extract]
  simp
theorem signTo_nf (s : ByteArray) : ∀ k, k ≤ 22 → noFeed ((byt s).take (signTo s k))
  | 0, _ => by simp only [signTo, List.take_zero]; exact noFeed_nil
  | k + 1, hk => by
    simp only [signTo]
    split
    · rename_i h
      have h1 := h
      unfold preB at h1
      rw [Bool.and_eq_true] at h1
      have h2 := of_decide_eq_true h1.2
      have h3 := congrArg byt h2
      rw [byt_take] at h3
      rw [h3]
      exact signs_nf k (by omega)
    · exact signTo_nf s k (by omega)

/-- what a token that is no blank has: no line feed -/
theorem firstP_nf (s : ByteArray) (hz : 0 < s.size) (h1 : (firstP s).1 ≠ 1) : noFeed ((byt s).take (firstP s).2) := by
  have hhead := b0_head hz
  have hnb : beginK s ≠ 1 → blankB (b0 s) = false := by
    intro hk
    cases hq : blankB (b0 s)
    · rfl
    · exfalso; apply hk; unfold beginK; rw [hq]; rfl
  have hone : blankB (b0 s) = false → noFeed ((byt s).take 1) := by
    intro hb x hx
    cases hl : byt s with
    | nil => rw [hl] at hx; simp at hx
    | cons a l =>
      rw [hl] at hx hhead
      simp at hx hhead
      subst hx
      rw [hhead]; exact blank_nf _ hb
  unfold firstP at h1 ⊢
  rcases beginK_is s with h | h | h | h | h | h | h
  all_goals rw [h] at h1 ⊢
  · exact absurd rfl h1
  · exact run_noFeed line_nf _
  · exact run_noFeed part_nf _
  · exact run_noFeed digit_nf _
  · show noFeed ((byt s).take (textP s).2)
    unfold textP
    cases he : textE s with
    | none => exact run_noFeed line_nf _
    | some n =>
      have h2 := textF_nf _ _ _ _ he
      have h3 := textF_le _ _ _ _ he
      rw [byt_drop] at h2
      show noFeed ((byt s).take n)
      rw [show n = 1 + (n - 1) by omega, List.take_add]
      exact noFeed_append (hone (hnb (by rw [h]; decide))) h2
  · exact signTo_nf s 22 (Nat.le_refl _)
  · show noFeed ((byt s).take (badN s))
    exact badF_nf s (hone (hnb (by rw [h]; decide))) _ 1 (hone (hnb (by rw [h]; decide))) (by omega)

/-- which two kinds may not be neighbours -/
def badPair (a b : Int) : Bool := (a == 1 && b == 1) || ((a == 3 || a == 4) && (b == 3 || b == 4 || b == 5))
theorem firstP_kinds (s : ByteArray) : ((firstP s).1 = 1 → beginK s = 1) ∧ ((firstP s).1 = 3 ∨ (firstP s).1 = 4 → beginK s = 3) ∧ ((firstP s).1 = 5 → beginK s = 5) := by
  unfold firstP
  rcases beginK_is s with h | h | h | h | h | h | h
  all_goals rw [h]
  · refine ⟨fun _ => rfl, fun hh => by simp at hh, fun hh => by simp at hh⟩
  · refine ⟨fun hh => by simp at hh, fun hh => by simp at hh, fun hh => by simp at hh⟩
  · have hn : (nameP s).1 = 4 ∨ (nameP s).1 = 3 := by unfold nameP; simp only; split <;> simp
    refine ⟨fun hh => ?_, fun _ => rfl, fun hh => ?_⟩
    · have hh' : (nameP s).1 = 1 := hh
      omega
    · have hh' : (nameP s).1 = 5 := hh
      omega
  · refine ⟨fun hh => by simp at hh, fun hh => by simp at hh, fun _ => rfl⟩
  · have hn : (textP s).1 = 6 ∨ (textP s).1 = 8 := by unfold textP; split <;> simp
    refine ⟨fun hh => ?_, fun hh => ?_, fun hh => ?_⟩
    · have hh' : (textP s).1 = 1 := hh
      omega
    · have hh' : (textP s).1 = 3 ∨ (textP s).1 = 4 := hh
      omega
    · have hh' : (textP s).1 = 5 := hh
      omega
  · refine ⟨fun hh => by simp at hh, fun hh => by simp at hh, fun hh => by simp at hh⟩
  · refine ⟨fun hh => by simp at hh, fun hh => by simp at hh, fun hh => by simp at hh⟩
theorem begin_blank {s : ByteArray} (h : beginK s = 1) : blankB (b0 s) = true := by
  cases hq : blankB (b0 s)
  · exfalso
    unfold beginK at h
    rw [hq] at h
    simp only [Bool.false_eq_true, if_false] at h
    repeat' split at h
    all_goals omega
  · rfl
theorem begin_part {s : ByteArray} (h : beginK s = 3 ∨ beginK s = 5) : partB (b0 s) = true := by
  cases hq : partB (b0 s)
  · exfalso
    have hd : digitB (b0 s) = false := by
      unfold partB at hq
      rw [Bool.or_eq_false_iff, Bool.or_eq_false_iff] at hq
      exact hq.1.2
    unfold beginK at h
    rw [hq, hd] at h
    simp only [Bool.false_eq_true, if_false] at h
    repeat' split at h
    all_goals omega
  · rfl
/-- the token behind the first one -/
theorem next_pair (s : ByteArray) (hz : 0 < s.size) (hr : (firstP s).2 < s.size) : badPair (firstP s).1 (firstP (s.extract (firstP s).2 s.size)).1 = false := by
  obtain ⟨a1, a2, a3⟩ := firstP_kinds s
  obtain ⟨c1, c2, c3⟩ := firstP_kinds (s.extract (firstP s).2 s.size)
  have hsz := tail_size s (firstP s).2
  have hh := b0_head (s := s.extract (firstP s).2 s.size) (by omega)
  rw [byt_drop] at hh
  cases hq : badPair (firstP s).1 (firstP (s.extract (firstP s).2 s.size)).1
  · rfl
  · exfalso
    unfold badPair at hq
    rw [Bool.or_eq_true, Bool.and_eq_true, Bool.and_eq_true, Bool.or_eq_true, Bool.or_eq_true, Bool.or_eq_true] at hq
    simp only [beq_iff_eq] at hq
    rcases hq with ⟨h1, h2⟩ | ⟨h1, h2⟩
    · have hb := a1 h1
      have hn : (firstP s).2 = runL blankB (byt s) := by unfold firstP; rw [hb]; rfl
      have hb2 := begin_blank (c1 h2)
      rw [hn] at hh hb2
      have := run_end (byt s) _ hh
      rw [this] at hb2
      cases hb2
    · have hb := a2 h1
      have hn : (firstP s).2 = runL partB (byt s) := by unfold firstP; rw [hb]; rfl
      have hb2 : partB (b0 (s.extract (firstP s).2 s.size)) = true := begin_part (by
        rcases h2 with (h2 | h2) | h2
        · exact .inl (c2 (.inl h2))
        · exact .inl (c2 (.inr h2))
        · exact .inr (c3 h2))
      rw [hn] at hh hb2
      have := run_end (byt s) _ hh
      rw [this] at hb2
      cases hb2
/-- all tokens of a string -/
theorem lexL_nf : ∀ (n : Nat) (s : ByteArray), s.size ≤ n → ∀ p ∈ lexL s, p.1 ≠ 1 → noFeed (byt p.2)
  | 0, s, h, p, hp, _ => by rw [lexL_nil (by omega)] at hp; cases hp
  | n + 1, s, h, p, hp, h1 => by
    by_cases h0 : s.size = 0
    · rw [lexL_nil h0] at hp; cases hp
    · have hle := firstP_le s (by omega)
      have hz := tail_size s (firstP s).2
      rw [lexL_step (by omega)] at hp
      rcases List.mem_cons.1 hp with rfl | hp
      · rw [byt_take]; exact firstP_nf s (by omega) h1
      · exact lexL_nf n _ (by omega) p hp h1
theorem lexL_pair : ∀ (n : Nat) (s : ByteArray), s.size ≤ n → ∀ (i : Nat) (p q : Tok), (lexL s)[i]? = some p → (lexL s)[i + 1]? = some q → badPair p.1 q.1 = false
  | 0, s, h, i, p, q, h1, _ => by
    rw [lexL_nil (by omega)] at h1
    simp at h1
  | n + 1, s, h, i, p, q, h1, h2 => by
    by_cases h0 : s.size = 0
    · rw [lexL_nil h0] at h1
      simp at h1
    · have hle := firstP_le s (by omega)
      have hz := tail_size s (firstP s).2
      rw [lexL_step (s := s) (by omega)] at h1 h2
      rw [List.getElem?_cons_succ] at h2
      have hnp := next_pair s (by omega)
      have hls2 := fun hr : (firstP s).2 < s.size => lexL_step (s := s.extract (firstP s).2 s.size) (by omega)
      have ih := lexL_pair n (s.extract (firstP s).2 s.size) (by omega)
      generalize firstP s = P at h1 h2 hnp hls2 hz hle ih
      cases i with
      | zero =>
        rw [List.getElem?_cons_zero] at h1
        have e1 : p.1 = P.1 := by rw [← Option.some.inj h1]
        by_cases hr : P.2 < s.size
        · have h3 := hls2 hr
          have hnp := hnp hr
          generalize s.extract P.2 s.size = S at h3 hnp h2
          generalize firstP S = Q at h3 hnp
          rw [h3, List.getElem?_cons_zero] at h2
          have e2 : q.1 = Q.1 := by rw [← Option.some.inj h2]
          rw [e1, e2]
          exact hnp
        · rw [lexL_nil (s := s.extract P.2 s.size) (by omega)] at h2
          simp at h2
      | succ i =>
        rw [List.getElem?_cons_succ] at h1
        exact ih i p q h1 h2
end Go.Proofs.YtpjlgahbbmlngaaDoor

namespace Go.Proofs.YtpjlgahbbmlngaaDoor
set_option linter.unusedVariables false
set_option linter.unusedSimpArgs false

theorem u8x (b : UInt8) (n : Nat) (hn : n < 256) : (((b.toNat : Int) == (n : Int)) = true) ↔ b = UInt8.ofNat n := by
  rw [beq_iff_eq]
  constructor
  · intro h
    apply UInt8.toNat_inj.1
    rw [UInt8.toNat_ofNat_of_lt' (by omega)]
    omega
  · intro h
    rw [h, UInt8.toNat_ofNat_of_lt' (by omega)]
theorem begin6_b0x {s : ByteArray} (h : beginK s = 6) : b0 s = 34 := by
  cases hq : (((b0 s).toNat : Int) == 34)
  · exfalso
    unfold beginK at h
    rw [hq] at h
    simp only [Bool.false_eq_true, if_false] at h
    repeat' split at h
    all_goals omega
  · exact (u8x _ 34 (by omega)).1 hq
theorem byt_append (s t : ByteArray) : byt (s ++ t) = byt s ++ byt t := by unfold byt; rw [ByteArray.data_append, Array.toList_append]
theorem size_append (s t : ByteArray) : (s ++ t).size = s.size + t.size := by rw [← byt_length, byt_append, List.length_append, byt_length, byt_length]
theorem tail_append (s t : ByteArray) {k : Nat} (h : k ≤ s.size) : (s ++ t).extract k (s ++ t).size = s.extract k s.size ++ t := by
  apply bytj
  rw [byt_drop, byt_append, byt_append, byt_drop, List.drop_append_of_le_length (by rw [byt_length]; exact h)]
theorem head_append (s t : ByteArray) {n : Nat} (h : n ≤ s.size) : (s ++ t).extract 0 n = s.extract 0 n := by
  apply bytj
  rw [byt_take, byt_take, byt_append, List.take_append_of_le_length (by rw [byt_length]; exact h)]
theorem run_append {p : UInt8 → Bool} : ∀ (a b : List UInt8), runL p a < a.length → runL p (a ++ b) = runL p a
  | [], b, h => by simp at h
  | c :: a, b, h => by
    simp only [runL, List.cons_append] at h ⊢
    split
    · rename_i hp
      rw [if_pos hp] at h
      simp only [List.length_cons] at h
      rw [run_append a b (by omega)]
    · rfl
theorem b0_append {s : ByteArray} (t : ByteArray) (h : 0 < s.size) : b0 (s ++ t) = b0 s := by
  have hl := byt_length s
  unfold b0
  rw [byt_append]
  cases h2 : byt s with
  | nil => rw [h2] at hl; simp at hl; omega
  | cons a l => rfl
theorem b1_append {s : ByteArray} (t : ByteArray) (h : 1 < s.size) : b1 (s ++ t) = b1 s := by
  have hl := byt_length s
  unfold b1
  rw [byt_append]
  cases h2 : byt s with
  | nil => rw [h2] at hl; simp at hl; omega
  | cons a l =>
    cases l with
    | nil => rw [h2] at hl; simp at hl; omega
    | cons c l => rfl
theorem preB_append {s p : ByteArray} (t : ByteArray) (h : p.size ≤ s.size) : preB (s ++ t) p = preB s p := by
  unfold preB
  rw [head_append s t h, size_append, decide_eq_true (show p.size ≤ s.size + t.size by omega), decide_eq_true h]
theorem preB_more {s p : ByteArray} (t : ByteArray) (h : preB s p = true) : preB (s ++ t) p = true := by
  rw [preB_append t (preB_le h)]; exact h
theorem signs_two : ∀ k, k < 22 → (signsB[k]?.getD ByteArray.empty).size ≤ 2 := by decide +kernel
theorem signs_pos : ∀ k, k < 22 → 0 < (signsB[k]?.getD ByteArray.empty).size := by decide +kernel
theorem signTo_append {s : ByteArray} (t : ByteArray) (h : 2 ≤ s.size) : ∀ k, k ≤ 22 → signTo (s ++ t) k = signTo s k
  | 0, _ => rfl
  | k + 1, hk => by
    have h2 := signs_two k (by omega)
    simp only [signTo]
    rw [preB_append t (by omega), signTo_append t h k (by omega)]
theorem signTo_more {s : ByteArray} (t : ByteArray) : ∀ k, k ≤ 22 → 0 < signTo s k → 0 < signTo (s ++ t) k
  | 0, _, h => h
  | k + 1, hk, h => by
    have hp := signs_pos k (by omega)
    simp only [signTo] at h ⊢
    by_cases h1 : preB (s ++ t) (signsB[k]?.getD ByteArray.empty) = true
    · rw [if_pos h1]; exact hp
    · rw [if_neg h1]
      have h2 : ¬ preB s (signsB[k]?.getD ByteArray.empty) = true := fun h3 => h1 (preB_more t h3)
      rw [if_neg h2] at h
      exact signTo_more t k (by omega) h
theorem beginK_append {s : ByteArray} (t : ByteArray) (h : 2 ≤ s.size) : beginK (s ++ t) = beginK s := by
  unfold beginK
  rw [b0_append t (by omega), preB_append t (show slashes.size ≤ s.size from h), show signN (s ++ t) = signN s from signTo_append t h 22 (Nat.le_refl _)]
theorem beginK_more {s : ByteArray} (t : ByteArray) (hz : 0 < s.size) (h : beginK s ≠ 8) : beginK (s ++ t) ≠ 8 := by
  intro h8
  apply h
  unfold beginK at h8 ⊢
  rw [b0_append t hz] at h8
  by_cases c1 : blankB (b0 s) = true
  · rw [if_pos c1] at h8; omega
  rw [if_neg c1] at h8 ⊢
  by_cases c2 : preB (s ++ t) slashes = true
  · rw [if_pos c2] at h8; omega
  have c2' : ¬ preB s slashes = true := fun h3 => c2 (preB_more t h3)
  rw [if_neg c2] at h8
  rw [if_neg c2']
  by_cases c3 : digitB (b0 s) = true
  · rw [if_pos c3] at h8; omega
  rw [if_neg c3] at h8 ⊢
  by_cases c4 : partB (b0 s) = true
  · rw [if_pos c4] at h8; omega
  rw [if_neg c4] at h8 ⊢
  by_cases c5 : ((b0 s).toNat : Int) == 34
  · rw [if_pos c5] at h8; omega
  rw [if_neg c5] at h8 ⊢
  by_cases c6 : 0 < signN (s ++ t)
  · rw [if_pos c6] at h8; omega
  have c6' : ¬ 0 < signN s := fun h3 => c6 (signTo_more t 22 (Nat.le_refl _) h3)
  rw [if_neg c6']
theorem plainP_append {s : ByteArray} (t : ByteArray) (hz : 0 < s.size) (h : 2 ≤ s.size ∨ ((b0 s).toNat : Int) ≠ 92) : plainP (s ++ t) = plainP s := by
  unfold plainP
  rw [b0_append t hz]
  by_cases c1 : (((b0 s).toNat : Int) == 34) = true
  · rw [if_pos c1, if_pos c1]
  rw [if_neg c1, if_neg c1]
  by_cases c2 : (((b0 s).toNat : Int) == 10) = true
  · rw [if_pos c2, if_pos c2]
  rw [if_neg c2, if_neg c2]
  by_cases c3 : (((b0 s).toNat : Int) == 92) = true
  · rw [if_pos c3, if_pos c3]
    have h2 : 2 ≤ s.size := by
      rcases h with h | h
      · exact h
      · exact absurd (eq_of_beq c3) h
    unfold pairP
    have hu : ¬ (s ++ t).size < 2 := by rw [size_append]; omega
    have hs : ¬ s.size < 2 := by omega
    rw [b1_append t (by omega), if_neg hu, if_neg hs]
  · rw [if_neg c3, if_neg c3]
theorem plainP_pos {s : ByteArray} (h : 0 < (plainP s).2) : 2 ≤ s.size ∨ ((b0 s).toNat : Int) ≠ 92 := by
  by_cases c3 : ((b0 s).toNat : Int) = 92
  · left
    unfold plainP at h
    rw [c3] at h
    have : (0 : Nat) < (pairP s).2 := h
    unfold pairP at this
    by_cases hs : s.size < 2
    · rw [if_pos hs] at this; simp at this
    · omega
  · exact .inr c3
theorem textF_append : ∀ (f g : Nat) (s t : ByteArray) (k n : Nat), f ≤ g → textF f s k = some n → textF g (s ++ t) k = some n
  | 0, _, _, _, _, _, _, h => by cases h
  | f + 1, g, s, t, k, n, hg, h => by
    obtain ⟨g, rfl⟩ : ∃ g', g = g' + 1 := ⟨g - 1, by omega⟩
    simp only [textF] at h ⊢
    by_cases h0 : s.size = 0
    · rw [if_pos h0] at h; cases h
    · rw [if_neg h0] at h
      rw [if_neg (by rw [size_append]; omega)]
      by_cases h1 : 0 < (plainP s).2
      · have hp := plainP_append t (by omega) (plainP_pos h1)
        have hle := plainP_le (s := s) (by omega)
        rw [if_pos h1] at h
        rw [hp, if_pos h1, tail_append s t hle.1]
        exact textF_append f g _ t _ n (by omega) h
      · rw [if_neg h1] at h
        by_cases h3 : (((b0 s).toNat : Int) == 34) = true
        · have hp := plainP_append (s := s) t (by omega) (.inr (by have := eq_of_beq h3; omega))
          rw [if_pos h3] at h
          rw [hp, if_neg h1, b0_append t (by omega), if_pos h3]
          exact h
        · rw [if_neg h3] at h; cases h
theorem textF_none : ∀ (f g : Nat) (s t : ByteArray) (k : Nat), s.size ≤ f → ¬ noFeed (byt s) → textF f s k = none → textF g (s ++ t) k = none
  | _, 0, _, _, _, _, _, _ => rfl
  | 0, g + 1, s, t, k, hf, hn, h => by
    exfalso; apply hn
    rw [List.eq_nil_of_length_eq_zero (l := byt s) (by rw [byt_length]; omega)]
    exact noFeed_nil
  | f + 1, g + 1, s, t, k, hf, hn, h => by
    have h0 : ¬ s.size = 0 := by
      intro h0; apply hn
      rw [List.eq_nil_of_length_eq_zero (l := byt s) (by rw [byt_length]; omega)]
      exact noFeed_nil
    simp only [textF] at h ⊢
    rw [if_neg h0] at h
    rw [if_neg (by rw [size_append]; omega)]
    have hts := tail_size s (plainP s).2
    by_cases h1 : 0 < (plainP s).2
    · have hp := plainP_append t (by omega) (plainP_pos h1)
      have hle := plainP_le (s := s) (by omega)
      rw [if_pos h1] at h
      rw [hp, if_pos h1, tail_append s t hle.1]
      refine textF_none f g _ t _ (by omega) ?_ h
      intro hnf
      apply hn
      rw [byt_drop] at hnf
      have := noFeed_append (plain_nf s) hnf
      rwa [List.take_append_drop] at this
    · rw [if_neg h1] at h
      by_cases h3 : (((b0 s).toNat : Int) == 34) = true
      · rw [if_pos h3] at h; cases h
      · have h4 : 2 ≤ s.size ∨ ((b0 s).toNat : Int) ≠ 92 := by
          by_cases c3 : ((b0 s).toNat : Int) = 92
          · left
            by_cases hs : 2 ≤ s.size
            · exact hs
            · exfalso; apply hn
              have hl := byt_length s
              have e0 : b0 s = (byt s).getD 0 0 := rfl
              intro x hx
              cases h5 : byt s with
              | nil => rw [h5] at hx; cases hx
              | cons a l =>
                cases l with
                | nil =>
                  rw [h5] at hx e0
                  have hxa : x = a := List.mem_singleton.1 hx
                  have e0' : b0 s = a := e0
                  rw [hxa, ← e0', beq_eq_false_iff_ne]; omega
                | cons c l => rw [h5] at hl; simp at hl; omega
          · exact .inr c3
        have hp := plainP_append t (by omega) h4
        rw [hp, if_neg h1, b0_append t (by omega), if_neg h3]
theorem badF_append (s t : ByteArray) : ∀ (f g k : Nat), k + f = s.size → f ≤ g → badF f s k < s.size → badF g (s ++ t) k = badF f s k
  | 0, g, k, hk, _, h => by simp only [badF] at h; omega
  | f + 1, g, k, hk, hg, h => by
    obtain ⟨g, rfl⟩ : ∃ g', g = g' + 1 := ⟨g - 1, by omega⟩
    have hts := tail_size s k
    simp only [badF] at h ⊢
    rw [tail_append s t (by omega)]
    by_cases h8 : beginK (s.extract k s.size) = 8
    · rw [if_pos h8] at h ⊢
      have hle := badF_le s f (k + 1)
      rw [if_pos (by rw [beginK_append t (by omega)]; exact h8)]
      exact badF_append s t f g (k + 1) (by omega) (by omega) h
    · rw [if_neg h8, if_neg (beginK_more t (by omega) h8)]
theorem run_feed (l : List UInt8) (h : runL lineB l < l.length) : ¬ noFeed l := by
  intro hn
  have hh : (l.drop (runL lineB l)).head? = some (l[runL lineB l]'h) := by rw [List.drop_eq_getElem_cons h]; rfl
  have h1 := run_end (p := lineB) l _ hh
  have h2 := hn _ (List.getElem_mem h)
  unfold lineB at h1
  rw [bne_eq_false_iff_eq] at h1
  rw [beq_eq_false_iff_ne] at h2
  exact h2 h1

/-- a token that ends ahead of the end -/
theorem firstP_append (s t : ByteArray) (hz : 0 < s.size) (h : (firstP s).2 < s.size) : firstP (s ++ t) = firstP s := by
  have hle := firstP_le s hz
  have hs2 : 2 ≤ s.size := by omega
  have hb := beginK_append t hs2
  have hl := byt_length s
  unfold firstP at h ⊢
  rw [hb]
  rcases beginK_is s with hk | hk | hk | hk | hk | hk | hk
  · rw [hk] at h ⊢
    have h' : runL blankB (byt s) < s.size := h
    show (1, runL blankB (byt (s ++ t))) = ((1 : Int), runL blankB (byt s))
    rw [byt_append, run_append _ _ (by omega)]
  · rw [hk] at h ⊢
    have h' : runL lineB (byt s) < s.size := h
    show (2, runL lineB (byt (s ++ t))) = ((2 : Int), runL lineB (byt s))
    rw [byt_append, run_append _ _ (by omega)]
  · rw [hk] at h ⊢
    have h' : runL partB (byt s) < s.size := h
    show nameP (s ++ t) = nameP s
    unfold nameP
    rw [byt_append, run_append _ _ (by omega), head_append s t (by omega)]
  · rw [hk] at h ⊢
    have h' : runL digitB (byt s) < s.size := h
    show (5, runL digitB (byt (s ++ t))) = ((5 : Int), runL digitB (byt s))
    rw [byt_append, run_append _ _ (by omega)]
  · rw [hk] at h ⊢
    have h' : (textP s).2 < s.size := h
    show textP (s ++ t) = textP s
    have htl := tail_append s t (show 1 ≤ s.size by omega)
    have hts := tail_size s 1
    unfold textP at h' ⊢
    cases he : textE s with
    | some n =>
      have h1 : textE (s ++ t) = some n := by
        unfold textE at he ⊢
        rw [htl]
        exact textF_append _ _ _ t 1 n (by rw [size_append]; omega) he
      rw [h1]
    | none =>
      rw [he] at h'
      simp only at h'
      have hnf := run_feed (byt s) (by omega)
      have h1 : textE (s ++ t) = none := by
        unfold textE at he ⊢
        rw [htl]
        refine textF_none _ _ _ t 1 (by omega) ?_ he
        intro hn
        apply hnf
        rw [byt_drop] at hn
        have hq : b0 s = 34 := begin6_b0x hk
        intro x hx
        rw [← List.take_append_drop 1 (byt s)] at hx
        rcases List.mem_append.1 hx with hx | hx
        · have e0 : b0 s = (byt s).getD 0 0 := rfl
          cases h5 : byt s with
          | nil => rw [h5] at hx; simp at hx
          | cons a l =>
            rw [h5] at hx e0
            have hxa : x = a := List.mem_singleton.1 hx
            have e0' : b0 s = a := e0
            rw [hxa, ← e0', hq]; rfl
        · exact hn x hx
      rw [h1, byt_append, run_append _ _ (by omega)]
  · rw [hk]
    show (7, signN (s ++ t)) = ((7 : Int), signN s)
    rw [show signN (s ++ t) = signN s from signTo_append t hs2 22 (Nat.le_refl _)]
  · rw [hk] at h ⊢
    have h' : badN s < s.size := h
    show (8, badN (s ++ t)) = ((8 : Int), badN s)
    unfold badN at h' ⊢
    rw [badF_append s t (s.size - 1) ((s ++ t).size - 1) 1 (by omega) (by rw [size_append]; omega) h']
end Go.Proofs.YtpjlgahbbmlngaaDoor
