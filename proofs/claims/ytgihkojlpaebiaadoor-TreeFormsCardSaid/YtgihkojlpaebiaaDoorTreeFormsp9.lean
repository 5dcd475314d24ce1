/-
  Plain mathematics of layer 3: neighbours, and where line feeds are.
-/
import Derived.Test.YtgihkojlpaebiaaDoorTreeFormsp5
namespace Go.Proofs.YtgihkojlpaebiaaDoor
set_option linter.unusedVariables false
set_option linter.unusedSimpArgs false

def noFeed (l : List UInt8) : Prop := ∀ b ∈ l, ((b.toNat : Int) == 10) = false
theorem noFeed_nil : noFeed [] := fun _ h => by cases h
theorem noFeed_append {a b : List UInt8} (h : noFeed a) (h2 : noFeed b) : noFeed (a ++ b) := fun x hx => by
  rcases List.mem_append.1 hx with h' | h'
  · exact h x h'
  · exact h2 x h'
theorem run_all {p : UInt8 → Bool} : ∀ (l : List UInt8), ∀ b ∈ l.take (runL p l), p b = true
  | [], b, h => by simp at h
  | a :: l, b, h => by
    simp only [runL] at h
    split at h
    · rename_i hp
      rw [List.take_succ_cons] at h
      rcases List.mem_cons.1 h with rfl | h
      · exact hp
      · exact run_all l b h
    · simp at h
theorem run_end {p : UInt8 → Bool} : ∀ (l : List UInt8) (b : UInt8), (l.drop (runL p l)).head? = some b → p b = false
  | [], b, h => by simp at h
  | a :: l, b, h => by
    simp only [runL] at h
    split at h
    · rw [List.drop_succ_cons] at h
      exact run_end l b h
    · rename_i hp
      rw [List.drop_zero, List.head?_cons] at h
      injection h with h
      subst h
      simpa using hp
theorem b0_head {s : ByteArray} (hz : 0 < s.size) : (byt s).head? = some (b0 s) := by
  unfold b0
  cases h : byt s with
  | nil => have := byt_length s; rw [h] at this; simp at this; omega
  | cons a l => rfl
theorem run_noFeed {p : UInt8 → Bool} (hp : ∀ b, p b = true → ((b.toNat : Int) == 10) = false) (l : List UInt8) : noFeed (l.take (runL p l)) := fun b h => hp b (run_all l b h)
theorem digit_nf (b : UInt8) (h : digitB b = true) : ((b.toNat : Int) == 10) = false := by
  unfold digitB at h
  rw [Bool.and_eq_true] at h
  have := of_decide_eq_true h.1
  rw [beq_eq_false_iff_ne]; omega
theorem great_nf (b : UInt8) (h : greatB b = true) : ((b.toNat : Int) == 10) = false := by
  unfold greatB at h
  rw [Bool.and_eq_true] at h
  have := of_decide_eq_true h.1
  rw [beq_eq_false_iff_ne]; omega
theorem part_nf (b : UInt8) (h : partB b = true) : ((b.toNat : Int) == 10) = false := by
  unfold partB at h
  rw [Bool.or_eq_true, Bool.or_eq_true, Bool.or_eq_true, Bool.and_eq_true] at h
  rcases h with ((h | h) | h) | h
  · have := of_decide_eq_true h.1
    rw [beq_eq_false_iff_ne]; omega
  · exact great_nf b h
  · exact digit_nf b h
  · have := eq_of_beq h
    rw [beq_eq_false_iff_ne]; omega
theorem line_nf (b : UInt8) (h : lineB b = true) : ((b.toNat : Int) == 10) = false := by
  unfold lineB at h
  rw [bne_iff_ne] at h
  rw [beq_eq_false_iff_ne]; exact h
theorem blank_nf (b : UInt8) (h : blankB b = false) : ((b.toNat : Int) == 10) = false := by
  unfold blankB at h
  rw [Bool.or_eq_false_iff, Bool.or_eq_false_iff, Bool.or_eq_false_iff] at h
  exact h.1.2
theorem plain_nf (s : ByteArray) : noFeed ((byt s).take (plainP s).2) := by
  have hlen := byt_length s
  have h0 : b0 s = (byt s).getD 0 0 := rfl
  have h1 : b1 s = (byt s).getD 1 0 := rfl
  unfold plainP
  split
  · simp only [List.take_zero]; exact noFeed_nil
  · split
    · simp only [List.take_zero]; exact noFeed_nil
    · rename_i n1 n2
      split
      · rename_i n3
        unfold pairP
        split
        · simp only [List.take_zero]; exact noFeed_nil
        · rename_i n4
          have key : ((b1 s).toNat : Int) ≠ 10 → noFeed ((byt s).take 2) := by
            intro hb
            rw [h0] at n2
            rw [h1] at hb
            intro x hx
            cases hl : byt s with
            | nil => rw [hl] at hlen; simp at hlen; omega
            | cons a l =>
              cases l with
              | nil => rw [hl] at hlen; simp at hlen; omega
              | cons c l =>
                rw [hl] at hx n2 hb
                simp at hx n2 hb
                rcases hx with rfl | rfl
                · rw [beq_eq_false_iff_ne]; exact n2
                · rw [beq_eq_false_iff_ne]; exact hb
          split
          · rename_i n5
            exact key (by have := eq_of_beq n5; omega)
          · split
            · rename_i n6
              exact key (by have := eq_of_beq n6; omega)
            · split
              · rename_i n7
                exact key (by have := eq_of_beq n7; omega)
              · simp only [List.take_zero]; exact noFeed_nil
      · intro x hx
        rw [h0] at n2
        cases hl : byt s with
        | nil => rw [hl] at hx; simp at hx
        | cons a l =>
          rw [hl] at hx n2
          simp at hx n2
          subst hx
          rw [beq_eq_false_iff_ne]; exact n2
theorem textF_nf : ∀ (f : Nat) (s : ByteArray) (k n : Nat), textF f s k = some n → noFeed ((byt s).take (n - k))
  | 0, _, _, _, h => by cases h
  | f + 1, s, k, n, h => by
    simp only [textF] at h
    by_cases h0 : s.size = 0
    · rw [if_pos h0] at h; cases h
    · rw [if_neg h0] at h
      split at h
      · have h2 := textF_nf f _ _ n h
        have hle := textF_le f _ _ n h
        rw [byt_drop] at h2
        rw [show n - k = (plainP s).2 + (n - (k + (plainP s).2)) by omega, List.take_add]
        exact noFeed_append (plain_nf s) h2
      · split at h
        · rename_i h3
          injection h with h
          rw [show n - k = 1 by omega]
          intro x hx
          have e0 : b0 s = (byt s).getD 0 0 := rfl
          rw [e0] at h3
          cases hl : byt s with
          | nil => rw [hl] at hx; simp at hx
          | cons a l =>
            rw [hl] at hx h3
            simp at hx h3
            subst hx
            rw [beq_eq_false_iff_ne]; omega
        · cases h
theorem badF_nf (s : ByteArray) (hb : noFeed ((byt s).take 1)) : ∀ (f k : Nat), noFeed ((byt s).take k) → k + f ≤ s.size → noFeed ((byt s).take (badF f s k))
  | 0, k, h, _ => h
  | f + 1, k, h, hk => by
    simp only [badF]
    split
    · rename_i h8
      refine badF_nf s hb f (k + 1) ?_ (by omega)
      have hlt : k < s.size := by omega
      rw [List.take_add]
      refine noFeed_append h ?_
      have hnb : blankB (b0 (s.extract k s.size)) = false := by
        cases hq : blankB (b0 (s.extract k s.size))
        · rfl
        · unfold beginK at h8; rw [hq] at h8; simp at h8
      rw [b0_tail hlt] at hnb
      intro x hx
      have hl : k < (byt s).length := by rw [byt_length]; exact hlt
      rw [List.drop_eq_getElem_cons hl] at hx
      have hx2 : x = (byt s)[k] := List.mem_singleton.1 hx
      rw [hx2]
      exact blank_nf _ hnb
    · exact h
theorem signs_nf : ∀ k, k < 22 → noFeed (byt (signsB[k]?.getD ByteArray.empty)) := by
  have h : ∀ k, k < 22 → ∀ b ∈ byt (signsB[k]?.getD ByteArray.empty), ((b.toNat : Int) == 10) = false := by decide +kernel
  exact h
theorem byt_take (s : ByteArray) (n : Nat) : byt (s.extract 0 n) = (byt s).take n := by
  unfold byt
  rw [ByteArray.data_extract, Array.toList_extract]
  simp
theorem signTo_nf (s : ByteArray) : ∀ k, k ≤ 22 → noFeed ((byt s).take (signTo s k))
  | 0, _ => by simp only [signTo, List.take_zero]; exact noFeed_nil
  | k + 1, hk => by
    simp only [signTo]
    split
    · rename_i h
      have h1 := h
      unfold preB at h1
      rw [Bool.and_eq_true] at h1
      have h2 := of_decide_eq_true h1.2
      have h3 := congrArg byt h2
      rw [byt_take] at h3
      rw [h3]
      exact signs_nf k (by omega)
    · exact signTo_nf s k (by omega)

/-- what a token that is no blank has: no line feed -/
theorem firstP_nf (s : ByteArray) (hz : 0 < s.size) (h1 : (firstP s).1 ≠ 1) : noFeed ((byt s).take (firstP s).2) := by
  have hhead := b0_head hz
  have hnb : beginK s ≠ 1 → blankB (b0 s) = false := by
    intro hk
    cases hq : blankB (b0 s)
    · rfl
    · exfalso; apply hk; unfold beginK; rw [hq]; rfl
  have hone : blankB (b0 s) = false → noFeed ((byt s).take 1) := by
    intro hb x hx
    cases hl : byt s with
    | nil => rw [hl] at hx; simp at hx
    | cons a l =>
      rw [hl] at hx hhead
      simp at hx hhead
      subst hx
      rw [hhead]; exact blank_nf _ hb
  unfold firstP at h1 ⊢
  rcases beginK_is s with h | h | h | h | h | h | h
  all_goals rw [h] at h1 ⊢
  · exact absurd rfl h1
  · exact run_noFeed line_nf _
  · exact run_noFeed part_nf _
  · exact run_noFeed digit_nf _
  · show noFeed ((byt s).take (textP s).2)
    unfold textP
    cases he : textE s with
    | none => exact run_noFeed line_nf _
    | some n =>
      have h2 := textF_nf _ _ _ _ he
      have h3 := textF_le _ _ _ _ he
      rw [byt_drop] at h2
      show noFeed ((byt s).take n)
      rw [show n = 1 + (n - 1) by omega, List.take_add]
      exact noFeed_append (hone (hnb (by rw [h]; decide))) h2
  · exact signTo_nf s 22 (Nat.le_refl _)
  · show noFeed ((byt s).take (badN s))
    exact badF_nf s (hone (hnb (by rw [h]; decide))) _ 1 (hone (hnb (by rw [h]; decide))) (by omega)

/-- which two kinds may not be neighbours -/
def badPair (a b : Int) : Bool := (a == 1 && b == 1) || ((a == 3 || a == 4) && (b == 3 || b == 4 || b == 5))
theorem firstP_kinds (s : ByteArray) : ((firstP s).1 = 1 → beginK s = 1) ∧ ((firstP s).1 = 3 ∨ (firstP s).1 = 4 → beginK s = 3) ∧ ((firstP s).1 = 5 → beginK s = 5) := by
  unfold firstP
  rcases beginK_is s with h | h | h | h | h | h | h
  all_goals rw [h]
  · refine ⟨fun _ => rfl, fun hh => by simp at hh, fun hh => by simp at hh⟩
  · refine ⟨fun hh => by simp at hh, fun hh => by simp at hh, fun hh => by simp at hh⟩
  · have hn : (nameP s).1 = 4 ∨ (nameP s).1 = 3 := by unfold nameP; simp only; split <;> simp
    refine ⟨fun hh => ?_, fun _ => rfl, fun hh => ?_⟩
    · have hh' : (nameP s).1 = 1 := hh
      omega
    · have hh' : (nameP s).1 = 5 := hh
      omega
  · refine ⟨fun hh => by simp at hh, fun hh => by simp at hh, fun _ => rfl⟩
  · have hn : (textP s).1 = 6 ∨ (textP s).1 = 8 := by unfold textP; split <;> simp
    refine ⟨fun hh => ?_, fun hh => ?_, fun hh => ?_⟩
    · have hh' : (textP s).1 = 1 := hh
      omega
    · have hh' : (textP s).1 = 3 ∨ (textP s).1 = 4 := hh
      omega
    · have hh' : (textP s).1 = 5 := hh
      omega
  · refine ⟨fun hh => by simp at hh, fun hh => by simp at hh, fun hh => by simp at hh⟩
  · refine ⟨fun hh => by simp at hh, fun hh => by simp at hh, fun hh => by simp at hh⟩
theorem begin_blank {s : ByteArray} (h : beginK s = 1) : blankB (b0 s) = true := by
  cases hq : blankB (b0 s)
  · exfalso
    unfold beginK at h
    rw [hq] at h
    simp only [Bool.false_eq_true, if_false] at h
    repeat' split at h
    all_goals omega
  · rfl
theorem begin_part {s : ByteArray} (h : beginK s = 3 ∨ beginK s = 5) : partB (b0 s) = true := by
  cases hq : partB (b0 s)
  · exfalso
    have hd : digitB (b0 s) = false := by
      unfold partB at hq
      rw [Bool.or_eq_false_iff, Bool.or_eq_false_iff] at hq
      exact hq.1.2
    unfold beginK at h
    rw [hq, hd] at h
    simp only [Bool.false_eq_true, if_false] at h
    repeat' split at h
    all_goals omega
  · rfl
/-- the token behind the first one -/
theorem next_pair (s : ByteArray) (hz : 0 < s.size) (hr : (firstP s).2 < s.size) : badPair (firstP s).1 (firstP (s.extract (firstP s).2 s.size)).1 = false := by
  obtain ⟨a1, a2, a3⟩ := firstP_kinds s
  obtain ⟨c1, c2, c3⟩ := firstP_kinds (s.extract (firstP s).2 s.size)
  have hsz := tail_size s (firstP s).2
  have hh := b0_head (s := s.extract (firstP s).2 s.size) (by omega)
  rw [byt_drop] at hh
  cases hq : badPair (firstP s).1 (firstP (s.extract (firstP s).2 s.size)).1
  · rfl
  · exfalso
    unfold badPair at hq
    rw [Bool.or_eq_true, Bool.and_eq_true, Bool.and_eq_true, Bool.or_eq_true, Bool.or_eq_true, Bool.or_eq_true] at hq
    simp only [beq_iff_eq] at hq
    rcases hq with ⟨h1, h2⟩ | ⟨h1, h2⟩
    · have hb := a1 h1
      have hn : (firstP s).2 = runL blankB (byt s) := by unfold firstP; rw [hb]; rfl
      have hb2 := begin_blank (c1 h2)
      rw [hn] at hh hb2
      have := run_end (byt s) _ hh
      rw [this] at hb2
      cases hb2
    · have hb := a2 h1
      have hn : (firstP s).2 = runL partB (byt s) := by unfold firstP; rw [hb]; rfl
      have hb2 : partB (b0 (s.extract (firstP s).2 s.size)) = true := begin_part (by
        rcases h2 with (h2 | h2) | h2
        · exact .inl (c2 (.inl h2))
        · exact .inl (c2 (.inr h2))
        · exact .inr (c3 h2))
      rw [hn] at hh hb2
      have := run_end (byt s) _ hh
      rw [this] at hb2
      cases hb2
/-- all tokens of a string -/
theorem lexL_nf : ∀ (n : Nat) (s : ByteArray), s.size ≤ n → ∀ p ∈ lexL s, p.1 ≠ 1 → noFeed (byt p.2)
  | 0, s, h, p, hp, _ => by rw [lexL_nil (by omega)] at hp; cases hp
  | n + 1, s, h, p, hp, h1 => by
    by_cases h0 : s.size = 0
    · rw [lexL_nil h0] at hp; cases hp
    · have hle := firstP_le s (by omega)
      have hz := tail_size s (firstP s).2
      rw [lexL_step (by omega)] at hp
      rcases List.mem_cons.1 hp with rfl | hp
      · rw [byt_take]; exact firstP_nf s (by omega) h1
      · exact lexL_nf n _ (by omega) p hp h1
theorem lexL_pair : ∀ (n : Nat) (s : ByteArray), s.size ≤ n → ∀ (i : Nat) (p q : Tok), (lexL s)[i]? = some p → (lexL s)[i + 1]? = some q → badPair p.1 q.1 = false
  | 0, s, h, i, p, q, h1, _ => by
    rw [lexL_nil (by omega)] at h1
    simp at h1
  | n + 1, s, h, i, p, q, h1, h2 => by
    by_cases h0 : s.size = 0
    · rw [lexL_nil h0] at h1
      simp at h1
    · have hle := firstP_le s (by omega)
      have hz := tail_size s (firstP s).2
      rw [lexL_step (s := s) (by omega)] at h1 h2
      rw [List.getElem?_cons_succ] at h2
      have hnp := next_pair s (by omega)
      have hls2 := fun hr : (firstP s).2 < s.size => lexL_step (s := s.extract (firstP s).2 s.size) (by omega)
      have ih := lexL_pair n (s.extract (firstP s).2 s.size) (by omega)
      generalize firstP s = P at h1 h2 hnp hls2 hz hle ih
      cases i with
      | zero =>
        rw [List.getElem?_cons_zero] at h1
        have e1 : p.1 = P.1 := by rw [← Option.some.inj h1]
        by_cases hr : P.2 < s.size
        · have h3 := hls2 hr
          have hnp := hnp hr
          generalize s.extract P.2 s.size = S at h3 hnp h2
          generalize firstP S = Q at h3 hnp
          rw [h3, List.getElem?_cons_zero] at h2
          have e2 : q.1 = Q.1 := by rw [← Option.some.inj h2]
          rw [e1, e2]
          exact hnp
        · rw [lexL_nil (s := s.extract P.2 s.size) (by omega)] at h2
          simp at h2
      | succ i =>
        rw [List.getElem?_cons_succ] at h1
        exact ih i p q h1 h2
end Go.Proofs.YtgihkojlpaebiaaDoor
