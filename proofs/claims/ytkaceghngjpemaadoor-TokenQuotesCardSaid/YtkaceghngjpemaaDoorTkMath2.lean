/-
  Plain mathematics of layer 3: the first token is not empty, and no longer than the string.
-/
import Derived.Test.YtkaceghngjpemaaDoorTkMath
namespace Go.Proofs.YtkaceghngjpemaaDoor
set_option linter.unusedVariables false
set_option linter.unusedSimpArgs false

theorem runL_pos {p : UInt8 → Bool} {s : ByteArray} (hz : 0 < s.size) (h : p (b0 s) = true) : 1 ≤ runL p (byt s) := by
  have hl : 0 < (byt s).length := by rw [byt_length]; exact hz
  have h1 := runL_step (p := p) (l := byt s) (k := 0) hl (by rw [← h, b0_eq hz]; rfl)
  rw [List.drop_zero] at h1
  omega
theorem preB_le {s p : ByteArray} (h : preB s p = true) : p.size ≤ s.size := by
  unfold preB at h
  rw [Bool.and_eq_true] at h
  exact of_decide_eq_true h.1
theorem preB_b0 {s : ByteArray} (h : preB s slashes = true) : b0 s = 47 := by
  have h0 := preB_le h
  unfold preB at h
  rw [Bool.and_eq_true] at h
  have h1 := of_decide_eq_true h.2
  have hz : 0 < s.size := Nat.lt_of_lt_of_le (by decide) h0
  rw [b0_eq hz]
  have h2 : (s.extract 0 slashes.size).data[0]? = slashes.data[0]? := by rw [h1]
  have h3 : (s.extract 0 slashes.size).data[0]? = s.data[0]? := by
    rw [ByteArray.data_extract, Array.getElem?_extract]
    rw [if_pos (by have h4 : s.data.size = s.size := rfl; have h5 : slashes.size = 2 := rfl; omega)]
  rw [h3] at h2
  have h4 : s.data[0]? = some (s[0]'hz) := Array.getElem?_eq_getElem hz
  rw [h4] at h2
  injection h2
theorem signTo_le (s : ByteArray) : ∀ k, signTo s k ≤ s.size
  | 0 => Nat.zero_le _
  | k + 1 => by
    simp only [signTo]
    split
    · rename_i h; exact preB_le h
    · exact signTo_le s k
theorem badF_le (s : ByteArray) : ∀ (f k : Nat), k ≤ badF f s k ∧ badF f s k ≤ k + f
  | 0, k => ⟨Nat.le_refl _, Nat.le_refl _⟩
  | f + 1, k => by
    simp only [badF]
    split
    · have := badF_le s f (k + 1); omega
    · omega
theorem textF_le : ∀ (f : Nat) (s : ByteArray) (k n : Nat), textF f s k = some n → k + 1 ≤ n ∧ n ≤ k + s.size
  | 0, _, _, _, h => by cases h
  | f + 1, s, k, n, h => by
    simp only [textF] at h
    by_cases h0 : s.size = 0
    · rw [if_pos h0] at h; cases h
    · rw [if_neg h0] at h
      have hle := (plainP_le (s := s) (by omega)).1
      split at h
      · have h2 := textF_le f _ _ n h
        rw [tail_size] at h2
        omega
      · split at h
        · injection h with h; omega
        · cases h
theorem lineB_34 {b : UInt8} (h : ((b.toNat : Int) == 34) = true) : lineB b = true := by
  have := eq_of_beq h
  unfold lineB
  rw [this]; rfl
theorem firstP_le (s : ByteArray) (hz : 0 < s.size) : 1 ≤ (firstP s).2 ∧ (firstP s).2 ≤ s.size := by
  have hle := fun p => runL_le p (byt s)
  simp only [byt_length] at hle
  obtain ⟨x, hx⟩ : ∃ x, x = beginK s := ⟨_, rfl⟩
  have hx2 := hx
  unfold beginK at hx
  unfold firstP
  rw [← hx2]
  split at hx
  · subst hx
    rename_i h
    exact ⟨runL_pos hz h, hle _⟩
  split at hx
  · subst hx
    rename_i h
    exact ⟨runL_pos hz (by rw [preB_b0 h]; rfl), hle _⟩
  split at hx
  · subst hx
    rename_i h
    exact ⟨runL_pos hz h, hle _⟩
  split at hx
  · subst hx
    rename_i h
    exact ⟨runL_pos hz h, hle _⟩
  split at hx
  · subst hx
    rename_i h
    show 1 ≤ (textP s).2 ∧ (textP s).2 ≤ s.size
    unfold textP
    cases he : textE s with
    | none => exact ⟨runL_pos hz (lineB_34 h), hle _⟩
    | some n =>
      have := textF_le _ _ _ _ he
      rw [tail_size] at this
      exact ⟨by simp only; omega, by simp only; omega⟩
  split at hx
  · subst hx
    rename_i h
    exact ⟨h, signTo_le s 22⟩
  · subst hx
    show 1 ≤ badN s ∧ badN s ≤ s.size
    have := badF_le s (s.size - 1) 1
    unfold badN
    omega
theorem lexF_more : ∀ (f g : Nat) (s : ByteArray), s.size ≤ f → s.size ≤ g → lexF f s = lexF g s
  | 0, 0, _, _, _ => rfl
  | 0, g + 1, s, h, _ => by simp only [lexF]; rw [if_pos (by omega)]
  | f + 1, 0, s, _, h => by simp only [lexF]; rw [if_pos (by omega)]
  | f + 1, g + 1, s, h1, h2 => by
    simp only [lexF]
    by_cases h0 : s.size = 0
    · rw [if_pos h0, if_pos h0]
    · have := firstP_le s (by omega)
      have hz := tail_size s (firstP s).2
      rw [if_neg h0, if_neg h0, lexF_more f g _ (by omega) (by omega)]
/-- the tokens, from the first one on -/
theorem lexL_step {s : ByteArray} (h : 0 < s.size) : lexL s = ((firstP s).1, s.extract 0 (firstP s).2) :: lexL (s.extract (firstP s).2 s.size) := by
  have := firstP_le s h
  have hz := tail_size s (firstP s).2
  unfold lexL
  obtain ⟨n, hn⟩ : ∃ n, s.size = n + 1 := ⟨s.size - 1, by omega⟩
  rw [show lexF s.size s = lexF (n + 1) s by rw [hn]]
  simp only [lexF]
  rw [if_neg (by omega), lexF_more n (s.extract (firstP s).2 s.size).size _ (by omega) (Nat.le_refl _)]
theorem lexL_nil {s : ByteArray} (h : s.size = 0) : lexL s = [] := by unfold lexL; rw [h]; rfl
end Go.Proofs.YtkaceghngjpemaaDoor
