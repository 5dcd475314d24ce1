/-
  Plain mathematics of Move: order, bounds, and the bytes between two offsets.
-/
import Derived.Test.YtmdgclcakogggaaMathB
namespace Go.Proofs.Ytmdgclcakogggaa
set_option linter.unusedVariables false
set_option linter.unusedSimpArgs false

theorem sumG_low {n : Int} : ∀ {l : List Ed} {last : Int}, rising n last l = true → last ≤ n → last ≤ n + sumG l
  | [], _, _, h => by simp [sumG]; omega
  | e :: l, last, h, hl => by
    rw [rising_cons] at h
    have := sumG_low h.2.2.2.2 (by omega)
    simp only [sumG, growE]
    omega
/-- not before an edit, and not inside of it: at most its beginning -/
theorem not_bef {e : Ed} {o : Int} {after : Bool} (h1 : ¬ (e.f < o ∧ o < e.t)) (h2 : isBef e o after = false) (hft : e.f ≤ e.t) : o ≤ e.f ∧ (o = e.t → after = false) := by
  unfold isBef at h2
  by_cases h : e.f = o ∧ e.t = o
  · rw [if_pos h] at h2; exact ⟨by omega, fun _ => h2⟩
  · rw [if_neg h] at h2; simp at h2; exact ⟨by omega, fun _ => by omega⟩
theorem is_bef {e : Ed} {o : Int} {after : Bool} (h2 : isBef e o after = true) : e.t ≤ o ∧ (e.f = o → e.t = o → after = true) := by
  unfold isBef at h2
  by_cases h : e.f = o ∧ e.t = o
  · rw [if_pos h] at h2; exact ⟨by omega, fun _ _ => h2⟩
  · rw [if_neg h] at h2; simp at h2; exact ⟨h2, fun h3 h4 => absurd ⟨h3, h4⟩ h⟩
theorem move_bounds {n o : Int} {after : Bool} : ∀ {l : List Ed} {last sh : Int}, rising n last l = true → last ≤ o → o ≤ n → last + sh ≤ moveE o after sh l ∧ moveE o after sh l ≤ n + sh + sumG l
  | [], last, sh, _, h1, h2 => by simp [moveE, sumG]; omega
  | e :: l, last, sh, h, h1, h2 => by
    rw [rising_cons] at h
    have hlow := sumG_low h.2.2.2.2 (by omega)
    simp only [moveE, sumG]
    by_cases hi : e.f < o ∧ o < e.t
    · rw [if_pos hi]; simp only [growE]; omega
    · rw [if_neg hi]
      by_cases hb : isBef e o after = true
      · rw [if_pos hb]
        have h3 := (is_bef hb).1
        have ih := move_bounds (after := after) (sh := sh + growE e) h.2.2.2.2 h3 h2
        simp only [growE] at ih ⊢
        omega
      · rw [if_neg hb]
        have h3 := (not_bef hi (Bool.eq_false_iff.2 hb) (by omega)).1
        simp only [growE]
        omega
theorem move_mono {n o1 o2 : Int} {after : Bool} (ho : o1 ≤ o2) : ∀ {l : List Ed} {last sh : Int}, rising n last l = true → last ≤ o1 → o2 ≤ n → moveE o1 after sh l ≤ moveE o2 after sh l
  | [], last, sh, _, h1, h2 => by simp [moveE]; omega
  | e :: l, last, sh, h, h1, h2 => by
    rw [rising_cons] at h
    simp only [moveE]
    by_cases hi1 : e.f < o1 ∧ o1 < e.t
    · rw [if_pos hi1]
      by_cases hi2 : e.f < o2 ∧ o2 < e.t
      · rw [if_pos hi2]; omega
      · rw [if_neg hi2]
        by_cases hb2 : isBef e o2 after = true
        · rw [if_pos hb2]
          have := (move_bounds (after := after) (sh := sh + growE e) h.2.2.2.2 (is_bef hb2).1 h2).1
          simp only [growE] at this ⊢
          omega
        · have := (not_bef hi2 (Bool.eq_false_iff.2 hb2) (by omega)).1
          omega
    · rw [if_neg hi1]
      by_cases hb1 : isBef e o1 after = true
      · rw [if_pos hb1]
        obtain ⟨h3, h4⟩ := is_bef hb1
        by_cases hi2 : e.f < o2 ∧ o2 < e.t
        · omega
        · rw [if_neg hi2]
          by_cases hb2 : isBef e o2 after = true
          · rw [if_pos hb2]
            exact move_mono ho h.2.2.2.2 h3 h2
          · obtain ⟨h5, h6⟩ := not_bef hi2 (Bool.eq_false_iff.2 hb2) (by omega)
            have e1 : o2 = e.t := by omega
            have h7 := h6 e1
            have h8 := h4 (by omega) (by omega)
            rw [h7] at h8
            cases h8
      · rw [if_neg hb1]
        have h3 := (not_bef hi1 (Bool.eq_false_iff.2 hb1) (by omega)).1
        by_cases hi2 : e.f < o2 ∧ o2 < e.t
        · rw [if_pos hi2]; omega
        · rw [if_neg hi2]
          by_cases hb2 : isBef e o2 after = true
          · rw [if_pos hb2]
            have := (move_bounds (after := after) (sh := sh + growE e) h.2.2.2.2 (is_bef hb2).1 h2).1
            simp only [growE] at this ⊢
            omega
          · rw [if_neg hb2]; omega

/-- the edit has no offset in common with those from a to b -/
def apart (e : Ed) (a b : Int) : Prop := e.t < a ∨ b < e.f
theorem sub_sub (t : ByteArray) (a b c d : Nat) (h1 : a ≤ c) (h2 : c ≤ d) (h3 : d ≤ b) (h4 : b ≤ t.size) : ((sub t a b).take (d - a)).drop (c - a) = sub t c d := by
  rw [sub_eq, sub_eq, List.take_take, List.drop_take, List.drop_drop]
  rw [show min (d - a) (b - a) - (c - a) = d - c by omega, show a + (c - a) = c by omega]
theorem bytes_kept {t : ByteArray} {after : Bool} {a b : Nat} (hab : a ≤ b) (hb : b ≤ t.size) : ∀ {l : List Ed} {last : Nat} {sh : Int}, rising t.size last l = true → last ≤ a → (∀ e ∈ l, apart e a b) →
    ∃ S : Int, moveE a after sh l = a + sh + S ∧ moveE b after sh l = b + sh + S ∧ (last : Int) ≤ a + S ∧
      ((editedL t t.size last l).take ((b : Int) + S - last).toNat).drop ((a : Int) + S - last).toNat = sub t a b
  | [], last, sh, _, h1, _ => by
    refine ⟨0, by simp [moveE], by simp [moveE], by omega, ?_⟩
    simp only [editedL]
    rw [show ((b : Int) + 0 - last).toNat = b - last by omega, show ((a : Int) + 0 - last).toNat = a - last by omega]
    exact sub_sub t last t.size a b h1 hab hb (Nat.le_refl _)
  | e :: l, last, sh, h, h1, hap => by
    rw [rising_cons] at h
    have hlen : (sub t last e.f.toNat).length = e.f.toNat - last := by rw [sub_length]; omega
    rcases hap e (by simp) with he | he
    · obtain ⟨S, s1, s2, s3, s4⟩ := bytes_kept hab hb (sh := sh + growE e) (last := e.t.toNat) (l := l) (by rw [Int.toNat_of_nonneg (by omega)]; exact h.2.2.2.2) (by omega) (fun x hx => hap x (by simp [hx]))
      have hba : isBef e a after = true := by unfold isBef; rw [if_neg (by omega)]; simp; omega
      have hbb : isBef e b after = true := by unfold isBef; rw [if_neg (by omega)]; simp; omega
      refine ⟨growE e + S, ?_, ?_, ?_, ?_⟩
      · simp only [moveE]; rw [if_neg (by omega), if_pos hba, s1]; omega
      · simp only [moveE]; rw [if_neg (by omega), if_pos hbb, s2]; omega
      · simp only [growE]; omega
      · have hp : (sub t last e.f.toNat ++ e.s.data.toList).length = e.f.toNat - last + e.s.size := by rw [List.length_append, hlen, size_toList]
        simp only [editedL]
        rw [← List.append_assoc]
        have k1 : ((b : Int) + (growE e + S) - last).toNat = (e.f.toNat - last + e.s.size) + ((b : Int) + S - e.t.toNat).toNat := by simp only [growE]; omega
        have k2 : ((a : Int) + (growE e + S) - last).toNat = (e.f.toNat - last + e.s.size) + ((a : Int) + S - e.t.toNat).toNat := by simp only [growE]; omega
        rw [k1, k2, ← hp, List.take_length_add_append, List.drop_length_add_append]
        exact s4
    · have hia : ¬ (e.f < a ∧ (a : Int) < e.t) := by omega
      have hib : ¬ (e.f < b ∧ (b : Int) < e.t) := by omega
      have hba : ¬ isBef e a after = true := by unfold isBef; rw [if_neg (by omega)]; simp; omega
      have hbb : ¬ isBef e b after = true := by unfold isBef; rw [if_neg (by omega)]; simp; omega
      refine ⟨0, ?_, ?_, by omega, ?_⟩
      · simp only [moveE]; rw [if_neg hia, if_neg hba]; omega
      · simp only [moveE]; rw [if_neg hib, if_neg hbb]; omega
      · simp only [editedL]
        rw [show ((b : Int) + 0 - last).toNat = b - last by omega, show ((a : Int) + 0 - last).toNat = a - last by omega]
        rw [List.take_append_of_le_length (by rw [hlen]; omega)]
        exact sub_sub t last e.f.toNat a b h1 hab (by omega) (by omega)

theorem rising_more {n m : Int} (hnm : n ≤ m) : ∀ {l : List Ed} {last : Int}, rising n last l = true → rising m last l = true
  | [], _, _ => rfl
  | e :: l, last, h => by
    rw [rising_cons] at h ⊢
    exact ⟨h.1, h.2.1, h.2.2.1, by omega, rising_more hnm h.2.2.2.2⟩
theorem editedL_length {t : ByteArray} : ∀ {l : List Ed} {last : Nat}, rising t.size last l = true → last ≤ t.size → ((editedL t t.size last l).length : Int) = t.size - last + sumG l
  | [], last, _, h => by simp only [editedL, sumG, sub_length]; omega
  | e :: l, last, h, hl => by
    rw [rising_cons] at h
    have ih := editedL_length (l := l) (last := e.t.toNat) (by rw [Int.toNat_of_nonneg (by omega)]; exact h.2.2.2.2) (by omega)
    simp only [editedL, sumG, growE, List.length_append, sub_length, size_toList]
    omega
theorem applyB_size {t : ByteArray} {l : List Ed} (h : rising t.size 0 l = true) : ((applyB t l).size : Int) = t.size + sumG l := by
  unfold applyB
  rw [mkB_size, editedL_length h (Nat.zero_le _)]
  simp
end Go.Proofs.Ytmdgclcakogggaa
