/-
  Plain mathematics of Invert: the inverse gives the string back, keeps Check, and its inverse is the edits.
-/
import Derived.Test.YtmdgclcakogggaaLeastMath
import Derived.Test.YtmdgclcakogggaaKeepMath
import Derived.Test.YtmdgclcakogggaaInvMath
namespace Go.Proofs.Ytmdgclcakogggaa
set_option linter.unusedVariables false
set_option linter.unusedSimpArgs false

theorem sub_then (t : ByteArray) (a b : Nat) (h : a ≤ b) : sub t a b ++ (byt t).drop b = (byt t).drop a := by
  rw [sub_eq, show (byt t).drop b = ((byt t).drop a).drop (b - a) by rw [List.drop_drop]; congr 1; omega]
  exact List.take_append_drop _ _

theorem back (t u : ByteArray) : ∀ (l : List Ed) (last p : Nat) (sh : Int), rising t.size last l = true → last ≤ t.size → (p : Int) = last + sh → (byt u).drop p = editedL t t.size last l → p ≤ u.size →
    editedL u u.size p (invertL t sh l) = (byt t).drop last ∧ rising u.size p (invertL t sh l) = true ∧ invertL u (-sh) (invertL t sh l) = l ∧ sumG (invertL t sh l) = - sumG l
  | [], last, p, sh, hr, hl, hp, h, hu => by
    refine ⟨?_, rfl, rfl, rfl⟩
    simp only [invertL, editedL] at h ⊢
    rw [sub_eq] at h ⊢
    change ((byt u).drop p).take _ = _
    rw [h]
    change (((byt t).drop last).take _).take _ = _
    have e := congrArg List.length h
    simp only [List.length_take, List.length_drop, byt_length] at e
    have e2 : t.data.toList.length = t.size := byt_length t
    rw [List.take_of_length_le, List.take_of_length_le]
    · simp only [List.length_drop, byt_length]; omega
    · simp only [List.length_take, List.length_drop, byt_length]; omega
  | ⟨f, z, s⟩ :: l, last, p, sh, hr, hl, hp, h, hu => by
    obtain ⟨h1, h2, h3, h4, hr2⟩ := rising_cons.1 hr
    simp only at h1 h2 h3 h4 hr2
    obtain ⟨x, rfl⟩ : ∃ x : Nat, f = x := ⟨f.toNat, by omega⟩
    obtain ⟨y, rfl⟩ : ∃ y : Nat, z = y := ⟨z.toNat, by omega⟩
    simp only [editedL, Int.toNat_natCast] at h
    obtain ⟨q, hq⟩ : ∃ q : Nat, q = p + (x - last) := ⟨_, rfl⟩
    have hA : (sub t last x).length = q - p := by rw [sub_length]; omega
    have hS : s.data.toList.length = s.size := byt_length s
    have hlen := congrArg List.length h
    simp only [List.length_append, List.length_drop, byt_length, hA, hS] at hlen
    have hq1 : sub u p q = sub t last x := by
      rw [sub_eq]
      change ((byt u).drop p).take _ = _
      rw [h]
      exact List.take_left' hA
    have hq2 : (byt u).drop q = s.data.toList ++ editedL t t.size y l := by
      rw [show q = p + (q - p) by omega, ← List.drop_drop, h]
      exact List.drop_left' hA
    have hq3 : u.extract q (q + s.size) = s := by
      apply byt_inj
      change sub u q (q + s.size) = _
      rw [sub_eq]
      change ((byt u).drop q).take _ = _
      rw [hq2]
      exact List.take_left' (by rw [hS]; omega)
    have hq4 : (byt u).drop (q + s.size) = editedL t t.size y l := by
      rw [← List.drop_drop, hq2]
      exact List.drop_left' hS
    have ih := back t u l y (q + s.size) (sh + ((s.size : Int) - ((y : Int) - x))) hr2 (by omega) (by omega) hq4 (by omega)
    obtain ⟨i1, i2, i3, i4⟩ := ih
    have e1 : (x : Int) + sh = (q : Int) := by omega
    have e2 : (q : Int) + (s.size : Int) = ((q + s.size : Nat) : Int) := by omega
    have hsz : (t.extract x y).size = y - x := by rw [ByteArray.size_extract]; omega
    simp only [invertL, growE, Int.toNat_natCast, e1, e2]
    refine ⟨?_, ?_, ?_, ?_⟩
    · simp only [editedL, Int.toNat_natCast]
      rw [i1, hq1]
      change sub t last x ++ (sub t x y ++ _) = _
      rw [sub_then t x y (by omega), sub_then t last x (by omega)]
    · rw [rising_cons]
      exact ⟨by simp only; omega, by simp only; omega, by simp only; omega, by simp only; omega, i2⟩
    · simp only [hsz, hq3]
      rw [show -sh + (((y - x : Nat) : Int) - (((q + s.size : Nat) : Int) - (q : Int))) = -(sh + ((s.size : Int) - ((y : Int) - x))) by omega, i3]
      congr 2 <;> omega
    · simp only [sumG, growE, hsz, i4]
      omega
theorem back_all (t : ByteArray) (l : List Ed) (h : checkE t.size l = 0) :
    checkE (applyB t l).size (invertL t 0 l) = 0 ∧ applyB (applyB t l) (invertL t 0 l) = t ∧ invertL (applyB t l) 0 (invertL t 0 l) = l := by
  obtain ⟨h1, h2, h3, h4⟩ := checkE_ok h
  have hb : byt (applyB t l) = editedL t t.size 0 l := byt_mkB _
  have hs := applyB_size h3
  obtain ⟨i1, i2, i3, i4⟩ := back t (applyB t l) l 0 0 0 h3 (Nat.zero_le _) rfl hb (Nat.zero_le _)
  refine ⟨checkE_of (by omega) (by rw [invertL_length]; exact h2) i2 (by omega), byt_inj ?_, i3⟩
  exact (byt_mkB _).trans i1
end Go.Proofs.Ytmdgclcakogggaa
