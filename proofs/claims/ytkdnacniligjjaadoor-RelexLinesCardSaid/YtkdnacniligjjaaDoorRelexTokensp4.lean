/-
  relex: the line feeds next to a place; what Least may ask (plain mathematics).
-/
import Derived.Test.YtkdnacniligjjaaDoorRelexCommonsp29
namespace Go.Proofs.YtkdnacniligjjaaDoor
set_option linter.unusedVariables false
set_option linter.unusedSimpArgs false

theorem idx_first : ∀ (l : List UInt8) (i : Nat), l[i]? = some 10 → 0 ≤ Lib.indexByte l 10 ∧ Lib.indexByte l 10 ≤ (i : Int)
  | [], i, h => by simp at h
  | b :: l, 0, h => by
    have : b = 10 := by simpa using h
    subst this
    simp [Lib.indexByte]
  | b :: l, i + 1, h => by
    have := idx_first l i (by simpa using h)
    unfold Lib.indexByte
    split
    · omega
    · rw [if_neg (by simp; omega)]
      omega
theorem lnT_min {s : ByteArray} {t q : Nat} (h1 : t ≤ q) (h2 : at10 s q) : lnT s t ≤ q + 1 := by
  have h3 : ((byt s).drop t)[q - t]? = some 10 := by
    rw [List.getElem?_drop, show t + (q - t) = q by omega]
    exact h2
  have := idx_first _ _ h3
  unfold lnT
  rw [if_neg (by omega)]
  omega
theorem lnF_max {s : ByteArray} {f q : Nat} (hf : f ≤ s.size) (h1 : q < f) (h2 : at10 s q) : q + 1 ≤ lnF s f := by
  have hsz : (s.extract 0 f).size = f := by rw [ByteArray.size_extract]; omega
  have hget : ∀ j, j < f → ((((s.extract 0 f).data[j]!).toNat : Int) = 10 ↔ at10 s j) := by
    intro j hj
    have hb : (s.extract 0 f).data.toList = (byt s).take f := byt_take s f
    have hj2 : j < (s.extract 0 f).data.toList.length := by rw [hb, List.length_take, byt_length]; omega
    rw [getElem!_pos (s.extract 0 f).data j (by simpa using hj2), ← Array.getElem_toList]
    unfold at10
    rw [List.getElem?_eq_getElem (by rw [byt_length]; omega)]
    simp only [hb, List.getElem_take, Option.some.injEq]
    constructor
    · intro h
      exact UInt8.toNat_inj.1 (by have : ((10 : UInt8).toNat : Int) = 10 := rfl; omega)
    · intro h
      rw [h]; rfl
  have hd : Lib.lastIndexByte (s.extract 0 f) 10 = Lib.lastIdx (s.extract 0 f) 10 (s.extract 0 f).size := rfl
  unfold lnF
  rw [hd, hsz]
  rcases Lib.lastIdx_spec (s.extract 0 f) 10 f with ⟨h3, h4⟩ | ⟨i, hi, h3, h4, h5⟩
  · exact absurd ((hget q h1).2 h2) (h4 q h1)
  · rw [h3]
    rcases Nat.lt_or_ge i q with h | h
    · exact absurd ((hget q h1).2 h2) (h5 q h h1)
    · omega
/-- a line feed before a place, or none; one from a place on, or none -/
def okBef (s : ByteArray) (f : Nat) (B : Int) : Prop := B = -1 ∨ ∃ q : Nat, B = (q : Int) ∧ q < f ∧ at10 s q
def okAft (s : ByteArray) (t : Nat) (B : Int) : Prop := B = -1 ∨ ∃ q : Nat, B = (q : Int) ∧ t ≤ q ∧ at10 s q
theorem first_ok {s : ByteArray} {f k : Nat} {B : Int} (hf : f ≤ s.size) (h : okBef s f B) (hk : ((posB (lexL s) (k + 1) : Nat) : Int) ≤ B) : k + 1 ≤ metF s (begL (lexL s)) f := by
  rcases h with h | ⟨q, h, h1, h2⟩
  · omega
  · have h3 := lnF_max hf h1 h2
    have h4 := (lnF_spec hf).2.1
    obtain ⟨_, a2, _⟩ := srch_pos s (x := lnF s f) (by omega)
    unfold metF
    have h5 : k + 1 < srch (begL (lexL s)) (lnF s f : Nat) := by
      rcases Nat.lt_or_ge (k + 1) (srch (begL (lexL s)) (lnF s f : Nat)) with h6 | h6
      · exact h6
      · have := posB_le (L := lexL s) h6
        omega
    omega
theorem last_ok {s : ByteArray} {t k : Nat} {B : Int} (ht : t ≤ s.size) (h : okAft s t B) (h0 : 0 ≤ B) (hk : B < ((posB (lexL s) k : Nat) : Int)) : metT s (begL (lexL s)) t ≤ k := by
  rcases h with h | ⟨q, h, h1, h2⟩
  · omega
  · have h3 := lnT_min h1 h2
    have h4 := lnT_spec ht
    obtain ⟨_, _, a3⟩ := srch_pos s (x := lnT s t) h4.2.1
    unfold metT
    rcases Nat.lt_or_ge k (srch (begL (lexL s)) (lnT s t : Nat)) with h6 | h6
    · have := a3 k h6
      omega
    · exact h6
theorem byte10 {s : ByteArray} {k : Nat} (h : k < s.size) : (((s[k]'h).toNat : Int) == 10) = true ∧ at10 s k ∨ (((s[k]'h).toNat : Int) == 10) = false := by
  by_cases hq : s[k]'h = 10
  · refine .inl ⟨by rw [hq]; rfl, ?_⟩
    unfold at10
    rw [List.getElem?_eq_getElem (by rw [byt_length]; exact h)]
    exact congrArg some hq
  · right
    rw [beq_eq_false_iff_ne]
    intro h2
    exact hq (UInt8.toNat_inj.1 (by change (s[k]'h).toNat = 10; omega))
end Go.Proofs.YtkdnacniligjjaaDoor
