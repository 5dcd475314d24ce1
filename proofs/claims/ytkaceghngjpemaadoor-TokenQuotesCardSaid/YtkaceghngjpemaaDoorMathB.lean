/-
  More plain mathematics: what Check's OK says; Apply's result.
-/
import Derived.Test.YtkaceghngjpemaaDoorMath
namespace Go.Proofs.YtkaceghngjpemaaDoor

theorem checkE_ok {n : Int} {l : List Ed} (h : checkE n l = 0) : n ≤ 20000 ∧ l.length ≤ 100 ∧ rising n 0 l = true ∧ n + sumG l ≤ 20000 := by
  unfold checkE checkLen at h
  by_cases h1 : 20000 < n
  · rw [if_pos h1] at h; omega
  · rw [if_neg h1] at h
    by_cases h2 : 100 < l.length
    · rw [if_pos h2] at h; omega
    · rw [if_neg h2] at h
      by_cases h3 : rising n 0 l = false
      · rw [if_pos h3] at h; omega
      · rw [if_neg h3] at h
        by_cases h4 : 20000 < n + sumG l
        · rw [if_pos h4] at h; omega
        · exact ⟨by omega, by omega, by simpa using h3, by omega⟩
theorem checkE_of {n : Int} {l : List Ed} (h1 : n ≤ 20000) (h2 : l.length ≤ 100) (h3 : rising n 0 l = true) (h4 : n + sumG l ≤ 20000) : checkE n l = 0 := by
  unfold checkE checkLen
  rw [if_neg (by omega), if_neg (by omega), if_neg (by rw [h3]; simp), if_neg (by omega)]
/-- Apply's string -/
def applyR (t : ByteArray) (l : List Ed) : ByteArray := if checkE t.size l = 0 then applyB t l else ByteArray.empty
theorem applyR_ok {t : ByteArray} {l : List Ed} (h : checkE t.size l = 0) : applyR t l = applyB t l := by unfold applyR; rw [if_pos h]
theorem applyR_no {t : ByteArray} {l : List Ed} (h : checkE t.size l ≠ 0) : applyR t l = ByteArray.empty := by unfold applyR; rw [if_neg h]
theorem mkB_add (l : List UInt8) (s : ByteArray) : mkB l ++ s = mkB (l ++ s.data.toList) := by
  apply ByteArray.ext
  simp [mkB, ByteArray.data_append]
end Go.Proofs.YtkaceghngjpemaaDoor
