/-
  token: IsTrivia and Great, the program's and the specification's.
-/
import Derived.Test.YtkdnacniligjjaaDoorRelexCommonsp4
import Derived.Test.YtkdnacniligjjaaDoorRelexCommonsp7
namespace Go.Proofs.YtkdnacniligjjaaDoor
set_option linter.unusedVariables false
set_option linter.unusedSimpArgs false
open Go.RowKit

def trivB (k : Int) : Bool := (k == 1) || (k == 2)
def greatT (k : Int) (s : ByteArray) : Bool := (k == 3) && (decide (0 < s.size) && greatB (b0 s))
theorem b0_get {s : ByteArray} (h : 0 < s.size) : b0 s = s[0]'h := by
  unfold b0
  rw [List.getD_eq_getElem?_getD, List.getElem?_eq_getElem (by rw [byt_length]; exact h)]
  rfl

set_option maxRecDepth 100000 in
theorem IsTrivia_any (k : Int) (s : ByteArray) (w : World) :
    Calls Tryd.prog 17 #[.agg #[.int .i64 k, .string s]] w fun e w' => e = .returned (.bool (trivB k)) ∧ Below w.heap.size w w' := by
  have hB0 : Below w.heap.size w (w.alloc (.cells #[.int .i64 k, .string s] 24)) := (Below.refl _ _).alloc (Nat.le_refl _) _
  have HB := Lib.hid hB0
  clear hB0
  unfold trivB
  cases h1 : (k == 1)
  · cases h2 : (k == 2)
    all_goals
      go_enter Tryd.func17, Tryd.ntmps17
      go_wp2_with fail
      go_ret
      exact ⟨rfl, HB.out⟩
  · go_enter Tryd.func17, Tryd.ntmps17
    go_wp2_with fail
    go_ret
    exact ⟨rfl, HB.out⟩
set_option maxRecDepth 100000 in
theorem RIsTrivia_any (k : Int) (s : ByteArray) (w : World) :
    Calls Tryd.prog 18 #[.agg #[.int .i64 k, .string s]] w fun e w' => e = .returned (.bool (trivB k)) ∧ Below w.heap.size w w' := by
  have hB0 : Below w.heap.size w (w.alloc (.cells #[.int .i64 k, .string s] 24)) := (Below.refl _ _).alloc (Nat.le_refl _) _
  have HB := Lib.hid hB0
  clear hB0
  unfold trivB
  cases h1 : (k == 1)
  · cases h2 : (k == 2)
    all_goals
      go_enter Tryd.func18, Tryd.ntmps18
      go_wp2_with fail
      go_ret
      exact ⟨rfl, HB.out⟩
  · go_enter Tryd.func18, Tryd.ntmps18
    go_wp2_with fail
    go_ret
    exact ⟨rfl, HB.out⟩

theorem ret_k1 {a b : Bool} (h : a = b) : Ending.returned (.bool a) = .returned (.bool b) := by rw [h]

set_option maxRecDepth 100000 in
theorem Great_any (k : Int) (s : ByteArray) (w : World) :
    Calls Tryd.prog 19 #[.agg #[.int .i64 k, .string s]] w fun e w' => e = .returned (.bool (greatT k s)) ∧ Below w.heap.size w w' := by
  have hB0 : Below w.heap.size w (w.alloc (.cells #[.int .i64 k, .string s] 24)) := (Below.refl _ _).alloc (Nat.le_refl _) _
  have HB := Lib.hid hB0
  clear hB0
  have hr : greatT k s = ((k == 3) && (decide (0 < s.size) && greatB (b0 s))) := rfl
  cases h1 : (k == 3)
  · have HR : Hid (greatT k s = false) := Lib.hid (by rw [hr, h1]; rfl)
    clear hr
    go_enter Tryd.func19, Tryd.ntmps19
    go_wp2_with fail
    go_ret
    exact ⟨ret_k1 HR.out.symm, HB.out⟩
  · rcases Nat.eq_zero_or_pos s.size with h0 | h0
    · have HR : Hid (greatT k s = false) := Lib.hid (by rw [hr, h1]; simp [h0])
      have he : s = { data := #[] } := by
        apply bytj
        have : (byt s).length = 0 := by rw [byt_length]; exact h0
        rw [List.eq_nil_of_length_eq_zero this]
        rfl
      subst he
      clear hr h0
      have q : ({ data := #[] } : ByteArray).toList.isEmpty = true := by decide +kernel
      have q2 : (({ data := #[] } : ByteArray).toList != ([] : List UInt8)) = false := by decide +kernel
      go_enter Tryd.func19, Tryd.ntmps19
      go_wp2_with fail
      go_ret
      exact ⟨ret_k1 HR.out.symm, HB.out⟩
    · have HR : Hid (greatT k s = greatB (s[0]'h0)) := Lib.hid (by rw [hr, h1, b0_get h0]; simp [h0])
      have hne : s.toList ≠ [] := by
        intro h
        have h2 : s.toList.length = 0 := by rw [h]; rfl
        rw [ByteArray.toList_eq] at h2
        have h3 : s.data.toList.length = s.size := byt_length s
        omega
      have q : s.toList.isEmpty = false := by cases hs : s.toList with
        | nil => exact absurd hs hne
        | cons a l => rfl
      have q2 : (s.toList != ([] : List UInt8)) = true := by simpa using hne
      have HG := Lib.hid (fun w => isGreat_any (s[0]'h0) w)
      clear hr hne
      go_enter Tryd.func19, Tryd.ntmps19
      go_wp2_with fail
      refine (HG.out _).mono ?_
      rintro e w2 ⟨rfl, rfl⟩
      go_wp2_with fail
      go_ret
      exact ⟨ret_k1 HR.out.symm, HB.out⟩
set_option maxRecDepth 100000 in
theorem RGreat_any (k : Int) (s : ByteArray) (w : World) :
    Calls Tryd.prog 20 #[.agg #[.int .i64 k, .string s]] w fun e w' => e = .returned (.bool (greatT k s)) ∧ Below w.heap.size w w' := by
  have hB0 : Below w.heap.size w (w.alloc (.cells #[.int .i64 k, .string s] 24)) := (Below.refl _ _).alloc (Nat.le_refl _) _
  have HB := Lib.hid hB0
  clear hB0
  have hr : greatT k s = ((k == 3) && (decide (0 < s.size) && greatB (b0 s))) := rfl
  cases h1 : (k == 3)
  · have HR : Hid (greatT k s = false) := Lib.hid (by rw [hr, h1]; rfl)
    clear hr
    go_enter Tryd.func20, Tryd.ntmps20
    go_wp2_with fail
    go_ret
    exact ⟨ret_k1 HR.out.symm, HB.out⟩
  · rcases Nat.eq_zero_or_pos s.size with h0 | h0
    · have HR : Hid (greatT k s = false) := Lib.hid (by rw [hr, h1]; simp [h0])
      have q : decide (0 < s.size) = false := by simp [h0]
      have q3 : decide ((0 : Int) < (s.size : Int)) = false := by simp [h0]
      clear hr
      go_enter Tryd.func20, Tryd.ntmps20
      go_wp2_with fail
      go_ret
      exact ⟨ret_k1 HR.out.symm, HB.out⟩
    · have HR : Hid (greatT k s = (decide ((65 : Int) ≤ ((s[0]'h0).toNat : Int)) && decide (((s[0]'h0).toNat : Int) ≤ (90 : Int)))) := Lib.hid (by rw [hr, h1, b0_get h0]; simp [h0, greatB])
      have q : decide (0 < s.size) = true := by simp [h0]
      have q3 : decide ((0 : Int) < (s.size : Int)) = true := by simp [h0]
      clear hr
      cases h4 : decide ((65 : Int) ≤ ((s[0]'h0).toNat : Int))
      · rw [h4] at HR
        go_enter Tryd.func20, Tryd.ntmps20
        go_wp2_with fail
        go_ret
        exact ⟨ret_k1 (HR.out.trans rfl).symm, HB.out⟩
      · rw [h4] at HR
        cases h5 : decide (((s[0]'h0).toNat : Int) ≤ (90 : Int))
        all_goals
          rw [h5] at HR
          go_enter Tryd.func20, Tryd.ntmps20
          go_wp2_with fail
          go_ret
          exact ⟨ret_k1 (HR.out.trans rfl).symm, HB.out⟩
end Go.Proofs.YtkdnacniligjjaaDoor
