/-
  RopeVoid: every method of a nil rope, and of a zero one, returns ErrNil or zero values.
  No condition: every input.
-/
import Derived.Test.YthcjffbdgdjfhaaArg
import Derived.Test.YthcjffbdgdjfhaaVoid
namespace Go.Proofs.Ythcjffbdgdjfhaa.lawRopeVoid
set_option linter.unusedVariables false
set_option linter.unusedSimpArgs false
open Go.ChangeShapes Go.WideShapes Go.RowKit

set_option maxRecDepth 100000 in
set_option maxHeartbeats 4000000 in
theorem walk (A : Option Addr) (c : Nat) (l : List Ed) (hl : l.length ≤ maxLen) (hs : ∀ e ∈ l, e.s.size ≤ maxLen) (a b : Int) (u0 : (Lit.int .i64 a).wf = true) (v0 : (Lit.int .i64 b).wf = true) (n : Int) (w : World) (hE : EdsV w A l) :
    Calls Try.prog 9 #[.slice A l.length c, .agg #[.int .i64 a, .int .i64 b], .int .i64 n] w fun e w' => e = .returned (.bool true) ∧ Below w.heap.size w w' := by
  clear u0 v0
  have hb0 : Below w.heap.size w (w.alloc (.cells #[.int .i64 a, .int .i64 b] 49)) := (Below.refl _ _).alloc (Nat.le_refl _) _
  have hcut := Cut_any 400 c A l _ hl hs (hE.below hb0)
  generalize cutL 400 l = L at hcut
  have Hcut := Lib.hid hcut
  clear hcut hl hs hE
  have q2 : ByteArray.empty.toList = [] := by decide +kernel
  have hz0 := hb0.size
  go_enter Try.func9, Try.ntmps9
  go_wp2_with fail
  refine Hcut.out.mono ?_
  rintro e w1 ⟨A1, c1, rfl, _, hb1⟩
  have d0 : w1.cell? ⟨w.heap.size, 0, none⟩ = some (.int .i64 a) := by rw [hb1.cell (by simp)]; simp
  have d1 : w1.cell? ⟨w.heap.size, 1, none⟩ = some (.int .i64 b) := by rw [hb1.cell (by simp)]; simp
  have hB1 := hb0.trans (hb1.mono hz0)
  have hlt0 : w.heap.size < w1.heap.size := by have := hb1.size; simp at this; omega
  go_wp2_with fail
  go_loopw [8] (fun i wr => ∃ (k : Nat), k ≤ 2 ∧ i = .int .i64 k ∧ Below w1.heap.size w1 wr) (fun i _ => 2 - (intOf i).toNat)
  case atStart => exact ⟨0, by omega, rfl, Below.refl _ _⟩
  case round =>
    obtain ⟨k, hk, rfl, hB⟩ := hrel
    have e0 : wr.cell? ⟨w.heap.size, 0, none⟩ = some (.int .i64 a) := by rw [hB.cell hlt0]; exact d0
    have e1 : wr.cell? ⟨w.heap.size, 1, none⟩ = some (.int .i64 b) := by rw [hB.cell hlt0]; exact d1
    have hzr := hB.size
    have hlt1 : w.heap.size < wr.heap.size := by omega
    clear d0 d1
    by_cases hlt : k < 2
    · by_cases hk1 : k = 1
      · subst hk1
        have hV : VoidAt (wr.alloc (.cells #[.bool false, .pointer none, .pointer none] 65)) (.pointer (some ⟨wr.heap.size, 0, none⟩)) := .inr ⟨_, rfl, heap_alloc_new wr _⟩
        have hV0 := Lib.hid hV
        clear hV
        have hB2 := hB.alloc hzr (.cells #[.bool false, .pointer none, .pointer none] 65)
        go_wp2_with fail
        refine (vSlice _ a b _ hV0.out).mono ?_
        rintro e w2 ⟨rfl, hb2⟩
        have hB3 := hB2.trans (hb2.mono hB2.size)
        have hV2 := Lib.hid (hV0.out.below hb2)
        clear hV0
        go_wp2_with fail
        refine (vEdit _ _ _ hV2.out).mono ?_
        rintro e w3 ⟨rfl, rfl⟩
        go_wp2_with fail
        refine (vUndo _ _ hV2.out).mono ?_
        rintro e w3 ⟨rfl, rfl⟩
        go_wp2_with fail
        refine (vLine _ n _ hV2.out).mono ?_
        rintro e w4 ⟨rfl, hb4⟩
        have hB4 := (hB3.trans (hb4.mono hB3.size)).alloc (by have := hB3.size; have := hb4.size; omega) (.cells #[.int .i64 0, .int .i64 0] 49)
        have hV4 := Lib.hid ((hV2.out.below hb4).below ((Below.refl _ _).alloc (Nat.le_refl _) (.cells #[.int .i64 0, .int .i64 0] 49)))
        clear hV2
        go_wp2_with fail
        refine (vText _ _ hV4.out).mono ?_
        rintro e w5 ⟨rfl, hb5⟩
        have hB5 := hB4.trans (hb5.mono hB4.size)
        have hV5 := Lib.hid (hV4.out.below hb5)
        clear hV4
        go_wp2_with fail
        refine (vLen _ _ hV5.out).mono ?_
        rintro e w6 ⟨rfl, hb6⟩
        have hB6 := hB5.trans (hb6.mono hB5.size)
        have hV6 := Lib.hid (hV5.out.below hb6)
        clear hV5
        go_wp2_with fail
        refine (vLines _ _ hV6.out).mono ?_
        rintro e w7 ⟨rfl, rfl⟩
        go_wp2_with fail
        refine (vPiecesN _ _ hV6.out).mono ?_
        rintro e w7 ⟨rfl, hb7⟩
        have hB7 := hB6.trans (hb7.mono hB6.size)
        go_wp2_with fail
        go_roundw
        case rel => exact ⟨1 + 1, by omega, by go_num, hB7⟩
        case measure => simp [intOf]
      · have hk0 : k = 0 := by omega
        subst hk0
        have hV0 : Hid (VoidAt wr (.pointer none)) := Lib.hid (.inl rfl)
        have hB2 := hB
        go_wp2_with fail
        refine (vSlice _ a b _ hV0.out).mono ?_
        rintro e w2 ⟨rfl, hb2⟩
        have hB3 := hB2.trans (hb2.mono hB2.size)
        have hV2 := Lib.hid (hV0.out.below hb2)
        clear hV0
        go_wp2_with fail
        refine (vEdit _ _ _ hV2.out).mono ?_
        rintro e w3 ⟨rfl, rfl⟩
        go_wp2_with fail
        refine (vUndo _ _ hV2.out).mono ?_
        rintro e w3 ⟨rfl, rfl⟩
        go_wp2_with fail
        refine (vLine _ n _ hV2.out).mono ?_
        rintro e w4 ⟨rfl, hb4⟩
        have hB4 := (hB3.trans (hb4.mono hB3.size)).alloc (by have := hB3.size; have := hb4.size; omega) (.cells #[.int .i64 0, .int .i64 0] 49)
        have hV4 := Lib.hid ((hV2.out.below hb4).below ((Below.refl _ _).alloc (Nat.le_refl _) (.cells #[.int .i64 0, .int .i64 0] 49)))
        clear hV2
        go_wp2_with fail
        refine (vText _ _ hV4.out).mono ?_
        rintro e w5 ⟨rfl, hb5⟩
        have hB5 := hB4.trans (hb5.mono hB4.size)
        have hV5 := Lib.hid (hV4.out.below hb5)
        clear hV4
        go_wp2_with fail
        refine (vLen _ _ hV5.out).mono ?_
        rintro e w6 ⟨rfl, hb6⟩
        have hB6 := hB5.trans (hb6.mono hB5.size)
        have hV6 := Lib.hid (hV5.out.below hb6)
        clear hV5
        go_wp2_with fail
        refine (vLines _ _ hV6.out).mono ?_
        rintro e w7 ⟨rfl, rfl⟩
        go_wp2_with fail
        refine (vPiecesN _ _ hV6.out).mono ?_
        rintro e w7 ⟨rfl, hb7⟩
        have hB7 := hB6.trans (hb7.mono hB6.size)
        go_wp2_with fail
        go_roundw
        case rel => exact ⟨0 + 1, by omega, by go_num, hB7⟩
        case measure => simp [intOf]
    · have hke : k = 2 := by omega
      subst hke
      go_wp2_with fail
      refine (alive_any _).mono ?_
      rintro e w9 ⟨rfl, hb9⟩
      go_wp2_with fail
      go_ret
      exact ⟨rfl, (hB1.trans (hB.mono hB1.size)).trans (hb9.mono (by have := hB1.size; omega))⟩

end Go.Proofs.Ythcjffbdgdjfhaa.lawRopeVoid
