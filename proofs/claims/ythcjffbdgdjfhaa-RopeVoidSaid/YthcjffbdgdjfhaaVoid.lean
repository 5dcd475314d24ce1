/-
  Ropes that were not made: nil, and zero. What each method says.
-/
import Derived.Test.YthcjffbdgdjfhaaRope
namespace Go.Proofs.Ythcjffbdgdjfhaa
set_option linter.unusedVariables false
set_option linter.unusedSimpArgs false
open Go.RowKit

def VoidAt (w : World) (v : Value) : Prop :=
  v = .pointer none ∨ ∃ b, v = .pointer (some ⟨b, 0, none⟩) ∧ w.heap[b]? = some (.cells #[.bool false, .pointer none, .pointer none] 65 (0, 0))
theorem VoidAt.below {w w' : World} {v : Value} (h : VoidAt w v) (hb : Below w.heap.size w w') : VoidAt w' v := by
  rcases h with h | ⟨b, h1, h2⟩
  · exact .inl h
  · exact .inr ⟨b, h1, (hb.block b (lt_of h2)).trans h2⟩

theorem vMade (v : Value) (w : World) (h : VoidAt w v) :
    Calls Try.prog 62 #[v] w fun e w' => e = .returned (.bool false) ∧ w = w' := by
  rcases h with rfl | ⟨b, rfl, h2⟩
  · go_enter Try.func62, Try.ntmps62
    go_wp2
    go_ret
    exact ⟨rfl, rfl⟩
  · have c0 : w.cell? ⟨b, 0, none⟩ = some (.bool false) := cell_of h2 0
    clear h2
    go_enter Try.func62, Try.ntmps62
    go_wp2
    go_ret
    exact ⟨rfl, rfl⟩
theorem vPieces (v : Value) (w : World) (h : VoidAt w v) :
    Calls Try.prog 65 #[v] w fun e w' => e = .returned (.pointer none) ∧ w = w' := by
  rcases h with rfl | ⟨b, rfl, h2⟩
  · go_enter Try.func65, Try.ntmps65
    go_wp2
    go_ret
    exact ⟨rfl, rfl⟩
  · have c1 : w.cell? ⟨b, 1, none⟩ = some (.pointer none) := cell_of h2 1
    clear h2
    go_enter Try.func65, Try.ntmps65
    go_wp2
    go_ret
    exact ⟨rfl, rfl⟩
theorem vText (v : Value) (w : World) (h : VoidAt w v) :
    Calls Try.prog 40 #[v] w fun e w' => e = .returned (.string ByteArray.empty) ∧ Below w.heap.size w w' := by
  go_enter Try.func40, Try.ntmps40
  go_wp2_with fail
  refine (vPieces v w h).mono ?_
  rintro e w1 ⟨rfl, rfl⟩
  go_wp2_with fail
  refine (sums_any (.pointer none) .nil w rfl).mono ?_
  rintro e w1 ⟨rfl, hb1⟩
  simp only [sumsV]
  go_wp2_with fail
  refine (slice_any .nil (.pointer none) 0 0 w1 (by decide) (.inl rfl) (by omega) (by omega) (by omega) (by omega) rfl).mono ?_
  rintro e w2 ⟨rfl, hb2⟩
  go_wp2_with fail
  go_ret
  exact ⟨ret_str (by simp [cutI, Pc.text, mkB]; rfl), hb1.trans (hb2.mono hb1.size)⟩
theorem vLen (v : Value) (w : World) (h : VoidAt w v) :
    Calls Try.prog 37 #[v] w fun e w' => e = .returned (.int .i64 0) ∧ Below w.heap.size w w' := by
  go_enter Try.func37, Try.ntmps37
  go_wp2_with fail
  refine (vPieces v w h).mono ?_
  rintro e w1 ⟨rfl, rfl⟩
  go_wp2_with fail
  refine (sums_any (.pointer none) .nil w rfl).mono ?_
  rintro e w1 ⟨rfl, hb1⟩
  simp only [sumsV]
  go_wp2_with fail
  go_ret
  exact ⟨ret_int rfl, hb1⟩
theorem vPiecesN (v : Value) (w : World) (h : VoidAt w v) :
    Calls Try.prog 36 #[v] w fun e w' => e = .returned (.int .i64 0) ∧ Below w.heap.size w w' := by
  go_enter Try.func36, Try.ntmps36
  go_wp2_with fail
  refine (vPieces v w h).mono ?_
  rintro e w1 ⟨rfl, rfl⟩
  go_wp2_with fail
  refine (sums_any (.pointer none) .nil w rfl).mono ?_
  rintro e w1 ⟨rfl, hb1⟩
  simp only [sumsV]
  go_wp2_with fail
  go_ret
  exact ⟨ret_int rfl, hb1⟩
theorem vLines (v : Value) (w : World) (h : VoidAt w v) :
    Calls Try.prog 41 #[v] w fun e w' => e = .returned (.int .i64 0) ∧ w = w' := by
  go_enter Try.func41, Try.ntmps41
  go_wp2_with fail
  refine (vMade v w h).mono ?_
  rintro e w1 ⟨rfl, rfl⟩
  go_wp2_with fail
  go_ret
  exact ⟨rfl, rfl⟩
theorem vUndo (v : Value) (w : World) (h : VoidAt w v) :
    Calls Try.prog 35 #[v] w fun e w' => e = .returned (.tuple #[.pointer none, .int .i64 1]) ∧ w = w' := by
  go_enter Try.func35, Try.ntmps35
  go_wp2_with fail
  refine (vMade v w h).mono ?_
  rintro e w1 ⟨rfl, rfl⟩
  go_wp2_with fail
  go_ret2
  exact ⟨rfl, rfl⟩
theorem vEdit (v l : Value) (w : World) (h : VoidAt w v) :
    Calls Try.prog 34 #[v, l] w fun e w' => e = .returned (.tuple #[.pointer none, .int .i64 1]) ∧ w = w' := by
  go_enter Try.func34, Try.ntmps34
  go_wp2_with fail
  refine (vMade v w h).mono ?_
  rintro e w1 ⟨rfl, rfl⟩
  go_wp2_with fail
  go_ret2
  exact ⟨rfl, rfl⟩
theorem vSlice (v : Value) (a b : Int) (w : World) (h : VoidAt w v) :
    Calls Try.prog 38 #[v, .agg #[.int .i64 a, .int .i64 b]] w fun e w' => e = .returned (.tuple #[.string ByteArray.empty, .int .i64 1]) ∧ Below w.heap.size w w' := by
  have hb : Below w.heap.size w (w.alloc (.cells #[.int .i64 a, .int .i64 b] 49)) := (Below.refl _ _).alloc (Nat.le_refl _) _
  go_enter Try.func38, Try.ntmps38
  go_wp2_with fail
  refine (vMade v _ (h.below hb)).mono ?_
  rintro e w1 ⟨rfl, rfl⟩
  go_wp2_with fail
  go_ret2
  exact ⟨rfl, hb⟩
theorem vLine (v : Value) (n : Int) (w : World) (h : VoidAt w v) :
    Calls Try.prog 39 #[v, .int .i64 n] w fun e w' => e = .returned (.tuple #[.agg #[.int .i64 0, .int .i64 0], .int .i64 1]) ∧ Below w.heap.size w w' := by
  have hb : Below w.heap.size w (w.alloc (.cells #[.int .i64 0, .int .i64 0] 49)) := (Below.refl _ _).alloc (Nat.le_refl _) _
  go_enter Try.func39, Try.ntmps39
  go_wp2_with fail
  refine (vMade v _ (h.below hb)).mono ?_
  rintro e w1 ⟨rfl, rfl⟩
  go_wp2_with fail
  exact bodyPost_ret (v := .tuple #[.agg #[.int .i64 0, .int .i64 0], .int .i64 1]) (by simp [results, Try.results39, go_sem]) rfl ⟨rfl, hb⟩
end Go.Proofs.Ythcjffbdgdjfhaa
