/-
  The contract of Move's isBefore.
-/
import Derived.Test.YtmdgclcakogggaaChk
namespace Go.Proofs.Ytmdgclcakogggaa
open Go.RowKit

theorem isBefore_any (e : Ed) (o : Int) (after : Bool) (w : World) :
    Calls Try.prog 44 #[.agg #[.int .i64 e.f, .int .i64 e.t, .string e.s], .int .i64 o, .bool after] w fun x w' => x = .returned (.bool (isBef e o after)) ∧ Below w.heap.size w w' := by
  by_cases h1 : e.f = o
  · have f1 : (e.f == o) = true := by simpa using h1
    have H1 := Lib.hid h1
    clear h1
    by_cases h2 : e.t = o
    · have f2 : (e.t == o) = true := by simpa using h2
      have H2 := Lib.hid h2
      clear h2
      go_enter Try.func44, Try.ntmps44
      go_wp2
      go_ret
      exact ⟨ret_bool (by unfold isBef; rw [if_pos ⟨H1.out, H2.out⟩]), (Below.refl _ _).alloc (Nat.le_refl _) _⟩
    · have f2 : (e.t == o) = false := by simpa using h2
      have H2 := Lib.hid h2
      clear h2
      go_enter Try.func44, Try.ntmps44
      go_wp2
      go_ret
      exact ⟨ret_bool (by unfold isBef; rw [if_neg (fun h => H2.out h.2)]), (Below.refl _ _).alloc (Nat.le_refl _) _⟩
  · have f1 : (e.f == o) = false := by simpa using h1
    have H1 := Lib.hid h1
    clear h1
    go_enter Try.func44, Try.ntmps44
    go_wp2
    go_ret
    exact ⟨ret_bool (by unfold isBef; rw [if_neg (fun h => H1.out h.1)]), (Below.refl _ _).alloc (Nat.le_refl _) _⟩
end Go.Proofs.Ytmdgclcakogggaa
