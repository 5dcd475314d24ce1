/-
  Ropes in memory: New, Text, Len, Lines, Slice.
-/
import Derived.Test.YtmdgclcakogggaaPcW
import Derived.Test.YtmdgclcakogggaaRp
namespace Go.Proofs.Ytmdgclcakogggaa
set_option linter.unusedVariables false
set_option linter.unusedSimpArgs false
open Go.RowKit

set_option maxHeartbeats 1000000 in
theorem slice_any (t : Pc) (v : Value) (a z : Int) (w : World) (hsz : t.size ≤ 60000) (hg : t.good) (ha1 : -200000 ≤ a) (ha2 : a ≤ 200000) (hz1 : -200000 ≤ z) (hz2 : z ≤ 200000) (hP : PcAt w w.heap.size v t) :
    Calls Try.prog 33 #[v, .agg #[.int .i64 a, .int .i64 z]] w fun e w' => e = .returned (.string (mkB (cutI t.text a z))) ∧ Below w.heap.size w w' := by
  have hw0 : Below w.heap.size w (w.alloc (.cells #[.int .i64 a, .int .i64 z] 60)) := (Below.refl _ _).alloc (Nat.le_refl _) _
  have hbl : Bld (w.heap.size + 1) (w.heap.size + 1) [] ((w.alloc (.cells #[.int .i64 a, .int .i64 z] 60)).alloc (.cells #[.pointer none, .slice none 0 0] 90)) := by
    have := Lib.fresh_isBuilder 90 5 (w.alloc (.cells #[.int .i64 a, .int .i64 z] 60))
    simpa [Bld, Lib.byteCells] using this
  have hw1 := hw0.alloc (by simp) (.cells #[.pointer none, .slice none 0 0] 90)
  go_enter Try.func33, Try.ntmps33
  go_wp2_with fail
  refine (write_any t v a z (w.heap.size + 1) (w.heap.size + 1) [] _ hsz hg ha1 ha2 hz1 hz2 (by simp; omega) (hP.keep (Nat.le_succ _) hw1.block) hbl (by simp)).mono ?_
  rintro e w2 ⟨rfl, hB2, hb2⟩
  have hz2' := hb2.size
  simp at hz2'
  go_wp2_with fail
  refine (BString_any _ _ _ _ hB2 (by omega)).mono ?_
  rintro e w3 ⟨rfl, hb3⟩
  go_wp2_with fail
  go_ret
  exact ⟨ret_str rfl, (hw1.trans (hb2.mono (by omega))).trans (hb3.mono (by omega))⟩

theorem Text_any (v bef : Value) (t : Pc) (w : World) (hsz : t.size ≤ 60000) (h : RopeAt w v t bef) :
    Calls Try.prog 14 #[v] w fun e w' => e = .returned (.string (mkB t.text)) ∧ Below w.heap.size w w' := by
  have hg : t.good := by obtain ⟨_, _, _, _, _, hg⟩ := h; exact hg
  go_enter Try.func14, Try.ntmps14
  go_wp2_with fail
  refine (pieces_any v bef t w h).mono ?_
  rintro e w1 ⟨⟨p, rfl, hp⟩, rfl⟩
  go_wp2_with fail
  refine (sums_any p t w hp).mono ?_
  rintro e w1 ⟨rfl, hb1⟩
  simp only [sumsV]
  go_wp2_with fail
  refine (slice_any t p 0 t.size w1 hsz hg (by omega) (by omega) (by omega) (by omega) (hp.belowTop hb1)).mono ?_
  rintro e w2 ⟨rfl, hb2⟩
  go_wp2_with fail
  go_ret
  refine ⟨ret_str ?_, hb1.trans (hb2.mono hb1.size)⟩
  rw [← t.size_text, cutI_all]
end Go.Proofs.Ytmdgclcakogggaa
