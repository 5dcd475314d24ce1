/-
  PlaceWidths: Width and Lines are those of the specification.
  No condition: every input.
-/
import Derived.Test.YtmbpjjehnfjdiaaDoorPlSpan
namespace Go.Proofs.YtmbpjjehnfjdiaaDoor.lawPlaceWidths
set_option linter.unusedVariables false
set_option linter.unusedSimpArgs false
open Go.ChangeShapes Go.WideShapes Go.RowKit
open Go.ChangeMaps (open_string shut_string)

set_option maxRecDepth 100000 in
set_option maxHeartbeats 2000000 in
theorem walk (t : ByteArray) (ht : t.size ≤ maxLen) (w : World) (hT : Lib.Utf8Tabs 0 1 w) :
    Calls Tryd.prog 5 #[.string t] w fun e w' => e = .returned (.bool true) ∧ Below w.heap.size w w' := by
  have hst := short_sz t
  have hsh := Short_any t w ht
  generalize shortB t = s at hst hsh
  have Hsh := Lib.hid hsh
  clear hsh ht
  by_cases h0 : 20000 < s.size
  · go_enter Tryd.func5, Tryd.ntmps5
    go_wp2_with fail
    refine Hsh.out.mono ?_
    rintro e w1 ⟨rfl, rfl⟩
    go_wp2_with fail
    with_reducible refine (Width_any s _ (by omega)).mono ?_
    rintro e w1 ⟨hR, hb1⟩
    rcases hR with ⟨_, rfl⟩ | ⟨h, _⟩
    · go_wp2_with fail
      with_reducible refine (Lines_no s _ (by omega) h0).mono ?_
      rintro e w2 ⟨rfl, hb2⟩
      have hB2 := hb1.trans (hb2.mono hb1.size)
      go_wp2_with fail
      with_reducible refine (palive_any _ (Utf8Tabs_below hT hB2)).mono ?_
      rintro e w4 ⟨rfl, hb4⟩
      go_wp2_with fail
      go_ret
      exact ⟨rfl, hB2.trans (hb4.mono hB2.size)⟩
    · exfalso; omega
  · go_enter Tryd.func5, Tryd.ntmps5
    go_wp2_with fail
    refine Hsh.out.mono ?_
    rintro e w1 ⟨rfl, rfl⟩
    go_wp2_with fail
    with_reducible refine (Width_any s _ (by omega)).mono ?_
    rintro e w1 ⟨hR, hb1⟩
    rcases hR with ⟨h, _⟩ | ⟨_, W, hW, rfl⟩
    · exfalso; omega
    · have hll := linesOf_length (byt s)
      have hfl := feedsL_le (byt s)
      rw [byt_length] at hfl
      have HWW := Lib.hid hW
      have hsz : s.size ≤ 20000 := by omega
      have hlo := Lines_ok s w1 hsz
      have hro := fun X => rLines_own s X (show s.size ≤ 60000 by omega)
      have hget : ∀ k, k ≤ feedsL (byt s) → k < (linesOf (byt s)).length := fun k hk => by omega
      generalize linesOf (byt s) = L at hll hlo hro hget
      have Hll := Lib.hid hll
      have hlo := Lib.hid hlo
      have hro := Lib.hid hro
      clear hW hget hll
      go_wp2_with fail
      refine hlo.out.mono ?_
      rintro e w2 ⟨v1, rfl, hown1, hb2⟩
      have hB2 := hb1.trans (hb2.mono hb1.size)
      obtain ⟨ao, cap, rfl, hao⟩ := own_shape hown1
      obtain ⟨g1, rfl, hg11, hg12⟩ := hao (by have := Hll.out; omega)
      go_wp2_with fail
      refine (hro.out w2).mono ?_
      rintro e w3 ⟨v2, rfl, hown2, hb3⟩
      have hB3 := hB2.trans (hb3.mono hB2.size)
      obtain ⟨ao, cap2, rfl, hao2⟩ := own_shape hown2
      obtain ⟨g2, rfl, hg21, hg22⟩ := hao2 (by have := Hll.out; omega)
      have hown1' := ownsRow_below hown1 hb3
      go_wp2_with fail
      with_reducible refine (rWidth_any s _ (by omega)).mono ?_
      rintro e w4 ⟨W2, rfl, hW2, hb4⟩
      obtain rfl := HWW.out.det hW2
      have hB4 := hB3.trans (hb4.mono hB3.size)
      have HO1 := Lib.hid (ownsRow_below hown1' hb4)
      have HO2 := Lib.hid (ownsRow_below hown2 hb4)
      have hg14 : g1 < w4.heap.size := by have := hb3.size; have := hb4.size; omega
      have hg24 : g2 < w4.heap.size := by have := hb4.size; omega
      obtain ⟨N, hN⟩ : ∃ N, N = L.length := ⟨_, rfl⟩
      rw [← hN]
      have HN := Lib.hid hN
      have hNl : N ≤ 60000 := by have := Hll.out; omega
      clear hN hW2 hown1 hown2 hown1' hao hao2
      go_wp2_with fail
      go_loopw [9] (fun i wr => ∃ (j n : Nat), j ≤ N ∧ i = .int .i64 (j : Int) ∧ wr = w4.drewN n) (fun i _ => N - (intOf i).toNat)
      case atStart => exact ⟨0, 0, by omega, rfl, rfl⟩
      case round =>
        obtain ⟨j, n, hj, rfl, rfl⟩ := hrel
        by_cases hjl : j < N
        · have hkl : j < L.length := by rw [← HN.out]; exact hjl
          obtain ⟨s1, s2⟩ := sp_get HO1.out hkl
          obtain ⟨s3, s4⟩ := sp_get HO2.out hkl
          generalize L[j] = pj at s1 s2 s3 s4
          go_wp2_with fail
          go_quiet (fail)
          go_wp2_with fail
          exact ⟨⟨j + 1, _, by omega, by go_num, (by first | rfl | rw [World.drewN_drewN])⟩, by simp [intOf]; omega⟩
        · have hBr := below_drewN hB4 n
          go_wp2_with fail
          with_reducible refine (palive_any _ (Utf8Tabs_below hT hBr)).mono ?_
          rintro e w5 ⟨rfl, hb5⟩
          go_wp2_with fail
          go_ret
          exact ⟨rfl, hBr.trans (hb5.mono hBr.size)⟩
end Go.Proofs.YtmbpjjehnfjdiaaDoor.lawPlaceWidths
