/-
  RelexBack: Relex of the new tokens with the inverse edits is the old list. No condition: every input.
-/
import Derived.Test.YtkdnacniligjjaaDoorRelexCommonsp30
import Derived.Test.YtkdnacniligjjaaDoorRelexCommonsp28
namespace Go.Proofs.YtkdnacniligjjaaDoor.lawRelexBack
set_option linter.unusedVariables false
set_option linter.unusedSimpArgs false
open Go.ChangeShapes Go.WideShapes Go.RowKit
open Go.ChangeMaps (open_string shut_string)

set_option maxRecDepth 100000 in
set_option maxHeartbeats 2000000 in
theorem walk (t : ByteArray) (ht : t.size ≤ maxLen) (A0 : Option Addr) (c0 : Nat) (l : List Ed) (hl : l.length ≤ maxLen) (hs : ∀ e ∈ l, e.s.size ≤ maxLen) (w : World) (hT : Tabs w) (hE0 : EdsV w A0 l) :
    Calls Tryd.prog 9 #[.string t, .slice A0 l.length c0] w fun e w' => e = .returned (.bool true) ∧ Below w.heap.size w w' := by
  have hcut := Cut_any 2000 c0 A0 l w hl hs hE0
  have hsm := cutL_small (m := 2000) (by omega) l
  have hst := shortB_size t
  have hsh := Short_any t w ht
  generalize cutL 2000 l = L at hcut hsm
  generalize shortB t = s at hst hsh
  have Hcut := Lib.hid hcut
  have Hsh := Lib.hid hsh
  have HT := Lib.hid hT
  have HSM := Lib.hid hsm
  clear hcut hl hs hE0 hsh ht hT
  by_cases hz : 20000 < s.size
  · have HZ := Lib.hid hz
    clear hz
    go_enter Tryd.func9, Tryd.ntmps9
    go_wp2_with fail
    refine Hsh.out.mono ?_
    rintro e w1 ⟨rfl, rfl⟩
    go_wp2_with fail
    refine Hcut.out.mono ?_
    rintro e w1 ⟨A1, c1, rfl, hE1, hb1⟩
    have HE1 := Lib.hid hE1
    have HB1 := Lib.hid hb1
    clear hE1 hb1
    go_wp2_with fail
    refine (Lex_no s w1 HZ.out).mono ?_
    rintro e w2 ⟨rfl, hw2⟩
    subst hw2
    go_wp2_with fail
    refine (Invert_own s c1 A1 L w2 HSM.out (by omega) HE1.out).mono ?_
    rintro e w3 ⟨v3, rfl, ho3, hb3⟩
    have HB3 := Lib.hid (HB1.out.trans (hb3.mono HB1.out.size))
    clear hb3 ho3
    go_wp2_with fail
    refine (alive4_any w3 (HT.out.below HB3.out)).mono ?_
    rintro e w9 ⟨rfl, hb9⟩
    go_wp2_with fail
    go_ret
    exact ⟨rfl, HB3.out.trans (hb9.mono HB3.out.size)⟩
  · have HZ : Hid (s.size ≤ 20000) := Lib.hid (by omega)
    by_cases h0 : checkE s.size L = 0
    · have H0 := Lib.hid h0
      obtain ⟨b1, b2, b3⟩ := back_all s L h0
      have hnew : (applyB s L).size ≤ 20000 := by
        obtain ⟨_, _, k3, k4⟩ := checkE_ok h0
        have := applyB_size k3
        omega
      have H2 : Hid (invertR s L = invertL s 0 L) := Lib.hid (by unfold invertR; rw [if_pos h0])
      have hism : Small (invertL s 0 L) := ⟨by rw [invertL_length]; exact hsm.1, fun e he => by have := inv_size s 0 L e he; omega⟩
      have HIS := Lib.hid hism
      have B1 := Lib.hid b1
      have B2 := Lib.hid b2
      clear h0 hz b1 b2 b3 hism
      go_enter Tryd.func9, Tryd.ntmps9
      go_wp2_with fail
      refine Hsh.out.mono ?_
      rintro e w1 ⟨rfl, rfl⟩
      go_wp2_with fail
      refine Hcut.out.mono ?_
      rintro e w1 ⟨A1, c1, rfl, hE1, hb1⟩
      have HE1 := Lib.hid hE1
      have HB1 := Lib.hid hb1
      clear hE1 hb1
      go_wp2_with fail
      refine (Lex_own s w1 HZ.out (HT.out.below HB1.out)).mono ?_
      rintro e w2 ⟨v2, rfl, ho2, hb2⟩
      obtain ⟨A2, c2, rfl, hE2, hc2, hn2, _⟩ := toks_full ho2
      have HB2 := Lib.hid (HB1.out.trans (hb2.mono HB1.out.size))
      have HE2 := Lib.hid hE2
      have HD2 := Lib.hid (HE1.out.below hb2)
      clear ho2 hE2 hb2
      go_wp2_with fail
      refine (Invert_own s c1 A1 L w2 HSM.out (by omega) HD2.out).mono ?_
      rw [H0.out, H2.out]
      rintro e w3 ⟨v3, rfl, ho3, hb3⟩
      obtain ⟨A3, c3, rfl, hI3, _⟩ := EdsV.of_own ho3
      have HB3 := Lib.hid (HB2.out.trans (hb3.mono HB2.out.size))
      have HE3 := Lib.hid (HE2.out.below hb3)
      have HD3 := Lib.hid (HD2.out.below hb3)
      have HI3 := Lib.hid hI3
      clear hb3 ho3 hI3
      go_wp2_with fail
      refine (Relex_lex c2 c1 A2 A1 s L w3 HZ.out H0.out HSM.out (HT.out.below HB3.out) hc2 hn2 HE3.out HD3.out).mono ?_
      rintro e w4 ⟨v4, f4, b4, rfl, ho4, hb4⟩
      obtain ⟨A4, c4, rfl, hE4, hc4, hn4, _⟩ := toks_full ho4
      have HB4 := Lib.hid (HB3.out.trans (hb4.mono HB3.out.size))
      have HF4 := Lib.hid (HE3.out.below hb4)
      have HI4 := Lib.hid (HI3.out.below hb4)
      have HE4 := Lib.hid hE4
      clear ho4 hE4 hb4
      have hR := Relex_lex c4 c3 A4 A3 (applyB s L) (invertL s 0 L) w4 hnew B1.out HIS.out (HT.out.below HB4.out) hc4 hn4 HE4.out HI4.out
      rw [B2.out] at hR
      have HR := Lib.hid hR
      clear hR
      go_wp2_with fail
      refine HR.out.mono ?_
      rintro e w5 ⟨v5, f5, b5, rfl, ho5, hb5⟩
      obtain ⟨A5, c5, rfl, hE5, _⟩ := TksV.of_own ho5
      have HB5 := Lib.hid (HB4.out.trans (hb5.mono HB4.out.size))
      have hE2 := HF4.out.below hb5
      clear ho5 hb5
      have hsame := RSame_any c5 c2 A5 A2 (lexL s) (lexL s) w5 (by have := (lexL_max HZ.out).1; omega) hE5 hE2
      rw [decide_eq_true rfl] at hsame
      go_wp2_with fail
      refine hsame.mono ?_
      rintro e w8 ⟨rfl, hb8⟩
      have HB8 := Lib.hid (HB5.out.trans (hb8.mono HB5.out.size))
      clear hb8 hE2 hE5 hsame
      go_wp2_with fail
      refine (alive4_any w8 (HT.out.below HB8.out)).mono ?_
      rintro e w9 ⟨rfl, hb9⟩
      go_wp2_with fail
      go_ret
      exact ⟨rfl, HB8.out.trans (hb9.mono HB8.out.size)⟩
    · have H0 : Hid ((checkE s.size L != 0) = true) := Lib.hid (by simpa using h0)
      have q0 := H0.out
      clear h0 hz
      generalize hk : checkE s.size L = k at *
      go_enter Tryd.func9, Tryd.ntmps9
      go_wp2_with fail
      refine Hsh.out.mono ?_
      rintro e w1 ⟨rfl, rfl⟩
      go_wp2_with fail
      refine Hcut.out.mono ?_
      rintro e w1 ⟨A1, c1, rfl, hE1, hb1⟩
      have HE1 := Lib.hid hE1
      have HB1 := Lib.hid hb1
      clear hE1 hb1
      go_wp2_with fail
      refine (Lex_own s w1 HZ.out (HT.out.below HB1.out)).mono ?_
      rintro e w2 ⟨v2, rfl, ho2, hb2⟩
      obtain ⟨A2, c2, rfl, hE2, hc2, hn2, _⟩ := toks_full ho2
      have HB2 := Lib.hid (HB1.out.trans (hb2.mono HB1.out.size))
      have HE2 := Lib.hid hE2
      have HD2 := Lib.hid (HE1.out.below hb2)
      clear ho2 hE2 hb2
      go_wp2_with fail
      refine (Invert_own s c1 A1 L w2 HSM.out (by omega) HD2.out).mono ?_
      rw [hk]
      rintro e w3 ⟨v3, rfl, ho3, hb3⟩
      have HB3 := Lib.hid (HB2.out.trans (hb3.mono HB2.out.size))
      clear hb3 ho3
      go_wp2_with fail
      refine (alive4_any w3 (HT.out.below HB3.out)).mono ?_
      rintro e w9 ⟨rfl, hb9⟩
      go_wp2_with fail
      go_ret
      exact ⟨rfl, HB3.out.trans (hb9.mono HB3.out.size)⟩
end Go.Proofs.YtkdnacniligjjaaDoor.lawRelexBack
