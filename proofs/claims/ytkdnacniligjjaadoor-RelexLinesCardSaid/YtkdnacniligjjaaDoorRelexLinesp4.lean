/-
  RelexLines: Line returns how many bytes of the new string lie in lines that an edit meets, or the error. No condition: every input.
-/
import Derived.Test.YtkdnacniligjjaaDoorRelexCommonsp30
import Derived.Test.YtkdnacniligjjaaDoorRelexTokensp5
import Derived.Test.YtkdnacniligjjaaDoorRelexLinesp3
import Derived.Test.YtkdnacniligjjaaDoorRelexCommonsp9
import Derived.Test.YtkdnacniligjjaaDoorRelexCommonsp28
namespace Go.Proofs.YtkdnacniligjjaaDoor.lawRelexLines
set_option linter.unusedVariables false
set_option linter.unusedSimpArgs false
open Go.ChangeShapes Go.WideShapes Go.RowKit
open Go.ChangeMaps (open_string shut_string)

set_option maxRecDepth 100000 in
set_option maxHeartbeats 2000000 in
theorem walk (A0 : Option Addr) (c0 : Nat) (l0 : List Tok) (hl0 : l0.length ≤ maxLen) (hs0 : ∀ p ∈ l0, p.2.size ≤ maxLen) (B0 : Option Addr) (d0 : Nat) (m0 : List Ed) (hm0 : m0.length ≤ maxLen) (ht0 : ∀ e ∈ m0, e.s.size ≤ maxLen) (w : World) (hT : Tabs w) (hE0 : TksV w A0 l0) (hF0 : EdsV w B0 m0) :
    Calls Tryd.prog 6 #[.slice A0 l0.length c0, .slice B0 m0.length d0] w fun e w' => e = .returned (.bool true) ∧ Below w.heap.size w w' := by
  have hcut1 := RCut_own c0 A0 l0 w hl0 hs0 hE0
  have hcut2 := fun W (hW : EdsV W B0 m0) => Cut_any 2000 d0 B0 m0 W hm0 ht0 hW
  have k1 := cutT_length l0
  have k2 := cutT_cat l0
  have k3 := cutT_small l0
  have hsm := cutL_small (m := 2000) (by omega) m0
  generalize cutT l0 = L at hcut1 k1 k2 k3
  generalize cutL 2000 m0 = E at hcut2 hsm
  have Hcut1 := Lib.hid hcut1
  have Hcut2 := Lib.hid hcut2
  have HF0 := Lib.hid hF0
  have HT := Lib.hid hT
  have HSM := Lib.hid hsm
  clear hcut1 hcut2 hE0 hF0 hl0 hs0 hm0 ht0 hT hsm
  by_cases hbad : (applyT L E).2.2 = 0
  · have her := applyT_err L E
    rw [hbad] at her
    have hk : checkT L = 0 := by
      by_cases h : checkT L = 0
      · exact h
      · rw [if_pos h] at her; exact absurd her.symm h
    rw [if_neg (by simp [hk])] at her
    obtain ⟨_, g1, g2, g3⟩ := textR_ok hk
    have hsz := mkB_size (catL L)
    obtain ⟨s, hs⟩ : ∃ s, s = mkB (catL L) := ⟨_, rfl⟩
    rw [← hs] at her g3 hsz
    have hrt := fun W A c (hW : TksV W A L) => RText_any c A L W (by omega) (by omega) hW
    rw [← hs] at hrt
    clear hs hk k2 k3 k1 g1
    subst g3
    have hz : s.size ≤ 20000 := by omega
    have hck : checkE s.size E = 0 := her.symm
    have hap := applyT_lex hz hck
    have hrx := fun W A c Ae ce a b d => Line_ok c ce A Ae (lexL s) E s W (by have := (lexL_max hz).1; omega) (lexL_max hz).2 HSM.out a b d hap hck
    have hch := fun W A c Ae ce a b => RxCheck_any c ce A Ae (lexL s) E W (by have := (lexL_max hz).1; omega) (by rw [catL_lex s.size s (Nat.le_refl _), byt_length]; omega) HSM.out a b
    rw [hbad] at hch
    have hrl := fun W A c a => RLine_any s c A E W hz hck HSM.out a
    generalize (lineF (applyB s E) (invertL s 0 E)).1 = n at *
    have qn : (n == n) = true := by simp
    have Hrx := Lib.hid hrx
    have Hch := Lib.hid hch
    have Hrt := Lib.hid hrt
    have Hrl := Lib.hid hrl
    clear hrx hch hrt hrl her hbad g2 hsz hck hap
    go_enter Tryd.func6, Tryd.ntmps6
    go_wp2_with fail
    refine Hcut1.out.mono ?_
    rintro e w1 ⟨v1, rfl, ho1, hb1⟩
    obtain ⟨A1, c1, rfl, hE1, hc1, hn1, _⟩ := toks_full ho1
    have HB1 := Lib.hid hb1
    have HE1 := Lib.hid hE1
    clear ho1 hb1 hE1
    go_wp2_with fail
    refine (Hcut2.out w1 (HF0.out.below HB1.out)).mono ?_
    rintro e w2 ⟨A2, c2, rfl, hE2, hb2⟩
    have HB2 := Lib.hid (HB1.out.trans (hb2.mono HB1.out.size))
    have HT2 := Lib.hid (HE1.out.below hb2)
    have HE2 := Lib.hid hE2
    clear hb2 hE2
    go_wp2_with fail
    refine (Hrx.out w2 A1 c1 A2 c2 (HT.out.below HB2.out) HT2.out HE2.out).mono ?_
    rintro e w3 ⟨rfl, hb3⟩
    have HB3 := Lib.hid (HB2.out.trans (hb3.mono HB2.out.size))
    have HT3 := Lib.hid (HT2.out.below hb3)
    have HD3 := Lib.hid (HE2.out.below hb3)
    clear hb3
    go_wp2_with fail
    refine (Hch.out w3 A1 c1 A2 c2 HT3.out HD3.out).mono ?_
    rintro e w4 ⟨rfl, hb4⟩
    have HB4 := Lib.hid (HB3.out.trans (hb4.mono HB3.out.size))
    have HT4 := Lib.hid (HT3.out.below hb4)
    have HD4 := Lib.hid (HD3.out.below hb4)
    clear hb4
    go_wp2_with fail
    refine (Hrt.out w4 A1 c1 HT4.out).mono ?_
    rintro e w5 ⟨rfl, hb5⟩
    have HB5 := Lib.hid (HB4.out.trans (hb5.mono HB4.out.size))
    have HD5 := Lib.hid (HD4.out.below hb5)
    clear hb5
    go_wp2_with fail
    refine (Hrl.out w5 A2 c2 HD5.out).mono ?_
    rintro e w6 ⟨rfl, hb6⟩
    have HB6 := Lib.hid (HB5.out.trans (hb6.mono HB5.out.size))
    clear hb6
    go_wp2_with fail
    refine (alive4_any w6 (HT.out.below HB6.out)).mono ?_
    rintro e wz ⟨rfl, hbz⟩
    go_wp2_with fail
    go_ret
    exact ⟨rfl, HB6.out.trans (hbz.mono HB6.out.size)⟩
  · have hrx := fun W A c Ae ce a b d => Line_no c ce A Ae L E W (by omega) (fun p hp => by have := k3 p hp; omega) HSM.out a b d hbad
    have hch := fun W A c Ae ce a b => RxCheck_any c ce A Ae L E W (by omega) (by omega) HSM.out a b
    have Hrx := Lib.hid hrx
    have Hch := Lib.hid hch
    have q1 : ((applyT L E).2.2 != 0) = true := by simpa using hbad
    have q2 : ((applyT L E).2.2 == (applyT L E).2.2) = true := by simp
    clear hrx hch hbad
    generalize (applyT L E).2.2 = k at *
    go_enter Tryd.func6, Tryd.ntmps6
    go_wp2_with fail
    refine Hcut1.out.mono ?_
    rintro e w1 ⟨v1, rfl, ho1, hb1⟩
    obtain ⟨A1, c1, rfl, hE1, hc1, hn1, _⟩ := toks_full ho1
    have HB1 := Lib.hid hb1
    have HE1 := Lib.hid hE1
    clear ho1 hb1 hE1
    go_wp2_with fail
    refine (Hcut2.out w1 (HF0.out.below HB1.out)).mono ?_
    rintro e w2 ⟨A2, c2, rfl, hE2, hb2⟩
    have HB2 := Lib.hid (HB1.out.trans (hb2.mono HB1.out.size))
    have HT2 := Lib.hid (HE1.out.below hb2)
    have HE2 := Lib.hid hE2
    clear hb2 hE2
    go_wp2_with fail
    refine (Hrx.out w2 A1 c1 A2 c2 (HT.out.below HB2.out) HT2.out HE2.out).mono ?_
    rintro e w3 ⟨rfl, hb3⟩
    have HB3 := Lib.hid (HB2.out.trans (hb3.mono HB2.out.size))
    have HT3 := Lib.hid (HT2.out.below hb3)
    have HD3 := Lib.hid (HE2.out.below hb3)
    clear hb3
    go_wp2_with fail
    refine (Hch.out w3 A1 c1 A2 c2 HT3.out HD3.out).mono ?_
    rintro e w4 ⟨rfl, hb4⟩
    have HB4 := Lib.hid (HB3.out.trans (hb4.mono HB3.out.size))
    clear hb4
    go_wp2_with fail
    refine (alive4_any w4 (HT.out.below HB4.out)).mono ?_
    rintro e w5 ⟨rfl, hb5⟩
    go_wp2_with fail
    go_ret
    exact ⟨rfl, HB4.out.trans (hb5.mono HB4.out.size)⟩
end Go.Proofs.YtkdnacniligjjaaDoor.lawRelexLines
