/-
  TokenTexts: Text returns the string of any tokens, At the index of that with an offset, or the error.
  No condition: every input.
-/
import Derived.Test.YtkaceghngjpemaaDoorTkAlive
import Derived.Test.YtkaceghngjpemaaDoorTkLaid
import Derived.Test.YtkaceghngjpemaaDoorTkToks
import Derived.Test.YtkaceghngjpemaaDoorRCut
import Derived.Test.YtkaceghngjpemaaDoorRCheck
namespace Go.Proofs.YtkaceghngjpemaaDoor.lawTokenTexts
set_option linter.unusedVariables false
set_option linter.unusedSimpArgs false
open Go.ChangeShapes Go.WideShapes Go.RowKit
open Go.ChangeMaps (open_string shut_string)

set_option maxRecDepth 100000 in
set_option maxHeartbeats 2000000 in
theorem walk (A0 : Option Addr) (c0 : Nat) (l : List Tok) (hl : l.length ≤ maxLen) (hs : ∀ p ∈ l, p.2.size ≤ maxLen) (o : Int) (w : World) (hT : Tabs w) (hE0 : TksV w A0 l) :
    Calls Tryd.prog 4 #[.slice A0 l.length c0, .int .i64 o] w fun e w' => e = .returned (.bool true) ∧ Below w.heap.size w w' := by
  have hcut := RCut_own c0 A0 l w hl hs hE0
  have k1 := cutT_length l
  have k2 := cutT_cat l
  have k3 := cutT_small l
  generalize cutT l = L at hcut k1 k2 k3
  have Hcut := Lib.hid hcut
  have HT := Lib.hid hT
  have K3 := Lib.hid (show ∀ p ∈ L, p.2.size ≤ 60000 from fun p hp => by have := k3 p hp; omega)
  have htx : ∀ (W : World) A c, Tabs W → TksV W A L → Calls Tryd.prog 27 #[.slice A L.length c] W fun e w' => e = .returned (.tuple #[.string (textR L).1, .int .i64 (textR L).2]) ∧ Below W.heap.size W w' := fun W A c h1 h2 => Text_any c A L W (by omega) K3.out h1 h2
  have hat : ∀ (W : World) A c, Tabs W → TksV W A L → Calls Tryd.prog 28 #[.slice A L.length c, .int .i64 o] W fun e w' => e = .returned (.tuple #[.int .i64 (atR L o).1, .int .i64 (atR L o).2]) ∧ Below W.heap.size W w' := fun W A c h1 h2 => At_any c A L o W (by omega) (by omega) K3.out h1 h2
  have hck : ∀ (W : World) A c, TksV W A L → Calls Tryd.prog 29 #[.slice A L.length c] W fun e w' => e = .returned (.int .i64 (checkT L)) ∧ Below W.heap.size W w' := fun W A c h2 => RCheck_any c A L W (by omega) (by omega) h2
  have hrt : ∀ (W : World) A c, TksV W A L → Calls Tryd.prog 30 #[.slice A L.length c] W fun e w' => e = .returned (.string (mkB (catL L))) ∧ Below W.heap.size W w' := fun W A c h2 => RText_any c A L W (by omega) (by omega) h2
  have hra : ∀ (W : World) A c, TksV W A L → Calls Tryd.prog 31 #[.slice A L.length c, .int .i64 o] W fun e w' => e = .returned (.int .i64 (atL o 0 L : Nat)) ∧ w' = W := fun W A c h2 => RAt_any c A L o W (by omega) (by omega) h2
  have Hrt := Lib.hid hrt
  have Hra := Lib.hid hra
  clear hcut hT hE0 hl hs k3 hrt hra
  by_cases h0 : checkT L = 0
  · rw [(textR_ok h0).1] at htx
    rw [h0] at hck
    have Htx := Lib.hid htx
    have Hck := Lib.hid hck
    have hms := mkB_size (catL L)
    have hne : ((mkB (catL L)).toList != (mkB (catL L)).toList) = false := by simp
    clear htx hck
    by_cases h1 : o < 0
    · have hr : atR L o = (0, 2) := by unfold atR; rw [if_neg (by simp [h0]), if_pos (.inl h1)]
      rw [hr] at hat
      have Hat := Lib.hid hat
      clear hr hat h0 hms
      generalize mkB (catL L) = T at *
      go_enter Tryd.func4, Tryd.ntmps4
      go_wp2_with fail
      refine Hcut.out.mono ?_
      rintro e w1 ⟨v, rfl, ho, hb1⟩
      obtain ⟨A, c, rfl, hE, _⟩ := TksV.of_own ho
      have HE := Lib.hid hE
      have HT1 := Lib.hid (HT.out.below hb1)
      clear ho hE
      go_wp2_with fail
      refine (Htx.out w1 A c HT1.out HE.out).mono ?_
      rintro e w2 ⟨rfl, hb2⟩
      go_wp2_with fail
      refine (Hat.out w2 A c (HT1.out.below hb2) (HE.out.below hb2)).mono ?_
      rintro e w3 ⟨rfl, hb3⟩
      have hb13 := hb2.trans (hb3.mono hb2.size)
      go_wp2_with fail
      refine (Hck.out w3 A c (HE.out.below hb13)).mono ?_
      rintro e w4 ⟨rfl, hb4⟩
      have hb14 := hb13.trans (hb4.mono hb13.size)
      go_wp2_with fail
      refine (Hrt.out w4 A c (HE.out.below hb14)).mono ?_
      rintro e w5 ⟨rfl, hb5⟩
      have hb15 := hb14.trans (hb5.mono hb14.size)
      go_wp2_with fail
      refine (alive_any w5 (HT1.out.below hb15)).mono ?_
      rintro e w6 ⟨rfl, hb6⟩
      go_wp2_with fail
      go_ret
      exact ⟨rfl, hb1.trans ((hb15.trans (hb6.mono hb15.size)).mono hb1.size)⟩
    · by_cases h2 : ((mkB (catL L)).size : Int) < o
      · have hr : atR L o = (0, 2) := by unfold atR; rw [if_neg (by simp [h0]), if_pos (.inr h2)]
        rw [hr] at hat
        have Hat := Lib.hid hat
        clear hr hat h0 hms
        generalize mkB (catL L) = T at *
        go_enter Tryd.func4, Tryd.ntmps4
        go_wp2_with fail
        refine Hcut.out.mono ?_
        rintro e w1 ⟨v, rfl, ho, hb1⟩
        obtain ⟨A, c, rfl, hE, _⟩ := TksV.of_own ho
        have HE := Lib.hid hE
        have HT1 := Lib.hid (HT.out.below hb1)
        clear ho hE
        go_wp2_with fail
        refine (Htx.out w1 A c HT1.out HE.out).mono ?_
        rintro e w2 ⟨rfl, hb2⟩
        go_wp2_with fail
        refine (Hat.out w2 A c (HT1.out.below hb2) (HE.out.below hb2)).mono ?_
        rintro e w3 ⟨rfl, hb3⟩
        have hb13 := hb2.trans (hb3.mono hb2.size)
        go_wp2_with fail
        refine (Hck.out w3 A c (HE.out.below hb13)).mono ?_
        rintro e w4 ⟨rfl, hb4⟩
        have hb14 := hb13.trans (hb4.mono hb13.size)
        go_wp2_with fail
        refine (Hrt.out w4 A c (HE.out.below hb14)).mono ?_
        rintro e w5 ⟨rfl, hb5⟩
        have hb15 := hb14.trans (hb5.mono hb14.size)
        go_wp2_with fail
        refine (alive_any w5 (HT1.out.below hb15)).mono ?_
        rintro e w6 ⟨rfl, hb6⟩
        go_wp2_with fail
        go_ret
        exact ⟨rfl, hb1.trans ((hb15.trans (hb6.mono hb15.size)).mono hb1.size)⟩
      · have hr : atR L o = (((atL o 0 L : Nat) : Int), 0) := by unfold atR; rw [if_neg (by simp [h0]), if_neg (by omega)]
        rw [hr] at hat
        have Hat := Lib.hid hat
        clear hr hat h0 hms
        generalize mkB (catL L) = T at *
        generalize atL o 0 L = aa at *
        have haa : ((aa : Int) == (aa : Int)) = true := by simp
        go_enter Tryd.func4, Tryd.ntmps4
        go_wp2_with fail
        refine Hcut.out.mono ?_
        rintro e w1 ⟨v, rfl, ho, hb1⟩
        obtain ⟨A, c, rfl, hE, _⟩ := TksV.of_own ho
        have HE := Lib.hid hE
        have HT1 := Lib.hid (HT.out.below hb1)
        clear ho hE
        go_wp2_with fail
        refine (Htx.out w1 A c HT1.out HE.out).mono ?_
        rintro e w2 ⟨rfl, hb2⟩
        go_wp2_with fail
        refine (Hat.out w2 A c (HT1.out.below hb2) (HE.out.below hb2)).mono ?_
        rintro e w3 ⟨rfl, hb3⟩
        have hb13 := hb2.trans (hb3.mono hb2.size)
        go_wp2_with fail
        refine (Hck.out w3 A c (HE.out.below hb13)).mono ?_
        rintro e w4 ⟨rfl, hb4⟩
        have hb14 := hb13.trans (hb4.mono hb13.size)
        go_wp2_with fail
        refine (Hrt.out w4 A c (HE.out.below hb14)).mono ?_
        rintro e w5 ⟨rfl, hb5⟩
        have hb15 := hb14.trans (hb5.mono hb14.size)
        go_wp2_with fail
        refine (Hra.out w5 A c (HE.out.below hb15)).mono ?_
        rintro e w5 ⟨rfl, rfl⟩
        go_wp2_with fail
        refine (alive_any w5 (HT1.out.below hb15)).mono ?_
        rintro e w6 ⟨rfl, hb6⟩
        go_wp2_with fail
        go_ret
        exact ⟨rfl, hb1.trans ((hb15.trans (hb6.mono hb15.size)).mono hb1.size)⟩
  · rw [textR_no h0] at htx
    have hr : atR L o = (0, checkT L) := by unfold atR; rw [if_pos h0]
    rw [hr] at hat
    have Htx := Lib.hid htx
    have Hck := Lib.hid hck
    have Hat := Lib.hid hat
    clear hr hat htx hck
    generalize checkT L = bad at *
    have q : (bad != 0) = true := by simpa using h0
    have q2 : (bad == bad) = true := by simp
    have em : (ByteArray.empty.toList == ([] : List UInt8)) = true := by decide +kernel
    have em2 : ByteArray.empty.toList.isEmpty = true := by decide +kernel
    go_enter Tryd.func4, Tryd.ntmps4
    go_wp2_with fail
    refine Hcut.out.mono ?_
    rintro e w1 ⟨v, rfl, ho, hb1⟩
    obtain ⟨A, c, rfl, hE, _⟩ := TksV.of_own ho
    have HE := Lib.hid hE
    have HT1 := Lib.hid (HT.out.below hb1)
    clear ho hE
    go_wp2_with fail
    refine (Htx.out w1 A c HT1.out HE.out).mono ?_
    rintro e w2 ⟨rfl, hb2⟩
    go_wp2_with fail
    refine (Hat.out w2 A c (HT1.out.below hb2) (HE.out.below hb2)).mono ?_
    rintro e w3 ⟨rfl, hb3⟩
    have hb13 := hb2.trans (hb3.mono hb2.size)
    go_wp2_with fail
    refine (Hck.out w3 A c (HE.out.below hb13)).mono ?_
    rintro e w4 ⟨rfl, hb4⟩
    have hb14 := hb13.trans (hb4.mono hb13.size)
    go_wp2_with fail
    refine (alive_any w4 (HT1.out.below hb14)).mono ?_
    rintro e w6 ⟨rfl, hb6⟩
    go_wp2_with fail
    go_ret
    exact ⟨rfl, hb1.trans ((hb14.trans (hb6.mono hb14.size)).mono hb1.size)⟩
end Go.Proofs.YtkaceghngjpemaaDoor.lawTokenTexts
