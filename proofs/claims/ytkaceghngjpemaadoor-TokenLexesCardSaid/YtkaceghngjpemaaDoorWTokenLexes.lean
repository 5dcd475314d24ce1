/-
  TokenLexes: Lex returns the tokens of the specification, or the error; Words and Signs are the chapter's.
  No condition: every input.
-/
import Derived.Test.YtkaceghngjpemaaDoorTkAlive
import Derived.Test.YtkaceghngjpemaaDoorTkShort
import Derived.Test.YtkaceghngjpemaaDoorTkLaid
import Derived.Test.YtkaceghngjpemaaDoorRk6
import Derived.Test.YtkaceghngjpemaaDoorRk7
namespace Go.Proofs.YtkaceghngjpemaaDoor.lawTokenLexes
set_option linter.unusedVariables false
set_option linter.unusedSimpArgs false
open Go.ChangeShapes Go.WideShapes Go.RowKit
open Go.ChangeMaps (open_string shut_string)

set_option maxRecDepth 100000 in
set_option maxHeartbeats 1000000 in
theorem walk (t : ByteArray) (ht : t.size ≤ maxLen) (w : World) (hT : Tabs w) :
    Calls Tryd.prog 3 #[.string t] w fun e w' => e = .returned (.bool true) ∧ Below w.heap.size w w' := by
  have hsh := ShortT_any t w ht
  have hst := shortT_size t
  generalize shortT t = s at hsh hst
  have Hsh := Lib.hid hsh
  have HT := Lib.hid hT
  by_cases h0 : 20000 < s.size
  · have hst' : s.size ≤ 20001 := by omega
    have h0' : (20000 : Int) < (s.size : Int) := by omega
    clear hsh hst hT ht
    go_enter Tryd.func3, Tryd.ntmps3
    go_wp2_with fail
    refine Hsh.out.mono ?_
    rintro e w1 ⟨rfl, rfl⟩
    go_wp2_with fail
    refine (Lex_no s w h0).mono ?_
    rintro e w1 ⟨rfl, rfl⟩
    go_wp2_with fail
    refine (Words_any w1 HT.out).mono ?_
    rintro e w2 ⟨rfl, hS2, hb2⟩
    have hB2 := hb2
    go_wp2_with fail
    refine (RWords_any w2).mono ?_
    rintro e w3 ⟨rfl, hS3, hb3⟩
    have hB3 := hB2.trans (hb3.mono hB2.size)
    have hS2' := hS2.below hb3
    go_wp2_with fail
    refine (texts_same _ _ 12 12 12 wordsB w3 rfl (by decide) hS2' hS3).mono ?_
    rintro e w4 ⟨rfl, hb4⟩
    have hB4 := hB3.trans (hb4.mono hB3.size)
    clear hS2 hS3 hS2'
    go_wp2_with fail
    refine (Signs_any w4 (HT.out.below hB4)).mono ?_
    rintro e w5 ⟨rfl, hS5, hb5⟩
    have hB5 := hB4.trans (hb5.mono hB4.size)
    go_wp2_with fail
    refine (RSigns_any w5).mono ?_
    rintro e w6 ⟨rfl, hS6, hb6⟩
    have hB6 := hB5.trans (hb6.mono hB5.size)
    have hS5' := hS5.below hb6
    go_wp2_with fail
    refine (texts_same _ _ 22 22 22 signsB w6 rfl (by decide) hS5' hS6).mono ?_
    rintro e w7 ⟨rfl, hb7⟩
    have hB7 := hB6.trans (hb7.mono hB6.size)
    clear hS5 hS6 hS5'
    go_wp2_with fail
    refine (alive_any w7 (HT.out.below hB7)).mono ?_
    rintro e w8 ⟨rfl, hb8⟩
    go_wp2_with fail
    go_ret
    exact ⟨rfl, hB7.trans (hb8.mono hB7.size)⟩
  · have hs : s.size ≤ 20000 := by omega
    have h0' : decide ((20000 : Int) < (s.size : Int)) = false := by simp; omega
    have hln := lexL_length s.size s (Nat.le_refl _)
    have hlx := Lex_own s w hs hT
    have hrx : ∀ W, Calls Tryd.prog 25 #[.string s] W fun e w' => ∃ v, e = .returned v ∧ w'.ownsRow W.heap.size 44 2 v (lexL s).length (tkCells (lexL s)) ∧ Below W.heap.size W w' := fun W => RLex_own s W (by omega)
    generalize lexL s = L at hln hlx hrx
    have Hlx := Lib.hid hlx
    have Hrx := Lib.hid hrx
    clear hsh hst hT ht hlx hrx h0
    go_enter Tryd.func3, Tryd.ntmps3
    go_wp2_with fail
    refine Hsh.out.mono ?_
    rintro e w1 ⟨rfl, rfl⟩
    go_wp2_with fail
    refine Hlx.out.mono ?_
    rintro e w1 ⟨v, rfl, ho, hb1⟩
    obtain ⟨A, c, rfl, hE, hc, _⟩ := TksV.of_own ho
    have HE := Lib.hid hE
    clear ho hE
    go_wp2_with fail
    refine (Words_any w1 (HT.out.below hb1)).mono ?_
    rintro e w2 ⟨rfl, hS2, hb2⟩
    have hB2 := hb1.trans (hb2.mono hb1.size)
    go_wp2_with fail
    refine (RWords_any w2).mono ?_
    rintro e w3 ⟨rfl, hS3, hb3⟩
    have hB3 := hB2.trans (hb3.mono hB2.size)
    have hS2' := hS2.below hb3
    go_wp2_with fail
    refine (texts_same _ _ 12 12 12 wordsB w3 rfl (by decide) hS2' hS3).mono ?_
    rintro e w4 ⟨rfl, hb4⟩
    have hB4 := hB3.trans (hb4.mono hB3.size)
    clear hS2 hS3 hS2'
    go_wp2_with fail
    refine (Signs_any w4 (HT.out.below hB4)).mono ?_
    rintro e w5 ⟨rfl, hS5, hb5⟩
    have hB5 := hB4.trans (hb5.mono hB4.size)
    go_wp2_with fail
    refine (RSigns_any w5).mono ?_
    rintro e w6 ⟨rfl, hS6, hb6⟩
    have hB6 := hB5.trans (hb6.mono hB5.size)
    have hS5' := hS5.below hb6
    go_wp2_with fail
    refine (texts_same _ _ 22 22 22 signsB w6 rfl (by decide) hS5' hS6).mono ?_
    rintro e w7 ⟨rfl, hb7⟩
    have hB7 := hB6.trans (hb7.mono hB6.size)
    have hE7 := (((((HE.out.below hb2).below hb3).below hb4).below hb5).below hb6).below hb7
    have HE7 := Lib.hid hE7
    clear hS5 hS6 hS5' hE7
    go_wp2_with fail
    refine (Hrx.out w7).mono ?_
    rintro e w8 ⟨v8, rfl, ho8, hb8⟩
    obtain ⟨A8, c8, rfl, hE8, hc8, _⟩ := TksV.of_own ho8
    have hB8 := hB7.trans (hb8.mono hB7.size)
    have hsm := RSame_any c c8 A A8 L L w8 (by omega) (HE7.out.below hb8) hE8
    rw [decide_eq_true rfl] at hsm
    have Hsm := Lib.hid hsm
    clear ho8 hE8 hsm
    go_wp2_with fail
    refine Hsm.out.mono ?_
    rintro e w9 ⟨rfl, hb9⟩
    have hB9 := hB8.trans (hb9.mono hB8.size)
    go_wp2_with fail
    refine (alive_any w9 (HT.out.below hB9)).mono ?_
    rintro e wz ⟨rfl, hbz⟩
    go_wp2_with fail
    go_ret
    exact ⟨rfl, hB9.trans (hbz.mono hB9.size)⟩
end Go.Proofs.YtkaceghngjpemaaDoor.lawTokenLexes
