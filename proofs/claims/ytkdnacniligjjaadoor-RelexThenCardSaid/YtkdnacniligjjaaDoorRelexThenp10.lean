/-
  RelexThen: Relex with one edit after the other is Relex with all at once, as layer 1's Merge puts them together. No condition: every input.
-/
import Derived.Test.YtkdnacniligjjaaDoorRelexCommonsp30
import Derived.Test.YtkdnacniligjjaaDoorRelexCommonsp28
import Derived.Test.YtkdnacniligjjaaDoorRelexThenp9
namespace Go.Proofs.YtkdnacniligjjaaDoor.lawRelexThen
set_option linter.unusedVariables false
set_option linter.unusedSimpArgs false
open Go.ChangeShapes Go.WideShapes Go.RowKit
open Go.ChangeMaps (open_string shut_string)

theorem own_cap {w : World} {base e size n : Nat} {A : Option Addr} {c : Nat} {xs : List Value} (h : w.ownsRow base e size (.slice A n c) n xs) : n ≤ c := by
  rcases h.2 with ⟨h1, h2⟩ | ⟨g, cap, cur, h1, _, _, h2, _⟩
  · omega
  · injection h1 with _ _ h3; omega
theorem Cut_cap (m : Nat) (c : Nat) (A : Option Addr) (l : List Ed) (w : World) (hl : l.length ≤ maxLen) (hs : ∀ e ∈ l, e.s.size ≤ maxLen) (hE : EdsV w A l) :
    Calls Tryd.prog 24 #[.slice A l.length c, .int .i64 m] w fun e w' => ∃ A' c', e = .returned (.slice A' (cutL m l).length c') ∧ EdsV w' A' (cutL m l) ∧ (cutL m l).length ≤ c' ∧ Below w.heap.size w w' :=
  (Cut_own m c A l w hl hs hE).mono fun e w' ⟨v, he, ho, hb⟩ => by
    obtain ⟨A', c', rfl, h1, _⟩ := EdsV.of_own ho
    exact ⟨A', c', he, h1, own_cap ho, hb⟩
set_option maxRecDepth 100000 in
set_option maxHeartbeats 1000000 in
theorem Merge_no (t : ByteArray) (F G : List Ed) (cf cg : Nat) (A AG : Option Addr) (w : World) (hF : Small F) (hG : Small G) (ht : t.size ≤ 60000) (hE : EdsV w A F) (hE2 : EdsV w AG G) (h0 : checkE t.size F = 0) (h1 : checkE (applyB t F).size G ≠ 0) :
    Calls Tryd.prog 41 #[.string t, .slice A F.length cf, .slice AG G.length cg] w fun e w' => e = .returned (.tuple #[.slice none 0 0, .int .i64 (checkE (applyB t F).size G)]) ∧ Below w.heap.size w w' := by
  have c4 := checkE_ok h0
  have hXz := applyB_size c4.2.2.1
  have hX : (applyB t F).size ≤ 60000 := by omega
  have H0 := Lib.hid h0
  have H1 := Lib.hid (applyR_ok h0)
  have q : (checkE ((applyB t F).size : Int) G != 0) = true := by simpa using h1
  clear h0 h1 c4 hXz
  go_enter Tryd.func41, Tryd.ntmps41
  go_wp2_with fail
  with_reducible refine (Apply_any t cf A F w hF ht hE).mono ?_
  rw [H0.out, H1.out]
  rintro e w1 ⟨rfl, hb1⟩
  go_wp2_with fail
  with_reducible refine (Check_any (applyB t F) cg AG G w1 hG hX (hE2.below hb1)).mono ?_
  rintro e w2 ⟨rfl, hb2⟩
  have hB2 := hb1.trans (hb2.mono hb1.size)
  go_wp2_with fail
  go_ret2
  exact ⟨rfl, hB2⟩

set_option maxRecDepth 100000 in
set_option maxHeartbeats 2000000 in
theorem walk (t : ByteArray) (ht : t.size ≤ maxLen) (A : Option Addr) (c : Nat) (l : List Ed) (hl : l.length ≤ maxLen) (hs : ∀ e ∈ l, e.s.size ≤ maxLen) (A' : Option Addr) (c' : Nat) (l' : List Ed) (hl' : l'.length ≤ maxLen) (hs' : ∀ e ∈ l', e.s.size ≤ maxLen) (w : World) (hT : Tabs w) (hE : EdsV w A l) (hE' : EdsV w A' l') :
    Calls Tryd.prog 8 #[.string t, .slice A l.length c, .slice A' l'.length c'] w fun e w' => e = .returned (.bool true) ∧ Below w.heap.size w w' := by
  have hcut := Cut_any 400 c A l w hl hs hE
  have hsm := cutL_small (m := 400) (by omega) l
  have hcut' := fun W (h : EdsV W A' l') => Cut_cap 400 c' A' l' W hl' hs' h
  have hsm' := cutL_small (m := 400) (by omega) l'
  have hst := shortB_size t
  have hsh := Short_any t w ht
  generalize cutL 400 l = L at hcut hsm
  generalize cutL 400 l' = R at hcut' hsm'
  generalize shortB t = s at hst hsh
  have Hcut := Lib.hid hcut
  have Hcut2 := Lib.hid hcut'
  have Hsh := Lib.hid hsh
  have HE2 := Lib.hid hE'
  have HT := Lib.hid hT
  have HSM := Lib.hid hsm
  have HSR := Lib.hid hsm'
  clear hcut hcut' hl hs hE hl' hs' hE' hsh ht hT hsm hsm'
  by_cases hz : 20000 < s.size
  · have HZ := Lib.hid hz
    clear hz
    go_enter Tryd.func8, Tryd.ntmps8
    go_wp2_with fail
    refine Hsh.out.mono ?_
    rintro e w1 ⟨rfl, rfl⟩
    go_wp2_with fail
    refine Hcut.out.mono ?_
    rintro e w1 ⟨A1, c1, rfl, hE1, hb1⟩
    go_wp2_with fail
    refine (Hcut2.out w1 (HE2.out.below hb1)).mono ?_
    rintro e w2 ⟨A2, c2, rfl, hF2, hc2, hb2⟩
    have HB := Lib.hid (hb1.trans (hb2.mono hb1.size))
    have HEL := Lib.hid (hE1.below hb2)
    have HER := Lib.hid hF2
    clear hE1 hF2 hb1 hb2
    go_wp2_with fail
    refine (Lex_no s w2 HZ.out).mono ?_
    rintro e w3 ⟨rfl, hw3⟩
    subst hw3
    go_wp2_with fail
    refine (alive4_any w3 (HT.out.below HB.out)).mono ?_
    rintro e wz ⟨rfl, hbz⟩
    go_wp2_with fail
    go_ret
    exact ⟨rfl, HB.out.trans (hbz.mono HB.out.size)⟩
  · have HZ : Hid (s.size ≤ 20000) := Lib.hid (by omega)
    by_cases h0 : checkE s.size L = 0
    · have H0 := Lib.hid h0
      have hnew : (applyB s L).size ≤ 20000 := by
        obtain ⟨_, _, k3, k4⟩ := checkE_ok h0
        have := applyB_size k3
        omega
      have HNEW := Lib.hid hnew
      clear h0 hz
      by_cases h1 : checkE (applyB s L).size R = 0
      · have H1 := Lib.hid h1
        have hfin : (applyB (applyB s L) R).size ≤ 20000 := by
          obtain ⟨_, _, k3, k4⟩ := checkE_ok h1
          have := applyB_size k3
          omega
        have HFIN := Lib.hid hfin
        clear h1 hfin hnew
        go_enter Tryd.func8, Tryd.ntmps8
        go_wp2_with fail
        refine Hsh.out.mono ?_
        rintro e w1 ⟨rfl, rfl⟩
        go_wp2_with fail
        refine Hcut.out.mono ?_
        rintro e w1 ⟨A1, c1, rfl, hE1, hb1⟩
        go_wp2_with fail
        refine (Hcut2.out w1 (HE2.out.below hb1)).mono ?_
        rintro e w2 ⟨A2, c2, rfl, hF2, hc2, hb2⟩
        have HB := Lib.hid (hb1.trans (hb2.mono hb1.size))
        have HEL := Lib.hid (hE1.below hb2)
        have HER := Lib.hid hF2
        clear hE1 hF2 hb1 hb2
        go_wp2_with fail
        refine (Lex_own s w2 HZ.out (HT.out.below HB.out)).mono ?_
        rintro e w3 ⟨v3, rfl, ho3, hb3⟩
        obtain ⟨A3, c3, rfl, hE3, hc3, hn3, _⟩ := toks_full ho3
        have HB3 := Lib.hid (HB.out.trans (hb3.mono HB.out.size))
        have HE3 := Lib.hid hE3
        have HEL3 := Lib.hid (HEL.out.below hb3)
        have HER3 := Lib.hid (HER.out.below hb3)
        clear ho3 hE3 hb3
        go_wp2_with fail
        refine (Relex_lex c3 c1 A3 A1 s L w3 HZ.out H0.out HSM.out (HT.out.below HB3.out) hc3 hn3 HE3.out HEL3.out).mono ?_
        rintro e w4 ⟨v4, f4, b4, rfl, ho4, hb4⟩
        obtain ⟨A4, c4, rfl, hE4, hc4, hn4, _⟩ := toks_full ho4
        have HB4 := Lib.hid (HB3.out.trans (hb4.mono HB3.out.size))
        have HE4 := Lib.hid hE4
        have HF4 := Lib.hid (HE3.out.below hb4)
        have HEL4 := Lib.hid (HEL3.out.below hb4)
        have HER4 := Lib.hid (HER3.out.below hb4)
        clear ho4 hE4 hb4
        go_wp2_with fail
        refine (Relex_lex c4 c2 A4 A2 (applyB s L) R w4 HNEW.out H1.out HSR.out (HT.out.below HB4.out) hc4 hn4 HE4.out HER4.out).mono ?_
        rintro e w5 ⟨v5, f5, b5, rfl, ho5, hb5⟩
        obtain ⟨A5, c5, rfl, hE5, _⟩ := TksV.of_own ho5
        have HB5 := Lib.hid (HB4.out.trans (hb5.mono HB4.out.size))
        have HE5 := Lib.hid hE5
        have HF5 := Lib.hid (HF4.out.below hb5)
        have HEL5 := Lib.hid (HEL4.out.below hb5)
        have HER5 := Lib.hid (HER4.out.below hb5)
        clear ho5 hE5 hb5
        go_wp2_with fail
        with_reducible refine (Merge_ok s L R c1 c2 A1 A2 w5 HSM.out HSR.out (by omega) H0.out H1.out hc2 HEL5.out HER5.out).mono ?_
        rintro e w6 ⟨M, er, ⟨v6, rfl, ho6, hb6⟩, hr6⟩
        obtain ⟨A6, c6, rfl, hG6, _⟩ := EdsV.of_own ho6
        have HB6 := Lib.hid (HB5.out.trans (hb6.mono HB5.out.size))
        have HE6 := Lib.hid (HE5.out.below hb6)
        have HF6 := Lib.hid (HF5.out.below hb6)
        have HG6 := Lib.hid hG6
        clear ho6 hb6 hG6
        rcases hr6 with ⟨rfl, hM1, hM2, hM3⟩ | ⟨rfl, rfl, hlen⟩
        · have hR := Relex_lex c3 c6 A3 A6 s M w6 HZ.out hM2 hM1 (HT.out.below HB6.out) hc3 hn3 HF6.out HG6.out
          rw [hM3] at hR
          have HR := Lib.hid hR
          clear hR hM1 hM2 hM3
          go_wp2_with fail
          refine HR.out.mono ?_
          rintro e w7 ⟨v7, f7, b7, rfl, ho7, hb7⟩
          obtain ⟨A7, c7, rfl, hE7, _⟩ := TksV.of_own ho7
          have HB7 := Lib.hid (HB6.out.trans (hb7.mono HB6.out.size))
          have hsame := RSame_any c5 c7 A5 A7 (lexL (applyB (applyB s L) R)) (lexL (applyB (applyB s L) R)) w7 (by have := (lexL_max HFIN.out).1; omega) (HE6.out.below hb7) hE7
          rw [decide_eq_true rfl] at hsame
          have Hsame := Lib.hid hsame
          clear ho7 hb7 hE7 hsame
          go_wp2_with fail
          refine Hsame.out.mono ?_
          rintro e w8 ⟨rfl, hb8⟩
          have HB8 := Lib.hid (HB7.out.trans (hb8.mono HB7.out.size))
          clear hb8
          go_wp2_with fail
          refine (alive4_any w8 (HT.out.below HB8.out)).mono ?_
          rintro e wz ⟨rfl, hbz⟩
          go_wp2_with fail
          go_ret
          exact ⟨rfl, HB8.out.trans (hbz.mono HB8.out.size)⟩
        · clear hlen
          go_wp2_with fail
          refine (alive4_any w6 (HT.out.below HB6.out)).mono ?_
          rintro e wz ⟨rfl, hbz⟩
          go_wp2_with fail
          go_ret
          exact ⟨rfl, HB6.out.trans (hbz.mono HB6.out.size)⟩
      · have H1 := Lib.hid h1
        have q1 : (checkE (applyB s L).size R != 0) = true := by simpa using h1
        have q2 : (checkE (applyB s L).size R == 0) = false := by simpa using h1
        have q3 : (checkE (applyB s L).size R == checkE (applyB s L).size R) = true := by simp
        have HRN := fun (c : Nat) (A Ae : Option Addr) (ce : Nat) (W : World) (a : Tabs W) (b : TksV W A (lexL (applyB s L))) (d : EdsV W Ae R) => Relex_lexno c ce A Ae (applyB s L) R W HNEW.out H1.out HSR.out a b d
        have HMN := fun (cf cg : Nat) (A AG : Option Addr) (W : World) (a : EdsV W A L) (b : EdsV W AG R) => Merge_no s L R cf cg A AG W HSM.out HSR.out (by omega) a b H0.out H1.out
        have HRN := Lib.hid HRN
        have HMN := Lib.hid HMN
        clear h1
        generalize checkE (applyB s L).size R = k at *
        go_enter Tryd.func8, Tryd.ntmps8
        go_wp2_with fail
        refine Hsh.out.mono ?_
        rintro e w1 ⟨rfl, rfl⟩
        go_wp2_with fail
        refine Hcut.out.mono ?_
        rintro e w1 ⟨A1, c1, rfl, hE1, hb1⟩
        go_wp2_with fail
        refine (Hcut2.out w1 (HE2.out.below hb1)).mono ?_
        rintro e w2 ⟨A2, c2, rfl, hF2, hc2, hb2⟩
        have HB := Lib.hid (hb1.trans (hb2.mono hb1.size))
        have HEL := Lib.hid (hE1.below hb2)
        have HER := Lib.hid hF2
        clear hE1 hF2 hb1 hb2
        go_wp2_with fail
        refine (Lex_own s w2 HZ.out (HT.out.below HB.out)).mono ?_
        rintro e w3 ⟨v3, rfl, ho3, hb3⟩
        obtain ⟨A3, c3, rfl, hE3, hc3, hn3, _⟩ := toks_full ho3
        have HB3 := Lib.hid (HB.out.trans (hb3.mono HB.out.size))
        have HE3 := Lib.hid hE3
        have HEL3 := Lib.hid (HEL.out.below hb3)
        have HER3 := Lib.hid (HER.out.below hb3)
        clear ho3 hE3 hb3
        go_wp2_with fail
        refine (Relex_lex c3 c1 A3 A1 s L w3 HZ.out H0.out HSM.out (HT.out.below HB3.out) hc3 hn3 HE3.out HEL3.out).mono ?_
        rintro e w4 ⟨v4, f4, b4, rfl, ho4, hb4⟩
        obtain ⟨A4, c4, rfl, hE4, hc4, hn4, _⟩ := toks_full ho4
        have HB4 := Lib.hid (HB3.out.trans (hb4.mono HB3.out.size))
        have HE4 := Lib.hid hE4
        have HF4 := Lib.hid (HE3.out.below hb4)
        have HEL4 := Lib.hid (HEL3.out.below hb4)
        have HER4 := Lib.hid (HER3.out.below hb4)
        clear ho4 hE4 hb4
        go_wp2_with fail
        refine (HRN.out c4 A4 A2 c2 w4 (HT.out.below HB4.out) HE4.out HER4.out).mono ?_
        rintro e w5 ⟨rfl, hb5⟩
        have HB5 := Lib.hid (HB4.out.trans (hb5.mono HB4.out.size))
        have HEL5 := Lib.hid (HEL4.out.below hb5)
        have HER5 := Lib.hid (HER4.out.below hb5)
        clear hb5
        go_wp2_with fail
        refine (HMN.out c1 c2 A1 A2 w5 HEL5.out HER5.out).mono ?_
        rintro e w6 ⟨rfl, hb6⟩
        have HB6 := Lib.hid (HB5.out.trans (hb6.mono HB5.out.size))
        clear hb6
        go_wp2_with fail
        refine (alive4_any w6 (HT.out.below HB6.out)).mono ?_
        rintro e wz ⟨rfl, hbz⟩
        go_wp2_with fail
        go_ret
        exact ⟨rfl, HB6.out.trans (hbz.mono HB6.out.size)⟩
    · have H0 := Lib.hid h0
      have q1 : (checkE s.size L != 0) = true := by simpa using h0
      have HRN := fun (c : Nat) (A Ae : Option Addr) (ce : Nat) (W : World) (a : Tabs W) (b : TksV W A (lexL s)) (d : EdsV W Ae L) => Relex_lexno c ce A Ae s L W HZ.out H0.out HSM.out a b d
      have HRN := Lib.hid HRN
      clear h0 hz
      generalize checkE s.size L = k at *
      go_enter Tryd.func8, Tryd.ntmps8
      go_wp2_with fail
      refine Hsh.out.mono ?_
      rintro e w1 ⟨rfl, rfl⟩
      go_wp2_with fail
      refine Hcut.out.mono ?_
      rintro e w1 ⟨A1, c1, rfl, hE1, hb1⟩
      go_wp2_with fail
      refine (Hcut2.out w1 (HE2.out.below hb1)).mono ?_
      rintro e w2 ⟨A2, c2, rfl, hF2, hc2, hb2⟩
      have HB := Lib.hid (hb1.trans (hb2.mono hb1.size))
      have HEL := Lib.hid (hE1.below hb2)
      have HER := Lib.hid hF2
      clear hE1 hF2 hb1 hb2
      go_wp2_with fail
      refine (Lex_own s w2 HZ.out (HT.out.below HB.out)).mono ?_
      rintro e w3 ⟨v3, rfl, ho3, hb3⟩
      obtain ⟨A3, c3, rfl, hE3, hc3, hn3, _⟩ := toks_full ho3
      have HB3 := Lib.hid (HB.out.trans (hb3.mono HB.out.size))
      have HE3 := Lib.hid hE3
      have HEL3 := Lib.hid (HEL.out.below hb3)
      have HER3 := Lib.hid (HER.out.below hb3)
      clear ho3 hE3 hb3
      go_wp2_with fail
      refine (HRN.out c3 A3 A1 c1 w3 (HT.out.below HB3.out) HE3.out HEL3.out).mono ?_
      rintro e w4 ⟨rfl, hb4⟩
      have HB4 := Lib.hid (HB3.out.trans (hb4.mono HB3.out.size))
      clear hb4
      go_wp2_with fail
      refine (alive4_any w4 (HT.out.below HB4.out)).mono ?_
      rintro e wz ⟨rfl, hbz⟩
      go_wp2_with fail
      go_ret
      exact ⟨rfl, HB4.out.trans (hbz.mono HB4.out.size)⟩
end Go.Proofs.YtkdnacniligjjaaDoor.lawRelexThen
