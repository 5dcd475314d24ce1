/-
  RopeThen: Apply of Merge is Apply of the one and then of the other.
  No condition: every input.
-/
import Derived.Test.YtmdgclcakogggaaAlive
import Derived.Test.YtmdgclcakogggaaArg
import Derived.Test.YtmdgclcakogggaaMerge
namespace Go.Proofs.Ytmdgclcakogggaa.lawRopeThen
set_option linter.unusedVariables false
set_option linter.unusedSimpArgs false
open Go.ChangeShapes Go.WideShapes Go.RowKit
open Go.ChangeMaps (open_string shut_string)

theorem short_size (t : ByteArray) : (shortB t).size = min t.size 20001 := by unfold shortB; rw [ByteArray.size_extract]; omega
theorem applyB_nil (t : ByteArray) : applyB t [] = t := by
  apply byt_inj
  refine (byt_mkB _).trans ?_
  simp only [editedL]
  rw [sub_eq, Nat.sub_zero, List.drop_zero]
  exact List.take_of_length_le (by have := byt_length t; unfold byt at this; omega)

theorem own_cap {w : World} {base e size n : Nat} {A : Option Addr} {c : Nat} {xs : List Value} (h : w.ownsRow base e size (.slice A n c) n xs) : n ≤ c := by
  rcases h.2 with ⟨h1, h2⟩ | ⟨g, cap, cur, h1, _, _, h2, _⟩
  · omega
  · injection h1 with _ _ h3; omega
theorem Cut_cap (m : Nat) (c : Nat) (A : Option Addr) (l : List Ed) (w : World) (hl : l.length ≤ maxLen) (hs : ∀ e ∈ l, e.s.size ≤ maxLen) (hE : EdsV w A l) :
    Calls Try.prog 7 #[.slice A l.length c, .int .i64 m] w fun e w' => ∃ A' c', e = .returned (.slice A' (cutL m l).length c') ∧ EdsV w' A' (cutL m l) ∧ (cutL m l).length ≤ c' ∧ Below w.heap.size w w' :=
  (Cut_own m c A l w hl hs hE).mono fun e w' ⟨v, he, ho, hb⟩ => by
    obtain ⟨A', c', rfl, h1, _⟩ := EdsV.of_own ho
    exact ⟨A', c', he, h1, own_cap ho, hb⟩
theorem Merge_nil2 (t : ByteArray) (F : List Ed) (cf : Nat) (A : Option Addr) (w : World) (hF : Small F) (ht : t.size ≤ 60000) (h0 : checkE t.size F = 0) (h1 : checkE (applyB t F).size [] = 0) (hl : F.length ≤ 100) (hE : EdsV w A F) :
    Calls Try.prog 12 #[.string t, .slice A F.length cf, .slice none 0 0] w fun e w' => ∃ M, OwnsEds w M 0 e w' ∧ Small M ∧ checkE t.size M = 0 ∧ applyB t M = applyB t F :=
  (Merge_ok t F [] cf 0 A none w hF small_nil ht h0 h1 (Nat.le_refl _) hE (EdsV.nil _ _)).mono fun e w' ⟨M, er, ho, hm⟩ => by
    obtain ⟨rfl, g1, g2, g3⟩ := hm.fits (by rw [List.length_nil]; omega)
    exact ⟨M, ho, g1, g2, g3.trans (applyB_nil _)⟩
theorem Merge_nil1 (t : ByteArray) (G : List Ed) (cg : Nat) (AG : Option Addr) (w : World) (hG : Small G) (ht : t.size ≤ 60000) (h0 : checkE t.size [] = 0) (h1 : checkE t.size G = 0) (hl : G.length ≤ 100) (hc : G.length ≤ cg) (hE : EdsV w AG G) :
    Calls Try.prog 12 #[.string t, .slice none 0 0, .slice AG G.length cg] w fun e w' => ∃ M, OwnsEds w M 0 e w' ∧ Small M ∧ checkE t.size M = 0 ∧ applyB t M = applyB t G :=
  (Merge_ok t [] G 0 cg none AG w small_nil hG ht h0 (by rw [applyB_nil]; exact h1) hc (EdsV.nil _ _) hE).mono fun e w' ⟨M, er, ho, hm⟩ => by
    obtain ⟨rfl, g1, g2, g3⟩ := hm.fits (by rw [List.length_nil]; omega)
    exact ⟨M, ho, g1, g2, by rw [g3, applyB_nil]⟩

set_option maxRecDepth 100000 in
set_option maxHeartbeats 1000000 in
theorem walk (t : ByteArray) (ht : t.size ≤ maxLen) (A : Option Addr) (c : Nat) (l : List Ed) (hl : l.length ≤ maxLen) (hs : ∀ e ∈ l, e.s.size ≤ maxLen) (A' : Option Addr) (c' : Nat) (l' : List Ed) (hl' : l'.length ≤ maxLen) (hs' : ∀ e ∈ l', e.s.size ≤ maxLen) (w : World) (hE : EdsV w A l) (hE' : EdsV w A' l') :
    Calls Try.prog 4 #[.string t, .slice A l.length c, .slice A' l'.length c'] w fun e w' => e = .returned (.bool true) ∧ Below w.heap.size w w' := by
  have hcut := Cut_any 400 c A l w hl hs hE
  have hsm := cutL_small (m := 400) (by omega) l
  have hcut' := fun W (h : EdsV W A' l') => Cut_cap 400 c' A' l' W hl' hs' h
  have hsm' := cutL_small (m := 400) (by omega) l'
  have hst := short_size t
  have hst2 : (shortB t).size ≤ 60000 := by omega
  have hsh := Short_any t w ht
  generalize cutL 400 l = L at hcut hsm
  generalize cutL 400 l' = R at hcut' hsm'
  generalize shortB t = s at hst2 hsh
  have Hcut := Lib.hid hcut
  have Hcut' := Lib.hid hcut'
  have Hsh := Lib.hid hsh
  have HE' := Lib.hid hE'
  clear hcut hcut' hl hs hE hl' hs' hE' hst hsh ht
  have hl1 := hsm.1
  have hl1' := hsm'.1
  by_cases h0 : checkE s.size L = 0
  · have hXs0 := (checkE_ok h0)
    have hXz := applyB_size hXs0.2.2.1
    have hXs : (applyB s L).size ≤ 60000 := by omega
    have hX0 : checkE (applyB s L).size [] = 0 := checkE_of (by omega) (by simp) rfl (by simp [sumG]; omega)
    have hsz : checkE (applyB s L).size [] = 0 := hX0
    have hL100 : L.length ≤ 100 := hXs0.2.1
    have H0 := Lib.hid h0
    have H1 := Lib.hid (applyR_ok h0)
    have HC1 := Lib.hid h0
    have HN := Lib.hid hX0
    have HX0 := Lib.hid hX0
    clear h0 hXs0 hXz hX0 hsz
    by_cases h1 : checkE (applyB s L).size R = 0
    · have hR100 : R.length ≤ 100 := (checkE_ok h1).2.1
      have H2 := Lib.hid h1
      have H3 := Lib.hid (applyR_ok h1)
      clear h1
      go_enter Try.func4, Try.ntmps4
      go_wp2_with fail
      refine Hsh.out.mono ?_
      rintro e w1 ⟨rfl, rfl⟩
      go_wp2_with fail
      refine Hcut.out.mono ?_
      rintro e w1 ⟨A1, c1, rfl, hE1, hb1⟩
      go_wp2_with fail
      refine (Hcut'.out w1 (HE'.out.below hb1)).mono ?_
      rintro e w2 ⟨A2, c2, rfl, hF2, hc2, hb2⟩
      have hB2 := hb1.trans (hb2.mono hb1.size)
      have hE2 := hE1.below hb2
      clear hE1
      go_wp2_with fail
      with_reducible refine (Apply_any s c1 A1 L w2 hsm hst2 hE2).mono ?_
      rw [H0.out, H1.out]
      rintro e w3 ⟨rfl, hb3⟩
      have hB3 := hB2.trans (hb3.mono hB2.size)
      have hE3 := hE2.below hb3
      have hF3 := hF2.below hb3
      clear hE2 hF2
      go_wp2_with fail
      with_reducible refine (Apply_any (applyB s L) c2 A2 R w3 hsm' hXs hF3).mono ?_
      rw [H2.out, H3.out]
      rintro e w4 ⟨rfl, hb4⟩
      have hB4 := hB3.trans (hb4.mono hB3.size)
      have hE4 := hE3.below hb4
      have hF4 := hF3.below hb4
      clear hE3 hF3
      go_wp2_with fail
      with_reducible refine (Merge_ok s L R c1 c2 A1 A2 w4 hsm hsm' hst2 H0.out H2.out hc2 hE4 hF4).mono ?_
      rintro e w5 ⟨M, er, ⟨v5, rfl, ho5, hb5⟩, hr5⟩
      have hB5 := hB4.trans (hb5.mono hB4.size)
      have hE5 := hE4.below hb5
      have hF5 := hF4.below hb5
      clear hE4 hF4
      obtain ⟨A5, c5, rfl, hG5, _⟩ := EdsV.of_own ho5
      rcases hr5 with ⟨rfl, hM1, hM2, hM3⟩ | ⟨rfl, rfl, hlen⟩
      · have HM2 := Lib.hid hM2
        have HM3 := Lib.hid ((applyR_ok hM2).trans hM3)
        clear hM2 hM3
        go_wp2_with fail
        with_reducible refine (Apply_any s c5 A5 M w5 hM1 hst2 hG5).mono ?_
        rw [HM2.out, HM3.out]
        rintro e w6 ⟨rfl, hb6⟩
        have hB6 := hB5.trans (hb6.mono hB5.size)
        have hE6 := hE5.below hb6
        have hF6 := hF5.below hb6
        go_wp2_with fail
        with_reducible refine (Merge_nil2 s L c1 A1 w6 hsm hst2 HC1.out HN.out hL100 hE6).mono ?_
        rintro e wa ⟨Ma, ⟨va, rfl, hoa, hba⟩, hra1, hra2, hra3⟩
        have hBa := hB6.trans (hba.mono hB6.size)
        have hFa := hF6.below hba
        obtain ⟨Aa, ca, rfl, hEa, _⟩ := EdsV.of_own hoa
        clear hE6 hF6
        go_wp2_with fail
        with_reducible refine (Merge_nil1 (applyB s L) R c2 A2 wa hsm' hXs HX0.out H2.out hR100 hc2 hFa).mono ?_
        rintro e wb ⟨Mb, ⟨vb, rfl, hob, hbb⟩, hrb1, hrb2, hrb3⟩
        have hBb := hBa.trans (hbb.mono hBa.size)
        have hEb := hEa.below hbb
        obtain ⟨Ab, cb, rfl, hGb, _⟩ := EdsV.of_own hob
        go_wp2_with fail
        with_reducible refine (Apply_any s ca Aa Ma wb hra1 hst2 hEb).mono ?_
        rw [hra2, applyR_ok hra2, hra3]
        rintro e wc ⟨rfl, hbc⟩
        have hBc := hBb.trans (hbc.mono hBb.size)
        have hGc := hGb.below hbc
        go_wp2_with fail
        with_reducible refine (Apply_any (applyB s L) cb Ab Mb wc hrb1 hXs hGc).mono ?_
        rw [hrb2, applyR_ok hrb2, hrb3]
        rintro e wd ⟨rfl, hbd⟩
        have hBd := hBc.trans (hbd.mono hBc.size)
        go_wp2_with fail
        with_reducible refine (alive_any wd).mono ?_
        rintro e wz ⟨rfl, hbz⟩
        go_wp2_with fail
        go_ret
        exact ⟨rfl, hBd.trans (hbz.mono hBd.size)⟩
      · have q1 : decide ((L.length : Int) + (R.length : Int) ≤ 100) = false := by simp; omega
        have s1 : IntKind.i64.wrap ((L.length : Int) + (R.length : Int)) = (L.length : Int) + (R.length : Int) := IntWalk.i64_in _ (by omega)
        clear hlen
        go_wp2_with fail
        have hb6 := Below.refl w5.heap.size w5
        have hE6' := hE5
        with_reducible refine (Merge_nil2 s L c1 A1 w5 hsm hst2 HC1.out HN.out hL100 hE5).mono ?_
        rintro e wa ⟨Ma, ⟨va, rfl, hoa, hba⟩, hra1, hra2, hra3⟩
        have hBa := hB5.trans (hba.mono hB5.size)
        have hFa := hF5.below hba
        obtain ⟨Aa, ca, rfl, hEa, _⟩ := EdsV.of_own hoa
        clear hE5 hF5
        go_wp2_with fail
        with_reducible refine (Merge_nil1 (applyB s L) R c2 A2 wa hsm' hXs HX0.out H2.out hR100 hc2 hFa).mono ?_
        rintro e wb ⟨Mb, ⟨vb, rfl, hob, hbb⟩, hrb1, hrb2, hrb3⟩
        have hBb := hBa.trans (hbb.mono hBa.size)
        have hEb := hEa.below hbb
        obtain ⟨Ab, cb, rfl, hGb, _⟩ := EdsV.of_own hob
        go_wp2_with fail
        with_reducible refine (Apply_any s ca Aa Ma wb hra1 hst2 hEb).mono ?_
        rw [hra2, applyR_ok hra2, hra3]
        rintro e wc ⟨rfl, hbc⟩
        have hBc := hBb.trans (hbc.mono hBb.size)
        have hGc := hGb.below hbc
        go_wp2_with fail
        with_reducible refine (Apply_any (applyB s L) cb Ab Mb wc hrb1 hXs hGc).mono ?_
        rw [hrb2, applyR_ok hrb2, hrb3]
        rintro e wd ⟨rfl, hbd⟩
        have hBd := hBc.trans (hbd.mono hBc.size)
        go_wp2_with fail
        with_reducible refine (alive_any wd).mono ?_
        rintro e wz ⟨rfl, hbz⟩
        go_wp2_with fail
        go_ret
        exact ⟨rfl, hBd.trans (hbz.mono hBd.size)⟩
    · have H2 := Lib.hid (applyR_no h1)
      have q : (checkE ((applyB s L).size : Int) R != 0) = true := by simpa using h1
      clear h1
      go_enter Try.func4, Try.ntmps4
      go_wp2_with fail
      refine Hsh.out.mono ?_
      rintro e w1 ⟨rfl, rfl⟩
      go_wp2_with fail
      refine Hcut.out.mono ?_
      rintro e w1 ⟨A1, c1, rfl, hE1, hb1⟩
      go_wp2_with fail
      refine (Hcut'.out w1 (HE'.out.below hb1)).mono ?_
      rintro e w2 ⟨A2, c2, rfl, hF2, hc2, hb2⟩
      have hB2 := hb1.trans (hb2.mono hb1.size)
      have hE2 := hE1.below hb2
      clear hE1
      go_wp2_with fail
      with_reducible refine (Apply_any s c1 A1 L w2 hsm hst2 hE2).mono ?_
      rw [H0.out, H1.out]
      rintro e w3 ⟨rfl, hb3⟩
      have hB3 := hB2.trans (hb3.mono hB2.size)
      have hF3 := hF2.below hb3
      go_wp2_with fail
      with_reducible refine (Apply_any (applyB s L) c2 A2 R w3 hsm' hXs hF3).mono ?_
      rw [H2.out]
      rintro e w4 ⟨rfl, hb4⟩
      have hB4 := hB3.trans (hb4.mono hB3.size)
      go_wp2_with fail
      with_reducible refine (alive_any w4).mono ?_
      rintro e wz ⟨rfl, hbz⟩
      go_wp2_with fail
      go_ret
      exact ⟨rfl, hB4.trans (hbz.mono hB4.size)⟩
  · have H1 := Lib.hid (applyR_no h0)
    have q : (checkE (s.size : Int) L != 0) = true := by simpa using h0
    clear h0
    go_enter Try.func4, Try.ntmps4
    go_wp2_with fail
    refine Hsh.out.mono ?_
    rintro e w1 ⟨rfl, rfl⟩
    go_wp2_with fail
    refine Hcut.out.mono ?_
    rintro e w1 ⟨A1, c1, rfl, hE1, hb1⟩
    go_wp2_with fail
    refine (Hcut'.out w1 (HE'.out.below hb1)).mono ?_
    rintro e w2 ⟨A2, c2, rfl, hF2, hc2, hb2⟩
    have hB2 := hb1.trans (hb2.mono hb1.size)
    have hE2 := hE1.below hb2
    clear hE1
    go_wp2_with fail
    with_reducible refine (Apply_any s c1 A1 L w2 hsm hst2 hE2).mono ?_
    rw [H1.out]
    rintro e w3 ⟨rfl, hb3⟩
    have hB3 := hB2.trans (hb3.mono hB2.size)
    go_wp2_with fail
    with_reducible refine (alive_any w3).mono ?_
    rintro e wz ⟨rfl, hbz⟩
    go_wp2_with fail
    go_ret
    exact ⟨rfl, hB3.trans (hbz.mono hB3.size)⟩
end Go.Proofs.Ytmdgclcakogggaa.lawRopeThen
