/-
  RelexTokens: Relex returns the tokens of the new string, and how many were taken over: the same in both lists, and at least as many as the chapter says; or the error. No condition: every input.
-/
import Derived.Test.YtkdnacniligjjaaDoorRelexCommonsp30
import Derived.Test.YtkdnacniligjjaaDoorRelexTokensp5
import Derived.Test.YtkdnacniligjjaaDoorRelexTokensp6
import Derived.Test.YtkdnacniligjjaaDoorRelexTokensp7
import Derived.Test.YtkdnacniligjjaaDoorRelexCommonsp9
import Derived.Test.YtkdnacniligjjaaDoorRelexCommonsp28
namespace Go.Proofs.YtkdnacniligjjaaDoor.lawRelexTokens
set_option linter.unusedVariables false
set_option linter.unusedSimpArgs false
open Go.ChangeShapes Go.WideShapes Go.RowKit
open Go.ChangeMaps (open_string shut_string)

/-- what is taken over -/
def OverOK (s : ByteArray) (es : List Ed) (f b : Nat) : Prop :=
  (es = [] → f = (lexL s).length ∧ b = 0) ∧ f + b ≤ (lexL s).length ∧ f + b ≤ (lexL (applyB s es)).length ∧ (lexL s).take f = (lexL (applyB s es)).take f ∧ (lexL s).drop ((lexL s).length - b) = (lexL (applyB s es)).drop ((lexL (applyB s es)).length - b) ∧
    ∀ x, es = [x] → metF s (begL (lexL s)) x.f.toNat ≤ f ∧ (lexL s).length ≤ metT s (begL (lexL s)) x.t.toNat + b
theorem over_none (s : ByteArray) : OverOK s [] (lexL s).length 0 := by
  unfold OverOK
  rw [applyB_nil]
  exact ⟨fun _ => ⟨rfl, rfl⟩, by omega, by omega, rfl, rfl, fun x h => by cases h⟩
theorem over_some (s : ByteArray) (es : List Ed) (hck : checkE s.size es = 0) (hne : 0 < es.length) : doneG s es ≤ (lexL s).length ∧ OverOK s es (firstG s es) ((lexL s).length - doneG s es) := by
  obtain ⟨h1, h2, M, h3⟩ := over_ok s es hck hne
  refine ⟨h2, ?_⟩
  unfold OverOK
  have hone : ∀ x, es = [x] → metF s (begL (lexL s)) x.f.toNat ≤ firstG s es ∧ (lexL s).length ≤ metT s (begL (lexL s)) x.t.toNat + ((lexL s).length - doneG s es) := by
    intro x hx
    subst hx
    obtain ⟨g1, g2⟩ := firstG_one s x
    rw [g1, g2]
    omega
  rw [h3]
  generalize firstG s es = f at *
  generalize doneG s es = d at *
  generalize lexL s = S at *
  have l1 : (S.take f).length = f := by rw [List.length_take]; omega
  have l2 : (S.drop d).length = S.length - d := by rw [List.length_drop]
  have l3 : (S.take f ++ (M ++ S.drop d)).length = f + (M.length + (S.length - d)) := by rw [List.length_append, List.length_append, l1, l2]
  refine ⟨fun h => by rw [h] at hne; simp at hne, by omega, by omega, ?_, ?_, hone⟩
  · rw [List.take_append_of_le_length (by omega), List.take_take, Nat.min_self]
  · rw [show S.length - (S.length - d) = d by omega, l3, show f + (M.length + (S.length - d)) - (S.length - d) = (S.take f ++ M).length by rw [List.length_append, l1]; omega, ← List.append_assoc, List.drop_left]
theorem Relex_full (c ce : Nat) (A Ae : Option Addr) (s : ByteArray) (es : List Ed) (w : World) (hs : s.size ≤ 20000) (hck : checkE s.size es = 0) (hes : Small es) (hT : Tabs w) (hc : (lexL s).length ≤ c) (hA : A = none → lexL s = [] ∧ c = 0) (hE : TksV w A (lexL s)) (hEe : EdsV w Ae es) :
    Calls Tryd.prog 25 #[.slice A (lexL s).length c, .slice Ae es.length ce] w fun e w' => ∃ (v : Value) (f b : Nat), e = .returned (.tuple #[v, .int .i64 (f : Int), .int .i64 (b : Int), .int .i64 0]) ∧ w'.ownsRow w.heap.size 24 2 v (lexL (applyB s es)).length (tkCells (lexL (applyB s es))) ∧ Below w.heap.size w w' ∧ OverOK s es f b := by
  rcases Nat.eq_zero_or_pos es.length with h0 | h0
  · obtain rfl : es = [] := List.eq_nil_of_length_eq_zero h0
    have ho := over_none s
    rw [applyB_nil]
    exact (Relex_none c ce A Ae s w hs hT hA hE).mono fun e w' ⟨v, h1, h2, h3⟩ => ⟨v, _, 0, h1, h2, h3, ho⟩
  · obtain ⟨hd, ho⟩ := over_some s es hck h0
    refine (Relex_ok c ce A Ae s es w hs hck h0 hes hT hc hA hE hEe).mono fun e w' ⟨v, h1, h2, h3⟩ => ⟨v, firstG s es, (lexL s).length - doneG s es, ?_, h2, h3, ho⟩
    rw [h1, show (((lexL s).length - doneG s es : Nat) : Int) = ((lexL s).length : Int) - (doneG s es : Int) by omega]

set_option maxRecDepth 100000 in
set_option maxHeartbeats 2000000 in
theorem walk (A0 : Option Addr) (c0 : Nat) (l0 : List Tok) (hl0 : l0.length ≤ maxLen) (hs0 : ∀ p ∈ l0, p.2.size ≤ maxLen) (B0 : Option Addr) (d0 : Nat) (m0 : List Ed) (hm0 : m0.length ≤ maxLen) (ht0 : ∀ e ∈ m0, e.s.size ≤ maxLen) (w : World) (hT : Tabs w) (hE0 : TksV w A0 l0) (hF0 : EdsV w B0 m0) :
    Calls Tryd.prog 4 #[.slice A0 l0.length c0, .slice B0 m0.length d0] w fun e w' => e = .returned (.bool true) ∧ Below w.heap.size w w' := by
  have hcut1 := RCut_own c0 A0 l0 w hl0 hs0 hE0
  have hcut2 := fun W (hW : EdsV W B0 m0) => Cut_any 2000 d0 B0 m0 W hm0 ht0 hW
  have k1 := cutT_length l0
  have k2 := cutT_cat l0
  have k3 := cutT_small l0
  have hsm := cutL_small (m := 2000) (by omega) m0
  generalize cutT l0 = L at hcut1 k1 k2 k3
  generalize cutL 2000 m0 = E at hcut2 hsm
  have Hcut1 := Lib.hid hcut1
  have Hcut2 := Lib.hid hcut2
  have HF0 := Lib.hid hF0
  have HT := Lib.hid hT
  have HSM := Lib.hid hsm
  clear hcut1 hcut2 hE0 hF0 hl0 hs0 hm0 ht0 hT hsm
  by_cases hbad : (applyT L E).2.2 = 0
  · have her := applyT_err L E
    rw [hbad] at her
    have hk : checkT L = 0 := by
      by_cases h : checkT L = 0
      · exact h
      · rw [if_pos h] at her; exact absurd her.symm h
    rw [if_neg (by simp [hk])] at her
    obtain ⟨_, g1, g2, g3⟩ := textR_ok hk
    have hsz := mkB_size (catL L)
    obtain ⟨s, hs⟩ : ∃ s, s = mkB (catL L) := ⟨_, rfl⟩
    rw [← hs] at her g3 hsz
    have hrt := fun W A c (hW : TksV W A L) => RText_any c A L W (by omega) (by omega) hW
    rw [← hs] at hrt
    clear hs hk k2 k3 k1 g1
    subst g3
    have hz : s.size ≤ 20000 := by omega
    have hck : checkE s.size E = 0 := her.symm
    have hrx := fun W A c Ae ce a b d e f => Relex_full c ce A Ae s E W hz hck HSM.out a b d e f
    have hch := fun W A c Ae ce a b => RxCheck_any c ce A Ae (lexL s) E W (by have := (lexL_max hz).1; omega) (by rw [catL_lex s.size s (Nat.le_refl _), byt_length]; omega) HSM.out a b
    rw [hbad] at hch
    obtain ⟨k1, k2, k3, k4⟩ := checkE_ok hck
    have hnew : (applyB s E).size ≤ 20000 := by
      have := applyB_size k3
      omega
    have hap := fun W Ae ce a => rApply_any s ce Ae E W HSM.out (by omega) k3 a
    have hln := (lexL_max hnew).1
    have hls := (lexL_max hz).1
    have Hrx := Lib.hid hrx
    have Hch := Lib.hid hch
    have Hrt := Lib.hid hrt
    have Hap := Lib.hid hap
    have HR := Lib.hid k3
    have HNEW := Lib.hid hnew
    clear hrx hch hrt hap her hbad g2 hsz k1 k4 k3 hck hnew
    go_enter Tryd.func4, Tryd.ntmps4
    go_wp2_with fail
    refine Hcut1.out.mono ?_
    rintro e w1 ⟨v1, rfl, ho1, hb1⟩
    obtain ⟨A1, c1, rfl, hE1, hc1, hn1, _⟩ := toks_full ho1
    have HB1 := Lib.hid hb1
    have HE1 := Lib.hid hE1
    clear ho1 hb1 hE1
    go_wp2_with fail
    refine (Hcut2.out w1 (HF0.out.below HB1.out)).mono ?_
    rintro e w2 ⟨A2, c2, rfl, hE2, hb2⟩
    have HB2 := Lib.hid (HB1.out.trans (hb2.mono HB1.out.size))
    have HT2 := Lib.hid (HE1.out.below hb2)
    have HE2 := Lib.hid hE2
    clear hb2 hE2
    go_wp2_with fail
    refine (Hrx.out w2 A1 c1 A2 c2 (HT.out.below HB2.out) hc1 hn1 HT2.out HE2.out).mono ?_
    rintro e w3 ⟨v3, f, b, rfl, ho3, hb3, hov⟩
    obtain ⟨A3, c3, rfl, hE3, hc3, hn3, _⟩ := toks_full ho3
    have HB3 := Lib.hid (HB2.out.trans (hb3.mono HB2.out.size))
    have HT3 := Lib.hid (HT2.out.below hb3)
    have HD3 := Lib.hid (HE2.out.below hb3)
    have HN3 := Lib.hid hE3
    have HOV := Lib.hid hov
    clear ho3 hb3 hE3 hov
    go_wp2_with fail
    refine (Hch.out w3 A1 c1 A2 c2 HT3.out HD3.out).mono ?_
    rintro e w4 ⟨rfl, hb4⟩
    have HB4 := Lib.hid (HB3.out.trans (hb4.mono HB3.out.size))
    have HT4 := Lib.hid (HT3.out.below hb4)
    have HD4 := Lib.hid (HD3.out.below hb4)
    have HN4 := Lib.hid (HN3.out.below hb4)
    clear hb4
    go_wp2_with fail
    refine (Hrt.out w4 A1 c1 HT4.out).mono ?_
    rintro e w5 ⟨rfl, hb5⟩
    have HB5 := Lib.hid (HB4.out.trans (hb5.mono HB4.out.size))
    have HT5 := Lib.hid (HT4.out.below hb5)
    have HD5 := Lib.hid (HD4.out.below hb5)
    have HN5 := Lib.hid (HN4.out.below hb5)
    clear hb5
    go_wp2_with fail
    refine (Hap.out w5 A2 c2 HD5.out).mono ?_
    rintro e w6 ⟨rfl, hb6⟩
    have HB6 := Lib.hid (HB5.out.trans (hb6.mono HB5.out.size))
    have HT6 := Lib.hid (HT5.out.below hb6)
    have HD6 := Lib.hid (HD5.out.below hb6)
    have HN6 := Lib.hid (HN5.out.below hb6)
    clear hb6
    go_wp2_with fail
    refine (RLex_own (applyB s E) w6 (by have := HNEW.out; omega)).mono ?_
    rintro e w7 ⟨v7, rfl, ho7, hb7⟩
    obtain ⟨A7, c7, rfl, hE7, _⟩ := TksV.of_own ho7
    have HB7 := Lib.hid (HB6.out.trans (hb7.mono HB6.out.size))
    have HT7 := Lib.hid (HT6.out.below hb7)
    have HD7 := Lib.hid (HD6.out.below hb7)
    have HN7 := Lib.hid (HN6.out.below hb7)
    have hsame := RSame_any c3 c7 A3 A7 (lexL (applyB s E)) (lexL (applyB s E)) w7 (by omega) HN7.out hE7
    rw [decide_eq_true rfl] at hsame
    have Hsame := Lib.hid hsame
    clear ho7 hb7 hE7 hsame
    go_wp2_with fail
    refine Hsame.out.mono ?_
    rintro e w8 ⟨rfl, hb8⟩
    have HB8 := Lib.hid (HB7.out.trans (hb8.mono HB7.out.size))
    have HT8 := Lib.hid (HT7.out.below hb8)
    have HD8 := Lib.hid (HD7.out.below hb8)
    have HN8 := Lib.hid (HN7.out.below hb8)
    clear hb8
    obtain ⟨o0, o1, o2, o3, o4, o5⟩ := HOV.out
    have hover := over_any c1 c3 A1 A3 (lexL s) (lexL (applyB s E)) f b w8 o1 o2 hls hln hc1 hc3 hn1 hn3 o3 o4 HT8.out HN8.out
    have Hover := Lib.hid hover
    have HO0 := Lib.hid o0
    have HO5 := Lib.hid o5
    clear hover o2 o3 o4 o0 o5
    go_wp2_with fail
    refine Hover.out.mono ?_
    rintro e w9 ⟨rfl, hb9⟩
    have HB9 := Lib.hid (HB8.out.trans (hb9.mono HB8.out.size))
    have HT9 := Lib.hid (HT8.out.below hb9)
    have HD9 := Lib.hid (HD8.out.below hb9)
    clear hb9
    rcases Nat.lt_or_ge 1 E.length with hlen | hlen
    · have q0 : ((E.length : Int) == 0) = false := beq_false_of_ne (by omega)
      have q1 : decide ((1 : Int) < (E.length : Int)) = true := by simp; omega
      go_wp2_with fail
      refine (alive4_any w9 (HT.out.below HB9.out)).mono ?_
      rintro e wz ⟨rfl, hbz⟩
      go_wp2_with fail
      go_ret
      exact ⟨rfl, HB9.out.trans (hbz.mono HB9.out.size)⟩
    · rcases Nat.eq_zero_or_pos E.length with h0 | h0
      · have q0 : ((E.length : Int) == 0) = true := by simp [h0]
        obtain ⟨rfl, rfl⟩ := HO0.out (List.eq_nil_of_length_eq_zero h0)
        have q2 : (((lexL s).length : Int) == ((lexL s).length : Int)) = true := by simp
        go_wp2_with fail
        refine (alive4_any w9 (HT.out.below HB9.out)).mono ?_
        rintro e wz ⟨rfl, hbz⟩
        go_wp2_with fail
        go_ret
        exact ⟨rfl, HB9.out.trans (hbz.mono HB9.out.size)⟩
      · have hE1 : E.length = 1 := by omega
        have hrg := rising_get HR.out (k := 0) (by omega)
        obtain ⟨bb, off, x, y, sx, rfl, hbb, d0, d1, d2, hek⟩ := HD9.out.getN (k := 0) (by omega) (by omega) (by omega)
        have hE2 : E = [⟨x, y, sx⟩] := by
          obtain ⟨z, hz⟩ := List.length_eq_one_iff.1 hE1
          subst hz
          rw [show ([z] : List Ed)[0] = z from rfl] at hek
          rw [hek]
        rw [hek] at hrg
        simp only at hrg
        obtain ⟨p1, p2⟩ := HO5.out _ hE2
        simp only [Int.toNat_natCast] at p1 p2
        have hle := Least_ok c1 A1 s x y sx w9 hz (by omega) (by omega) HT9.out
        have Hle := Lib.hid hle
        have q0 : ((E.length : Int) == 0) = false := beq_false_of_ne (by omega)
        have q1 : decide ((1 : Int) < (E.length : Int)) = false := by simp; omega
        simp only [Nat.zero_mul, Nat.add_zero] at d0 d1 d2
        have HE1L := Lib.hid hE1
        have h0i : (0 : Int) < (E.length : Int) := by omega
        clear hle hek hE2 hrg
        go_wp2_with fail
        refine Hle.out.mono ?_
        rintro e wL ⟨a, b2, rfl, r1, r2, hbL⟩
        have HBL := Lib.hid (HB9.out.trans (hbL.mono HB9.out.size))
        have u1 : a ≤ f := by omega
        have u2 : b2 ≤ b := by omega
        clear hbL r1 r2
        go_wp2_with fail
        refine (alive4_any wL (HT.out.below HBL.out)).mono ?_
        rintro e wz ⟨rfl, hbz⟩
        go_wp2_with fail
        go_ret
        exact ⟨rfl, HBL.out.trans (hbz.mono HBL.out.size)⟩
  · have hrx := fun W A c Ae ce a b d => Relex_no c ce A Ae L E W (by omega) (fun p hp => by have := k3 p hp; omega) HSM.out a b d hbad
    have hch := fun W A c Ae ce a b => RxCheck_any c ce A Ae L E W (by omega) (by omega) HSM.out a b
    have Hrx := Lib.hid hrx
    have Hch := Lib.hid hch
    have q1 : ((applyT L E).2.2 != 0) = true := by simpa using hbad
    have q2 : ((applyT L E).2.2 == (applyT L E).2.2) = true := by simp
    clear hrx hch hbad
    generalize (applyT L E).2.2 = k at *
    go_enter Tryd.func4, Tryd.ntmps4
    go_wp2_with fail
    refine Hcut1.out.mono ?_
    rintro e w1 ⟨v1, rfl, ho1, hb1⟩
    obtain ⟨A1, c1, rfl, hE1, hc1, hn1, _⟩ := toks_full ho1
    have HB1 := Lib.hid hb1
    have HE1 := Lib.hid hE1
    clear ho1 hb1 hE1
    go_wp2_with fail
    refine (Hcut2.out w1 (HF0.out.below HB1.out)).mono ?_
    rintro e w2 ⟨A2, c2, rfl, hE2, hb2⟩
    have HB2 := Lib.hid (HB1.out.trans (hb2.mono HB1.out.size))
    have HT2 := Lib.hid (HE1.out.below hb2)
    have HE2 := Lib.hid hE2
    clear hb2 hE2
    go_wp2_with fail
    refine (Hrx.out w2 A1 c1 A2 c2 (HT.out.below HB2.out) HT2.out HE2.out).mono ?_
    rintro e w3 ⟨rfl, hb3⟩
    have HB3 := Lib.hid (HB2.out.trans (hb3.mono HB2.out.size))
    have HT3 := Lib.hid (HT2.out.below hb3)
    have HD3 := Lib.hid (HE2.out.below hb3)
    clear hb3
    go_wp2_with fail
    refine (Hch.out w3 A1 c1 A2 c2 HT3.out HD3.out).mono ?_
    rintro e w4 ⟨rfl, hb4⟩
    have HB4 := Lib.hid (HB3.out.trans (hb4.mono HB3.out.size))
    clear hb4
    go_wp2_with fail
    refine (alive4_any w4 (HT.out.below HB4.out)).mono ?_
    rintro e w5 ⟨rfl, hb5⟩
    go_wp2_with fail
    go_ret
    exact ⟨rfl, HB4.out.trans (hb5.mono HB4.out.size)⟩
end Go.Proofs.YtkdnacniligjjaaDoor.lawRelexTokens
