/-
  RopePieces: how many pieces a rope has.
  No condition: every input.
-/
import Derived.Test.YtmbpjjehnfjdiaaArgs
import Derived.Test.YtmbpjjehnfjdiaaUndo
import Derived.Test.YtmbpjjehnfjdiaaBackMath
namespace Go.Proofs.Ytmbpjjehnfjdiaa.lawRopePieces
set_option linter.unusedVariables false
set_option linter.unusedSimpArgs false
open Go.ChangeShapes Go.WideShapes Go.RowKit
open Go.ChangeMaps (open_string shut_string)

theorem costL_take {l : List Ed} {k : Nat} (h : k < l.length) : costL (l.take (k + 1)) = costL (l.take k) + (2 + min 1 l[k].s.size) := by
  induction l generalizing k with
  | nil => simp at h
  | cons e l ih =>
    match k with
    | 0 => simp [costL]
    | k + 1 => simp only [List.take_succ_cons, costL]; rw [ih (by simpa using h)]; simp only [List.getElem_cons_succ]; omega
theorem costL_le : ∀ l : List Ed, costL l ≤ 3 * l.length
  | [] => by simp [costL]
  | e :: l => by have := costL_le l; simp only [costL, List.length_cons]; omega
theorem good_leaves {t : Pc} (h : t.good) : t.leaves ≤ t.size ∧ min 1 t.size ≤ t.leaves := by
  rcases h with rfl | h
  · simp [Pc.leaves, Pc.size]
  · have := h.leaves_le; omega

set_option maxRecDepth 100000 in
set_option maxHeartbeats 4000000 in
theorem walk (t : ByteArray) (ht : t.size ≤ maxLen) (A : Option Addr) (c : Nat) (L : List Es) (hl : L.length ≤ maxLen) (w : World) (hE : EdssV w A L) :
    Calls Try.prog 5 #[.string t, .slice A L.length c] w fun e w' => e = .returned (.bool true) ∧ Below w.heap.size w w' := by
  have hst := short_size t
  have hst2 : (shortB t).size ≤ 20001 := by omega
  have hsh := Short_any t w ht
  generalize shortB t = s at hst2 hsh
  have Hsh := Lib.hid hsh
  unfold maxLen at hl
  clear hsh hst ht
  by_cases h0 : 20000 < s.size
  · go_enter Try.func5, Try.ntmps5
    go_wp2_with fail
    refine Hsh.out.mono ?_
    rintro e w1 ⟨rfl, rfl⟩
    go_wp2_with fail
    refine (New_no s w h0).mono ?_
    rintro e w1 ⟨rfl, hb1⟩
    go_wp2_with fail
    refine (alive_any w1).mono ?_
    rintro e w2 ⟨rfl, hb2⟩
    go_wp2_with fail
    go_ret
    exact ⟨rfl, hb1.trans (hb2.mono hb1.size)⟩
  · have hs : s.size ≤ 20000 := by omega
    have hpl : ((pcOf s).leaves : Int) = min 1 (s.size : Int) := by
      unfold pcOf
      by_cases h : s.size = 0
      · rw [if_pos h, h]; rfl
      · rw [if_neg h]; simp only [Pc.leaves]; omega
    go_enter Try.func5, Try.ntmps5
    go_wp2_with fail
    refine Hsh.out.mono ?_
    rintro e w1 ⟨rfl, rfl⟩
    go_wp2_with fail
    refine (New_ok s w hs).mono ?_
    rintro e w1 ⟨v1, rfl, hR1, hb1⟩
    go_wp2_with fail
    refine (Pieces_any v1 _ (pcOf s) w1 hR1).mono ?_
    rw [hpl]
    rintro e w2 ⟨rfl, hb2⟩
    have hR2 := hR1.below hb2
    have hB2 := hb1.trans (hb2.mono hb1.size)
    have q0 : ((min 1 (s.size : Int)) != min 1 (s.size : Int)) = false := by simp
    clear hR1 hpl
    go_wp2_with fail
    go_loopw [6, 8] (fun v i wr => ∃ (k : Nat) (tr : Pc) (bef : Value), k ≤ L.length ∧ k ≤ 12 ∧ i = .int .i64 k ∧ tr.size ≤ 20000 ∧ RopeAt wr v tr bef ∧ Below w.heap.size w wr) (fun _ i _ => L.length - (intOf i).toNat)
    case atStart => exact ⟨0, pcOf s, _, by omega, by omega, rfl, by rw [pcOf_size]; exact hs, hR2, hB2⟩
    case round =>
      obtain ⟨k, tr, bef, hk, hk2, rfl, htr, hR, hB⟩ := hrel
      by_cases hlt : k < L.length
      · by_cases hlt2 : k < 12
        · obtain ⟨b, off, A0, c0, l0, rfl, hb0, k0, hE0, hl0, hs0⟩ := (hE.below hB).get hlt
          have hcut := Cut_any 400 c0 A0 l0 wr hl0 hs0 hE0
          have hsm := cutL_small (m := 400) (by omega) l0
          generalize cutL 400 l0 = l at hcut hsm
          have Hcut := Lib.hid hcut
          have hl1 := hsm.1
          clear hcut hE0 hE hl0 hs0
          by_cases hc : checkLen tr.size l = 0
          · have hT : tr.text = byt (mkB tr.text) := (byt_mkB _).symm
            have hTs : (mkB tr.text).size = tr.size := by rw [mkB_size, tr.size_text]
            obtain ⟨T, hTe⟩ : ∃ T, T = mkB tr.text := ⟨_, rfl⟩
            rw [← hTe] at hT hTs
            clear hTe
            rw [← hTs] at hc htr
            have hcE : checkE T.size l = 0 := by unfold checkE; rw [if_neg (by omega)]; exact hc
            have hok := checkE_ok hcE
            have Hr := Lib.hid hok.2.2.1
            have hfin : (editedL T T.size 0 l).length ≤ 20000 := by
              have e1 : (applyB T l).size = (editedL T T.size 0 l).length := by rw [← byt_length]; exact congrArg List.length (byt_mkB _)
              have e2 := applyB_size hok.2.2.1
              omega
            have Hc := Lib.hid hc
            have Hf := Lib.hid hfin
            have hle := costL_le l
            clear hc hcE hok hfin
            go_wp2_with fail
            refine Hcut.out.mono ?_
            rintro e w1 ⟨A1, c1, rfl, hE1, hb1⟩
            have hB1 := hB.trans (hb1.mono hB.size)
            have hR1 := hR.below hb1
            clear hR
            go_wp2_with fail
            refine (Edit_all _ bef tr T c1 A1 l w1 hsm hT Hc.out htr Hr.out Hf.out hE1 hR1).mono ?_
            rintro e w2 ⟨t2, ⟨v2, rfl, hR2, hb2⟩, htx2, hlv2⟩
            have hB2 := hB1.trans (hb2.mono hB1.size)
            have hE2 := hE1.below hb2
            have hR12 := hR1.below hb2
            have hz2 : t2.size ≤ 20000 := by rw [← t2.size_text, htx2]; exact Hf.out
            have hg2 : t2.good := by obtain ⟨_, _, _, _, _, hg⟩ := hR2; exact hg
            have hgl := good_leaves hg2
            have hg1 : tr.good := by obtain ⟨_, _, _, _, _, hg⟩ := hR12; exact hg
            have hgl1 := good_leaves hg1
            clear hE1 hR1 htx2
            go_wp2_with fail
            refine (Pieces_any _ bef tr w2 hR12).mono ?_
            rintro e w3 ⟨rfl, hb3⟩
            have hB3 := hB2.trans (hb3.mono hB2.size)
            have hE3 := hE2.below hb3
            have hR3 := hR2.below hb3
            clear hE2 hR12 hR2
            go_wp2_with fail
            go_loopw [12, 13] (fun m i wq => ∃ (j : Nat), j ≤ l.length ∧ i = .int .i64 j ∧ m = .int .i64 ((tr.leaves + costL (l.take j) : Nat) : Int) ∧ wq = w3) (fun _ i _ => l.length - (intOf i).toNat)
            case atStart => exact ⟨0, by omega, rfl, by simp [costL], rfl⟩
            case round =>
              obtain ⟨j, hj, rfl, rfl, rfl⟩ := hrel
              have hlj := costL_le (l.take j)
              rw [List.length_take] at hlj
              by_cases hjl : j < l.length
              · obtain ⟨b1, off1, rfl, hbb1, d1, d2, d3⟩ := hE3.get hjl
                have Hct := Lib.hid (costL_take hjl)
                have hsz := hsm.get hjl
                clear hE3
                go_wp2_with fail
                exact ⟨⟨j + 1, by omega, by go_num, by rw [Hct.out]; go_num, trivial⟩, by simp [intOf]; omega⟩
              · have hje : j = l.length := by omega
                subst hje
                rw [List.take_length] at *
                clear hE3
                go_wp2_with fail
                refine (Pieces_any _ _ t2 _ hR3).mono ?_
                rintro e w4 ⟨rfl, hb4⟩
                have hB4 := hB3.trans (hb4.mono hB3.size)
                have hR4 := hR3.below hb4
                have q1 : decide (((tr.leaves + costL l : Nat) : Int) < (t2.leaves : Int)) = false := by simp; omega
                go_wp2_with fail
                refine (Len_any _ _ t2 w4 hR4).mono ?_
                rintro e w5 ⟨rfl, hb5⟩
                have hB5 := hB4.trans (hb5.mono hB4.size)
                have hR5 := hR4.below hb5
                go_wp2_with fail
                refine (Len_any _ _ t2 w5 hR5).mono ?_
                rintro e w6 ⟨rfl, hb6⟩
                have hB6 := hB5.trans (hb6.mono hB5.size)
                have hR6 := hR5.below hb6
                go_wp2_with fail
                exact ⟨⟨k + 1, t2, _, by omega, by omega, by go_num, hz2, hR6, hB6⟩, by simp [intOf]; omega⟩
          · have Hc := Lib.hid hc
            have q : (checkLen tr.size l != 0) = true := by simpa using hc
            clear hc
            go_wp2_with fail
            refine Hcut.out.mono ?_
            rintro e w1 ⟨A1, c1, rfl, hE1, hb1⟩
            have hB1 := hB.trans (hb1.mono hB.size)
            have hR1 := hR.below hb1
            clear hR
            go_wp2_with fail
            refine (Edit_no _ bef tr c1 A1 l w1 hsm Hc.out htr hE1 hR1).mono ?_
            rintro e w2 ⟨rfl, hb2⟩
            have hB2 := hB1.trans (hb2.mono hB1.size)
            have hR2 := hR1.below hb2
            go_wp2_with fail
            exact ⟨⟨k + 1, tr, bef, by omega, by omega, by go_num, htr, hR2, hB2⟩, by simp [intOf]; omega⟩
        · clear hE
          go_wp2_with fail
          refine (alive_any wr).mono ?_
          rintro e w2 ⟨rfl, hb2⟩
          go_wp2_with fail
          go_ret
          exact ⟨rfl, hB.trans (hb2.mono hB.size)⟩
      · clear hE
        go_wp2_with fail
        refine (alive_any wr).mono ?_
        rintro e w2 ⟨rfl, hb2⟩
        go_wp2_with fail
        go_ret
        exact ⟨rfl, hB.trans (hb2.mono hB.size)⟩
end Go.Proofs.Ytmbpjjehnfjdiaa.lawRopePieces
