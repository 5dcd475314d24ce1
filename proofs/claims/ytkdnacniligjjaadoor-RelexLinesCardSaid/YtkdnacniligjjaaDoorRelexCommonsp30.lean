/-
  relex: Relex and Line of a string's own tokens; the laws' own closed example: alive.
-/
import Derived.Test.YtkdnacniligjjaaDoorRelexCommonsp27
import Derived.Test.YtkdnacniligjjaaDoorRelexCommonsp29
namespace Go.Proofs.YtkdnacniligjjaaDoor
set_option linter.unusedVariables false
set_option linter.unusedSimpArgs false
open Go.RowKit

theorem toks_full {w : World} {base e : Nat} {v : Value} {l : List Tok} (h : w.ownsRow base e 2 v l.length (tkCells l)) : ∃ A c, v = .slice A l.length c ∧ TksV w A l ∧ l.length ≤ c ∧ (A = none → l = [] ∧ c = 0) ∧ (∀ a, A = some a → base ≤ a.block) := by
  obtain ⟨A, c, rfl, hT, hc, hb⟩ := TksV.of_own h
  obtain ⟨A', c', he, _, hn⟩ := toks_own2 h
  injection he with h1 h2 h3
  subst h1; subst h3
  exact ⟨A, c, rfl, hT, hc, hn, hb⟩
theorem lexL_max {s : ByteArray} (hs : s.size ≤ 20000) : (lexL s).length ≤ 20000 ∧ ∀ p ∈ lexL s, p.2.size ≤ 60000 := by
  have := lexL_length s.size s (Nat.le_refl _)
  exact ⟨by omega, fun p hp => by have := lexL_smallR s.size s (Nat.le_refl _) p hp; omega⟩
theorem applyB_nil (s : ByteArray) : applyB s [] = s := by
  unfold applyB
  apply byt_inj
  rw [byt_mkB]
  have h := sub_tail s 0
  simp only [editedL, List.drop_zero] at h ⊢
  exact h
theorem applyT_lex {s : ByteArray} {es : List Ed} (hs : s.size ≤ 20000) (hck : checkE s.size es = 0) : applyT (lexL s) es = (s, applyB s es, 0) := by
  unfold applyT applyR
  rw [textR_lex hs]
  simp [hck]
theorem applyT_lexno {s : ByteArray} {es : List Ed} (hs : s.size ≤ 20000) (hck : checkE s.size es ≠ 0) : (applyT (lexL s) es).2.2 = checkE s.size es := by
  unfold applyT
  rw [textR_lex hs]
  simp [hck]
theorem Relex_lex (c ce : Nat) (A Ae : Option Addr) (s : ByteArray) (es : List Ed) (w : World) (hs : s.size ≤ 20000) (hck : checkE s.size es = 0) (hes : Small es) (hT : Tabs w) (hc : (lexL s).length ≤ c) (hA : A = none → lexL s = [] ∧ c = 0) (hE : TksV w A (lexL s)) (hEe : EdsV w Ae es) :
    Calls Tryd.prog 25 #[.slice A (lexL s).length c, .slice Ae es.length ce] w fun e w' => ∃ v f b, e = .returned (.tuple #[v, .int .i64 f, .int .i64 b, .int .i64 0]) ∧ w'.ownsRow w.heap.size 24 2 v (lexL (applyB s es)).length (tkCells (lexL (applyB s es))) ∧ Below w.heap.size w w' := by
  rcases Nat.eq_zero_or_pos es.length with h0 | h0
  · obtain rfl : es = [] := List.eq_nil_of_length_eq_zero h0
    rw [applyB_nil]
    exact (Relex_none c ce A Ae s w hs hT hA hE).mono fun e w' ⟨v, h1, h2, h3⟩ => ⟨v, _, _, h1, h2, h3⟩
  · exact (Relex_ok c ce A Ae s es w hs hck h0 hes hT hc hA hE hEe).mono fun e w' ⟨v, h1, h2, h3⟩ => ⟨v, _, _, h1, h2, h3⟩
theorem Relex_lexno (c ce : Nat) (A Ae : Option Addr) (s : ByteArray) (es : List Ed) (w : World) (hs : s.size ≤ 20000) (hck : checkE s.size es ≠ 0) (hes : Small es) (hT : Tabs w) (hE : TksV w A (lexL s)) (hEe : EdsV w Ae es) :
    Calls Tryd.prog 25 #[.slice A (lexL s).length c, .slice Ae es.length ce] w fun e w' => e = .returned (.tuple #[.slice none 0 0, .int .i64 0, .int .i64 0, .int .i64 (checkE s.size es)]) ∧ Below w.heap.size w w' := by
  have h1 := applyT_lexno hs hck
  have h2 := lexL_max hs
  have := Relex_no c ce A Ae (lexL s) es w (by omega) h2.2 hes hT hE hEe (by rw [h1]; exact hck)
  rw [h1] at this
  exact this

theorem EdsV.block' {w : World} {g e : Nat} {cs : Array Value} {fz : Nat × Nat} {l : List Ed} (h : w.heap[g]? = some (.cells cs e fz)) (hc : cs.toList = edsCells l) : EdsV w (some ⟨g, 0, none⟩) l := by
  intro _
  refine ⟨g, 0, rfl, ?_, fun i x hx => ?_⟩
  · rcases Nat.lt_or_ge g w.heap.size with hlt | hge
    · exact hlt
    · rw [Array.getElem?_eq_none hge] at h; cases h
  · have hcell : ∀ j, w.cell? ⟨g, j, none⟩ = (edsCells l)[j]? := by
      intro j
      rw [← hc]
      simp [World.cell?, h]
    obtain ⟨h1, h2, h3⟩ := edsCells_get l i x hx
    simp only [Nat.zero_add]
    exact ⟨by rw [hcell]; exact h1, by rw [hcell]; exact h2, by rw [hcell]; exact h3⟩

theorem shortB_size (t : ByteArray) : (shortB t).size = min t.size 20001 := by unfold shortB; rw [ByteArray.size_extract]; omega
theorem inv_size (t : ByteArray) : ∀ (sh : Int) (l : List Ed), ∀ e ∈ invertL t sh l, e.s.size ≤ t.size
  | _, [], e, h => by simp [invertL] at h
  | sh, d :: l, e, h => by
    simp only [invertL, List.mem_cons] at h
    rcases h with rfl | h
    · simp only [ByteArray.size_extract]; omega
    · exact inv_size t _ l e h
def rS : ByteArray := { data := #[97, 32, 98, 32, 99] }
def rE : List Ed := [⟨2, 3, { data := #[120, 32, 121] }⟩]
def rF : List Ed := [⟨2, 3, { data := #[120, 10, 121] }⟩]
def rN : ByteArray := { data := #[97, 32, 120, 32, 121, 32, 99] }
def rD : ByteArray := { data := #[97, 32, 100, 32, 99] }
theorem rl1 : checkE rS.size rE = 0 := by decide +kernel
theorem rl2 : applyB rS rE = rN := by decide +kernel
theorem rl3 : firstG rS rE = 0 ∧ doneG rS rE = 5 ∧ (lexL rS).length = 5 := by decide +kernel
theorem rl4 : comF (lexL rS) (lexL rD) = 2 ∧ comT (lexL rS) (lexL rD) = 2 := by decide +kernel
theorem rl5 : checkE rS.size rF = 0 := by decide +kernel
theorem rl6 : (lineF (applyB rS rF) (invertL rS 0 rF)).1 = 7 := by decide +kernel

set_option maxRecDepth 100000 in
theorem sample_own (w : World) : Calls Tryd.prog 58 #[] w fun e w' => ∃ v, e = .returned v ∧ w'.ownsRow w.heap.size 24 2 v (lexL rS).length (tkCells (lexL rS)) ∧ Below w.heap.size w w' := by
  go_enter Tryd.func58, Tryd.ntmps58
  go_wp2_with fail
  refine (RLex_own rS w (by decide +kernel)).mono ?_
  rintro e w1 ⟨v, rfl, ho, hb⟩
  go_wp2_with fail
  go_ret
  exact ⟨v, rfl, ho, hb⟩

set_option maxRecDepth 100000 in
set_option maxHeartbeats 2000000 in
theorem alive4_any (w : World) (hT : Tabs w) :
    Calls Tryd.prog 27 #[] w fun e w' => e = .returned (.bool true) ∧ Below w.heap.size w w' := by
  have HT := Lib.hid hT
  clear hT
  go_enter Tryd.func27, Tryd.ntmps27
  go_wp2_with fail
  refine (sample_own w).mono ?_
  rintro e w1 ⟨v1, rfl, ho1, hb1⟩
  obtain ⟨A1, c1, rfl, hE1, hc1, hn1, _⟩ := toks_full ho1
  have HB1 := Lib.hid hb1
  have hW2 : Below w1.heap.size w1 (w1.alloc (.cells #[.int .i64 2, .int .i64 3, .string { data := #[120, 32, 121] }] 47)) := (Below.refl _ _).alloc (Nat.le_refl _) _
  have hR := Relex_ok c1 1 A1 (some ⟨w1.heap.size, 0, none⟩) rS rE _ (by decide) rl1 (by decide) ⟨by decide, by decide⟩ ((HT.out.below hb1).below hW2) hc1 hn1 (hE1.below hW2) (EdsV.block' (heap_alloc_new w1 _) rfl)
  rw [rl2, rl3.1, rl3.2.1, rl3.2.2] at hR
  have HR := Lib.hid hR
  have HW2 := Lib.hid hW2
  rw [rl3.2.2]
  clear ho1 hE1 hb1 hR hW2 hc1 hn1
  go_wp2_with fail
  refine HR.out.mono ?_
  rintro e w2 ⟨v2, rfl, ho2, hb2⟩
  obtain ⟨A2, c2, rfl, hE2, _⟩ := TksV.of_own ho2
  have HB2 := Lib.hid (HB1.out.trans ((HW2.out.trans (hb2.mono HW2.out.size)).mono HB1.out.size))
  have HE2 := Lib.hid hE2
  clear ho2 hE2 hb2
  go_wp2_with fail
  refine (sample_own w2).mono ?_
  rintro e w3 ⟨v3, rfl, ho3, hb3⟩
  obtain ⟨A3, c3, rfl, hE3, _⟩ := TksV.of_own ho3
  clear ho3
  go_wp2_with fail
  refine (RLex_own rD w3 (by decide)).mono ?_
  rintro e w4 ⟨v4, rfl, ho4, hb4⟩
  obtain ⟨A4, c4, rfl, hE4, _⟩ := TksV.of_own ho4
  have hC := Common_ok c3 c4 A3 A4 (lexL rS) (lexL rD) w4 (by decide +kernel) (by decide +kernel) (hE3.below hb4) hE4
  rw [rl4.1, rl4.2] at hC
  have HC := Lib.hid hC
  have HB4 := Lib.hid (HB2.out.trans ((hb3.trans (hb4.mono hb3.size)).mono HB2.out.size))
  have HE4 := Lib.hid ((HE2.out.below hb3).below hb4)
  clear ho4 hC hb3 hb4 hE3 hE4
  go_wp2_with fail
  refine HC.out.mono ?_
  rintro e w5 ⟨rfl, n5, hw5⟩
  have hb5 : Below w4.heap.size w4 w5 := by subst hw5; exact below_drewN (Below.refl _ _) _
  have HB5 := Lib.hid (HB4.out.trans (hb5.mono HB4.out.size))
  have HE5 := Lib.hid (HE4.out.below hb5)
  clear hw5 hb5
  go_wp2_with fail
  refine (sample_own w5).mono ?_
  rintro e w6 ⟨v6, rfl, ho6, hb6⟩
  obtain ⟨A6, c6, rfl, hE6, hc6, hn6, _⟩ := toks_full ho6
  have HB6 := Lib.hid (HB5.out.trans (hb6.mono HB5.out.size))
  have HE6 := Lib.hid (HE5.out.below hb6)
  have hW7 : Below w6.heap.size w6 (w6.alloc (.cells #[.int .i64 2, .int .i64 3, .string { data := #[120, 10, 121] }] 47)) := (Below.refl _ _).alloc (Nat.le_refl _) _
  have hL := Line_ok c6 1 A6 (some ⟨w6.heap.size, 0, none⟩) (lexL rS) rF rS _ (by decide +kernel) (by decide +kernel) ⟨by decide, by decide⟩ ((HT.out.below HB6.out).below hW7) (hE6.below hW7) (EdsV.block' (heap_alloc_new w6 _) rfl) (applyT_lex (by decide) rl5) rl5
  rw [rl6] at hL
  have HL := Lib.hid hL
  have HW7 := Lib.hid hW7
  clear ho6 hE6 hb6 hL hW7 hc6 hn6
  go_wp2_with fail
  refine HL.out.mono ?_
  rintro e w7 ⟨rfl, hb7⟩
  have hb67 := HW7.out.trans (hb7.mono HW7.out.size)
  have HB7 := Lib.hid (HB6.out.trans (hb67.mono HB6.out.size))
  have HE7 := Lib.hid (HE6.out.below hb67)
  clear hb67 hb7
  go_wp2_with fail
  refine (RLex_own rN w7 (by decide)).mono ?_
  rintro e w8 ⟨v8, rfl, ho8, hb8⟩
  obtain ⟨A8, c8, rfl, hE8, _⟩ := TksV.of_own ho8
  have hsm := RSame_any c2 c8 A2 A8 (lexL rN) (lexL rN) w8 (by decide +kernel) (HE7.out.below hb8) hE8
  rw [decide_eq_true rfl] at hsm
  have Hsm := Lib.hid hsm
  have HB8 := Lib.hid (HB7.out.trans (hb8.mono HB7.out.size))
  clear ho8 hsm hb8 hE8
  go_wp2_with fail
  refine Hsm.out.mono ?_
  rintro e w9 ⟨rfl, hb9⟩
  go_wp2_with fail
  go_ret
  exact ⟨rfl, HB8.out.trans (hb9.mono HB8.out.size)⟩
end Go.Proofs.YtkdnacniligjjaaDoor
