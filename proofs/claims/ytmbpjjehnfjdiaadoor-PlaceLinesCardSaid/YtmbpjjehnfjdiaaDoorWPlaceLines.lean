/-
  PlaceLines: the spans of Lines, with one byte between any two, are the string; layer 1's Line is the same.
  No condition: every input.
-/
import Derived.Test.YtmbpjjehnfjdiaaDoorPlSpan
import Derived.Test.YtmbpjjehnfjdiaaDoorLineR
namespace Go.Proofs.YtmbpjjehnfjdiaaDoor.lawPlaceLines
set_option linter.unusedVariables false
set_option linter.unusedSimpArgs false
open Go.ChangeShapes Go.WideShapes Go.RowKit
open Go.ChangeMaps (open_string shut_string)

set_option maxRecDepth 100000 in
set_option maxHeartbeats 4000000 in
theorem walk (t : ByteArray) (ht : t.size ≤ maxLen) (w : World) (hT : Lib.Utf8Tabs 0 1 w) :
    Calls Tryd.prog 9 #[.string t] w fun e w' => e = .returned (.bool true) ∧ Below w.heap.size w w' := by
  have hst := short_sz t
  have hsh := Short_any t w ht
  generalize shortB t = s at hst hsh
  have Hsh := Lib.hid hsh
  clear hsh ht
  by_cases h0 : 20000 < s.size
  · go_enter Tryd.func9, Tryd.ntmps9
    go_wp2_with fail
    refine Hsh.out.mono ?_
    rintro e w1 ⟨rfl, rfl⟩
    go_wp2_with fail
    with_reducible refine (Lines_no s _ (by omega) h0).mono ?_
    rintro e w2 ⟨rfl, hb2⟩
    go_wp2_with fail
    with_reducible refine (New_no s _ h0).mono ?_
    rintro e w3 ⟨rfl, hb3⟩
    have hB3 := hb2.trans (hb3.mono hb2.size)
    go_wp2_with fail
    with_reducible refine (palive_any _ (Utf8Tabs_below hT hB3)).mono ?_
    rintro e w4 ⟨rfl, hb4⟩
    go_wp2_with fail
    go_ret
    exact ⟨rfl, hB3.trans (hb4.mono hB3.size)⟩
  · have hsz : s.size ≤ 20000 := by omega
    have hll := linesOf_length (byt s)
    have hfl := feedsL_le (byt s)
    rw [byt_length] at hfl
    have hp6 : (pcOf s).size ≤ 60000 := by rw [pcOf_size]; omega
    have HFE := Lib.hid (show (pcOf s).feeds = feedsL (byt s) by rw [← (pcOf s).feeds_text, pcOf_text])
    clear hst h0
    go_enter Tryd.func9, Tryd.ntmps9
    go_wp2_with fail
    refine Hsh.out.mono ?_
    rintro e w1 ⟨rfl, rfl⟩
    go_wp2_with fail
    with_reducible refine (Lines_ok s _ hsz).mono ?_
    rintro e w2 ⟨v, rfl, hown, hb2⟩
    obtain ⟨ao, cap, rfl, hao⟩ := own_shape hown
    obtain ⟨g, rfl, hg1, hg2⟩ := hao (by omega)
    obtain ⟨N, hN⟩ : ∃ N, N = (linesOf (byt s)).length := ⟨_, rfl⟩
    rw [← hN] at hll
    rw [← hN]
    have HN := Lib.hid hN
    have HOW := Lib.hid hown
    have q0 : (((feedsL (byt s) : Nat) : Int) + 1 != (N : Int)) = false := by rw [bne_eq_false_iff_eq]; omega
    have Hll := Lib.hid hll
    have hNl : N ≤ 20001 := by omega
    clear hN hown hao hll
    go_wp2_with fail
    with_reducible refine (New_ok s _ hsz).mono ?_
    rintro e w3 ⟨vr, rfl, hR3, hb3⟩
    have hB3 := hb2.trans (hb3.mono hb2.size)
    obtain ⟨r1, vr1, rfl, hh1⟩ := id hR3
    clear hh1
    go_wp2_with fail
    with_reducible refine (Lines_any _ _ (pcOf s) _ hp6 hR3).mono ?_
    rw [HFE.out]
    rintro e w4 ⟨rfl, hb4⟩
    have hb24 := hb3.trans (hb4.mono hb3.size)
    have hB4 := hB3.trans (hb4.mono hB3.size)
    have HR4 := Lib.hid (hR3.below hb4)
    have HO4 := Lib.hid (ownsRow_below HOW.out hb24)
    have hg4 : g < w4.heap.size := by have := hb24.size; omega
    clear hR3
    go_wp2_with fail
    go_loopw [8, 9] (fun z i wr => ∃ k lk : Nat, k ≤ N ∧ i = .int .i64 (k : Int) ∧ z = .int .i64 (lk : Int) ∧ (k ≤ feedsL (byt s) → lk = lst (byt s) k) ∧ (k = N → lk = s.size + 1) ∧ Below w4.heap.size w4 wr) (fun _ i _ => N - (intOf i).toNat)
    case atStart => exact ⟨0, 0, by omega, rfl, rfl, fun _ => (lst_zero _).symm, fun h => by have := Hll.out; omega, Below.refl _ _⟩
    case round =>
      obtain ⟨k, lk, hk, rfl, rfl, hlk, hend, hB5⟩ := hrel
      by_cases hkN : k < N
      · have hkF : k ≤ feedsL (byt s) := by have := Hll.out; omega
        have h1 := hlk hkF
        obtain ⟨fk, hfk⟩ : ∃ fk, fk = feedAt (byt s) k := ⟨_, rfl⟩
        have hle : lk ≤ fk := by rw [h1, hfk]; exact lst_le_feedAt _ _ hkF
        have hfz : fk ≤ s.size := by rw [hfk]; exact feedAt_le_len s k
        have hnext : k + 1 ≤ feedsL (byt s) → fk + 1 = lst (byt s) (k + 1) := fun _ => by rw [lst_succ, hfk]
        have hlast : k + 1 = N → fk + 1 = s.size + 1 := fun h => by rw [hfk, feedAt_none _ _ (by have := Hll.out; omega), byt_length]
        have hline : lineAt (pcOf s).text k = ((lk : Int), (fk : Int)) := by rw [pcOf_text, lineAt_lst, ← h1, ← hfk]
        have hmid : k + 1 < N → ∃ h : fk < s.size, s[fk]'h = 10 := fun h => by
          have hi : k < feedsL (byt s) := by have := Hll.out; omega
          obtain ⟨e1, _⟩ := feedAt_is (byt s) k hi
          have hl := feedAt_lt (byt s) k hi
          rw [← hfk] at e1 hl
          rw [List.getElem?_eq_getElem hl] at e1
          exact ⟨by rw [← byt_length]; exact hl, Option.some.inj e1⟩
        have hkl : k < (linesOf (byt s)).length := by rw [← HN.out]; exact hkN
        have hge : (linesOf (byt s))[k] = ((lk : Int), (fk : Int)) := by
          have h := linesOf_get (byt s) k hkF
          rw [List.getElem?_eq_getElem hkl] at h
          rw [Option.some.inj h, lineAt_lst, ← h1, ← hfk]
        have hRr := HR4.out.below hB5
        have HNX := Lib.hid hnext
        have HLS := Lib.hid hlast
        have HLI := Lib.hid hline
        have HMD := Lib.hid hmid
        have HGE := Lib.hid hge
        clear hlk hend h1 hfk hnext hlast hline hmid hge
        go_wp2_with fail
        with_reducible refine (Line_ok _ _ (pcOf s) k _ hp6 (by rw [HFE.out]; exact hkF) hRr).mono ?_
        rw [HLI.out]
        rintro e w6 ⟨rfl, hb6⟩
        simp only [spanV]
        obtain ⟨w7, hw7⟩ : ∃ w7, w7 = w6.alloc (.cells #[.int .i64 (lk : Int), .int .i64 (fk : Int)] 39) := ⟨_, rfl⟩
        have hb7 : Below w6.heap.size w6 w7 := by rw [hw7]; exact (Below.refl _ _).alloc (Nat.le_refl _) _
        have k7 : w7.heap[w6.heap.size]? = some (.cells #[.int .i64 (lk : Int), .int .i64 (fk : Int)] 39 (0, 0)) := by rw [hw7]; exact heap_alloc_new w6 _
        have hB7 : Below w4.heap.size w4 w7 := (hB5.trans (hb6.mono hB5.size)).trans (hb7.mono (by have := hB5.size; have := hb6.size; omega))
        have x0 : w7.cell? ⟨w6.heap.size, 0, none⟩ = some (.int .i64 (lk : Int)) := Lib.cell_of_heap k7 0
        have x1 : w7.cell? ⟨w6.heap.size, 1, none⟩ = some (.int .i64 (fk : Int)) := Lib.cell_of_heap k7 1
        have HEq := Lib.hid hw7.symm
        obtain ⟨s1, s2⟩ := sp_get (ownsRow_below HO4.out hB7) hkl
        rw [HGE.out] at s1 s2
        have d1 : decide ((fk : Int) < (lk : Int)) = false := decide_eq_false (by omega)
        have d2 : decide ((s.size : Int) < (fk : Int)) = false := decide_eq_false (by omega)
        clear hw7 k7 hRr hb6 hb7 HGE hkl
        go_wp2_with fail
        rw [HEq.out]
        by_cases hk2 : k + 1 < N
        · obtain ⟨hf1, hf2⟩ := HMD.out hk2
          have hf3 : (fk : Int) < (s.size : Int) := by omega
          have q2 : (((s[fk]'hf1).toNat : Int) != 10) = false := by rw [hf2]; rfl
          have q3 : (((s[fk]'hf1).toNat : Int) == 10) = true := by rw [hf2]; rfl
          clear hf2
          go_quiet (fail)
          go_wp2_with fail
          exact ⟨⟨k + 1, fk + 1, by omega, by go_num, by go_num, HNX.out, HLS.out, below_drewN hB7 _⟩, by simp [intOf]; omega⟩
        · go_quiet (fail)
          go_wp2_with fail
          exact ⟨⟨k + 1, fk + 1, by omega, by go_num, by go_num, HNX.out, HLS.out, below_drewN hB7 _⟩, by simp [intOf]; omega⟩
      · have hke : k = N := by omega
        have hle := hend hke
        have q9 : (((lk : Nat) : Int) == (s.size : Int) + 1) = true := by rw [beq_iff_eq]; omega
        have hB5w := hB4.trans (hB5.mono hB4.size)
        have hl2 : lk ≤ 20001 := by omega
        clear hlk hend hke hle
        go_wp2_with fail
        with_reducible refine (palive_any _ (Utf8Tabs_below hT hB5w)).mono ?_
        rintro e w6 ⟨rfl, hb6⟩
        go_wp2_with fail
        go_ret
        exact ⟨rfl, hB5w.trans (hb6.mono hB5w.size)⟩
end Go.Proofs.YtmbpjjehnfjdiaaDoor.lawPlaceLines
