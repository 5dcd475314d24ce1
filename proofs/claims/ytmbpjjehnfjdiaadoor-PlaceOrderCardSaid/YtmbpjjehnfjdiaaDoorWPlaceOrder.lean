/-
  PlaceOrder: offsets and their places have the same order; the columns at the ends of all lines, and the line feeds, are the Width.
  No condition: every input.
-/
import Derived.Test.YtmbpjjehnfjdiaaDoorPlAlive
import Derived.Test.YtmbpjjehnfjdiaaDoorPlArg
namespace Go.Proofs.YtmbpjjehnfjdiaaDoor.lawPlaceOrder
set_option linter.unusedVariables false
set_option linter.unusedSimpArgs false
open Go.ChangeShapes Go.WideShapes Go.RowKit
open Go.ChangeMaps (open_string shut_string)

theorem feeds_mono (x : List UInt8) {a b : Nat} (h : a ≤ b) : feedsL (x.take a) ≤ feedsL (x.take b) := by
  have : x.take b = x.take a ++ (x.drop a).take (b - a) := by rw [← List.take_add]; congr 1; omega
  rw [this, feedsL_append]; omega
theorem place_lt {s : ByteArray} {o k L C l c : Nat} (hok : o < k) (hk : k ≤ s.size) (h : PlaceAt s o L C) (h' : PlaceAt s k l c) : L < l ∨ (l = L ∧ C < c) := by
  obtain ⟨rfl, h1⟩ := h
  obtain ⟨rfl, h2⟩ := h'
  have hm := feeds_mono (byt s) (Nat.le_of_lt hok)
  by_cases he : feedsL ((byt s).take o) = feedsL ((byt s).take k)
  · right
    have : LS (byt s) k = LS (byt s) o := by unfold LS; rw [he]
    rw [this] at h2
    obtain ⟨u, hu, rfl⟩ := h1.split h2 (Nat.le_of_lt hok)
    have := hu.pos hok
    omega
  · left; omega
theorem line_feed {s : ByteArray} {i c u : Nat} (hi : i < feedsL (byt s)) (hu : Ch s 0 (lst (byt s) i) u) (hc : Ch s (lst (byt s) i) (feedAt (byt s) i) c) : Ch s 0 (lst (byt s) (i + 1)) (u + c + 1) := by
  obtain ⟨h1, _⟩ := feedAt_is (byt s) i hi
  have hl := feedAt_lt (byt s) i hi
  have hq : bt s (feedAt (byt s) i) = 10 := by
    rw [← bt_feed s _ hl]; rw [List.getElem?_eq_getElem hl] at h1; exact Option.some.inj h1
  have hs : feedAt (byt s) i < s.size := by rw [← byt_length]; exact hl
  have h2 := (hu.trans hc).snoc hs
  rw [(Ch.after_feed hs hq).1, (Ch.after_feed hs hq).2] at h2
  rw [lst_succ]; exact h2
theorem place_end {s : ByteArray} {i c : Nat} (hi : i ≤ feedsL (byt s)) (hc : Ch s (lst (byt s) i) (feedAt (byt s) i) c) : PlaceAt s (feedAt (byt s) i) i c :=
  ⟨(feeds_line _ i _ hi (lst_le_feedAt _ i hi) (Nat.le_refl _)).symm, by rw [LS_line _ i _ hi (lst_le_feedAt _ i hi) (Nat.le_refl _)]; exact hc⟩

set_option maxRecDepth 100000 in
set_option maxHeartbeats 2000000 in
theorem walk (t : ByteArray) (ht : t.size ≤ maxLen) (w : World) (hT : Lib.Utf8Tabs 0 1 w) :
    Calls Tryd.prog 8 #[.string t] w fun e w' => e = .returned (.bool true) ∧ Below w.heap.size w w' := by
  unfold maxLen at ht
  obtain ⟨s, hs⟩ : ∃ s, s = t.extract 0 (min t.size 2000) := ⟨_, rfl⟩
  have hsz : s.size ≤ 2000 := by rw [hs, ByteArray.size_extract]; omega
  have Hs := Lib.hid hs.symm
  clear hs
  obtain ⟨m, hm, hmn, hmt⟩ : ∃ m : Nat, min (t.size : Int) 2000 = (m : Int) ∧ m = min t.size 2000 ∧ m ≤ t.size := ⟨min t.size 2000, by omega, rfl, by omega⟩
  rw [← hmn] at Hs
  have n0 : (0 : Int) ≤ (m : Int) := by omega
  have n1 : (m : Int) ≤ (t.size : Int) := by omega
  clear hmn
  go_enter Tryd.func8, Tryd.ntmps8
  go_wp2_with fail
  rw [Hs.out]
  have hw0 : Below w.heap.size w (w.alloc (.cells #[.int .i64 0, .int .i64 (-1)] 23)) := (Below.refl _ _).alloc (Nat.le_refl _) _
  have hbox0 := heap_alloc_new w (.cells #[.int .i64 0, .int .i64 (-1)] 23)
  clear hm hmt n0 n1
  go_loopw [5] (fun i wr => ∃ (k : Nat) (L C : Int), k ≤ s.size + 1 ∧ i = .int .i64 (k : Int) ∧ wr.heap[w.heap.size]? = some (.cells #[.int .i64 L, .int .i64 C] 23 (0, 0)) ∧
      (∀ k' l c : Nat, k ≤ k' → k' ≤ s.size → PlaceAt s k' l c → L < l ∨ (L = l ∧ C < c)) ∧ Below w.heap.size w wr) (fun i _ => s.size + 1 - (intOf i).toNat)
  case atStart => exact ⟨0, 0, -1, by omega, rfl, hbox0, (fun k' l c _ _ _ => by omega), hw0⟩
  case round =>
    obtain ⟨k, L, C, hk, rfl, hbox, hord, hB⟩ := hrel
    have hTr := Utf8Tabs_below hT hB
    have HO := Lib.hid hord
    have hbl := lt_of_heap hbox
    clear hord hbox0 hw0
    by_cases hlt : k ≤ s.size
    · go_wp2_with fail
      with_reducible refine (Of_any s k _ (by omega) hTr).mono ?_
      rintro e w1 ⟨hR, hb1⟩
      have hB1 := hB.trans (hb1.mono hB.size)
      have hbox1 := (hb1.block _ hbl).trans hbox
      rcases hR with ⟨h, _⟩ | ⟨_, o', l, c, h1, _, hch, hpl, rfl⟩ | ⟨_, _, rfl⟩
      · exfalso; omega
      · obtain rfl : k = o' := by omega
        have hpo := HO.out k l c (Nat.le_refl _) hlt hpl
        have hord2 : ∀ k' l' c' : Nat, k + 1 ≤ k' → k' ≤ s.size → PlaceAt s k' l' c' → (l : Int) < l' ∨ ((l : Int) = l' ∧ (c : Int) < c') := fun k' l' c' h2 h3 h4 => by
          rcases place_lt (by omega) h3 hpl h4 with h | ⟨h, h'⟩
          · exact .inl (by omega)
          · exact .inr ⟨by omega, by omega⟩
        have HO2 := Lib.hid hord2
        have b0 : w1.cell? ⟨w.heap.size, 0, none⟩ = some (.int .i64 L) := Lib.cell_of_heap hbox1 0
        have b1 : w1.cell? ⟨w.heap.size, 1, none⟩ = some (.int .i64 C) := Lib.cell_of_heap hbox1 1
        have f0 : w1.frozen? ⟨w.heap.size, 0, none⟩ = false := by simp [World.frozen?, hbox1]
        have f1 : w1.frozen? ⟨w.heap.size, 1, none⟩ = false := by simp [World.frozen?, hbox1]
        have hlt1 : w.heap.size < w1.heap.size := lt_of_heap hbox1
        have hsel : (decide ((l : Int) < L) = false ∧ (((l : Int) == L) = false ∨ (((l : Int) == L) = true ∧ decide ((c : Int) ≤ C) = false))) := by
          simp only [decide_eq_false_iff_not, beq_eq_false_iff_ne, beq_iff_eq]
          omega
        obtain ⟨q1, q2⟩ := hsel
        clear hord2 hch hpl hpo HO h1
        have hfin : ∀ X : World, X = ((w1.setCell ⟨w.heap.size, 0, none⟩ (.int .i64 (l : Int))).setCell ⟨w.heap.size, 1, none⟩ (.int .i64 (c : Int))).alloc (.cells #[.int .i64 (l : Int), .int .i64 (c : Int)] 23) →
            X.heap[w.heap.size]? = some (.cells #[.int .i64 (l : Int), .int .i64 (c : Int)] 23 (0, 0)) ∧ Below w.heap.size w X := by
          rintro X rfl
          have hB2 := (hB1.setCell (p := ⟨w.heap.size, 0, none⟩) (Nat.le_refl _) (.int .i64 (l : Int))).setCell (p := ⟨w.heap.size, 1, none⟩) (Nat.le_refl _) (.int .i64 (c : Int))
          refine ⟨?_, hB2.alloc hB2.size _⟩
          have h0 : ((w1.setCell ⟨w.heap.size, 0, none⟩ (.int .i64 (l : Int))).setCell ⟨w.heap.size, 1, none⟩ (.int .i64 (c : Int))).heap[w.heap.size]? = some (.cells #[.int .i64 (l : Int), .int .i64 (c : Int)] 23 (0, 0)) := by
            unfold World.setCell
            simp only [Array.getElem?_modify, hbox1]
            simp
          exact (((Below.refl _ _).alloc (Nat.le_refl _) _).block _ (lt_of_heap h0)).trans h0
        have HFn := Lib.hid hfin
        clear hfin hbox1 hbox
        rcases q2 with q2 | ⟨q2, q3⟩
        all_goals
          go_wp2_with fail
          obtain ⟨g1, g2⟩ := HFn.out _ rfl
          exact ⟨⟨k + 1, (l : Int), (c : Int), by omega, by go_num, g1, HO2.out, g2⟩, by simp [intOf]; omega⟩
      · have hord2 : ∀ k' l c : Nat, k + 1 ≤ k' → k' ≤ s.size → PlaceAt s k' l c → L < l ∨ (L = l ∧ C < c) := fun k' l c h2 => HO.out k' l c (by omega)
        have HO2 := Lib.hid hord2
        have HB1 := Lib.hid hbox1
        have hco : Below w1.heap.size w1 (w1.alloc (.cells #[.int .i64 0, .int .i64 0] 23)) := (Below.refl _ _).alloc (Nat.le_refl _) _
        clear hord2 hbox1 hbox HO
        go_wp2_with fail
        refine ⟨⟨k + 1, L, C, by omega, by go_num, (hco.block _ (lt_of_heap HB1.out)).trans HB1.out, HO2.out, hB1.alloc hB1.size _⟩, by simp [intOf]; omega⟩
    · have qk : decide (k ≤ s.size) = false := decide_eq_false hlt
      clear hbox hlt
      go_wp2_with fail
      with_reducible refine (Width_any s _ (by omega)).mono ?_
      rintro e w1 ⟨hR, hb1⟩
      rcases hR with ⟨h, _⟩ | ⟨_, W, hW, rfl⟩
      · exfalso; omega
      · have hB1 := hB.trans (hb1.mono hB.size)
        have HWW := Lib.hid hW
        have hWl := hW.width_le
        clear hW HO
        go_wp2_with fail
        with_reducible refine (Lines_ok s _ (by omega)).mono ?_
        rintro e w2 ⟨v, rfl, hown, hb2⟩
        have hB2 := hB1.trans (hb2.mono hB1.size)
        have hll := linesOf_length (byt s)
        have hfl := feedsL_le (byt s)
        rw [byt_length] at hfl
        obtain ⟨ao, cap, rfl, hao⟩ := own_shape hown
        obtain ⟨g, rfl, hg1, hg2⟩ := hao (by omega)
        obtain ⟨N, hN⟩ : ∃ N, N = (linesOf (byt s)).length := ⟨_, rfl⟩
        rw [← hN] at hll
        have HN := Lib.hid hN
        have HOW := Lib.hid hown
        rw [← hN]
        have q0 : (((N : Nat) : Int) == 0) = false := by rw [beq_eq_false_iff_ne]; omega
        have q0b : (((feedsL (byt s) : Nat) : Int) + 1 == 0) = false := by rw [beq_eq_false_iff_ne]; omega
        clear hN hown
        go_wp2_with fail
        go_loopw [12, 13] (fun z i wr => ∃ (j : Nat) (sum : Nat), j ≤ N ∧ i = .int .i64 (j : Int) ∧ z = .int .i64 (sum : Int) ∧ sum ≤ 100000 ∧ (j ≤ feedsL (byt s) → ∃ u : Nat, Ch s 0 (lst (byt s) j) u ∧ sum + j = feedsL (byt s) + u) ∧ (j = N → sum = W) ∧ Below w2.heap.size w2 wr) (fun _ i _ => N - (intOf i).toNat)
        case atStart => exact ⟨0, feedsL (byt s), by omega, rfl, rfl, by omega, fun _ => ⟨0, by rw [lst_zero]; exact Ch.refl 0, by omega⟩, fun h => by omega, Below.refl _ _⟩
        case round =>
          obtain ⟨j, sum, hj, rfl, rfl, hs1, hu, hend, hB3⟩ := hrel
          by_cases hjl : j < N
          · have hjf : j ≤ feedsL (byt s) := by omega
            obtain ⟨u, hu1, hu2⟩ := hu hjf
            have hkl : j < (linesOf (byt s)).length := by rw [← HN.out]; exact hjl
            have hown3 := ownsRow_below HOW.out hB3
            obtain ⟨s1, s2⟩ := sp_get hown3 hkl
            have hge : (linesOf (byt s))[j] = lineAt (byt s) j := by
              have h := linesOf_get (byt s) j hjf
              rw [List.getElem?_eq_getElem hkl] at h
              exact Option.some.inj h
            rw [hge, lineAt_lst] at s1 s2
            obtain ⟨c, hc⟩ := Ch.line (s := s) j hjf
            have hpe := place_end hjf hc
            have hfz := feedAt_le_len s j
            have hch := hu1.trans hc
            have hcl := hc.width_le
            have hul := hu1.width_le
            have hlf := lst_le_feedAt (byt s) j hjf
            have hbd : sum + c ≤ 100000 := by omega
            have hch' : ∃ w, Ch s 0 (feedAt (byt s) j) w := ⟨_, hch⟩
            have hB3w := hB2.trans (hB3.mono hB2.size)
            have hnext : j + 1 ≤ feedsL (byt s) → ∃ u' : Nat, Ch s 0 (lst (byt s) (j + 1)) u' ∧ sum + c + (j + 1) = feedsL (byt s) + u' := fun h => ⟨u + c + 1, line_feed (by omega) hu1 hc, by omega⟩
            have hfinal : j + 1 = N → sum + c = W := fun h => by
              have he : feedAt (byt s) j = s.size := by rw [feedAt_none _ _ (by omega), byt_length]
              rw [he] at hch
              have := hch.det HWW.out
              omega
            have Hnext := Lib.hid hnext
            have Hfinal := Lib.hid hfinal
            have HP := Lib.hid (And.intro hch' hpe)
            have hTr := Utf8Tabs_below hT hB3w
            have hgw : g < wr.heap.size := by have := hB3.size; omega
            obtain ⟨fk, hfk⟩ : ∃ fk, fk = feedAt (byt s) j := ⟨_, rfl⟩
            rw [← hfk] at s2 hfz HP hcl
            clear hnext hfinal hch hch' hpe hu1 hc hown3 hge hfk s1 hu hend hul hlf hcl
            go_wp2_with fail
            with_reducible refine (Of_any s (fk : Int) _ (by omega) hTr).mono ?_
            rintro e w4 ⟨hR, hb4⟩
            obtain rfl := OfR.ok (o := fk) hR (by omega) HP.out.1 hfz HP.out.2
            have hB4 := hB3.trans (hb4.mono hB3.size)
            clear hR
            go_wp2_with fail
            refine ⟨⟨j + 1, sum + c, by omega, by go_num, by go_num, by omega, Hnext.out, Hfinal.out, hB4.alloc hB4.size _⟩, by simp [intOf]; omega⟩
          · have hje : j = N := by omega
            have hsw := hend hje
            have q9 : (((sum : Nat) : Int) == (W : Int)) = true := by simp [hsw]
            have hB3w := hB2.trans (hB3.mono hB2.size)
            have hTr := Utf8Tabs_below hT hB3w
            clear hu hend hsw hje
            go_wp2_with fail
            with_reducible refine (palive_any _ hTr).mono ?_
            rintro e w4 ⟨rfl, hb4⟩
            go_wp2_with fail
            go_ret
            exact ⟨rfl, hB3w.trans (hb4.mono hB3w.size)⟩
end Go.Proofs.YtmbpjjehnfjdiaaDoor.lawPlaceOrder
