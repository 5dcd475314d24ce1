/-
  TokenQuotes: Quote, Unquote and Number return what the specification says, or the error.
  No condition: every input.
-/
import Derived.Test.YtkaceghngjpemaaDoorTkNum
import Derived.Test.YtkaceghngjpemaaDoorTkOne
import Derived.Test.YtkaceghngjpemaaDoorTkShort
import Derived.Test.YtkaceghngjpemaaDoorRQuote
import Derived.Test.YtkaceghngjpemaaDoorRIs
import Derived.Deep.RegionHeld3
import Derived.Deep.DeepCutAuto
namespace Go.Proofs.YtkaceghngjpemaaDoor.lawTokenQuotes
set_option linter.unusedVariables false
set_option linter.unusedSimpArgs false
open Go.ChangeShapes Go.WideShapes Go.RowKit
open Go.ChangeMaps (open_string shut_string)

theorem qsize (s : ByteArray) : (quoteB s).size = (qList (byt s)).length + 2 := quote_data s

set_option maxRecDepth 100000 in
set_option maxHeartbeats 4000000 in
theorem walk (t : ByteArray) (ht : t.size ≤ maxLen) (k : Int) (x : ByteArray) (hx : x.size ≤ maxLen) (w : World) (hT : Tabs w) (hV : ErrV w) :
    Calls Tryd.prog 6 #[.string t, .agg #[.int .i64 k, .string x]] w fun e w' => e = .returned (.bool true) ∧ Below w.heap.size w w' := by
  have hsh : ∀ W, _ := fun W => ShortT_any t W ht
  have hone : ∀ W, _ := fun W => One_any k x W hx
  have hst := shortT_size t
  have hsx := shortT_size x
  generalize shortT t = s at hsh hst
  generalize shortT x = y at hone hsx
  have Hsh := Lib.hid hsh
  have Hone := Lib.hid hone
  have HT := Lib.hid hT
  have HV := Lib.hid hV
  obtain ⟨w0, hw0⟩ : ∃ w0, w0 = w.alloc (.cells #[.int .i64 k, .string x] 44) := ⟨_, rfl⟩
  have hB0 : Below w.heap.size w w0 := by rw [hw0]; exact (Below.refl _ _).alloc (Nat.le_refl _) _
  have hb0 : w0.heap[w.heap.size]? = some (.cells #[.int .i64 k, .string x] 44 (0, 0)) := by rw [hw0]; exact heap_alloc_new w _
  have m0 : w0.cell? ⟨w.heap.size, 0, none⟩ = some (.int .i64 k) := Lib.cell_of_heap hb0 0
  have m1 : w0.cell? ⟨w.heap.size, 1, none⟩ = some (.string x) := Lib.cell_of_heap hb0 1
  have hlt0 : w.heap.size < w0.heap.size := by rw [hw0]; simp
  have HB0 := Lib.hid hB0
  have hs20 : s.size ≤ 20001 := by omega
  have hy20 : y.size ≤ 20001 := by omega
  have HW0 := Lib.hid hw0
  clear hsh hone hst hsx hT hV ht hx hB0 hb0 hw0
  have nn0 := World.new_ne w0 ⟨w.heap.size, 0, none⟩ m0
  have nn1 := World.new_ne w0 ⟨w.heap.size, 1, none⟩ m1
  go_enter Tryd.func6, Tryd.ntmps6
  go_upto_region 1 with fail
  go_cut [5, 6] (fun s5 s6 w5 => ∃ c : Nat, s5 = .string s ∧ s6 = .pointer (some ⟨c, 0, none⟩) ∧ Below w.heap.size w w5 ∧ w5.heap[c]? = some (.cells #[.int .i64 k, .string y] 44 (0, 0)))
  case first =>
    rw [← HW0.out]
    go_region_held3 (fun W => W.cell? ⟨w.heap.size, 0, none⟩ = some (.int .i64 k) ∧ W.cell? ⟨w.heap.size, 1, none⟩ = some (.string x))
      (go_keep)
      ((first
      | (go_simp
         go_at_call 16
         with_reducible refine (Hsh.out _).mono ?_
         rintro e wS ⟨rfl, rfl⟩)
      | (go_simp
         go_at_call 32
         with_reducible refine (Hone.out _).mono ?_
         rintro e wO ⟨rfl, hbO⟩
         have hz : wO.heap[w0.heap.size]? = some (.cells #[.int .i64 0, .string { data := #[] }] 44 (0, 0)) := (hbO.block w0.heap.size (by simp)).trans (heap_alloc_new _ _)
         have q0 : wO.cell? ⟨w0.heap.size, 0, none⟩ = some (.int .i64 0) := Lib.cell_of_heap hz 0
         have q1 : wO.cell? ⟨w0.heap.size, 1, none⟩ = some (.string { data := #[] }) := Lib.cell_of_heap hz 1
         have r0 : wO.frozen? ⟨w0.heap.size, 0, none⟩ = false := by simp [World.frozen?, hz]
         have r1 : wO.frozen? ⟨w0.heap.size, 1, none⟩ = false := by simp [World.frozen?, hz]
         have g0 := (hbO.cell (p := ⟨w.heap.size, 0, none⟩) (by simp; omega))
         have g1 := (hbO.cell (p := ⟨w.heap.size, 1, none⟩) (by simp; omega)))
      | (go_simp
         go_at_call 32
         with_reducible refine (Hone.out _).mono ?_
         rintro e wO ⟨rfl, hbO⟩
         have g0 := (hbO.cell (p := ⟨w.heap.size, 0, none⟩) (by simp; omega))
         have g1 := (hbO.cell (p := ⟨w.heap.size, 1, none⟩) (by simp; omega)))))
    all_goals
      have hBO : Below w0.heap.size w0 wO := by
        first
        | exact (Below.drew (Below.refl w0.heap.size w0)).trans hbO
        | exact (Below.drew ((Below.refl w0.heap.size w0).alloc (Nat.le_refl _) _)).trans (hbO.mono (by simp))
        | exact hbO
      have HBO := Lib.hid (HB0.out.trans (hBO.mono HB0.out.size))
      clear hbO hBO g0 g1
      first
      | (have hfin : Below w.heap.size w ((wO.setCell ⟨w0.heap.size, 0, none⟩ (.int .i64 k)).setCell ⟨w0.heap.size, 1, none⟩ (.string y)) ∧ ((wO.setCell ⟨w0.heap.size, 0, none⟩ (.int .i64 k)).setCell ⟨w0.heap.size, 1, none⟩ (.string y)).heap[w0.heap.size]? = some (.cells #[.int .i64 k, .string y] 44 (0, 0)) := by
           refine ⟨(HBO.out.setCell (p := ⟨w0.heap.size, 0, none⟩) (Nat.le_of_lt hlt0) _).setCell (p := ⟨w0.heap.size, 1, none⟩) (Nat.le_of_lt hlt0) _, ?_⟩
           unfold World.setCell
           simp only [Array.getElem?_modify, hz]
           simp
         have Hfin := Lib.hid hfin
         clear hfin hz q0 q1 r0 r1
         go_wp2_with fail
         go_meet
         first
         | exact ⟨w0.heap.size, rfl, rfl, Hfin.out.1, Hfin.out.2⟩
         | exact ⟨w0.heap.size, rfl, rfl, Hfin.out.1.drew, Hfin.out.2⟩)
      | (have hfin : Below w.heap.size w (wO.alloc (.cells #[.int .i64 k, .string y] 44)) ∧ (wO.alloc (.cells #[.int .i64 k, .string y] 44)).heap[wO.heap.size]? = some (.cells #[.int .i64 k, .string y] 44 (0, 0)) :=
           ⟨HBO.out.alloc HBO.out.size _, heap_alloc_new wO _⟩
         have Hfin := Lib.hid hfin
         clear hfin
         go_wp2_with fail
         go_meet
         exact ⟨wO.heap.size, rfl, rfl, Hfin.out.1, Hfin.out.2⟩)
  case rest =>
    rename World => w5
    obtain ⟨c, rfl, rfl, hB5, h5⟩ := hcut
    have hqs := qsize s
    have em : (ByteArray.empty.toList == ([] : List UInt8)) = true := by decide +kernel
    have em2 : ByteArray.empty.toList.isEmpty = true := by decide +kernel
    have em3 : ByteArray.empty.toList = [] := by decide +kernel
    by_cases hq : (qList (byt s)).length + 2 ≤ 20000
    · have HR : Hid (quoteR s = (quoteB s, 0)) := Lib.hid (by unfold quoteR; rw [if_pos hq])
      have hne : ((quoteB s).toList != (quoteB s).toList) = false := by simp
      have hqb : decide ((20000 : Int) < ((quoteB s).size : Int)) = false := by simp; omega
      clear hqs hq
      by_cases h6 : k = 6 ∧ isTok (6, y) = true
      · obtain ⟨rfl, hi⟩ := h6
        have HI := Lib.hid hi
        have hu1 : (unquoteR 6 y).2 = 0 := by unfold unquoteR; rw [if_pos ⟨rfl, hi⟩]
        obtain ⟨uu, huu⟩ : ∃ u, u = (unquoteR 6 y).1 := ⟨_, rfl⟩
        have HU : Hid (unquoteR 6 y = ((unquoteR 6 y).1, 0)) := Lib.hid (Prod.ext rfl hu1)
        have HN : Hid (numT 6 y = (0, false, 4)) := Lib.hid (by unfold numT; rw [if_neg (fun h => by have := h.1; omega)])
        have hne2 : ((unquoteR 6 y).1.toList != (unquoteR 6 y).1.toList) = false := by simp
        clear hi hu1 huu
        have H5 := Lib.hid h5
        have hl5 : c < w5.heap.size := lt_of_cell (Lib.cell_of_heap h5 0)
        clear h5
        go_wp2_with fail
        with_reducible refine (Quote_any s w5).mono ?_
        rw [HR.out]
        rintro e w6 ⟨rfl, hb6⟩
        have hB6 := hB5.trans (hb6.mono hB5.size)
        have h6 := (hb6.block c hl5).trans H5.out
        have hl6 := Nat.lt_of_lt_of_le hl5 hb6.size
        have x6 : w6.cell? ⟨c, 0, none⟩ = some (.int .i64 6) := Lib.cell_of_heap h6 0
        have y6 : w6.cell? ⟨c, 1, none⟩ = some (.string y) := Lib.cell_of_heap h6 1
        have H6 := Lib.hid h6
        clear hb6 h6
        go_wp2_with fail
        with_reducible refine (Unquote_any 6 y w6 (HT.out.below hB6)).mono ?_
        rw [HU.out]
        rintro e w7 ⟨rfl, hb7⟩
        have hB7 := hB6.trans (hb7.mono hB6.size)
        have h7 := (hb7.block c hl6).trans H6.out
        have hl7 := Nat.lt_of_lt_of_le hl6 hb7.size
        have x7 : w7.cell? ⟨c, 0, none⟩ = some (.int .i64 6) := Lib.cell_of_heap h7 0
        have y7 : w7.cell? ⟨c, 1, none⟩ = some (.string y) := Lib.cell_of_heap h7 1
        have H7 := Lib.hid h7
        clear hb7 h7 x6 y6
        go_wp2_with fail
        with_reducible refine (Number_any 6 y w7 (HT.out.below hB7) (HV.out.below hB7)).mono ?_
        rw [HN.out]
        rintro e w8 ⟨rfl, hb8⟩
        have hB8 := hB7.trans (hb8.mono hB7.size)
        have h8 := (hb8.block c hl7).trans H7.out
        have hl8 := Nat.lt_of_lt_of_le hl7 hb8.size
        have x8 : w8.cell? ⟨c, 0, none⟩ = some (.int .i64 6) := Lib.cell_of_heap h8 0
        have y8 : w8.cell? ⟨c, 1, none⟩ = some (.string y) := Lib.cell_of_heap h8 1
        have H8 := Lib.hid h8
        clear hb8 h8 x7 y7
        go_wp2_with fail
        with_reducible refine (RQuote_any s w8 (by omega)).mono ?_
        rintro e w9 ⟨rfl, hb9⟩
        have hB9 := hB8.trans (hb9.mono hB8.size)
        have h9 := (hb9.block c hl8).trans H8.out
        have hl9 := Nat.lt_of_lt_of_le hl8 hb9.size
        have x9 : w9.cell? ⟨c, 0, none⟩ = some (.int .i64 6) := Lib.cell_of_heap h9 0
        have y9 : w9.cell? ⟨c, 1, none⟩ = some (.string y) := Lib.cell_of_heap h9 1
        have H9 := Lib.hid h9
        clear hb9 h9 x8 y8
        go_wp2_with fail
        with_reducible refine (RIsTok_any 6 y w9 (by omega)).mono ?_
        rw [HI.out]
        rintro e w10 ⟨rfl, hb10⟩
        have hB10 := hB9.trans (hb10.mono hB9.size)
        have h10 := (hb10.block c hl9).trans H9.out
        have hl10 := Nat.lt_of_lt_of_le hl9 hb10.size
        have x10 : w10.cell? ⟨c, 0, none⟩ = some (.int .i64 6) := Lib.cell_of_heap h10 0
        have y10 : w10.cell? ⟨c, 1, none⟩ = some (.string y) := Lib.cell_of_heap h10 1
        have H10 := Lib.hid h10
        clear hb10 h10 x9 y9
        go_wp2_with fail
        with_reducible refine (RUnquote_any y w10 HI.out).mono ?_
        rintro e w11 ⟨rfl, hb11⟩
        have hB11 := hB10.trans (hb11.mono hB10.size)
        have h11 := (hb11.block c hl10).trans H10.out
        have hl11 := Nat.lt_of_lt_of_le hl10 hb11.size
        have x11 : w11.cell? ⟨c, 0, none⟩ = some (.int .i64 6) := Lib.cell_of_heap h11 0
        have y11 : w11.cell? ⟨c, 1, none⟩ = some (.string y) := Lib.cell_of_heap h11 1
        have H11 := Lib.hid h11
        clear hb11 h11 x10 y10
        go_wp2_with fail
        with_reducible refine (RIsTok_any 6 y w11 (by omega)).mono ?_
        rw [HI.out]
        rintro e w12 ⟨rfl, hb12⟩
        have hB12 := hB11.trans (hb12.mono hB11.size)
        have h12 := (hb12.block c hl11).trans H11.out
        have hl12 := Nat.lt_of_lt_of_le hl11 hb12.size
        have x12 : w12.cell? ⟨c, 0, none⟩ = some (.int .i64 6) := Lib.cell_of_heap h12 0
        have y12 : w12.cell? ⟨c, 1, none⟩ = some (.string y) := Lib.cell_of_heap h12 1
        have H12 := Lib.hid h12
        clear hb12 h12 x11 y11
        go_wp2_with fail
        with_reducible refine (alive_any w12 (HT.out.below hB12)).mono ?_
        rintro e wz ⟨rfl, hbz⟩
        go_wp2_with fail
        go_ret
        exact ⟨rfl, hB12.trans (hbz.mono hB12.size)⟩
      · by_cases h50 : k = 5 ∧ isTok (5, y) = true
        · obtain ⟨rfl, hi⟩ := h50
          have HI := Lib.hid hi
          obtain ⟨_, _, hd⟩ := tok5 hi
          have HD := Lib.hid hd
          have HU : Hid (unquoteR 5 y = (ByteArray.empty, 4)) := Lib.hid (by unfold unquoteR; rw [if_neg (fun h => by have := h.1; omega)])
          have HN : Hid (numT 5 y = ((numB y).1, (numB y).2, 0)) := Lib.hid (by
            unfold numT numB; rw [if_pos ⟨rfl, hi⟩]
            cases numR 0 (byt y) <;> rfl)
          have hm1 : ((numB y).1 == (numB y).1) = true := by simp
          have hm2 : ((numB y).2 == (numB y).2) = true := by simp
          clear hi hd h6
          have H5 := Lib.hid h5
          have hl5 : c < w5.heap.size := lt_of_cell (Lib.cell_of_heap h5 0)
          clear h5
          go_wp2_with fail
          with_reducible refine (Quote_any s w5).mono ?_
          rw [HR.out]
          rintro e w6 ⟨rfl, hb6⟩
          have hB6 := hB5.trans (hb6.mono hB5.size)
          have h6 := (hb6.block c hl5).trans H5.out
          have hl6 := Nat.lt_of_lt_of_le hl5 hb6.size
          have x6 : w6.cell? ⟨c, 0, none⟩ = some (.int .i64 5) := Lib.cell_of_heap h6 0
          have y6 : w6.cell? ⟨c, 1, none⟩ = some (.string y) := Lib.cell_of_heap h6 1
          have H6 := Lib.hid h6
          clear hb6 h6
          go_wp2_with fail
          with_reducible refine (Unquote_any 5 y w6 (HT.out.below hB6)).mono ?_
          rw [HU.out]
          rintro e w7 ⟨rfl, hb7⟩
          have hB7 := hB6.trans (hb7.mono hB6.size)
          have h7 := (hb7.block c hl6).trans H6.out
          have hl7 := Nat.lt_of_lt_of_le hl6 hb7.size
          have x7 : w7.cell? ⟨c, 0, none⟩ = some (.int .i64 5) := Lib.cell_of_heap h7 0
          have y7 : w7.cell? ⟨c, 1, none⟩ = some (.string y) := Lib.cell_of_heap h7 1
          have H7 := Lib.hid h7
          clear hb7 h7 x6 y6
          go_wp2_with fail
          with_reducible refine (Number_any 5 y w7 (HT.out.below hB7) (HV.out.below hB7)).mono ?_
          rw [HN.out]
          rintro e w8 ⟨rfl, hb8⟩
          have hB8 := hB7.trans (hb8.mono hB7.size)
          have h8 := (hb8.block c hl7).trans H7.out
          have hl8 := Nat.lt_of_lt_of_le hl7 hb8.size
          have x8 : w8.cell? ⟨c, 0, none⟩ = some (.int .i64 5) := Lib.cell_of_heap h8 0
          have y8 : w8.cell? ⟨c, 1, none⟩ = some (.string y) := Lib.cell_of_heap h8 1
          have H8 := Lib.hid h8
          clear hb8 h8 x7 y7
          go_wp2_with fail
          with_reducible refine (RQuote_any s w8 (by omega)).mono ?_
          rintro e w9 ⟨rfl, hb9⟩
          have hB9 := hB8.trans (hb9.mono hB8.size)
          have h9 := (hb9.block c hl8).trans H8.out
          have hl9 := Nat.lt_of_lt_of_le hl8 hb9.size
          have x9 : w9.cell? ⟨c, 0, none⟩ = some (.int .i64 5) := Lib.cell_of_heap h9 0
          have y9 : w9.cell? ⟨c, 1, none⟩ = some (.string y) := Lib.cell_of_heap h9 1
          have H9 := Lib.hid h9
          clear hb9 h9 x8 y8
          go_wp2_with fail
          with_reducible refine (RIsTok_any 5 y w9 (by omega)).mono ?_
          rw [HI.out]
          rintro e w10 ⟨rfl, hb10⟩
          have hB10 := hB9.trans (hb10.mono hB9.size)
          have h10 := (hb10.block c hl9).trans H9.out
          have hl10 := Nat.lt_of_lt_of_le hl9 hb10.size
          have x10 : w10.cell? ⟨c, 0, none⟩ = some (.int .i64 5) := Lib.cell_of_heap h10 0
          have y10 : w10.cell? ⟨c, 1, none⟩ = some (.string y) := Lib.cell_of_heap h10 1
          have H10 := Lib.hid h10
          clear hb10 h10 x9 y9
          go_wp2_with fail
          with_reducible refine (RIsTok_any 5 y w10 (by omega)).mono ?_
          rw [HI.out]
          rintro e w11 ⟨rfl, hb11⟩
          have hB11 := hB10.trans (hb11.mono hB10.size)
          have h11 := (hb11.block c hl10).trans H10.out
          have hl11 := Nat.lt_of_lt_of_le hl10 hb11.size
          have x11 : w11.cell? ⟨c, 0, none⟩ = some (.int .i64 5) := Lib.cell_of_heap h11 0
          have y11 : w11.cell? ⟨c, 1, none⟩ = some (.string y) := Lib.cell_of_heap h11 1
          have H11 := Lib.hid h11
          clear hb11 h11 x10 y10
          go_wp2_with fail
          with_reducible refine (RNumber_any y w11 (by omega) HD.out).mono ?_
          rintro e w11 ⟨rfl, rfl⟩
          go_wp2_with fail
          with_reducible refine (alive_any w11 (HT.out.below hB11)).mono ?_
          rintro e wz ⟨rfl, hbz⟩
          go_wp2_with fail
          go_ret
          exact ⟨rfl, hB11.trans (hbz.mono hB11.size)⟩
        · have HU : Hid (unquoteR k y = (ByteArray.empty, 4)) := Lib.hid (by unfold unquoteR; rw [if_neg h6])
          have HN : Hid (numT k y = (0, false, 4)) := Lib.hid (by unfold numT; rw [if_neg h50])
          cases hi : isTok (k, y)
          · have HI := Lib.hid hi
            clear hi h6 h50
            have H5 := Lib.hid h5
            have hl5 : c < w5.heap.size := lt_of_cell (Lib.cell_of_heap h5 0)
            clear h5
            go_wp2_with fail
            with_reducible refine (Quote_any s w5).mono ?_
            rw [HR.out]
            rintro e w6 ⟨rfl, hb6⟩
            have hB6 := hB5.trans (hb6.mono hB5.size)
            have h6 := (hb6.block c hl5).trans H5.out
            have hl6 := Nat.lt_of_lt_of_le hl5 hb6.size
            have x6 : w6.cell? ⟨c, 0, none⟩ = some (.int .i64 k) := Lib.cell_of_heap h6 0
            have y6 : w6.cell? ⟨c, 1, none⟩ = some (.string y) := Lib.cell_of_heap h6 1
            have H6 := Lib.hid h6
            clear hb6 h6
            go_wp2_with fail
            with_reducible refine (Unquote_any k y w6 (HT.out.below hB6)).mono ?_
            rw [HU.out]
            rintro e w7 ⟨rfl, hb7⟩
            have hB7 := hB6.trans (hb7.mono hB6.size)
            have h7 := (hb7.block c hl6).trans H6.out
            have hl7 := Nat.lt_of_lt_of_le hl6 hb7.size
            have x7 : w7.cell? ⟨c, 0, none⟩ = some (.int .i64 k) := Lib.cell_of_heap h7 0
            have y7 : w7.cell? ⟨c, 1, none⟩ = some (.string y) := Lib.cell_of_heap h7 1
            have H7 := Lib.hid h7
            clear hb7 h7 x6 y6
            go_wp2_with fail
            with_reducible refine (Number_any k y w7 (HT.out.below hB7) (HV.out.below hB7)).mono ?_
            rw [HN.out]
            rintro e w8 ⟨rfl, hb8⟩
            have hB8 := hB7.trans (hb8.mono hB7.size)
            have h8 := (hb8.block c hl7).trans H7.out
            have hl8 := Nat.lt_of_lt_of_le hl7 hb8.size
            have x8 : w8.cell? ⟨c, 0, none⟩ = some (.int .i64 k) := Lib.cell_of_heap h8 0
            have y8 : w8.cell? ⟨c, 1, none⟩ = some (.string y) := Lib.cell_of_heap h8 1
            have H8 := Lib.hid h8
            clear hb8 h8 x7 y7
            go_wp2_with fail
            with_reducible refine (RQuote_any s w8 (by omega)).mono ?_
            rintro e w9 ⟨rfl, hb9⟩
            have hB9 := hB8.trans (hb9.mono hB8.size)
            have h9 := (hb9.block c hl8).trans H8.out
            have hl9 := Nat.lt_of_lt_of_le hl8 hb9.size
            have x9 : w9.cell? ⟨c, 0, none⟩ = some (.int .i64 k) := Lib.cell_of_heap h9 0
            have y9 : w9.cell? ⟨c, 1, none⟩ = some (.string y) := Lib.cell_of_heap h9 1
            have H9 := Lib.hid h9
            clear hb9 h9 x8 y8
            go_wp2_with fail
            with_reducible refine (RIsTok_any k y w9 (by omega)).mono ?_
            rw [HI.out]
            rintro e w10 ⟨rfl, hb10⟩
            have hB10 := hB9.trans (hb10.mono hB9.size)
            have h10 := (hb10.block c hl9).trans H9.out
            have hl10 := Nat.lt_of_lt_of_le hl9 hb10.size
            have x10 : w10.cell? ⟨c, 0, none⟩ = some (.int .i64 k) := Lib.cell_of_heap h10 0
            have y10 : w10.cell? ⟨c, 1, none⟩ = some (.string y) := Lib.cell_of_heap h10 1
            have H10 := Lib.hid h10
            clear hb10 h10 x9 y9
            go_wp2_with fail
            with_reducible refine (RIsTok_any k y w10 (by omega)).mono ?_
            rw [HI.out]
            rintro e w11 ⟨rfl, hb11⟩
            have hB11 := hB10.trans (hb11.mono hB10.size)
            have h11 := (hb11.block c hl10).trans H10.out
            have hl11 := Nat.lt_of_lt_of_le hl10 hb11.size
            have x11 : w11.cell? ⟨c, 0, none⟩ = some (.int .i64 k) := Lib.cell_of_heap h11 0
            have y11 : w11.cell? ⟨c, 1, none⟩ = some (.string y) := Lib.cell_of_heap h11 1
            have H11 := Lib.hid h11
            clear hb11 h11 x10 y10
            go_wp2_with fail
            with_reducible refine (alive_any w11 (HT.out.below hB11)).mono ?_
            rintro e wz ⟨rfl, hbz⟩
            go_wp2_with fail
            go_ret
            exact ⟨rfl, hB11.trans (hbz.mono hB11.size)⟩
          · have HI := Lib.hid hi
            have k6 : k ≠ 6 := fun h => h6 ⟨h, by rw [← h]; exact hi⟩
            have k5 : k ≠ 5 := fun h => h50 ⟨h, by rw [← h]; exact hi⟩
            have kb6 : (k != 6) = true := by simpa using k6
            have kb5 : (k != 5) = true := by simpa using k5
            clear hi h6 h50 k5 k6
            have H5 := Lib.hid h5
            have hl5 : c < w5.heap.size := lt_of_cell (Lib.cell_of_heap h5 0)
            clear h5
            go_wp2_with fail
            with_reducible refine (Quote_any s w5).mono ?_
            rw [HR.out]
            rintro e w6 ⟨rfl, hb6⟩
            have hB6 := hB5.trans (hb6.mono hB5.size)
            have h6 := (hb6.block c hl5).trans H5.out
            have hl6 := Nat.lt_of_lt_of_le hl5 hb6.size
            have x6 : w6.cell? ⟨c, 0, none⟩ = some (.int .i64 k) := Lib.cell_of_heap h6 0
            have y6 : w6.cell? ⟨c, 1, none⟩ = some (.string y) := Lib.cell_of_heap h6 1
            have H6 := Lib.hid h6
            clear hb6 h6
            go_wp2_with fail
            with_reducible refine (Unquote_any k y w6 (HT.out.below hB6)).mono ?_
            rw [HU.out]
            rintro e w7 ⟨rfl, hb7⟩
            have hB7 := hB6.trans (hb7.mono hB6.size)
            have h7 := (hb7.block c hl6).trans H6.out
            have hl7 := Nat.lt_of_lt_of_le hl6 hb7.size
            have x7 : w7.cell? ⟨c, 0, none⟩ = some (.int .i64 k) := Lib.cell_of_heap h7 0
            have y7 : w7.cell? ⟨c, 1, none⟩ = some (.string y) := Lib.cell_of_heap h7 1
            have H7 := Lib.hid h7
            clear hb7 h7 x6 y6
            go_wp2_with fail
            with_reducible refine (Number_any k y w7 (HT.out.below hB7) (HV.out.below hB7)).mono ?_
            rw [HN.out]
            rintro e w8 ⟨rfl, hb8⟩
            have hB8 := hB7.trans (hb8.mono hB7.size)
            have h8 := (hb8.block c hl7).trans H7.out
            have hl8 := Nat.lt_of_lt_of_le hl7 hb8.size
            have x8 : w8.cell? ⟨c, 0, none⟩ = some (.int .i64 k) := Lib.cell_of_heap h8 0
            have y8 : w8.cell? ⟨c, 1, none⟩ = some (.string y) := Lib.cell_of_heap h8 1
            have H8 := Lib.hid h8
            clear hb8 h8 x7 y7
            go_wp2_with fail
            with_reducible refine (RQuote_any s w8 (by omega)).mono ?_
            rintro e w9 ⟨rfl, hb9⟩
            have hB9 := hB8.trans (hb9.mono hB8.size)
            have h9 := (hb9.block c hl8).trans H8.out
            have hl9 := Nat.lt_of_lt_of_le hl8 hb9.size
            have x9 : w9.cell? ⟨c, 0, none⟩ = some (.int .i64 k) := Lib.cell_of_heap h9 0
            have y9 : w9.cell? ⟨c, 1, none⟩ = some (.string y) := Lib.cell_of_heap h9 1
            have H9 := Lib.hid h9
            clear hb9 h9 x8 y8
            go_wp2_with fail
            with_reducible refine (RIsTok_any k y w9 (by omega)).mono ?_
            rw [HI.out]
            rintro e w10 ⟨rfl, hb10⟩
            have hB10 := hB9.trans (hb10.mono hB9.size)
            have h10 := (hb10.block c hl9).trans H9.out
            have hl10 := Nat.lt_of_lt_of_le hl9 hb10.size
            have x10 : w10.cell? ⟨c, 0, none⟩ = some (.int .i64 k) := Lib.cell_of_heap h10 0
            have y10 : w10.cell? ⟨c, 1, none⟩ = some (.string y) := Lib.cell_of_heap h10 1
            have H10 := Lib.hid h10
            clear hb10 h10 x9 y9
            go_wp2_with fail
            with_reducible refine (RIsTok_any k y w10 (by omega)).mono ?_
            rw [HI.out]
            rintro e w11 ⟨rfl, hb11⟩
            have hB11 := hB10.trans (hb11.mono hB10.size)
            have h11 := (hb11.block c hl10).trans H10.out
            have hl11 := Nat.lt_of_lt_of_le hl10 hb11.size
            have x11 : w11.cell? ⟨c, 0, none⟩ = some (.int .i64 k) := Lib.cell_of_heap h11 0
            have y11 : w11.cell? ⟨c, 1, none⟩ = some (.string y) := Lib.cell_of_heap h11 1
            have H11 := Lib.hid h11
            clear hb11 h11 x10 y10
            go_wp2_with fail
            with_reducible refine (alive_any w11 (HT.out.below hB11)).mono ?_
            rintro e wz ⟨rfl, hbz⟩
            go_wp2_with fail
            go_ret
            exact ⟨rfl, hB11.trans (hbz.mono hB11.size)⟩
    · have HR : Hid (quoteR s = (ByteArray.empty, 3)) := Lib.hid (by unfold quoteR; rw [if_neg hq])
      have hqb : decide ((20000 : Int) < ((quoteB s).size : Int)) = true := by simp; omega
      clear hqs hq
      by_cases h6 : k = 6 ∧ isTok (6, y) = true
      · obtain ⟨rfl, hi⟩ := h6
        have HI := Lib.hid hi
        have hu1 : (unquoteR 6 y).2 = 0 := by unfold unquoteR; rw [if_pos ⟨rfl, hi⟩]
        obtain ⟨uu, huu⟩ : ∃ u, u = (unquoteR 6 y).1 := ⟨_, rfl⟩
        have HU : Hid (unquoteR 6 y = ((unquoteR 6 y).1, 0)) := Lib.hid (Prod.ext rfl hu1)
        have HN : Hid (numT 6 y = (0, false, 4)) := Lib.hid (by unfold numT; rw [if_neg (fun h => by have := h.1; omega)])
        have hne2 : ((unquoteR 6 y).1.toList != (unquoteR 6 y).1.toList) = false := by simp
        clear hi hu1 huu
        have H5 := Lib.hid h5
        have hl5 : c < w5.heap.size := lt_of_cell (Lib.cell_of_heap h5 0)
        clear h5
        go_wp2_with fail
        with_reducible refine (Quote_any s w5).mono ?_
        rw [HR.out]
        rintro e w6 ⟨rfl, hb6⟩
        have hB6 := hB5.trans (hb6.mono hB5.size)
        have h6 := (hb6.block c hl5).trans H5.out
        have hl6 := Nat.lt_of_lt_of_le hl5 hb6.size
        have x6 : w6.cell? ⟨c, 0, none⟩ = some (.int .i64 6) := Lib.cell_of_heap h6 0
        have y6 : w6.cell? ⟨c, 1, none⟩ = some (.string y) := Lib.cell_of_heap h6 1
        have H6 := Lib.hid h6
        clear hb6 h6
        go_wp2_with fail
        with_reducible refine (Unquote_any 6 y w6 (HT.out.below hB6)).mono ?_
        rw [HU.out]
        rintro e w7 ⟨rfl, hb7⟩
        have hB7 := hB6.trans (hb7.mono hB6.size)
        have h7 := (hb7.block c hl6).trans H6.out
        have hl7 := Nat.lt_of_lt_of_le hl6 hb7.size
        have x7 : w7.cell? ⟨c, 0, none⟩ = some (.int .i64 6) := Lib.cell_of_heap h7 0
        have y7 : w7.cell? ⟨c, 1, none⟩ = some (.string y) := Lib.cell_of_heap h7 1
        have H7 := Lib.hid h7
        clear hb7 h7 x6 y6
        go_wp2_with fail
        with_reducible refine (Number_any 6 y w7 (HT.out.below hB7) (HV.out.below hB7)).mono ?_
        rw [HN.out]
        rintro e w8 ⟨rfl, hb8⟩
        have hB8 := hB7.trans (hb8.mono hB7.size)
        have h8 := (hb8.block c hl7).trans H7.out
        have hl8 := Nat.lt_of_lt_of_le hl7 hb8.size
        have x8 : w8.cell? ⟨c, 0, none⟩ = some (.int .i64 6) := Lib.cell_of_heap h8 0
        have y8 : w8.cell? ⟨c, 1, none⟩ = some (.string y) := Lib.cell_of_heap h8 1
        have H8 := Lib.hid h8
        clear hb8 h8 x7 y7
        go_wp2_with fail
        with_reducible refine (RQuote_any s w8 (by omega)).mono ?_
        rintro e w9 ⟨rfl, hb9⟩
        have hB9 := hB8.trans (hb9.mono hB8.size)
        have h9 := (hb9.block c hl8).trans H8.out
        have hl9 := Nat.lt_of_lt_of_le hl8 hb9.size
        have x9 : w9.cell? ⟨c, 0, none⟩ = some (.int .i64 6) := Lib.cell_of_heap h9 0
        have y9 : w9.cell? ⟨c, 1, none⟩ = some (.string y) := Lib.cell_of_heap h9 1
        have H9 := Lib.hid h9
        clear hb9 h9 x8 y8
        go_wp2_with fail
        with_reducible refine (RIsTok_any 6 y w9 (by omega)).mono ?_
        rw [HI.out]
        rintro e w10 ⟨rfl, hb10⟩
        have hB10 := hB9.trans (hb10.mono hB9.size)
        have h10 := (hb10.block c hl9).trans H9.out
        have hl10 := Nat.lt_of_lt_of_le hl9 hb10.size
        have x10 : w10.cell? ⟨c, 0, none⟩ = some (.int .i64 6) := Lib.cell_of_heap h10 0
        have y10 : w10.cell? ⟨c, 1, none⟩ = some (.string y) := Lib.cell_of_heap h10 1
        have H10 := Lib.hid h10
        clear hb10 h10 x9 y9
        go_wp2_with fail
        with_reducible refine (RUnquote_any y w10 HI.out).mono ?_
        rintro e w11 ⟨rfl, hb11⟩
        have hB11 := hB10.trans (hb11.mono hB10.size)
        have h11 := (hb11.block c hl10).trans H10.out
        have hl11 := Nat.lt_of_lt_of_le hl10 hb11.size
        have x11 : w11.cell? ⟨c, 0, none⟩ = some (.int .i64 6) := Lib.cell_of_heap h11 0
        have y11 : w11.cell? ⟨c, 1, none⟩ = some (.string y) := Lib.cell_of_heap h11 1
        have H11 := Lib.hid h11
        clear hb11 h11 x10 y10
        go_wp2_with fail
        with_reducible refine (RIsTok_any 6 y w11 (by omega)).mono ?_
        rw [HI.out]
        rintro e w12 ⟨rfl, hb12⟩
        have hB12 := hB11.trans (hb12.mono hB11.size)
        have h12 := (hb12.block c hl11).trans H11.out
        have hl12 := Nat.lt_of_lt_of_le hl11 hb12.size
        have x12 : w12.cell? ⟨c, 0, none⟩ = some (.int .i64 6) := Lib.cell_of_heap h12 0
        have y12 : w12.cell? ⟨c, 1, none⟩ = some (.string y) := Lib.cell_of_heap h12 1
        have H12 := Lib.hid h12
        clear hb12 h12 x11 y11
        go_wp2_with fail
        with_reducible refine (alive_any w12 (HT.out.below hB12)).mono ?_
        rintro e wz ⟨rfl, hbz⟩
        go_wp2_with fail
        go_ret
        exact ⟨rfl, hB12.trans (hbz.mono hB12.size)⟩
      · by_cases h50 : k = 5 ∧ isTok (5, y) = true
        · obtain ⟨rfl, hi⟩ := h50
          have HI := Lib.hid hi
          obtain ⟨_, _, hd⟩ := tok5 hi
          have HD := Lib.hid hd
          have HU : Hid (unquoteR 5 y = (ByteArray.empty, 4)) := Lib.hid (by unfold unquoteR; rw [if_neg (fun h => by have := h.1; omega)])
          have HN : Hid (numT 5 y = ((numB y).1, (numB y).2, 0)) := Lib.hid (by
            unfold numT numB; rw [if_pos ⟨rfl, hi⟩]
            cases numR 0 (byt y) <;> rfl)
          have hm1 : ((numB y).1 == (numB y).1) = true := by simp
          have hm2 : ((numB y).2 == (numB y).2) = true := by simp
          clear hi hd h6
          have H5 := Lib.hid h5
          have hl5 : c < w5.heap.size := lt_of_cell (Lib.cell_of_heap h5 0)
          clear h5
          go_wp2_with fail
          with_reducible refine (Quote_any s w5).mono ?_
          rw [HR.out]
          rintro e w6 ⟨rfl, hb6⟩
          have hB6 := hB5.trans (hb6.mono hB5.size)
          have h6 := (hb6.block c hl5).trans H5.out
          have hl6 := Nat.lt_of_lt_of_le hl5 hb6.size
          have x6 : w6.cell? ⟨c, 0, none⟩ = some (.int .i64 5) := Lib.cell_of_heap h6 0
          have y6 : w6.cell? ⟨c, 1, none⟩ = some (.string y) := Lib.cell_of_heap h6 1
          have H6 := Lib.hid h6
          clear hb6 h6
          go_wp2_with fail
          with_reducible refine (Unquote_any 5 y w6 (HT.out.below hB6)).mono ?_
          rw [HU.out]
          rintro e w7 ⟨rfl, hb7⟩
          have hB7 := hB6.trans (hb7.mono hB6.size)
          have h7 := (hb7.block c hl6).trans H6.out
          have hl7 := Nat.lt_of_lt_of_le hl6 hb7.size
          have x7 : w7.cell? ⟨c, 0, none⟩ = some (.int .i64 5) := Lib.cell_of_heap h7 0
          have y7 : w7.cell? ⟨c, 1, none⟩ = some (.string y) := Lib.cell_of_heap h7 1
          have H7 := Lib.hid h7
          clear hb7 h7 x6 y6
          go_wp2_with fail
          with_reducible refine (Number_any 5 y w7 (HT.out.below hB7) (HV.out.below hB7)).mono ?_
          rw [HN.out]
          rintro e w8 ⟨rfl, hb8⟩
          have hB8 := hB7.trans (hb8.mono hB7.size)
          have h8 := (hb8.block c hl7).trans H7.out
          have hl8 := Nat.lt_of_lt_of_le hl7 hb8.size
          have x8 : w8.cell? ⟨c, 0, none⟩ = some (.int .i64 5) := Lib.cell_of_heap h8 0
          have y8 : w8.cell? ⟨c, 1, none⟩ = some (.string y) := Lib.cell_of_heap h8 1
          have H8 := Lib.hid h8
          clear hb8 h8 x7 y7
          go_wp2_with fail
          with_reducible refine (RQuote_any s w8 (by omega)).mono ?_
          rintro e w9 ⟨rfl, hb9⟩
          have hB9 := hB8.trans (hb9.mono hB8.size)
          have h9 := (hb9.block c hl8).trans H8.out
          have hl9 := Nat.lt_of_lt_of_le hl8 hb9.size
          have x9 : w9.cell? ⟨c, 0, none⟩ = some (.int .i64 5) := Lib.cell_of_heap h9 0
          have y9 : w9.cell? ⟨c, 1, none⟩ = some (.string y) := Lib.cell_of_heap h9 1
          have H9 := Lib.hid h9
          clear hb9 h9 x8 y8
          go_wp2_with fail
          with_reducible refine (RIsTok_any 5 y w9 (by omega)).mono ?_
          rw [HI.out]
          rintro e w10 ⟨rfl, hb10⟩
          have hB10 := hB9.trans (hb10.mono hB9.size)
          have h10 := (hb10.block c hl9).trans H9.out
          have hl10 := Nat.lt_of_lt_of_le hl9 hb10.size
          have x10 : w10.cell? ⟨c, 0, none⟩ = some (.int .i64 5) := Lib.cell_of_heap h10 0
          have y10 : w10.cell? ⟨c, 1, none⟩ = some (.string y) := Lib.cell_of_heap h10 1
          have H10 := Lib.hid h10
          clear hb10 h10 x9 y9
          go_wp2_with fail
          with_reducible refine (RIsTok_any 5 y w10 (by omega)).mono ?_
          rw [HI.out]
          rintro e w11 ⟨rfl, hb11⟩
          have hB11 := hB10.trans (hb11.mono hB10.size)
          have h11 := (hb11.block c hl10).trans H10.out
          have hl11 := Nat.lt_of_lt_of_le hl10 hb11.size
          have x11 : w11.cell? ⟨c, 0, none⟩ = some (.int .i64 5) := Lib.cell_of_heap h11 0
          have y11 : w11.cell? ⟨c, 1, none⟩ = some (.string y) := Lib.cell_of_heap h11 1
          have H11 := Lib.hid h11
          clear hb11 h11 x10 y10
          go_wp2_with fail
          with_reducible refine (RNumber_any y w11 (by omega) HD.out).mono ?_
          rintro e w11 ⟨rfl, rfl⟩
          go_wp2_with fail
          with_reducible refine (alive_any w11 (HT.out.below hB11)).mono ?_
          rintro e wz ⟨rfl, hbz⟩
          go_wp2_with fail
          go_ret
          exact ⟨rfl, hB11.trans (hbz.mono hB11.size)⟩
        · have HU : Hid (unquoteR k y = (ByteArray.empty, 4)) := Lib.hid (by unfold unquoteR; rw [if_neg h6])
          have HN : Hid (numT k y = (0, false, 4)) := Lib.hid (by unfold numT; rw [if_neg h50])
          cases hi : isTok (k, y)
          · have HI := Lib.hid hi
            clear hi h6 h50
            have H5 := Lib.hid h5
            have hl5 : c < w5.heap.size := lt_of_cell (Lib.cell_of_heap h5 0)
            clear h5
            go_wp2_with fail
            with_reducible refine (Quote_any s w5).mono ?_
            rw [HR.out]
            rintro e w6 ⟨rfl, hb6⟩
            have hB6 := hB5.trans (hb6.mono hB5.size)
            have h6 := (hb6.block c hl5).trans H5.out
            have hl6 := Nat.lt_of_lt_of_le hl5 hb6.size
            have x6 : w6.cell? ⟨c, 0, none⟩ = some (.int .i64 k) := Lib.cell_of_heap h6 0
            have y6 : w6.cell? ⟨c, 1, none⟩ = some (.string y) := Lib.cell_of_heap h6 1
            have H6 := Lib.hid h6
            clear hb6 h6
            go_wp2_with fail
            with_reducible refine (Unquote_any k y w6 (HT.out.below hB6)).mono ?_
            rw [HU.out]
            rintro e w7 ⟨rfl, hb7⟩
            have hB7 := hB6.trans (hb7.mono hB6.size)
            have h7 := (hb7.block c hl6).trans H6.out
            have hl7 := Nat.lt_of_lt_of_le hl6 hb7.size
            have x7 : w7.cell? ⟨c, 0, none⟩ = some (.int .i64 k) := Lib.cell_of_heap h7 0
            have y7 : w7.cell? ⟨c, 1, none⟩ = some (.string y) := Lib.cell_of_heap h7 1
            have H7 := Lib.hid h7
            clear hb7 h7 x6 y6
            go_wp2_with fail
            with_reducible refine (Number_any k y w7 (HT.out.below hB7) (HV.out.below hB7)).mono ?_
            rw [HN.out]
            rintro e w8 ⟨rfl, hb8⟩
            have hB8 := hB7.trans (hb8.mono hB7.size)
            have h8 := (hb8.block c hl7).trans H7.out
            have hl8 := Nat.lt_of_lt_of_le hl7 hb8.size
            have x8 : w8.cell? ⟨c, 0, none⟩ = some (.int .i64 k) := Lib.cell_of_heap h8 0
            have y8 : w8.cell? ⟨c, 1, none⟩ = some (.string y) := Lib.cell_of_heap h8 1
            have H8 := Lib.hid h8
            clear hb8 h8 x7 y7
            go_wp2_with fail
            with_reducible refine (RQuote_any s w8 (by omega)).mono ?_
            rintro e w9 ⟨rfl, hb9⟩
            have hB9 := hB8.trans (hb9.mono hB8.size)
            have h9 := (hb9.block c hl8).trans H8.out
            have hl9 := Nat.lt_of_lt_of_le hl8 hb9.size
            have x9 : w9.cell? ⟨c, 0, none⟩ = some (.int .i64 k) := Lib.cell_of_heap h9 0
            have y9 : w9.cell? ⟨c, 1, none⟩ = some (.string y) := Lib.cell_of_heap h9 1
            have H9 := Lib.hid h9
            clear hb9 h9 x8 y8
            go_wp2_with fail
            with_reducible refine (RIsTok_any k y w9 (by omega)).mono ?_
            rw [HI.out]
            rintro e w10 ⟨rfl, hb10⟩
            have hB10 := hB9.trans (hb10.mono hB9.size)
            have h10 := (hb10.block c hl9).trans H9.out
            have hl10 := Nat.lt_of_lt_of_le hl9 hb10.size
            have x10 : w10.cell? ⟨c, 0, none⟩ = some (.int .i64 k) := Lib.cell_of_heap h10 0
            have y10 : w10.cell? ⟨c, 1, none⟩ = some (.string y) := Lib.cell_of_heap h10 1
            have H10 := Lib.hid h10
            clear hb10 h10 x9 y9
            go_wp2_with fail
            with_reducible refine (RIsTok_any k y w10 (by omega)).mono ?_
            rw [HI.out]
            rintro e w11 ⟨rfl, hb11⟩
            have hB11 := hB10.trans (hb11.mono hB10.size)
            have h11 := (hb11.block c hl10).trans H10.out
            have hl11 := Nat.lt_of_lt_of_le hl10 hb11.size
            have x11 : w11.cell? ⟨c, 0, none⟩ = some (.int .i64 k) := Lib.cell_of_heap h11 0
            have y11 : w11.cell? ⟨c, 1, none⟩ = some (.string y) := Lib.cell_of_heap h11 1
            have H11 := Lib.hid h11
            clear hb11 h11 x10 y10
            go_wp2_with fail
            with_reducible refine (alive_any w11 (HT.out.below hB11)).mono ?_
            rintro e wz ⟨rfl, hbz⟩
            go_wp2_with fail
            go_ret
            exact ⟨rfl, hB11.trans (hbz.mono hB11.size)⟩
          · have HI := Lib.hid hi
            have k6 : k ≠ 6 := fun h => h6 ⟨h, by rw [← h]; exact hi⟩
            have k5 : k ≠ 5 := fun h => h50 ⟨h, by rw [← h]; exact hi⟩
            have kb6 : (k != 6) = true := by simpa using k6
            have kb5 : (k != 5) = true := by simpa using k5
            clear hi h6 h50 k5 k6
            have H5 := Lib.hid h5
            have hl5 : c < w5.heap.size := lt_of_cell (Lib.cell_of_heap h5 0)
            clear h5
            go_wp2_with fail
            with_reducible refine (Quote_any s w5).mono ?_
            rw [HR.out]
            rintro e w6 ⟨rfl, hb6⟩
            have hB6 := hB5.trans (hb6.mono hB5.size)
            have h6 := (hb6.block c hl5).trans H5.out
            have hl6 := Nat.lt_of_lt_of_le hl5 hb6.size
            have x6 : w6.cell? ⟨c, 0, none⟩ = some (.int .i64 k) := Lib.cell_of_heap h6 0
            have y6 : w6.cell? ⟨c, 1, none⟩ = some (.string y) := Lib.cell_of_heap h6 1
            have H6 := Lib.hid h6
            clear hb6 h6
            go_wp2_with fail
            with_reducible refine (Unquote_any k y w6 (HT.out.below hB6)).mono ?_
            rw [HU.out]
            rintro e w7 ⟨rfl, hb7⟩
            have hB7 := hB6.trans (hb7.mono hB6.size)
            have h7 := (hb7.block c hl6).trans H6.out
            have hl7 := Nat.lt_of_lt_of_le hl6 hb7.size
            have x7 : w7.cell? ⟨c, 0, none⟩ = some (.int .i64 k) := Lib.cell_of_heap h7 0
            have y7 : w7.cell? ⟨c, 1, none⟩ = some (.string y) := Lib.cell_of_heap h7 1
            have H7 := Lib.hid h7
            clear hb7 h7 x6 y6
            go_wp2_with fail
            with_reducible refine (Number_any k y w7 (HT.out.below hB7) (HV.out.below hB7)).mono ?_
            rw [HN.out]
            rintro e w8 ⟨rfl, hb8⟩
            have hB8 := hB7.trans (hb8.mono hB7.size)
            have h8 := (hb8.block c hl7).trans H7.out
            have hl8 := Nat.lt_of_lt_of_le hl7 hb8.size
            have x8 : w8.cell? ⟨c, 0, none⟩ = some (.int .i64 k) := Lib.cell_of_heap h8 0
            have y8 : w8.cell? ⟨c, 1, none⟩ = some (.string y) := Lib.cell_of_heap h8 1
            have H8 := Lib.hid h8
            clear hb8 h8 x7 y7
            go_wp2_with fail
            with_reducible refine (RQuote_any s w8 (by omega)).mono ?_
            rintro e w9 ⟨rfl, hb9⟩
            have hB9 := hB8.trans (hb9.mono hB8.size)
            have h9 := (hb9.block c hl8).trans H8.out
            have hl9 := Nat.lt_of_lt_of_le hl8 hb9.size
            have x9 : w9.cell? ⟨c, 0, none⟩ = some (.int .i64 k) := Lib.cell_of_heap h9 0
            have y9 : w9.cell? ⟨c, 1, none⟩ = some (.string y) := Lib.cell_of_heap h9 1
            have H9 := Lib.hid h9
            clear hb9 h9 x8 y8
            go_wp2_with fail
            with_reducible refine (RIsTok_any k y w9 (by omega)).mono ?_
            rw [HI.out]
            rintro e w10 ⟨rfl, hb10⟩
            have hB10 := hB9.trans (hb10.mono hB9.size)
            have h10 := (hb10.block c hl9).trans H9.out
            have hl10 := Nat.lt_of_lt_of_le hl9 hb10.size
            have x10 : w10.cell? ⟨c, 0, none⟩ = some (.int .i64 k) := Lib.cell_of_heap h10 0
            have y10 : w10.cell? ⟨c, 1, none⟩ = some (.string y) := Lib.cell_of_heap h10 1
            have H10 := Lib.hid h10
            clear hb10 h10 x9 y9
            go_wp2_with fail
            with_reducible refine (RIsTok_any k y w10 (by omega)).mono ?_
            rw [HI.out]
            rintro e w11 ⟨rfl, hb11⟩
            have hB11 := hB10.trans (hb11.mono hB10.size)
            have h11 := (hb11.block c hl10).trans H10.out
            have hl11 := Nat.lt_of_lt_of_le hl10 hb11.size
            have x11 : w11.cell? ⟨c, 0, none⟩ = some (.int .i64 k) := Lib.cell_of_heap h11 0
            have y11 : w11.cell? ⟨c, 1, none⟩ = some (.string y) := Lib.cell_of_heap h11 1
            have H11 := Lib.hid h11
            clear hb11 h11 x10 y10
            go_wp2_with fail
            with_reducible refine (alive_any w11 (HT.out.below hB11)).mono ?_
            rintro e wz ⟨rfl, hbz⟩
            go_wp2_with fail
            go_ret
            exact ⟨rfl, hB11.trans (hbz.mono hB11.size)⟩
end Go.Proofs.YtkaceghngjpemaaDoor.lawTokenQuotes
