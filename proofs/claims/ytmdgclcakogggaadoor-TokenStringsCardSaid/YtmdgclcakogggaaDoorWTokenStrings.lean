/-
  TokenStrings: Unquote of Quote is the string, which is a token; Quote of Unquote the token's text.
  No condition: every input.
-/
import Derived.Test.YtmdgclcakogggaaDoorTkAlive
import Derived.Test.YtmdgclcakogggaaDoorTkQu
import Derived.Test.YtmdgclcakogggaaDoorTkOne
import Derived.Deep.RegionLaw
namespace Go.Proofs.YtmdgclcakogggaaDoor.lawTokenStrings
set_option linter.unusedVariables false
set_option linter.unusedSimpArgs false
open Go.ChangeShapes Go.WideShapes Go.RowKit
open Go.ChangeMaps (open_string shut_string)

set_option maxRecDepth 100000 in
set_option maxHeartbeats 1000000 in
theorem walk (t : ByteArray) (ht : t.size ≤ maxLen) (k : Int) (x : ByteArray) (hx : x.size ≤ maxLen) (w : World) (hT : Tabs w) :
    Calls Tryd.prog 9 #[.string t, .agg #[.int .i64 k, .string x]] w fun e w' => e = .returned (.bool true) ∧ Below w.heap.size w w' := by
  have hsh : ∀ W, _ := fun W => ShortT_any t W ht
  have hone : ∀ W, _ := fun W => One_any k x W hx
  have hst := shortT_size t
  have hsx := shortT_size x
  generalize shortT t = s at hsh hst
  generalize shortT x = y at hone hsx
  have Hsh := Lib.hid hsh
  have Hone := Lib.hid hone
  have HT := Lib.hid hT
  obtain ⟨w0, hw0⟩ : ∃ w0, w0 = w.alloc (.cells #[.int .i64 k, .string x] 44) := ⟨_, rfl⟩
  have hB0 : Below w.heap.size w w0 := by rw [hw0]; exact (Below.refl _ _).alloc (Nat.le_refl _) _
  have hb0 : w0.heap[w.heap.size]? = some (.cells #[.int .i64 k, .string x] 44 (0, 0)) := by rw [hw0]; exact heap_alloc_new w _
  have m0 : w0.cell? ⟨w.heap.size, 0, none⟩ = some (.int .i64 k) := Lib.cell_of_heap hb0 0
  have m1 : w0.cell? ⟨w.heap.size, 1, none⟩ = some (.string x) := Lib.cell_of_heap hb0 1
  have hlt0 : w.heap.size < w0.heap.size := by rw [hw0]; simp
  have HB0 := Lib.hid hB0
  have hs20 : s.size ≤ 20001 := by omega
  clear hsh hone hst hsx hT ht hx hB0 hb0
  go_enter Tryd.func9, Tryd.ntmps9
  go_wp2_with fail
  rw [← hw0]
  clear hw0
  go_region_law ((first
    | (go_simp
       go_at_call 12
       with_reducible refine (Hsh.out _).mono ?_
       rintro e wS ⟨rfl, rfl⟩)
    | (go_simp
       go_at_call 28
       with_reducible refine (Hone.out _).mono ?_
       rintro e wO ⟨rfl, hbO⟩
       have hz : wO.heap[w0.heap.size]? = some (.cells #[.int .i64 0, .string { data := #[] }] 44 (0, 0)) := (hbO.block w0.heap.size (by simp)).trans (heap_alloc_new _ _)
       have q0 : wO.cell? ⟨w0.heap.size, 0, none⟩ = some (.int .i64 0) := Lib.cell_of_heap hz 0
       have q1 : wO.cell? ⟨w0.heap.size, 1, none⟩ = some (.string { data := #[] }) := Lib.cell_of_heap hz 1
       have r0 : wO.frozen? ⟨w0.heap.size, 0, none⟩ = false := by simp [World.frozen?, hz]
       have r1 : wO.frozen? ⟨w0.heap.size, 1, none⟩ = false := by simp [World.frozen?, hz])
    | (go_simp
       go_at_call 28
       with_reducible refine (Hone.out _).mono ?_
       rintro e wO ⟨rfl, hbO⟩)))
  -- ONE WORLD
  all_goals
    have hBO : Below w0.heap.size w0 wO := by
      first
      | exact (Below.drew (Below.refl w0.heap.size w0)).trans hbO
      | exact (Below.drew ((Below.refl w0.heap.size w0).alloc (Nat.le_refl _) _)).trans (hbO.mono (by simp))
      | exact hbO
    have HBO := Lib.hid (HB0.out.trans (hBO.mono HB0.out.size))
    first
    | (obtain ⟨c, hc⟩ : ∃ c, c = wO.heap.size := ⟨_, rfl⟩
       obtain ⟨w5, hw5⟩ : ∃ w5, w5 = wO.alloc (.cells #[.int .i64 k, .string y] 44) := ⟨_, rfl⟩
       have hB5 : Below w.heap.size w w5 := by rw [hw5]; exact HBO.out.alloc HBO.out.size _
       have h5 : w5.heap[c]? = some (.cells #[.int .i64 k, .string y] 44 (0, 0)) := by rw [hw5, hc]; exact heap_alloc_new wO _
       rw [← hw5, ← hc]
       clear hw5 hc hbO hBO)
    | (obtain ⟨c, hc⟩ : ∃ c, c = w0.heap.size := ⟨_, rfl⟩
       obtain ⟨w5, hw5⟩ : ∃ w5, w5 = (wO.setCell ⟨w0.heap.size, 0, none⟩ (.int .i64 k)).setCell ⟨w0.heap.size, 1, none⟩ (.string y) := ⟨_, rfl⟩
       have hB5 : Below w.heap.size w w5 := by rw [hw5]; exact (HBO.out.setCell (p := ⟨w0.heap.size, 0, none⟩) (Nat.le_of_lt hlt0) _).setCell (p := ⟨w0.heap.size, 1, none⟩) (Nat.le_of_lt hlt0) _
       have h5 : w5.heap[c]? = some (.cells #[.int .i64 k, .string y] 44 (0, 0)) := by
         rw [hw5, hc]
         unfold World.setCell
         simp only [Array.getElem?_modify, hz]
         simp
       rw [← hw5, ← hc]
       clear hw5 hc hbO hBO hz q0 q1 r0 r1)
    have hlc : c < w5.heap.size := lt_of_cell (Lib.cell_of_heap h5 0)
    clear m0 m1
    by_cases hq : (qList (byt s)).length + 2 ≤ 20000
    · have HR : Hid (quoteR s = (quoteB s, 0)) := Lib.hid (by unfold quoteR; rw [if_pos hq])
      have HUQ := Lib.hid (unquote_quote s hq)
      have HTQ := Lib.hid (quote_tok s hq)
      have H5 := Lib.hid h5
      clear hq h5
      go_wp2_with fail
      with_reducible refine (Quote_any s w5).mono ?_
      rw [HR.out]
      rintro e w6 ⟨rfl, hb6⟩
      have hB6 := hB5.trans (hb6.mono hB5.size)
      have hblk6 := (hb6.block c hlc).trans H5.out
      have hlc6 := Nat.lt_of_lt_of_le hlc hb6.size
      obtain ⟨w7, hw7⟩ : ∃ w7, w7 = w6.alloc (.cells #[.int .i64 6, .string (quoteB s)] 44) := ⟨_, rfl⟩
      have hb7 : Below w6.heap.size w6 w7 := by rw [hw7]; exact (Below.refl _ _).alloc (Nat.le_refl _) _
      have hq7 : w7.heap[w6.heap.size]? = some (.cells #[.int .i64 6, .string (quoteB s)] 44 (0, 0)) := by rw [hw7]; exact heap_alloc_new w6 _
      have hB7 := hB6.trans (hb7.mono hB6.size)
      have hblk7 := (hb7.block c hlc6).trans hblk6
      have hl7 : w6.heap.size < w7.heap.size := by rw [hw7]; simp
      clear hblk6
      go_wp2_with fail
      rw [← hw7]
      clear hw7
      with_reducible refine (Unquote_any 6 (quoteB s) w7 (HT.out.below hB7)).mono ?_
      rw [HUQ.out]
      rintro e w8 ⟨rfl, hb8⟩
      have hB8 := hB7.trans (hb8.mono hB7.size)
      have hblk8 := (hb8.block c (Nat.lt_of_lt_of_le hlc6 hb7.size)).trans hblk7
      have hq8 := (hb8.block _ hl7).trans hq7
      have u0 : w8.cell? ⟨w6.heap.size, 0, none⟩ = some (.int .i64 6) := Lib.cell_of_heap hq8 0
      have u1 : w8.cell? ⟨w6.heap.size, 1, none⟩ = some (.string (quoteB s)) := Lib.cell_of_heap hq8 1
      have hlc8 := Nat.lt_of_lt_of_le (Nat.lt_of_lt_of_le hlc6 hb7.size) hb8.size
      have HB8 := Lib.hid hblk8
      clear hblk7 hblk8 hq7 hq8
      go_wp2_with fail
      with_reducible refine (IsToken_any 6 (quoteB s) w8 (HT.out.below hB8)).mono ?_
      rw [HTQ.out]
      rintro e w9 ⟨rfl, hb9⟩
      have hB9 := hB8.trans (hb9.mono hB8.size)
      have hblk9 := (hb9.block c hlc8).trans HB8.out
      have p2 : w9.cell? ⟨c, 0, none⟩ = some (.int .i64 k) := Lib.cell_of_heap hblk9 0
      have p3 : w9.cell? ⟨c, 1, none⟩ = some (.string y) := Lib.cell_of_heap hblk9 1
      have hlcw := lt_of_cell p2
      simp only at hlcw
      by_cases hu : k = 6 ∧ isTok (6, y) = true
      · obtain ⟨rfl, hu⟩ := hu
        have HQ := Lib.hid (quote_unquote hu)
        obtain ⟨U, hU⟩ : ∃ U, U = (unquoteR 6 y).1 := ⟨_, rfl⟩
        have hU2 : unquoteR 6 y = (U, 0) := by
          rw [hU]
          unfold unquoteR
          rw [if_pos ⟨rfl, hu⟩]
        have HU2 := Lib.hid hU2
        have HU := Lib.hid hU
        have HBLK := Lib.hid hblk9
        clear hU hU2 hu
        go_wp2_with fail
        with_reducible refine (Unquote_any 6 y w9 (HT.out.below hB9)).mono ?_
        rw [HU2.out]
        rintro e wa ⟨rfl, hba⟩
        have hBa := hB9.trans (hba.mono hB9.size)
        have hblka := (hba.block c hlcw).trans HBLK.out
        go_wp2_with fail
        with_reducible refine (Quote_any U wa).mono ?_
        rw [HU.out, HQ.out]
        rintro e wb ⟨rfl, hbb⟩
        have hBb := hBa.trans (hbb.mono hBa.size)
        have p4 : wb.cell? ⟨c, 1, none⟩ = some (.string y) := Lib.cell_of_heap ((hbb.block c (Nat.lt_of_lt_of_le hlcw hba.size)).trans hblka) 1
        go_wp2_with fail
        with_reducible refine (alive_any wb (HT.out.below hBb)).mono ?_
        rintro e wz ⟨rfl, hbz⟩
        go_wp2_with fail
        go_ret
        exact ⟨rfl, hBb.trans (hbz.mono hBb.size)⟩
      · have hU2 : unquoteR k y = (ByteArray.empty, 4) := by unfold unquoteR; rw [if_neg hu]
        have HU2 := Lib.hid hU2
        have q9 : ByteArray.empty.toList = [] := by decide +kernel
        clear hU2 hu
        go_wp2_with fail
        with_reducible refine (Unquote_any k y w9 (HT.out.below hB9)).mono ?_
        rw [HU2.out]
        rintro e wa ⟨rfl, hba⟩
        have hBa := hB9.trans (hba.mono hB9.size)
        go_wp2_with fail
        with_reducible refine (alive_any wa (HT.out.below hBa)).mono ?_
        rintro e wz ⟨rfl, hbz⟩
        go_wp2_with fail
        go_ret
        exact ⟨rfl, hBa.trans (hbz.mono hBa.size)⟩
    · have HR : Hid (quoteR s = (ByteArray.empty, 3)) := Lib.hid (by unfold quoteR; rw [if_neg hq])
      have hql := qList_le (byt s)
      rw [byt_length] at hql
      have H5 := Lib.hid h5
      have s1 : IntKind.i64.wrap (2 * (s.size : Int)) = 2 * (s.size : Int) := IntWalk.i64_in _ (by omega)
      have s2 : IntKind.i64.wrap (2 * (s.size : Int) + 2) = 2 * (s.size : Int) + 2 := IntWalk.i64_in _ (by omega)
      have q8 : decide (2 * (s.size : Int) + 2 ≤ 20000) = false := by simp; omega
      clear hq h5 hql
      go_wp2_with fail
      with_reducible refine (Quote_any s w5).mono ?_
      rw [HR.out]
      rintro e w6 ⟨rfl, hb6⟩
      have hB6 := hB5.trans (hb6.mono hB5.size)
      have hblk6 := (hb6.block c hlc).trans H5.out
      have p2 : w6.cell? ⟨c, 0, none⟩ = some (.int .i64 k) := Lib.cell_of_heap hblk6 0
      have p3 : w6.cell? ⟨c, 1, none⟩ = some (.string y) := Lib.cell_of_heap hblk6 1
      have hlcw := lt_of_cell p2
      simp only at hlcw
      by_cases hu : k = 6 ∧ isTok (6, y) = true
      · obtain ⟨rfl, hu⟩ := hu
        have HQ := Lib.hid (quote_unquote hu)
        obtain ⟨U, hU⟩ : ∃ U, U = (unquoteR 6 y).1 := ⟨_, rfl⟩
        have hU2 : unquoteR 6 y = (U, 0) := by
          rw [hU]
          unfold unquoteR
          rw [if_pos ⟨rfl, hu⟩]
        have HU2 := Lib.hid hU2
        have HU := Lib.hid hU
        have HBLK := Lib.hid hblk6
        clear hU hU2 hu
        go_wp2_with fail
        with_reducible refine (Unquote_any 6 y w6 (HT.out.below hB6)).mono ?_
        rw [HU2.out]
        rintro e wa ⟨rfl, hba⟩
        have hBa := hB6.trans (hba.mono hB6.size)
        have hblka := (hba.block c hlcw).trans HBLK.out
        go_wp2_with fail
        with_reducible refine (Quote_any U wa).mono ?_
        rw [HU.out, HQ.out]
        rintro e wb ⟨rfl, hbb⟩
        have hBb := hBa.trans (hbb.mono hBa.size)
        have p4 : wb.cell? ⟨c, 1, none⟩ = some (.string y) := Lib.cell_of_heap ((hbb.block c (Nat.lt_of_lt_of_le hlcw hba.size)).trans hblka) 1
        go_wp2_with fail
        with_reducible refine (alive_any wb (HT.out.below hBb)).mono ?_
        rintro e wz ⟨rfl, hbz⟩
        go_wp2_with fail
        go_ret
        exact ⟨rfl, hBb.trans (hbz.mono hBb.size)⟩
      · have hU2 : unquoteR k y = (ByteArray.empty, 4) := by unfold unquoteR; rw [if_neg hu]
        have HU2 := Lib.hid hU2
        have q9 : ByteArray.empty.toList = [] := by decide +kernel
        clear hU2 hu
        go_wp2_with fail
        with_reducible refine (Unquote_any k y w6 (HT.out.below hB6)).mono ?_
        rw [HU2.out]
        rintro e wa ⟨rfl, hba⟩
        have hBa := hB6.trans (hba.mono hB6.size)
        go_wp2_with fail
        with_reducible refine (alive_any wa (HT.out.below hBa)).mono ?_
        rintro e wz ⟨rfl, hbz⟩
        go_wp2_with fail
        go_ret
        exact ⟨rfl, hBa.trans (hbz.mono hBa.size)⟩
end Go.Proofs.YtmdgclcakogggaaDoor.lawTokenStrings
