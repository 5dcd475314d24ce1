/-
  TreeAts: At, Span and Core return what is at any position of any Node, or the error. No condition: every input. (gen_wta.py)
-/
import Derived.Test.YtgihkojlpaebiaaDoorTreeAtsp34
import Derived.Test.YtgihkojlpaebiaaDoorTreeAtsp36
import Derived.Test.YtgihkojlpaebiaaDoorTreeAtsp37
import Derived.Test.YtgihkojlpaebiaaDoorTreeAtsp24
import Derived.Test.YtgihkojlpaebiaaDoorTreeAtsp25
import Derived.Deep.RegionHeld3
import Derived.Deep.DeepCutAuto
namespace Go.Proofs.YtgihkojlpaebiaaDoor.lawTreeAts
set_option linter.unusedVariables false
set_option linter.unusedSimpArgs false
open Go.ChangeShapes Go.WideShapes Go.RowKit

set_option maxRecDepth 100000 in
set_option maxHeartbeats 4000000 in
theorem walk (n0 : Nd) (v0 : Value) (hr0 : rawN n0) (A1 : Option Addr) (c1 : Nat) (l1 : List Int) (hl1 : l1.length ≤ c1) (hc1 : c1 ≤ maxLen) (w : World) (hT : Tabs w) (hN0 : NodeV w v0 n0) (hE1 : IntsA w A1 l1) :
    Calls Tryd.prog 6 #[v0, .slice A1 l1.length c1] w fun e w' => e = .returned (.bool true) ∧ Below w.heap.size w w' := by
  have hN := hN0
  obtain ⟨A0, c0, rfl, hk0⟩ := hN0
  have hB0 : Below w.heap.size w (w.alloc (.cells (nodeCells n0 A0 c0) 26)) := (Below.refl _ _).alloc (Nat.le_refl _) _
  have hcut := Cut_any n0 _ (w.alloc (.cells (nodeCells n0 A0 c0) 26)) hr0 (hN.below hB0)
  have hz := SmZ.of_cut (most := 600) (by decide) (by decide) n0
  have HT := Lib.hid (show _ ∧ _ ∧ _ ∧ _ from ⟨tabs_alloc (o := .cells (nodeCells n0 A0 c0) 26) hT, hE1.below hB0, hl1, hc1⟩)
  have HSh := Lib.hid (fun W (h : IntsA W A1 l1) => short_any A1 c1 l1 W hl1 hc1 h)
  have hLl : (l1.take 40).length ≤ 1000000000 := by rw [List.length_take]; omega
  generalize cutM 600 n0 = z at hcut hz
  generalize l1.take 40 = L at HSh hLl
  have Hcut := Lib.hid hcut
  have HZ := Lib.hid (show _ ∧ _ ∧ _ ∧ _ from ⟨hz, hz.size, hz.sum, hLl⟩)
  have HB0 := Lib.hid hB0
  clear hcut hz hT hN hk0 hr0 hB0 hE1 hl1 hc1 hLl
  cases hf : formedB z with
  | false =>
    have HE : goErr z L = 4 := by unfold goErr; rw [if_pos hf]
    have h16 := fun W v (h : NodeV W v z) => RIsFormed_any z v W (Nat.le_trans HZ.out.1.count (by decide)) HZ.out.1.sm h
    rw [rFormB_eq, hf] at h16
    have HH16 := Lib.hid h16
    have HF16 := fun W v (h : NodeV W v z) => HH16.out W v h
    clear h16 hf
    go_enter Tryd.func6, Tryd.ntmps6
    go_wp2_with (go_at_call 15; refine Hcut.out.mono ?_; rintro e w1 ⟨v1, rfl, ⟨A, c, rfl, hcc, hkp⟩, hb1⟩)
    refine (HSh.out w1 (HT.out.2.1.below hb1)).mono ?_
    rintro e w2 ⟨v2, rfl, hrow, hb2⟩
    obtain ⟨Ap, cp, rfl, _, hI⟩ := IntsR.of_ownI hrow
    have hBw : Below w.heap.size w w2 := (HB0.out.trans (hb1.mono HB0.out.size)).trans (hb2.mono (HB0.out.trans (hb1.mono HB0.out.size)).size)
    have hK3 : KA z A c w2.heap.size L Ap (w2.alloc (.cells (nodeCells z A c) 26)) := ⟨KeepZ.of hcc (hkp.below hb2 (fun _ _ _ => trivial) (P' := fun _ => True)) ((HT.out.1.below hb1).below hb2), hI.below (allocB _ _)⟩
    have K3 := Lib.hid hK3
    have B3 := Lib.hid (hBw.alloc (o := .cells (nodeCells z A c) 26) hBw.size)
    clear hrow hb1 hb2 hkp hcc hI hBw hK3
    obtain ⟨q0, q1, q2, q3⟩ := cells_of_block K3.out.kz.box
    go_wp2_with fail
    clear q0 q1 q2 q3
    refine (At_err z _ L Ap cp (w2.alloc (.cells (nodeCells z A c) 26)) 4 HZ.out.2.1 HZ.out.2.2.1 K3.out.kz.tabs K3.out.kz.nodeC HZ.out.2.2.2 K3.out.ints HE (by decide)).mono ?_
    rintro e w4 ⟨rfl, hb⟩
    have K4 := Lib.hid (K3.out.below hb)
    have B4 := Lib.hid (B3.out.trans (hb.mono B3.out.size))
    have hlt5 : w2.heap.size < w4.heap.size := (Array.getElem?_eq_some_iff.1 K4.out.kz.box).1
    clear hb
    obtain ⟨q0, q1, q2, q3⟩ := cells_of_block K4.out.kz.box
    go_wp2_with fail
    try clear q0 q1 q2 q3 hlt5
    have K4 := Lib.hid (K4.out.below (allocB w4 (.cells #[.int .i64 0, .int .i64 0, .string { data := #[] }, .slice none 0 0] 26)))
    have B4 := Lib.hid (B4.out.alloc (o := .cells #[.int .i64 0, .int .i64 0, .string { data := #[] }, .slice none 0 0] 26) B4.out.size)
    have N7 := Lib.hid (show (w4.alloc (.cells #[.int .i64 0, .int .i64 0, .string { data := #[] }, .slice none 0 0] 26)).heap[w4.heap.size]? = some (.cells #[.int .i64 0, .int .i64 0, .string { data := #[] }, .slice none 0 0] 26 (0, 0)) from alloc_at _ _ _ rfl)
    refine (Span_err z _ L Ap cp (w4.alloc (.cells #[.int .i64 0, .int .i64 0, .string { data := #[] }, .slice none 0 0] 26)) 4 HZ.out.2.1 HZ.out.2.2.1 K4.out.kz.tabs K4.out.kz.nodeC HZ.out.2.2.2 K4.out.ints HE (by decide)).mono ?_
    rintro e w5 ⟨rfl, hb⟩
    have K5 := Lib.hid (K4.out.below hb)
    have B5 := Lib.hid (B4.out.trans (hb.mono B4.out.size))
    have N7 := Lib.hid (keepB N7.out hb)
    have hlt5 : w2.heap.size < w5.heap.size := (Array.getElem?_eq_some_iff.1 K5.out.kz.box).1
    clear hb
    obtain ⟨q0, q1, q2, q3⟩ := cells_of_block K5.out.kz.box
    go_wp2_with fail
    try clear q0 q1 q2 q3 hlt5
    have K5 := Lib.hid (K5.out.below (allocB w5 (.cells #[.int .i64 0, .int .i64 0] 62)))
    have B5 := Lib.hid (B5.out.alloc (o := .cells #[.int .i64 0, .int .i64 0] 62) B5.out.size)
    have N7 := Lib.hid (keepB N7.out (allocB w5 (.cells #[.int .i64 0, .int .i64 0] 62)))
    have N9 := Lib.hid (show (w5.alloc (.cells #[.int .i64 0, .int .i64 0] 62)).heap[w5.heap.size]? = some (.cells #[.int .i64 0, .int .i64 0] 62 (0, 0)) from alloc_at _ _ _ rfl)
    refine (Core_err z _ L Ap cp (w5.alloc (.cells #[.int .i64 0, .int .i64 0] 62)) 4 HZ.out.2.1 HZ.out.2.2.1 K5.out.kz.tabs K5.out.kz.nodeC HZ.out.2.2.2 K5.out.ints HE (by decide)).mono ?_
    rintro e w6 ⟨rfl, hb⟩
    have K6 := Lib.hid (K5.out.below hb)
    have B6 := Lib.hid (B5.out.trans (hb.mono B5.out.size))
    have N7 := Lib.hid (keepB N7.out hb)
    have N9 := Lib.hid (keepB N9.out hb)
    have hlt5 : w2.heap.size < w6.heap.size := (Array.getElem?_eq_some_iff.1 K6.out.kz.box).1
    clear hb
    obtain ⟨q0, q1, q2, q3⟩ := cells_of_block K6.out.kz.box
    go_wp2_with fail
    try clear q0 q1 q2 q3 hlt5
    have K6 := Lib.hid (K6.out.below (allocB w6 (.cells #[.int .i64 0, .int .i64 0] 62)))
    have B6 := Lib.hid (B6.out.alloc (o := .cells #[.int .i64 0, .int .i64 0] 62) B6.out.size)
    have N7 := Lib.hid (keepB N7.out (allocB w6 (.cells #[.int .i64 0, .int .i64 0] 62)))
    have N9 := Lib.hid (keepB N9.out (allocB w6 (.cells #[.int .i64 0, .int .i64 0] 62)))
    have N11 := Lib.hid (show (w6.alloc (.cells #[.int .i64 0, .int .i64 0] 62)).heap[w6.heap.size]? = some (.cells #[.int .i64 0, .int .i64 0] 62 (0, 0)) from alloc_at _ _ _ rfl)
    refine (HF16 _ _ K6.out.kz.node).mono ?_
    rintro e w7 ⟨rfl, hb⟩
    have K7 := Lib.hid (K6.out.below hb)
    have B7 := Lib.hid (B6.out.trans (hb.mono B6.out.size))
    have N7 := Lib.hid (keepB N7.out hb)
    have N9 := Lib.hid (keepB N9.out hb)
    have N11 := Lib.hid (keepB N11.out hb)
    have hlt5 : w2.heap.size < w7.heap.size := (Array.getElem?_eq_some_iff.1 K7.out.kz.box).1
    clear hb
    obtain ⟨q0, q1, q2, q3⟩ := cells_of_block K7.out.kz.box
    have s0 := Lib.cell_of_heap N7.out 0
    have s1 := Lib.cell_of_heap N7.out 1
    have s2 := Lib.cell_of_heap N7.out 2
    have s3 := Lib.cell_of_heap N7.out 3
    go_wp2_with fail
    try clear q0 q1 q2 q3 hlt5
    try clear s0 s1 s2 s3
    refine (RSame_zero w7).mono ?_
    rintro e w8 ⟨rfl, hb⟩
    have K8 := Lib.hid (K7.out.below hb)
    have B8 := Lib.hid (B7.out.trans (hb.mono B7.out.size))
    have N7 := Lib.hid (keepB N7.out hb)
    have N9 := Lib.hid (keepB N9.out hb)
    have N11 := Lib.hid (keepB N11.out hb)
    have hlt5 : w2.heap.size < w8.heap.size := (Array.getElem?_eq_some_iff.1 K8.out.kz.box).1
    clear hb
    have s0 := Lib.cell_of_heap N9.out 0
    have s1 := Lib.cell_of_heap N9.out 1
    have r0 := Lib.cell_of_heap N11.out 0
    have r1 := Lib.cell_of_heap N11.out 1
    go_wp2_with fail
    refine (alive5_any w8 K8.out.kz.tabs).mono ?_
    rintro e w9 ⟨rfl, hb⟩
    have BL := Lib.hid (B8.out.trans (hb.mono B8.out.size))
    clear hb
    go_wp2_with fail
    go_ret
    exact ⟨rfl, BL.out⟩
  | true =>
    have h16 := fun W v (h : NodeV W v z) => RIsFormed_any z v W (Nat.le_trans HZ.out.1.count (by decide)) HZ.out.1.sm h
    rw [rFormB_eq, hf] at h16
    have HH16 := Lib.hid h16
    have HF16 := fun W v (h : NodeV W v z) => HH16.out W v h
    have hh := fun W v A c (h : NodeP (fun _ => True) W v z) (hl : L.length ≤ 1000000000) (hi : IntsR W A L) => Has_any z v L A c W h hl hi
    have hparts : partsN z = true := by
      have := hf
      unfold formedB at this
      simp only [Bool.and_eq_true] at this
      exact this.1.1
    clear h16
    cases hg : goR z L 0 with
    | none =>
      rw [hg] at hh
      have HHH := Lib.hid hh
      have HH := fun W v A c (h : NodeP (fun _ => True) W v z) (hl : L.length ≤ 1000000000) (hi : IntsR W A L) => HHH.out W v A c h hl hi
      have HE : goErr z L = 2 := by unfold goErr; rw [if_neg (by rw [hf]; decide), hg]
      clear hh hg hf hparts
      go_enter Tryd.func6, Tryd.ntmps6
      go_wp2_with (go_at_call 15; refine Hcut.out.mono ?_; rintro e w1 ⟨v1, rfl, ⟨A, c, rfl, hcc, hkp⟩, hb1⟩)
      refine (HSh.out w1 (HT.out.2.1.below hb1)).mono ?_
      rintro e w2 ⟨v2, rfl, hrow, hb2⟩
      obtain ⟨Ap, cp, rfl, _, hI⟩ := IntsR.of_ownI hrow
      have hBw : Below w.heap.size w w2 := (HB0.out.trans (hb1.mono HB0.out.size)).trans (hb2.mono (HB0.out.trans (hb1.mono HB0.out.size)).size)
      have hK3 : KA z A c w2.heap.size L Ap (w2.alloc (.cells (nodeCells z A c) 26)) := ⟨KeepZ.of hcc (hkp.below hb2 (fun _ _ _ => trivial) (P' := fun _ => True)) ((HT.out.1.below hb1).below hb2), hI.below (allocB _ _)⟩
      have K3 := Lib.hid hK3
      have B3 := Lib.hid (hBw.alloc (o := .cells (nodeCells z A c) 26) hBw.size)
      clear hrow hb1 hb2 hkp hcc hI hBw hK3
      obtain ⟨q0, q1, q2, q3⟩ := cells_of_block K3.out.kz.box
      go_wp2_with fail
      clear q0 q1 q2 q3
      refine (At_err z _ L Ap cp (w2.alloc (.cells (nodeCells z A c) 26)) 2 HZ.out.2.1 HZ.out.2.2.1 K3.out.kz.tabs K3.out.kz.nodeC HZ.out.2.2.2 K3.out.ints HE (by decide)).mono ?_
      rintro e w4 ⟨rfl, hb⟩
      have K4 := Lib.hid (K3.out.below hb)
      have B4 := Lib.hid (B3.out.trans (hb.mono B3.out.size))
      have hlt5 : w2.heap.size < w4.heap.size := (Array.getElem?_eq_some_iff.1 K4.out.kz.box).1
      clear hb
      obtain ⟨q0, q1, q2, q3⟩ := cells_of_block K4.out.kz.box
      go_wp2_with fail
      try clear q0 q1 q2 q3 hlt5
      have K4 := Lib.hid (K4.out.below (allocB w4 (.cells #[.int .i64 0, .int .i64 0, .string { data := #[] }, .slice none 0 0] 26)))
      have B4 := Lib.hid (B4.out.alloc (o := .cells #[.int .i64 0, .int .i64 0, .string { data := #[] }, .slice none 0 0] 26) B4.out.size)
      have N7 := Lib.hid (show (w4.alloc (.cells #[.int .i64 0, .int .i64 0, .string { data := #[] }, .slice none 0 0] 26)).heap[w4.heap.size]? = some (.cells #[.int .i64 0, .int .i64 0, .string { data := #[] }, .slice none 0 0] 26 (0, 0)) from alloc_at _ _ _ rfl)
      refine (Span_err z _ L Ap cp (w4.alloc (.cells #[.int .i64 0, .int .i64 0, .string { data := #[] }, .slice none 0 0] 26)) 2 HZ.out.2.1 HZ.out.2.2.1 K4.out.kz.tabs K4.out.kz.nodeC HZ.out.2.2.2 K4.out.ints HE (by decide)).mono ?_
      rintro e w5 ⟨rfl, hb⟩
      have K5 := Lib.hid (K4.out.below hb)
      have B5 := Lib.hid (B4.out.trans (hb.mono B4.out.size))
      have N7 := Lib.hid (keepB N7.out hb)
      have hlt5 : w2.heap.size < w5.heap.size := (Array.getElem?_eq_some_iff.1 K5.out.kz.box).1
      clear hb
      obtain ⟨q0, q1, q2, q3⟩ := cells_of_block K5.out.kz.box
      go_wp2_with fail
      try clear q0 q1 q2 q3 hlt5
      have K5 := Lib.hid (K5.out.below (allocB w5 (.cells #[.int .i64 0, .int .i64 0] 62)))
      have B5 := Lib.hid (B5.out.alloc (o := .cells #[.int .i64 0, .int .i64 0] 62) B5.out.size)
      have N7 := Lib.hid (keepB N7.out (allocB w5 (.cells #[.int .i64 0, .int .i64 0] 62)))
      have N9 := Lib.hid (show (w5.alloc (.cells #[.int .i64 0, .int .i64 0] 62)).heap[w5.heap.size]? = some (.cells #[.int .i64 0, .int .i64 0] 62 (0, 0)) from alloc_at _ _ _ rfl)
      refine (Core_err z _ L Ap cp (w5.alloc (.cells #[.int .i64 0, .int .i64 0] 62)) 2 HZ.out.2.1 HZ.out.2.2.1 K5.out.kz.tabs K5.out.kz.nodeC HZ.out.2.2.2 K5.out.ints HE (by decide)).mono ?_
      rintro e w6 ⟨rfl, hb⟩
      have K6 := Lib.hid (K5.out.below hb)
      have B6 := Lib.hid (B5.out.trans (hb.mono B5.out.size))
      have N7 := Lib.hid (keepB N7.out hb)
      have N9 := Lib.hid (keepB N9.out hb)
      have hlt5 : w2.heap.size < w6.heap.size := (Array.getElem?_eq_some_iff.1 K6.out.kz.box).1
      clear hb
      obtain ⟨q0, q1, q2, q3⟩ := cells_of_block K6.out.kz.box
      go_wp2_with fail
      try clear q0 q1 q2 q3 hlt5
      have K6 := Lib.hid (K6.out.below (allocB w6 (.cells #[.int .i64 0, .int .i64 0] 62)))
      have B6 := Lib.hid (B6.out.alloc (o := .cells #[.int .i64 0, .int .i64 0] 62) B6.out.size)
      have N7 := Lib.hid (keepB N7.out (allocB w6 (.cells #[.int .i64 0, .int .i64 0] 62)))
      have N9 := Lib.hid (keepB N9.out (allocB w6 (.cells #[.int .i64 0, .int .i64 0] 62)))
      have N11 := Lib.hid (show (w6.alloc (.cells #[.int .i64 0, .int .i64 0] 62)).heap[w6.heap.size]? = some (.cells #[.int .i64 0, .int .i64 0] 62 (0, 0)) from alloc_at _ _ _ rfl)
      refine (HF16 _ _ K6.out.kz.node).mono ?_
      rintro e w7 ⟨rfl, hb⟩
      have K7 := Lib.hid (K6.out.below hb)
      have B7 := Lib.hid (B6.out.trans (hb.mono B6.out.size))
      have N7 := Lib.hid (keepB N7.out hb)
      have N9 := Lib.hid (keepB N9.out hb)
      have N11 := Lib.hid (keepB N11.out hb)
      have hlt5 : w2.heap.size < w7.heap.size := (Array.getElem?_eq_some_iff.1 K7.out.kz.box).1
      clear hb
      obtain ⟨q0, q1, q2, q3⟩ := cells_of_block K7.out.kz.box
      go_wp2_with fail
      try clear q0 q1 q2 q3 hlt5
      refine (HH w7 _ Ap cp K7.out.kz.nodeC HZ.out.2.2.2 K7.out.ints).mono ?_
      rintro e w8 ⟨rfl, hb⟩
      have K8 := Lib.hid (K7.out.below hb)
      have B8 := Lib.hid (B7.out.trans (hb.mono B7.out.size))
      have N7 := Lib.hid (keepB N7.out hb)
      have N9 := Lib.hid (keepB N9.out hb)
      have N11 := Lib.hid (keepB N11.out hb)
      have hlt5 : w2.heap.size < w8.heap.size := (Array.getElem?_eq_some_iff.1 K8.out.kz.box).1
      clear hb
      obtain ⟨q0, q1, q2, q3⟩ := cells_of_block K8.out.kz.box
      have s0 := Lib.cell_of_heap N7.out 0
      have s1 := Lib.cell_of_heap N7.out 1
      have s2 := Lib.cell_of_heap N7.out 2
      have s3 := Lib.cell_of_heap N7.out 3
      go_wp2_with fail
      try clear q0 q1 q2 q3 hlt5
      try clear s0 s1 s2 s3
      refine (RSame_zero w8).mono ?_
      rintro e w9 ⟨rfl, hb⟩
      have K9 := Lib.hid (K8.out.below hb)
      have B9 := Lib.hid (B8.out.trans (hb.mono B8.out.size))
      have N7 := Lib.hid (keepB N7.out hb)
      have N9 := Lib.hid (keepB N9.out hb)
      have N11 := Lib.hid (keepB N11.out hb)
      have hlt5 : w2.heap.size < w9.heap.size := (Array.getElem?_eq_some_iff.1 K9.out.kz.box).1
      clear hb
      have s0 := Lib.cell_of_heap N9.out 0
      have s1 := Lib.cell_of_heap N9.out 1
      have r0 := Lib.cell_of_heap N11.out 0
      have r1 := Lib.cell_of_heap N11.out 1
      go_wp2_with fail
      refine (alive5_any w9 K9.out.kz.tabs).mono ?_
      rintro e w10 ⟨rfl, hb⟩
      have BL := Lib.hid (B9.out.trans (hb.mono B9.out.size))
      clear hb
      go_wp2_with fail
      go_ret
      exact ⟨rfl, BL.out⟩
    | some xb =>
      obtain ⟨x, b⟩ := xb
      rw [hg] at hh
      have HHH := Lib.hid hh
      have HH := fun W v A c (h : NodeP (fun _ => True) W v z) (hl : L.length ≤ 1000000000) (hi : IntsR W A L) => HHH.out W v A c h hl hi
      have hfx := goR_facts hg
      have hpos := parts_pos (hfx.2.2 hparts)
      have hcx : countN x ≤ 10000000 := Nat.le_trans hfx.1 HZ.out.2.1
      have HG := Lib.hid (show _ ∧ _ ∧ _ ∧ _ ∧ _ from ⟨hf, hg, hparts, hpos, hcx⟩)
      clear hh hg hf hparts hfx hpos hcx
      go_enter Tryd.func6, Tryd.ntmps6
      go_wp2_with (go_at_call 15; refine Hcut.out.mono ?_; rintro e w1 ⟨v1, rfl, ⟨A, c, rfl, hcc, hkp⟩, hb1⟩)
      refine (HSh.out w1 (HT.out.2.1.below hb1)).mono ?_
      rintro e w2 ⟨v2, rfl, hrow, hb2⟩
      obtain ⟨Ap, cp, rfl, _, hI⟩ := IntsR.of_ownI hrow
      have hBw : Below w.heap.size w w2 := (HB0.out.trans (hb1.mono HB0.out.size)).trans (hb2.mono (HB0.out.trans (hb1.mono HB0.out.size)).size)
      have hK3 : KA z A c w2.heap.size L Ap (w2.alloc (.cells (nodeCells z A c) 26)) := ⟨KeepZ.of hcc (hkp.below hb2 (fun _ _ _ => trivial) (P' := fun _ => True)) ((HT.out.1.below hb1).below hb2), hI.below (allocB _ _)⟩
      have K3 := Lib.hid hK3
      have B3 := Lib.hid (hBw.alloc (o := .cells (nodeCells z A c) 26) hBw.size)
      clear hrow hb1 hb2 hkp hcc hI hBw hK3
      obtain ⟨q0, q1, q2, q3⟩ := cells_of_block K3.out.kz.box
      go_wp2_with fail
      clear q0 q1 q2 q3
      refine (At_ok z x b _ L Ap cp (w2.alloc (.cells (nodeCells z A c) 26)) HZ.out.2.1 HZ.out.2.2.1 K3.out.kz.tabs K3.out.kz.nodeC HZ.out.2.2.2 K3.out.ints HG.out.1 HG.out.2.1).mono ?_
      rintro e w4 ⟨⟨v4, rfl, ⟨A2, c2, rfl, hca2, hkx⟩⟩, hb⟩
      have K4 := Lib.hid (K3.out.below hb)
      have B4 := Lib.hid (B3.out.trans (hb.mono B3.out.size))
      have hlt5 : w2.heap.size < w4.heap.size := (Array.getElem?_eq_some_iff.1 K4.out.kz.box).1
      have X4 := Lib.hid (show KidsV w4 A2 x.kids from hkx.kids)
      clear hkx hca2
      clear hb
      obtain ⟨q0, q1, q2, q3⟩ := cells_of_block K4.out.kz.box
      go_wp2_with fail
      try clear q0 q1 q2 q3 hlt5
      have K4 := Lib.hid (K4.out.below (allocB w4 (.cells #[.int .i64 x.kind, .int .i64 x.tok.1, .string x.tok.2, .slice A2 x.kids.length c2] 26)))
      have B4 := Lib.hid (B4.out.alloc (o := .cells #[.int .i64 x.kind, .int .i64 x.tok.1, .string x.tok.2, .slice A2 x.kids.length c2] 26) B4.out.size)
      have N7 := Lib.hid (show (w4.alloc (.cells #[.int .i64 x.kind, .int .i64 x.tok.1, .string x.tok.2, .slice A2 x.kids.length c2] 26)).heap[w4.heap.size]? = some (.cells #[.int .i64 x.kind, .int .i64 x.tok.1, .string x.tok.2, .slice A2 x.kids.length c2] 26 (0, 0)) from alloc_at _ _ _ rfl)
      have X4 := Lib.hid (X4.out.below (allocB w4 (.cells #[.int .i64 x.kind, .int .i64 x.tok.1, .string x.tok.2, .slice A2 x.kids.length c2] 26)))
      refine (Span_ok z x b _ L Ap cp (w4.alloc (.cells #[.int .i64 x.kind, .int .i64 x.tok.1, .string x.tok.2, .slice A2 x.kids.length c2] 26)) HZ.out.2.1 HZ.out.2.2.1 K4.out.kz.tabs K4.out.kz.nodeC HZ.out.2.2.2 K4.out.ints HG.out.1 HG.out.2.1).mono ?_
      rintro e w5 ⟨rfl, hb⟩
      have K5 := Lib.hid (K4.out.below hb)
      have B5 := Lib.hid (B4.out.trans (hb.mono B4.out.size))
      have N7 := Lib.hid (keepB N7.out hb)
      have hlt5 : w2.heap.size < w5.heap.size := (Array.getElem?_eq_some_iff.1 K5.out.kz.box).1
      have X4 := Lib.hid (X4.out.below hb)
      clear hb
      obtain ⟨q0, q1, q2, q3⟩ := cells_of_block K5.out.kz.box
      obtain ⟨be, hbe⟩ : ∃ be, be = b + sumT (leavesN x) := ⟨_, rfl⟩
      rw [← hbe]
      have HBE := Lib.hid hbe
      clear hbe
      go_wp2_with fail
      try clear q0 q1 q2 q3 hlt5
      have K5 := Lib.hid (K5.out.below (allocB w5 (.cells #[.int .i64 (b : Nat), .int .i64 (be : Nat)] 62)))
      have B5 := Lib.hid (B5.out.alloc (o := .cells #[.int .i64 (b : Nat), .int .i64 (be : Nat)] 62) B5.out.size)
      have N7 := Lib.hid (keepB N7.out (allocB w5 (.cells #[.int .i64 (b : Nat), .int .i64 (be : Nat)] 62)))
      have N9 := Lib.hid (show (w5.alloc (.cells #[.int .i64 (b : Nat), .int .i64 (be : Nat)] 62)).heap[w5.heap.size]? = some (.cells #[.int .i64 (b : Nat), .int .i64 (be : Nat)] 62 (0, 0)) from alloc_at _ _ _ rfl)
      have X4 := Lib.hid (X4.out.below (allocB w5 (.cells #[.int .i64 (b : Nat), .int .i64 (be : Nat)] 62)))
      refine (Core_ok z x b _ L Ap cp (w5.alloc (.cells #[.int .i64 (b : Nat), .int .i64 (be : Nat)] 62)) HZ.out.2.1 HZ.out.2.2.1 K5.out.kz.tabs K5.out.kz.nodeC HZ.out.2.2.2 K5.out.ints HG.out.1 HG.out.2.1 HG.out.2.2.2.1).mono ?_
      rintro e w6 ⟨rfl, hb⟩
      have K6 := Lib.hid (K5.out.below hb)
      have B6 := Lib.hid (B5.out.trans (hb.mono B5.out.size))
      have N7 := Lib.hid (keepB N7.out hb)
      have N9 := Lib.hid (keepB N9.out hb)
      have hlt5 : w2.heap.size < w6.heap.size := (Array.getElem?_eq_some_iff.1 K6.out.kz.box).1
      have X4 := Lib.hid (X4.out.below hb)
      clear hb
      obtain ⟨q0, q1, q2, q3⟩ := cells_of_block K6.out.kz.box
      obtain ⟨f, hfe⟩ : ∃ f, f = (coreR b (leavesN x)).1 := ⟨_, rfl⟩
      obtain ⟨t, hte⟩ : ∃ t, t = (coreR b (leavesN x)).2.1 := ⟨_, rfl⟩
      rw [← hfe, ← hte]
      have HFT := Lib.hid (show _ ∧ _ from ⟨hfe, hte⟩)
      clear hfe hte
      go_wp2_with fail
      try clear q0 q1 q2 q3 hlt5
      have K6 := Lib.hid (K6.out.below (allocB w6 (.cells #[.int .i64 (f : Nat), .int .i64 (t : Nat)] 62)))
      have B6 := Lib.hid (B6.out.alloc (o := .cells #[.int .i64 (f : Nat), .int .i64 (t : Nat)] 62) B6.out.size)
      have N7 := Lib.hid (keepB N7.out (allocB w6 (.cells #[.int .i64 (f : Nat), .int .i64 (t : Nat)] 62)))
      have N9 := Lib.hid (keepB N9.out (allocB w6 (.cells #[.int .i64 (f : Nat), .int .i64 (t : Nat)] 62)))
      have N11 := Lib.hid (show (w6.alloc (.cells #[.int .i64 (f : Nat), .int .i64 (t : Nat)] 62)).heap[w6.heap.size]? = some (.cells #[.int .i64 (f : Nat), .int .i64 (t : Nat)] 62 (0, 0)) from alloc_at _ _ _ rfl)
      have X4 := Lib.hid (X4.out.below (allocB w6 (.cells #[.int .i64 (f : Nat), .int .i64 (t : Nat)] 62)))
      refine (HF16 _ _ K6.out.kz.node).mono ?_
      rintro e w7 ⟨rfl, hb⟩
      have K7 := Lib.hid (K6.out.below hb)
      have B7 := Lib.hid (B6.out.trans (hb.mono B6.out.size))
      have N7 := Lib.hid (keepB N7.out hb)
      have N9 := Lib.hid (keepB N9.out hb)
      have N11 := Lib.hid (keepB N11.out hb)
      have hlt5 : w2.heap.size < w7.heap.size := (Array.getElem?_eq_some_iff.1 K7.out.kz.box).1
      have X4 := Lib.hid (X4.out.below hb)
      clear hb
      obtain ⟨q0, q1, q2, q3⟩ := cells_of_block K7.out.kz.box
      go_wp2_with fail
      try clear q0 q1 q2 q3 hlt5
      refine (HH w7 _ Ap cp K7.out.kz.nodeC HZ.out.2.2.2 K7.out.ints).mono ?_
      rintro e w8 ⟨rfl, hb⟩
      have K8 := Lib.hid (K7.out.below hb)
      have B8 := Lib.hid (B7.out.trans (hb.mono B7.out.size))
      have N7 := Lib.hid (keepB N7.out hb)
      have N9 := Lib.hid (keepB N9.out hb)
      have N11 := Lib.hid (keepB N11.out hb)
      have hlt5 : w2.heap.size < w8.heap.size := (Array.getElem?_eq_some_iff.1 K8.out.kz.box).1
      have X4 := Lib.hid (X4.out.below hb)
      clear hb
      obtain ⟨q0, q1, q2, q3⟩ := cells_of_block K8.out.kz.box
      go_wp2_with fail
      try clear q0 q1 q2 q3 hlt5
      refine (RAt_any z x b _ L Ap cp w8 HG.out.2.2.1 HZ.out.2.1 HZ.out.2.2.1 K8.out.kz.nodeC HZ.out.2.2.2 K8.out.ints HG.out.2.1).mono ?_
      rintro e w9 ⟨⟨A3, c3, rfl, hca3, hkx3⟩, hb⟩
      have K9 := Lib.hid (K8.out.below hb)
      have B9 := Lib.hid (B8.out.trans (hb.mono B8.out.size))
      have N7 := Lib.hid (keepB N7.out hb)
      have N9 := Lib.hid (keepB N9.out hb)
      have N11 := Lib.hid (keepB N11.out hb)
      have hlt5 : w2.heap.size < w9.heap.size := (Array.getElem?_eq_some_iff.1 K9.out.kz.box).1
      have X4 := Lib.hid (X4.out.below hb)
      have X3 := Lib.hid (show KidsV w9 A3 x.kids from (hkx3.later hb).kids)
      clear hkx3 hca3
      clear hb
      obtain ⟨q0, q1, q2, q3⟩ := cells_of_block K9.out.kz.box
      try clear q0 q1 q2 q3
      have hlt7 : w4.heap.size < w9.heap.size := (Array.getElem?_eq_some_iff.1 N7.out).1
      have hlt9 : w5.heap.size < w9.heap.size := (Array.getElem?_eq_some_iff.1 N9.out).1
      have hlt11 : w6.heap.size < w9.heap.size := (Array.getElem?_eq_some_iff.1 N11.out).1
      go_upto_region 13 with fail
      obtain ⟨wz, hwz⟩ : ∃ wz, wz = w9.alloc (.cells #[.int .i64 x.kind, .int .i64 x.tok.1, .string x.tok.2, .slice A3 x.kids.length c3] 26) := ⟨_, rfl⟩
      rw [← hwz]
      have hbz : Below w9.heap.size w9 wz := by rw [hwz]; exact allocB _ _
      have h14 : wz.heap[w9.heap.size]? = some (.cells #[.int .i64 x.kind, .int .i64 x.tok.1, .string x.tok.2, .slice A3 x.kids.length c3] 26 (0, 0)) := by rw [hwz]; exact alloc_at _ _ _ rfl
      have KZ := Lib.hid (K9.out.below hbz)
      have BZ := Lib.hid (B9.out.trans (hbz.mono B9.out.size))
      have M7 := Lib.hid (keepB N7.out hbz)
      have M9 := Lib.hid (keepB N9.out hbz)
      have M11 := Lib.hid (keepB N11.out hbz)
      have hsame : Calls Tryd.prog 33 #[.agg #[.int .i64 x.kind, .int .i64 x.tok.1, .string x.tok.2, .slice A2 x.kids.length c2], .agg #[.int .i64 x.kind, .int .i64 x.tok.1, .string x.tok.2, .slice A3 x.kids.length c3]] wz.drew fun e w' => e = .returned (.bool true) ∧ Below wz.heap.size wz w' :=
        (RSame_self x _ _ wz.drew HG.out.2.2.2.2 ⟨A2, c2, rfl, X4.out.below hbz.drew⟩ ⟨A3, c3, rfl, X3.out.below hbz.drew⟩).mono fun e w' ⟨h1, h2⟩ => ⟨h1, (Below.drew (Below.refl _ _)).trans h2⟩
      have HSame := Lib.hid hsame
      have hspan : ∀ W, Below wz.heap.size wz W → Calls Tryd.prog 42 #[.agg #[.int .i64 z.kind, .int .i64 z.tok.1, .string z.tok.2, .slice A z.kids.length c], .slice Ap L.length cp] W fun e w' => e = .returned (.agg #[.int .i64 (b : Nat), .int .i64 (be : Nat)]) ∧ Below W.heap.size W w' := fun W hW => by
        have KW := KZ.out.below hW
        rw [HBE.out]
        exact RSpan_any z x b _ L Ap cp W HG.out.2.2.1 HZ.out.2.1 HZ.out.2.2.1 KW.kz.nodeC HZ.out.2.2.2 KW.ints HG.out.2.1
      have HSpan := Lib.hid hspan
      have hcore : ∀ W, Below wz.heap.size wz W → Calls Tryd.prog 43 #[.agg #[.int .i64 z.kind, .int .i64 z.tok.1, .string z.tok.2, .slice A z.kids.length c], .slice Ap L.length cp] W fun e w' => e = .returned (.agg #[.int .i64 (f : Nat), .int .i64 (t : Nat)]) ∧ Below W.heap.size W w' := fun W hW => by
        have KW := KZ.out.below hW
        rw [HFT.out.1, HFT.out.2]
        exact RCore_any z x b _ L Ap cp W HG.out.2.2.1 HZ.out.2.1 HZ.out.2.2.1 KW.kz.nodeC HZ.out.2.2.2 KW.ints HG.out.2.1
      have HCore := Lib.hid hcore
      have hal : ∀ W, Below wz.heap.size wz W → Calls Tryd.prog 22 #[] W fun e w' => e = .returned (.bool true) ∧ Below W.heap.size W w' := fun W hW => alive5_any W (KZ.out.below hW).kz.tabs
      have HAl := Lib.hid hal
      have M14 := Lib.hid h14
      have hfacts : ∀ W, Below wz.heap.size wz W → (W.cell? ⟨w4.heap.size, 0, none⟩ = some (.int .i64 x.kind) ∧ W.cell? ⟨w4.heap.size, 1, none⟩ = some (.int .i64 x.tok.1) ∧ W.cell? ⟨w4.heap.size, 2, none⟩ = some (.string x.tok.2) ∧ W.cell? ⟨w4.heap.size, 3, none⟩ = some (.slice A2 x.kids.length c2) ∧ W.cell? ⟨w9.heap.size, 0, none⟩ = some (.int .i64 x.kind) ∧ W.cell? ⟨w9.heap.size, 1, none⟩ = some (.int .i64 x.tok.1) ∧ W.cell? ⟨w9.heap.size, 2, none⟩ = some (.string x.tok.2) ∧ W.cell? ⟨w9.heap.size, 3, none⟩ = some (.slice A3 x.kids.length c3) ∧ W.cell? ⟨w2.heap.size, 0, none⟩ = some (.int .i64 z.kind) ∧ W.cell? ⟨w2.heap.size, 1, none⟩ = some (.int .i64 z.tok.1) ∧ W.cell? ⟨w2.heap.size, 2, none⟩ = some (.string z.tok.2) ∧ W.cell? ⟨w2.heap.size, 3, none⟩ = some (.slice A z.kids.length c) ∧ W.cell? ⟨w5.heap.size, 0, none⟩ = some (.int .i64 (b : Nat)) ∧ W.cell? ⟨w5.heap.size, 1, none⟩ = some (.int .i64 (be : Nat)) ∧ W.cell? ⟨w6.heap.size, 0, none⟩ = some (.int .i64 (f : Nat)) ∧ W.cell? ⟨w6.heap.size, 1, none⟩ = some (.int .i64 (t : Nat))) := fun W hW => by
        obtain ⟨k0, k1, k2, k3⟩ := cells_of_block (KZ.out.below hW).kz.box
        exact ⟨Lib.cell_of_heap (keepB M7.out hW) 0, Lib.cell_of_heap (keepB M7.out hW) 1, Lib.cell_of_heap (keepB M7.out hW) 2, Lib.cell_of_heap (keepB M7.out hW) 3, Lib.cell_of_heap (keepB M14.out hW) 0, Lib.cell_of_heap (keepB M14.out hW) 1, Lib.cell_of_heap (keepB M14.out hW) 2, Lib.cell_of_heap (keepB M14.out hW) 3, k0, k1, k2, k3, Lib.cell_of_heap (keepB M9.out hW) 0, Lib.cell_of_heap (keepB M9.out hW) 1, Lib.cell_of_heap (keepB M11.out hW) 0, Lib.cell_of_heap (keepB M11.out hW) 1⟩
      have HFc := Lib.hid hfacts
      obtain ⟨y0, y1, y2, y3, y4, y5, y6, y7, y8, y9, y10, y11, y12, y13, y14, y15⟩ := hfacts wz.drew (Below.drew (Below.refl _ _))
      clear hwz hbz h14 hsame hspan hcore hal hfacts hlt7 hlt9 hlt11
      go_region_held3 (fun W => W.cell? ⟨w4.heap.size, 0, none⟩ = some (.int .i64 x.kind) ∧ W.cell? ⟨w4.heap.size, 1, none⟩ = some (.int .i64 x.tok.1) ∧ W.cell? ⟨w4.heap.size, 2, none⟩ = some (.string x.tok.2) ∧ W.cell? ⟨w4.heap.size, 3, none⟩ = some (.slice A2 x.kids.length c2) ∧ W.cell? ⟨w9.heap.size, 0, none⟩ = some (.int .i64 x.kind) ∧ W.cell? ⟨w9.heap.size, 1, none⟩ = some (.int .i64 x.tok.1) ∧ W.cell? ⟨w9.heap.size, 2, none⟩ = some (.string x.tok.2) ∧ W.cell? ⟨w9.heap.size, 3, none⟩ = some (.slice A3 x.kids.length c3) ∧ W.cell? ⟨w2.heap.size, 0, none⟩ = some (.int .i64 z.kind) ∧ W.cell? ⟨w2.heap.size, 1, none⟩ = some (.int .i64 z.tok.1) ∧ W.cell? ⟨w2.heap.size, 2, none⟩ = some (.string z.tok.2) ∧ W.cell? ⟨w2.heap.size, 3, none⟩ = some (.slice A z.kids.length c) ∧ W.cell? ⟨w5.heap.size, 0, none⟩ = some (.int .i64 (b : Nat)) ∧ W.cell? ⟨w5.heap.size, 1, none⟩ = some (.int .i64 (be : Nat)) ∧ W.cell? ⟨w6.heap.size, 0, none⟩ = some (.int .i64 (f : Nat)) ∧ W.cell? ⟨w6.heap.size, 1, none⟩ = some (.int .i64 (t : Nat)))
        (first
          | go_keep
          | (exact HFc.out _ hbd2)
          | (exact HFc.out _ hbc2)
          | (exact HFc.out _ hbb2)
          | (exact HFc.out _ hba))
        ((first
        | (go_simp
           go_at_call 33
           with_reducible refine HSame.out.mono ?_
           rintro e wa ⟨rfl, hba⟩)
        | (go_simp
           go_at_call 42
           with_reducible refine (HSpan.out wa hba).mono ?_
           rintro e wb ⟨rfl, hbb⟩
           have hbb2 := hba.trans (hbb.mono hba.size)
           clear hbb)
        | (go_simp
           go_at_call 43
           with_reducible refine (HCore.out wb hbb2).mono ?_
           rintro e wc ⟨rfl, hbc⟩
           have hbc2 := hbb2.trans (hbc.mono hbb2.size)
           clear hbc)
        | (go_simp
           go_at_call 22
           with_reducible refine (HAl.out wc hbc2).mono ?_
           rintro e wd ⟨rfl, hbd⟩
           have hbd2 := hbc2.trans (hbd.mono hbc2.size)
           clear hbd)))
      all_goals
        go_wp2_with fail
        go_ret
        exact ⟨rfl, BZ.out.trans (hbd2.mono BZ.out.size)⟩
end Go.Proofs.YtgihkojlpaebiaaDoor.lawTreeAts
