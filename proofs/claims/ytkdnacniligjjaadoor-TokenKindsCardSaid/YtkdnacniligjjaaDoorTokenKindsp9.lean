/-
  TokenKinds: IsToken, Apart, IsTrivia, Great and Solid report what the specification says of any tokens. No condition: every input.
-/
import Derived.Test.YtkdnacniligjjaaDoorTokenKindsp2
import Derived.Test.YtkdnacniligjjaaDoorTokenKindsp7
import Derived.Test.YtkdnacniligjjaaDoorTokenKindsp8
import Derived.Test.YtkdnacniligjjaaDoorRelexCommonsp10
import Derived.Test.YtkdnacniligjjaaDoorRelexCommonsp9
import Derived.Test.YtkdnacniligjjaaDoorTokenKindsp6
import Derived.Deep.RegionHeld3
import Derived.Deep.DeepCutAuto
namespace Go.Proofs.YtkdnacniligjjaaDoor.lawTokenKinds
set_option linter.unusedVariables false
set_option linter.unusedSimpArgs false
open Go.ChangeShapes Go.WideShapes Go.RowKit
open Go.ChangeMaps (open_string shut_string)

theorem bel_alloc {B : Nat} {a W : World} {o : Obj} (h : Below B a W) (hB : B ≤ a.heap.size) : Below B a (W.alloc o) := h.alloc (Nat.le_trans hB h.size) _

theorem store2 {w : World} {g e : Nat} {a b : Value} (h : w.heap[g]? = some (.cells #[a, b] e (0, 0))) (x y : Value) : ((w.setCell ⟨g, 0, none⟩ x).setCell ⟨g, 1, none⟩ y).heap[g]? = some (.cells #[x, y] e (0, 0)) := by
  unfold World.setCell
  simp only [Array.getElem?_modify, h]
  simp
theorem store2_other {w : World} {g c : Nat} (hne : c ≠ g) (x y : Value) : ((w.setCell ⟨g, 0, none⟩ x).setCell ⟨g, 1, none⟩ y).heap[c]? = w.heap[c]? :=
  (Below.heap_setCell _ _ _ _ hne).trans (Below.heap_setCell _ _ _ _ hne)
theorem setT {w : World} {A : Option Addr} {L : List Tok} (h : TksV w A L) {g i : Nat} (hne : ∀ bb off, A = some ⟨bb, off, none⟩ → 0 < L.length → bb ≠ g) (u : Value) : TksV (w.setCell ⟨g, i, none⟩ u) A L := by
  intro hl
  obtain ⟨b, off, he, hlt, hg⟩ := h hl
  have hn := hne b off he hl
  refine ⟨b, off, he, by simpa [World.setCell] using hlt, fun j p hp => ?_⟩
  have hh : (w.setCell ⟨g, i, none⟩ u).heap[b]? = w.heap[b]? := Below.heap_setCell _ _ _ _ hn
  obtain ⟨e1, e2⟩ := hg j p hp
  simp only [World.cell?, hh] at e1 e2 ⊢
  exact ⟨e1, e2⟩

set_option maxRecDepth 100000 in
set_option maxHeartbeats 8000000 in
theorem walk (A0 : Option Addr) (c0 : Nat) (l : List Tok) (hl : l.length ≤ maxLen) (hs : ∀ p ∈ l, p.2.size ≤ maxLen) (k1 : Int) (x1 : ByteArray) (hx1 : x1.size ≤ maxLen) (k2 : Int) (x2 : ByteArray) (hx2 : x2.size ≤ maxLen) (w : World) (hT : Tabs w) (hE0 : TksV w A0 l) :
    Calls Tryd.prog 3 #[.slice A0 l.length c0, .agg #[.int .i64 k1, .string x1], .agg #[.int .i64 k2, .string x2]] w fun e w' => e = .returned (.bool true) ∧ Below w.heap.size w w' := by
  have hcut := fun W hW => RCut_own c0 A0 l W hl hs hW
  have hone1 := fun W => One_any k1 x1 W hx1
  have hone2 := fun W => One_any k2 x2 W hx2
  have ls := cutT_length l
  have hy1 := shortT_size x1
  have hy2 := shortT_size x2
  generalize cutT l = L at hcut ls
  generalize shortT x1 = y1 at hone1 hy1
  generalize shortT x2 = y2 at hone2 hy2
  obtain ⟨w0, hw0⟩ : ∃ w0, w0 = (w.alloc (.cells #[.int .i64 k1, .string x1] 24)).alloc (.cells #[.int .i64 k2, .string x2] 24) := ⟨_, rfl⟩
  have hB0 : Below w.heap.size w w0 := by rw [hw0]; exact ((Below.refl _ _).alloc (Nat.le_refl _) _).alloc (by simp) _
  have h1 : w0.heap[w.heap.size]? = some (.cells #[.int .i64 k1, .string x1] 24 (0, 0)) := by rw [hw0]; exact (Below.heap_alloc _ _ _ (by simp)).trans (heap_alloc_new w _)
  have h2 : w0.heap[w.heap.size + 1]? = some (.cells #[.int .i64 k2, .string x2] 24 (0, 0)) := by rw [hw0]; exact heap_alloc2T w _ _
  have m0 : w0.cell? ⟨w.heap.size, 0, none⟩ = some (.int .i64 k1) := Lib.cell_of_heap h1 0
  have m1 : w0.cell? ⟨w.heap.size, 1, none⟩ = some (.string x1) := Lib.cell_of_heap h1 1
  have z0 : w0.cell? ⟨w.heap.size + 1, 0, none⟩ = some (.int .i64 k2) := Lib.cell_of_heap h2 0
  have z1 : w0.cell? ⟨w.heap.size + 1, 1, none⟩ = some (.string x2) := Lib.cell_of_heap h2 1
  have l1 : w.heap.size < w0.heap.size := by rw [hw0]; simp; omega
  have l2 : w.heap.size + 1 < w0.heap.size := by rw [hw0]; simp
  have HB0 := Lib.hid hB0
  have HW0 := Lib.hid hw0
  have Hcut := Lib.hid hcut
  have Hone1 := Lib.hid hone1
  have Hone2 := Lib.hid hone2
  have HT := Lib.hid hT
  have HE0 := Lib.hid (hE0.below hB0)
  clear hB0 hw0 h1 h2 hcut hone1 hone2 hT hE0 hl hs hx1 hx2
  go_enter Tryd.func3, Tryd.ntmps3
  go_upto_region 1 with fail
  go_cut [7, 8, 9] (fun s7 s8 s9 w5 => ∃ (A : Option Addr) (c g1 g2 : Nat), s7 = .slice A L.length c ∧ TksV w5 A L ∧ s8 = .pointer (some ⟨g1, 0, none⟩) ∧ s9 = .pointer (some ⟨g2, 0, none⟩) ∧ Below w.heap.size w w5 ∧ w5.heap[g1]? = some (.cells #[.int .i64 k1, .string y1] 24 (0, 0)) ∧ w5.heap[g2]? = some (.cells #[.int .i64 k2, .string y2] 24 (0, 0)))
  case first =>
    rw [← HW0.out]
    refine wp_region_held_drew (S := (fun W => Below w0.heap.size w0 W ∧ (W.cell? ⟨w.heap.size, 0, none⟩ = some (.int .i64 k1) ∧ W.cell? ⟨w.heap.size, 1, none⟩ = some (.string x1)) ∧ (W.cell? ⟨w.heap.size + 1, 0, none⟩ = some (.int .i64 k2) ∧ W.cell? ⟨w.heap.size + 1, 1, none⟩ = some (.string x2)))) (by kernel_rfl) ?_ (fun hHeld => ?_)
    · exact kept4 (Below.drew (Below.refl _ _)) l1 l2 m0 m1 z0 z1
    obtain ⟨w_0, hw⟩ : ∃ x, x = w0.drew := ⟨_, rfl⟩
    have hB : Below w0.heap.size w0 w_0 := by rw [hw]; exact Below.drew (Below.refl _ _)
    rw [← hw] at hHeld
    rw [← hw]
    clear hw
    refine wpAnyH_take (i := 0) (oi := ⟨some 13, _, _, _, _, _⟩) (v := ?_) rfl (by kernel_rfl) (by kernel_rfl) (by kernel_rfl) (fun _ _ _ h => h) (Or.inl ⟨by rfl, ?hy⟩) (by assumption) ?_
    case hy => (intro w hSw; (try dsimp only at hSw); go_simp; (try with_reducible rfl))
    try simp only [Act.put, List.setIfInBounds_toArray, List.set_cons_zero, List.set_cons_succ]
    refine wpAnyH_take (i := 2) (oi := ⟨some 15, _, _, _, _, _⟩) (v := ?_) rfl (by kernel_rfl) (by kernel_rfl) (by kernel_rfl) (fun _ _ _ h => h) (Or.inl ⟨by rfl, ?hy⟩) (by assumption) ?_
    case hy => (intro w hSw; (try dsimp only at hSw); go_simp; (try with_reducible rfl))
    try simp only [Act.put, List.setIfInBounds_toArray, List.set_cons_zero, List.set_cons_succ]
    refine wpAnyH_take (i := 4) (oi := ⟨some 17, _, _, _, _, _⟩) (v := ?_) rfl (by kernel_rfl) (by kernel_rfl) (by kernel_rfl) (fun _ _ _ h => h) (Or.inl ⟨by rfl, ?hy⟩) (by assumption) ?_
    case hy => (intro w hSw; (try dsimp only at hSw); go_simp; (try with_reducible rfl))
    try simp only [Act.put, List.setIfInBounds_toArray, List.set_cons_zero, List.set_cons_succ]
    refine wpAnyH_ready (rs := [1, 6, 7]) (by kernel_rfl) (by simp) ?_
    refine AllReadyH.cons (o := ⟨some 14, _, _, _, _, _⟩) rfl (fun K hK => ?_) (AllReadyH.cons (o := ⟨some 8, _, _, _, _, _⟩) rfl (fun K hK => ?_) (AllReadyH.cons (o := ⟨some 9, _, _, _, _, _⟩) rfl (fun K hK => ?_) AllReadyH.nil))
    · go_simp
      go_at_call 11
      with_reducible refine (Hcut.out _ ?_).mono ?_
      · exact HE0.out.below hB
      rintro e w_1 ⟨vC, rfl, hoC, hbC⟩
      obtain ⟨A, c, rfl, hE, _, hAb⟩ := TksV.of_own hoC
      have hB : Below w0.heap.size w0 w_1 := hB.trans (hbC.mono hB.size)
      refine hK.out _ _ ?_ (fun hHeld => ?_)
      · exact kept4 hB l1 l2 m0 m1 z0 z1
      clear hK K
      try simp only [Act.put, List.setIfInBounds_toArray, List.set_cons_zero, List.set_cons_succ]
      refine wpAnyH_ready (rs := [3, 6, 7]) (by kernel_rfl) (by simp) ?_
      refine AllReadyH.cons (o := ⟨some 16, _, _, _, _, _⟩) rfl (fun K hK => ?_) (AllReadyH.cons (o := ⟨some 8, _, _, _, _, _⟩) rfl (fun K hK => ?_) (AllReadyH.cons (o := ⟨some 9, _, _, _, _, _⟩) rfl (fun K hK => ?_) AllReadyH.nil))
      · go_simp
        go_at_call 12
        with_reducible refine (Hone1.out _).mono ?_
        rintro e w_2 ⟨rfl, hbC⟩
        have hE : TksV w_2 A L := hE.below hbC
        have hB : Below w0.heap.size w0 w_2 := hB.trans (hbC.mono hB.size)
        refine hK.out _ _ ?_ (fun hHeld => ?_)
        · exact kept4 hB l1 l2 m0 m1 z0 z1
        clear hK K
        try simp only [Act.put, List.setIfInBounds_toArray, List.set_cons_zero, List.set_cons_succ]
        refine wpAnyH_ready (rs := [5, 6, 7]) (by kernel_rfl) (by simp) ?_
        refine AllReadyH.cons (o := ⟨some 18, _, _, _, _, _⟩) rfl (fun K hK => ?_) (AllReadyH.cons (o := ⟨some 8, _, _, _, _, _⟩) rfl (fun K hK => ?_) (AllReadyH.cons (o := ⟨some 9, _, _, _, _, _⟩) rfl (fun K hK => ?_) AllReadyH.nil))
        · go_simp
          go_at_call 12
          with_reducible refine (Hone2.out _).mono ?_
          rintro e w_3 ⟨rfl, hbC⟩
          have hE : TksV w_3 A L := hE.below hbC
          have hB : Below w0.heap.size w0 w_3 := hB.trans (hbC.mono hB.size)
          refine hK.out _ _ ?_ (fun hHeld => ?_)
          · exact kept4 hB l1 l2 m0 m1 z0 z1
          clear hK K
          try simp only [Act.put, List.setIfInBounds_toArray, List.set_cons_zero, List.set_cons_succ]
          refine wpAnyH_ready (rs := [6, 7]) (by kernel_rfl) (by simp) ?_
          refine AllReadyH.cons (o := ⟨some 8, _, _, _, _, _⟩) rfl (fun K hK => ?_) (AllReadyH.cons (o := ⟨some 9, _, _, _, _, _⟩) rfl (fun K hK => ?_) AllReadyH.nil)
          · go_simp
            have hal : Below w_3.heap.size w_3 (w_3.alloc (.cells #[.int .i64 0, .string { data := #[] }] 24)) := (Below.refl _ _).alloc (Nat.le_refl _) _
            refine hK.out _ _ ?_ (fun hHeld => ?_)
            · exact kept4 (hB.trans (hal.mono hB.size)) l1 l2 m0 m1 z0 z1
            clear hK K
            try simp only [Act.put, List.setIfInBounds_toArray, List.set_cons_zero, List.set_cons_succ]
            obtain ⟨c8, hc⟩ : ∃ c, c = w_3.heap.size := ⟨_, rfl⟩
            obtain ⟨w_4, hw⟩ : ∃ x, x = w_3.alloc (.cells #[.int .i64 0, .string { data := #[] }] 24) := ⟨_, rfl⟩
            rw [← hw] at hal
            have g8 : w0.heap.size ≤ c8 := by rw [hc]; exact hB.size
            have h8 : w_4.heap[c8]? = some (.cells #[.int .i64 0, .string { data := #[] }] 24 (0, 0)) := by rw [hw, hc]; exact heap_alloc_new _ _
            have n8 : ∀ bb off, A = some ⟨bb, off, none⟩ → 0 < L.length → bb ≠ c8 := fun bb off ha hlen hne => by obtain ⟨b', off', he, hlt, _⟩ := hE hlen; rw [ha] at he; injection he with he; injection he with he1 he2; omega
            have hE : TksV w_4 A L := hE.below hal
            have hB : Below w0.heap.size w0 w_4 := hB.trans (hal.mono hB.size)
            rw [← hw] at hHeld
            rw [← hw]
            rw [← hc]
            clear hw hc hal
            refine wpAnyH_ready (rs := [7]) (by kernel_rfl) (by simp) ?_
            refine AllReadyH.cons (o := ⟨some 9, _, _, _, _, _⟩) rfl (fun K hK => ?_) AllReadyH.nil
            go_simp
            have hal : Below w_4.heap.size w_4 (w_4.alloc (.cells #[.int .i64 0, .string { data := #[] }] 24)) := (Below.refl _ _).alloc (Nat.le_refl _) _
            refine hK.out _ _ ?_ (fun hHeld => ?_)
            · exact kept4 (hB.trans (hal.mono hB.size)) l1 l2 m0 m1 z0 z1
            clear hK K
            try simp only [Act.put, List.setIfInBounds_toArray, List.set_cons_zero, List.set_cons_succ]
            obtain ⟨c9, hc⟩ : ∃ c, c = w_4.heap.size := ⟨_, rfl⟩
            obtain ⟨w_5, hw⟩ : ∃ x, x = w_4.alloc (.cells #[.int .i64 0, .string { data := #[] }] 24) := ⟨_, rfl⟩
            rw [← hw] at hal
            have g9 : w0.heap.size ≤ c9 := by rw [hc]; exact hB.size
            have h9 : w_5.heap[c9]? = some (.cells #[.int .i64 0, .string { data := #[] }] 24 (0, 0)) := by rw [hw, hc]; exact heap_alloc_new _ _
            have hcc : c8 ≠ c9 := by have hlt : c8 < w_4.heap.size := lt_of_cell (Lib.cell_of_heap h8 0); omega
            have n9 : ∀ bb off, A = some ⟨bb, off, none⟩ → 0 < L.length → bb ≠ c9 := fun bb off ha hlen hne => by obtain ⟨b', off', he, hlt, _⟩ := hE hlen; rw [ha] at he; injection he with he; injection he with he1 he2; omega
            have h8 : w_5.heap[c8]? = some (.cells #[.int .i64 0, .string { data := #[] }] 24 (0, 0)) := (hal.block c8 (lt_of_cell (Lib.cell_of_heap h8 0))).trans h8
            have hE : TksV w_5 A L := hE.below hal
            have hB : Below w0.heap.size w0 w_5 := hB.trans (hal.mono hB.size)
            rw [← hw] at hHeld
            rw [← hw]
            rw [← hc]
            clear hw hc hal
            refine wpAnyH_take (i := 8) (oi := ⟨some 7, _, _, _, _, _⟩) (v := ?_) rfl (by kernel_rfl) (by kernel_rfl) (by kernel_rfl) (fun _ _ _ h => h) (Or.inl ⟨by rfl, ?hy⟩) (by assumption) ?_
            case hy => (intro w hSw; (try dsimp only at hSw); go_simp; (try with_reducible rfl))
            try simp only [Act.put, List.setIfInBounds_toArray, List.set_cons_zero, List.set_cons_succ]
            have q0 : w_5.cell? ⟨c8, 0, none⟩ = some (.int .i64 0) := Lib.cell_of_heap h8 0
            have q1 : w_5.cell? ⟨c8, 1, none⟩ = some (.string { data := #[] }) := Lib.cell_of_heap h8 1
            have r0 : w_5.frozen? ⟨c8, 0, none⟩ = false := by simp [World.frozen?, h8]
            have r1 : w_5.frozen? ⟨c8, 1, none⟩ = false := by simp [World.frozen?, h8]
            have hst := store2 h8 (.int .i64 k1) (.string y1)
            have hot := store2_other (c := c9) (g := c8) (Ne.symm hcc) (.int .i64 k1) (.string y1) (w := w_5)
            have hE : TksV ((w_5.setCell ⟨c8, 0, none⟩ (.int .i64 k1)).setCell ⟨c8, 1, none⟩ (.string y1)) A L := setT (setT hE n8 _) n8 _
            have hB : Below w0.heap.size w0 ((w_5.setCell ⟨c8, 0, none⟩ (.int .i64 k1)).setCell ⟨c8, 1, none⟩ (.string y1)) := (hB.setCell (p := ⟨c8, 0, none⟩) g8 _).setCell (p := ⟨c8, 1, none⟩) g8 _
            refine wpAnyH_ready (rs := [9]) (by kernel_rfl) (by simp) ?_
            refine AllReadyH.cons (o := ⟨none, _, _, _, _, _⟩) rfl (fun K hK => ?_) AllReadyH.nil
            go_simp
            refine hK.out _ _ ?_ (fun hHeld => ?_)
            · exact kept4 hB l1 l2 m0 m1 z0 z1
            clear hK K q0 q1 r0 r1
            try simp only [Act.put, List.setIfInBounds_toArray, List.set_cons_zero, List.set_cons_succ]
            obtain ⟨w_6, hw⟩ : ∃ x, x = ((w_5.setCell ⟨c8, 0, none⟩ (.int .i64 k1)).setCell ⟨c8, 1, none⟩ (.string y1)) := ⟨_, rfl⟩
            rw [← hw] at hst hot hE hB
            rw [← hw]
            have h8 := hst
            have h9 := hot.trans h9
            clear hw hst hot
            have q0 : w_6.cell? ⟨c9, 0, none⟩ = some (.int .i64 0) := Lib.cell_of_heap h9 0
            have q1 : w_6.cell? ⟨c9, 1, none⟩ = some (.string { data := #[] }) := Lib.cell_of_heap h9 1
            have r0 : w_6.frozen? ⟨c9, 0, none⟩ = false := by simp [World.frozen?, h9]
            have r1 : w_6.frozen? ⟨c9, 1, none⟩ = false := by simp [World.frozen?, h9]
            have hst := store2 h9 (.int .i64 k2) (.string y2)
            have hot := store2_other (c := c8) (g := c9) hcc (.int .i64 k2) (.string y2) (w := w_6)
            have hE : TksV ((w_6.setCell ⟨c9, 0, none⟩ (.int .i64 k2)).setCell ⟨c9, 1, none⟩ (.string y2)) A L := setT (setT hE n9 _) n9 _
            have hB : Below w0.heap.size w0 ((w_6.setCell ⟨c9, 0, none⟩ (.int .i64 k2)).setCell ⟨c9, 1, none⟩ (.string y2)) := (hB.setCell (p := ⟨c9, 0, none⟩) g9 _).setCell (p := ⟨c9, 1, none⟩) g9 _
            refine wpAnyH_ready (rs := [10]) (by kernel_rfl) (by simp) ?_
            refine AllReadyH.cons (o := ⟨none, _, _, _, _, _⟩) rfl (fun K hK => ?_) AllReadyH.nil
            go_simp
            refine hK.out _ _ ?_ (fun hHeld => ?_)
            · exact kept4 hB l1 l2 m0 m1 z0 z1
            clear hK K q0 q1 r0 r1
            try simp only [Act.put, List.setIfInBounds_toArray, List.set_cons_zero, List.set_cons_succ]
            obtain ⟨w_7, hw⟩ : ∃ x, x = ((w_6.setCell ⟨c9, 0, none⟩ (.int .i64 k2)).setCell ⟨c9, 1, none⟩ (.string y2)) := ⟨_, rfl⟩
            rw [← hw] at hst hot hE hB
            rw [← hw]
            have h9 := hst
            have h8 := hot.trans h8
            clear hw hst hot
            refine wpAnyH_done (by kernel_rfl) ?_ _
            go_wp2_with fail
            go_meet
            exact ⟨A, c, c8, c9, rfl, hE, rfl, rfl, HB0.out.trans (hB.mono HB0.out.size), h8, h9⟩
          · go_simp
            have hal : Below w_3.heap.size w_3 (w_3.alloc (.cells #[.int .i64 0, .string { data := #[] }] 24)) := (Below.refl _ _).alloc (Nat.le_refl _) _
            refine hK.out _ _ ?_ (fun hHeld => ?_)
            · exact kept4 (hB.trans (hal.mono hB.size)) l1 l2 m0 m1 z0 z1
            clear hK K
            try simp only [Act.put, List.setIfInBounds_toArray, List.set_cons_zero, List.set_cons_succ]
            obtain ⟨c9, hc⟩ : ∃ c, c = w_3.heap.size := ⟨_, rfl⟩
            obtain ⟨w_8, hw⟩ : ∃ x, x = w_3.alloc (.cells #[.int .i64 0, .string { data := #[] }] 24) := ⟨_, rfl⟩
            rw [← hw] at hal
            have g9 : w0.heap.size ≤ c9 := by rw [hc]; exact hB.size
            have h9 : w_8.heap[c9]? = some (.cells #[.int .i64 0, .string { data := #[] }] 24 (0, 0)) := by rw [hw, hc]; exact heap_alloc_new _ _
            have n9 : ∀ bb off, A = some ⟨bb, off, none⟩ → 0 < L.length → bb ≠ c9 := fun bb off ha hlen hne => by obtain ⟨b', off', he, hlt, _⟩ := hE hlen; rw [ha] at he; injection he with he; injection he with he1 he2; omega
            have hE : TksV w_8 A L := hE.below hal
            have hB : Below w0.heap.size w0 w_8 := hB.trans (hal.mono hB.size)
            rw [← hw] at hHeld
            rw [← hw]
            rw [← hc]
            clear hw hc hal
            refine wpAnyH_ready (rs := [6]) (by kernel_rfl) (by simp) ?_
            refine AllReadyH.cons (o := ⟨some 8, _, _, _, _, _⟩) rfl (fun K hK => ?_) AllReadyH.nil
            go_simp
            have hal : Below w_8.heap.size w_8 (w_8.alloc (.cells #[.int .i64 0, .string { data := #[] }] 24)) := (Below.refl _ _).alloc (Nat.le_refl _) _
            refine hK.out _ _ ?_ (fun hHeld => ?_)
            · exact kept4 (hB.trans (hal.mono hB.size)) l1 l2 m0 m1 z0 z1
            clear hK K
            try simp only [Act.put, List.setIfInBounds_toArray, List.set_cons_zero, List.set_cons_succ]
            obtain ⟨c8, hc⟩ : ∃ c, c = w_8.heap.size := ⟨_, rfl⟩
            obtain ⟨w_9, hw⟩ : ∃ x, x = w_8.alloc (.cells #[.int .i64 0, .string { data := #[] }] 24) := ⟨_, rfl⟩
            rw [← hw] at hal
            have g8 : w0.heap.size ≤ c8 := by rw [hc]; exact hB.size
            have h8 : w_9.heap[c8]? = some (.cells #[.int .i64 0, .string { data := #[] }] 24 (0, 0)) := by rw [hw, hc]; exact heap_alloc_new _ _
            have hcc : c8 ≠ c9 := by have hlt : c9 < w_8.heap.size := lt_of_cell (Lib.cell_of_heap h9 0); omega
            have n8 : ∀ bb off, A = some ⟨bb, off, none⟩ → 0 < L.length → bb ≠ c8 := fun bb off ha hlen hne => by obtain ⟨b', off', he, hlt, _⟩ := hE hlen; rw [ha] at he; injection he with he; injection he with he1 he2; omega
            have h9 : w_9.heap[c9]? = some (.cells #[.int .i64 0, .string { data := #[] }] 24 (0, 0)) := (hal.block c9 (lt_of_cell (Lib.cell_of_heap h9 0))).trans h9
            have hE : TksV w_9 A L := hE.below hal
            have hB : Below w0.heap.size w0 w_9 := hB.trans (hal.mono hB.size)
            rw [← hw] at hHeld
            rw [← hw]
            rw [← hc]
            clear hw hc hal
            refine wpAnyH_take (i := 8) (oi := ⟨some 7, _, _, _, _, _⟩) (v := ?_) rfl (by kernel_rfl) (by kernel_rfl) (by kernel_rfl) (fun _ _ _ h => h) (Or.inl ⟨by rfl, ?hy⟩) (by assumption) ?_
            case hy => (intro w hSw; (try dsimp only at hSw); go_simp; (try with_reducible rfl))
            try simp only [Act.put, List.setIfInBounds_toArray, List.set_cons_zero, List.set_cons_succ]
            have q0 : w_9.cell? ⟨c8, 0, none⟩ = some (.int .i64 0) := Lib.cell_of_heap h8 0
            have q1 : w_9.cell? ⟨c8, 1, none⟩ = some (.string { data := #[] }) := Lib.cell_of_heap h8 1
            have r0 : w_9.frozen? ⟨c8, 0, none⟩ = false := by simp [World.frozen?, h8]
            have r1 : w_9.frozen? ⟨c8, 1, none⟩ = false := by simp [World.frozen?, h8]
            have hst := store2 h8 (.int .i64 k1) (.string y1)
            have hot := store2_other (c := c9) (g := c8) (Ne.symm hcc) (.int .i64 k1) (.string y1) (w := w_9)
            have hE : TksV ((w_9.setCell ⟨c8, 0, none⟩ (.int .i64 k1)).setCell ⟨c8, 1, none⟩ (.string y1)) A L := setT (setT hE n8 _) n8 _
            have hB : Below w0.heap.size w0 ((w_9.setCell ⟨c8, 0, none⟩ (.int .i64 k1)).setCell ⟨c8, 1, none⟩ (.string y1)) := (hB.setCell (p := ⟨c8, 0, none⟩) g8 _).setCell (p := ⟨c8, 1, none⟩) g8 _
            refine wpAnyH_ready (rs := [9]) (by kernel_rfl) (by simp) ?_
            refine AllReadyH.cons (o := ⟨none, _, _, _, _, _⟩) rfl (fun K hK => ?_) AllReadyH.nil
            go_simp
            refine hK.out _ _ ?_ (fun hHeld => ?_)
            · exact kept4 hB l1 l2 m0 m1 z0 z1
            clear hK K q0 q1 r0 r1
            try simp only [Act.put, List.setIfInBounds_toArray, List.set_cons_zero, List.set_cons_succ]
            obtain ⟨w_10, hw⟩ : ∃ x, x = ((w_9.setCell ⟨c8, 0, none⟩ (.int .i64 k1)).setCell ⟨c8, 1, none⟩ (.string y1)) := ⟨_, rfl⟩
            rw [← hw] at hst hot hE hB
            rw [← hw]
            have h8 := hst
            have h9 := hot.trans h9
            clear hw hst hot
            have q0 : w_10.cell? ⟨c9, 0, none⟩ = some (.int .i64 0) := Lib.cell_of_heap h9 0
            have q1 : w_10.cell? ⟨c9, 1, none⟩ = some (.string { data := #[] }) := Lib.cell_of_heap h9 1
            have r0 : w_10.frozen? ⟨c9, 0, none⟩ = false := by simp [World.frozen?, h9]
            have r1 : w_10.frozen? ⟨c9, 1, none⟩ = false := by simp [World.frozen?, h9]
            have hst := store2 h9 (.int .i64 k2) (.string y2)
            have hot := store2_other (c := c8) (g := c9) hcc (.int .i64 k2) (.string y2) (w := w_10)
            have hE : TksV ((w_10.setCell ⟨c9, 0, none⟩ (.int .i64 k2)).setCell ⟨c9, 1, none⟩ (.string y2)) A L := setT (setT hE n9 _) n9 _
            have hB : Below w0.heap.size w0 ((w_10.setCell ⟨c9, 0, none⟩ (.int .i64 k2)).setCell ⟨c9, 1, none⟩ (.string y2)) := (hB.setCell (p := ⟨c9, 0, none⟩) g9 _).setCell (p := ⟨c9, 1, none⟩) g9 _
            refine wpAnyH_ready (rs := [10]) (by kernel_rfl) (by simp) ?_
            refine AllReadyH.cons (o := ⟨none, _, _, _, _, _⟩) rfl (fun K hK => ?_) AllReadyH.nil
            go_simp
            refine hK.out _ _ ?_ (fun hHeld => ?_)
            · exact kept4 hB l1 l2 m0 m1 z0 z1
            clear hK K q0 q1 r0 r1
            try simp only [Act.put, List.setIfInBounds_toArray, List.set_cons_zero, List.set_cons_succ]
            obtain ⟨w_11, hw⟩ : ∃ x, x = ((w_10.setCell ⟨c9, 0, none⟩ (.int .i64 k2)).setCell ⟨c9, 1, none⟩ (.string y2)) := ⟨_, rfl⟩
            rw [← hw] at hst hot hE hB
            rw [← hw]
            have h9 := hst
            have h8 := hot.trans h8
            clear hw hst hot
            refine wpAnyH_done (by kernel_rfl) ?_ _
            go_wp2_with fail
            go_meet
            exact ⟨A, c, c8, c9, rfl, hE, rfl, rfl, HB0.out.trans (hB.mono HB0.out.size), h8, h9⟩
        · go_simp
          have hal : Below w_2.heap.size w_2 (w_2.alloc (.cells #[.int .i64 0, .string { data := #[] }] 24)) := (Below.refl _ _).alloc (Nat.le_refl _) _
          refine hK.out _ _ ?_ (fun hHeld => ?_)
          · exact kept4 (hB.trans (hal.mono hB.size)) l1 l2 m0 m1 z0 z1
          clear hK K
          try simp only [Act.put, List.setIfInBounds_toArray, List.set_cons_zero, List.set_cons_succ]
          obtain ⟨c8, hc⟩ : ∃ c, c = w_2.heap.size := ⟨_, rfl⟩
          obtain ⟨w_12, hw⟩ : ∃ x, x = w_2.alloc (.cells #[.int .i64 0, .string { data := #[] }] 24) := ⟨_, rfl⟩
          rw [← hw] at hal
          have g8 : w0.heap.size ≤ c8 := by rw [hc]; exact hB.size
          have h8 : w_12.heap[c8]? = some (.cells #[.int .i64 0, .string { data := #[] }] 24 (0, 0)) := by rw [hw, hc]; exact heap_alloc_new _ _
          have n8 : ∀ bb off, A = some ⟨bb, off, none⟩ → 0 < L.length → bb ≠ c8 := fun bb off ha hlen hne => by obtain ⟨b', off', he, hlt, _⟩ := hE hlen; rw [ha] at he; injection he with he; injection he with he1 he2; omega
          have hE : TksV w_12 A L := hE.below hal
          have hB : Below w0.heap.size w0 w_12 := hB.trans (hal.mono hB.size)
          rw [← hw] at hHeld
          rw [← hw]
          rw [← hc]
          clear hw hc hal
          refine wpAnyH_ready (rs := [5, 7]) (by kernel_rfl) (by simp) ?_
          refine AllReadyH.cons (o := ⟨some 18, _, _, _, _, _⟩) rfl (fun K hK => ?_) (AllReadyH.cons (o := ⟨some 9, _, _, _, _, _⟩) rfl (fun K hK => ?_) AllReadyH.nil)
          · go_simp
            go_at_call 12
            with_reducible refine (Hone2.out _).mono ?_
            rintro e w_13 ⟨rfl, hbC⟩
            have h8 : w_13.heap[c8]? = some (.cells #[.int .i64 0, .string { data := #[] }] 24 (0, 0)) := (hbC.block c8 (lt_of_cell (Lib.cell_of_heap h8 0))).trans h8
            have hE : TksV w_13 A L := hE.below hbC
            have hB : Below w0.heap.size w0 w_13 := hB.trans (hbC.mono hB.size)
            refine hK.out _ _ ?_ (fun hHeld => ?_)
            · exact kept4 hB l1 l2 m0 m1 z0 z1
            clear hK K
            try simp only [Act.put, List.setIfInBounds_toArray, List.set_cons_zero, List.set_cons_succ]
            refine wpAnyH_ready (rs := [7]) (by kernel_rfl) (by simp) ?_
            refine AllReadyH.cons (o := ⟨some 9, _, _, _, _, _⟩) rfl (fun K hK => ?_) AllReadyH.nil
            go_simp
            have hal : Below w_13.heap.size w_13 (w_13.alloc (.cells #[.int .i64 0, .string { data := #[] }] 24)) := (Below.refl _ _).alloc (Nat.le_refl _) _
            refine hK.out _ _ ?_ (fun hHeld => ?_)
            · exact kept4 (hB.trans (hal.mono hB.size)) l1 l2 m0 m1 z0 z1
            clear hK K
            try simp only [Act.put, List.setIfInBounds_toArray, List.set_cons_zero, List.set_cons_succ]
            obtain ⟨c9, hc⟩ : ∃ c, c = w_13.heap.size := ⟨_, rfl⟩
            obtain ⟨w_14, hw⟩ : ∃ x, x = w_13.alloc (.cells #[.int .i64 0, .string { data := #[] }] 24) := ⟨_, rfl⟩
            rw [← hw] at hal
            have g9 : w0.heap.size ≤ c9 := by rw [hc]; exact hB.size
            have h9 : w_14.heap[c9]? = some (.cells #[.int .i64 0, .string { data := #[] }] 24 (0, 0)) := by rw [hw, hc]; exact heap_alloc_new _ _
            have hcc : c8 ≠ c9 := by have hlt : c8 < w_13.heap.size := lt_of_cell (Lib.cell_of_heap h8 0); omega
            have n9 : ∀ bb off, A = some ⟨bb, off, none⟩ → 0 < L.length → bb ≠ c9 := fun bb off ha hlen hne => by obtain ⟨b', off', he, hlt, _⟩ := hE hlen; rw [ha] at he; injection he with he; injection he with he1 he2; omega
            have h8 : w_14.heap[c8]? = some (.cells #[.int .i64 0, .string { data := #[] }] 24 (0, 0)) := (hal.block c8 (lt_of_cell (Lib.cell_of_heap h8 0))).trans h8
            have hE : TksV w_14 A L := hE.below hal
            have hB : Below w0.heap.size w0 w_14 := hB.trans (hal.mono hB.size)
            rw [← hw] at hHeld
            rw [← hw]
            rw [← hc]
            clear hw hc hal
            refine wpAnyH_take (i := 8) (oi := ⟨some 7, _, _, _, _, _⟩) (v := ?_) rfl (by kernel_rfl) (by kernel_rfl) (by kernel_rfl) (fun _ _ _ h => h) (Or.inl ⟨by rfl, ?hy⟩) (by assumption) ?_
            case hy => (intro w hSw; (try dsimp only at hSw); go_simp; (try with_reducible rfl))
            try simp only [Act.put, List.setIfInBounds_toArray, List.set_cons_zero, List.set_cons_succ]
            have q0 : w_14.cell? ⟨c8, 0, none⟩ = some (.int .i64 0) := Lib.cell_of_heap h8 0
            have q1 : w_14.cell? ⟨c8, 1, none⟩ = some (.string { data := #[] }) := Lib.cell_of_heap h8 1
            have r0 : w_14.frozen? ⟨c8, 0, none⟩ = false := by simp [World.frozen?, h8]
            have r1 : w_14.frozen? ⟨c8, 1, none⟩ = false := by simp [World.frozen?, h8]
            have hst := store2 h8 (.int .i64 k1) (.string y1)
            have hot := store2_other (c := c9) (g := c8) (Ne.symm hcc) (.int .i64 k1) (.string y1) (w := w_14)
            have hE : TksV ((w_14.setCell ⟨c8, 0, none⟩ (.int .i64 k1)).setCell ⟨c8, 1, none⟩ (.string y1)) A L := setT (setT hE n8 _) n8 _
            have hB : Below w0.heap.size w0 ((w_14.setCell ⟨c8, 0, none⟩ (.int .i64 k1)).setCell ⟨c8, 1, none⟩ (.string y1)) := (hB.setCell (p := ⟨c8, 0, none⟩) g8 _).setCell (p := ⟨c8, 1, none⟩) g8 _
            refine wpAnyH_ready (rs := [9]) (by kernel_rfl) (by simp) ?_
            refine AllReadyH.cons (o := ⟨none, _, _, _, _, _⟩) rfl (fun K hK => ?_) AllReadyH.nil
            go_simp
            refine hK.out _ _ ?_ (fun hHeld => ?_)
            · exact kept4 hB l1 l2 m0 m1 z0 z1
            clear hK K q0 q1 r0 r1
            try simp only [Act.put, List.setIfInBounds_toArray, List.set_cons_zero, List.set_cons_succ]
            obtain ⟨w_15, hw⟩ : ∃ x, x = ((w_14.setCell ⟨c8, 0, none⟩ (.int .i64 k1)).setCell ⟨c8, 1, none⟩ (.string y1)) := ⟨_, rfl⟩
            rw [← hw] at hst hot hE hB
            rw [← hw]
            have h8 := hst
            have h9 := hot.trans h9
            clear hw hst hot
            have q0 : w_15.cell? ⟨c9, 0, none⟩ = some (.int .i64 0) := Lib.cell_of_heap h9 0
            have q1 : w_15.cell? ⟨c9, 1, none⟩ = some (.string { data := #[] }) := Lib.cell_of_heap h9 1
            have r0 : w_15.frozen? ⟨c9, 0, none⟩ = false := by simp [World.frozen?, h9]
            have r1 : w_15.frozen? ⟨c9, 1, none⟩ = false := by simp [World.frozen?, h9]
            have hst := store2 h9 (.int .i64 k2) (.string y2)
            have hot := store2_other (c := c8) (g := c9) hcc (.int .i64 k2) (.string y2) (w := w_15)
            have hE : TksV ((w_15.setCell ⟨c9, 0, none⟩ (.int .i64 k2)).setCell ⟨c9, 1, none⟩ (.string y2)) A L := setT (setT hE n9 _) n9 _
            have hB : Below w0.heap.size w0 ((w_15.setCell ⟨c9, 0, none⟩ (.int .i64 k2)).setCell ⟨c9, 1, none⟩ (.string y2)) := (hB.setCell (p := ⟨c9, 0, none⟩) g9 _).setCell (p := ⟨c9, 1, none⟩) g9 _
            refine wpAnyH_ready (rs := [10]) (by kernel_rfl) (by simp) ?_
            refine AllReadyH.cons (o := ⟨none, _, _, _, _, _⟩) rfl (fun K hK => ?_) AllReadyH.nil
            go_simp
            refine hK.out _ _ ?_ (fun hHeld => ?_)
            · exact kept4 hB l1 l2 m0 m1 z0 z1
            clear hK K q0 q1 r0 r1
            try simp only [Act.put, List.setIfInBounds_toArray, List.set_cons_zero, List.set_cons_succ]
            obtain ⟨w_16, hw⟩ : ∃ x, x = ((w_15.setCell ⟨c9, 0, none⟩ (.int .i64 k2)).setCell ⟨c9, 1, none⟩ (.string y2)) := ⟨_, rfl⟩
            rw [← hw] at hst hot hE hB
            rw [← hw]
            have h9 := hst
            have h8 := hot.trans h8
            clear hw hst hot
            refine wpAnyH_done (by kernel_rfl) ?_ _
            go_wp2_with fail
            go_meet
            exact ⟨A, c, c8, c9, rfl, hE, rfl, rfl, HB0.out.trans (hB.mono HB0.out.size), h8, h9⟩
          · go_simp
            have hal : Below w_12.heap.size w_12 (w_12.alloc (.cells #[.int .i64 0, .string { data := #[] }] 24)) := (Below.refl _ _).alloc (Nat.le_refl _) _
            refine hK.out _ _ ?_ (fun hHeld => ?_)
            · exact kept4 (hB.trans (hal.mono hB.size)) l1 l2 m0 m1 z0 z1
            clear hK K
            try simp only [Act.put, List.setIfInBounds_toArray, List.set_cons_zero, List.set_cons_succ]
            obtain ⟨c9, hc⟩ : ∃ c, c = w_12.heap.size := ⟨_, rfl⟩
            obtain ⟨w_17, hw⟩ : ∃ x, x = w_12.alloc (.cells #[.int .i64 0, .string { data := #[] }] 24) := ⟨_, rfl⟩
            rw [← hw] at hal
            have g9 : w0.heap.size ≤ c9 := by rw [hc]; exact hB.size
            have h9 : w_17.heap[c9]? = some (.cells #[.int .i64 0, .string { data := #[] }] 24 (0, 0)) := by rw [hw, hc]; exact heap_alloc_new _ _
            have hcc : c8 ≠ c9 := by have hlt : c8 < w_12.heap.size := lt_of_cell (Lib.cell_of_heap h8 0); omega
            have n9 : ∀ bb off, A = some ⟨bb, off, none⟩ → 0 < L.length → bb ≠ c9 := fun bb off ha hlen hne => by obtain ⟨b', off', he, hlt, _⟩ := hE hlen; rw [ha] at he; injection he with he; injection he with he1 he2; omega
            have h8 : w_17.heap[c8]? = some (.cells #[.int .i64 0, .string { data := #[] }] 24 (0, 0)) := (hal.block c8 (lt_of_cell (Lib.cell_of_heap h8 0))).trans h8
            have hE : TksV w_17 A L := hE.below hal
            have hB : Below w0.heap.size w0 w_17 := hB.trans (hal.mono hB.size)
            rw [← hw] at hHeld
            rw [← hw]
            rw [← hc]
            clear hw hc hal
            refine wpAnyH_ready (rs := [5]) (by kernel_rfl) (by simp) ?_
            refine AllReadyH.cons (o := ⟨some 18, _, _, _, _, _⟩) rfl (fun K hK => ?_) AllReadyH.nil
            go_simp
            go_at_call 12
            with_reducible refine (Hone2.out _).mono ?_
            rintro e w_18 ⟨rfl, hbC⟩
            have h8 : w_18.heap[c8]? = some (.cells #[.int .i64 0, .string { data := #[] }] 24 (0, 0)) := (hbC.block c8 (lt_of_cell (Lib.cell_of_heap h8 0))).trans h8
            have h9 : w_18.heap[c9]? = some (.cells #[.int .i64 0, .string { data := #[] }] 24 (0, 0)) := (hbC.block c9 (lt_of_cell (Lib.cell_of_heap h9 0))).trans h9
            have hE : TksV w_18 A L := hE.below hbC
            have hB : Below w0.heap.size w0 w_18 := hB.trans (hbC.mono hB.size)
            refine hK.out _ _ ?_ (fun hHeld => ?_)
            · exact kept4 hB l1 l2 m0 m1 z0 z1
            clear hK K
            try simp only [Act.put, List.setIfInBounds_toArray, List.set_cons_zero, List.set_cons_succ]
            refine wpAnyH_take (i := 8) (oi := ⟨some 7, _, _, _, _, _⟩) (v := ?_) rfl (by kernel_rfl) (by kernel_rfl) (by kernel_rfl) (fun _ _ _ h => h) (Or.inl ⟨by rfl, ?hy⟩) (by assumption) ?_
            case hy => (intro w hSw; (try dsimp only at hSw); go_simp; (try with_reducible rfl))
            try simp only [Act.put, List.setIfInBounds_toArray, List.set_cons_zero, List.set_cons_succ]
            have q0 : w_18.cell? ⟨c8, 0, none⟩ = some (.int .i64 0) := Lib.cell_of_heap h8 0
            have q1 : w_18.cell? ⟨c8, 1, none⟩ = some (.string { data := #[] }) := Lib.cell_of_heap h8 1
            have r0 : w_18.frozen? ⟨c8, 0, none⟩ = false := by simp [World.frozen?, h8]
            have r1 : w_18.frozen? ⟨c8, 1, none⟩ = false := by simp [World.frozen?, h8]
            have hst := store2 h8 (.int .i64 k1) (.string y1)
            have hot := store2_other (c := c9) (g := c8) (Ne.symm hcc) (.int .i64 k1) (.string y1) (w := w_18)
            have hE : TksV ((w_18.setCell ⟨c8, 0, none⟩ (.int .i64 k1)).setCell ⟨c8, 1, none⟩ (.string y1)) A L := setT (setT hE n8 _) n8 _
            have hB : Below w0.heap.size w0 ((w_18.setCell ⟨c8, 0, none⟩ (.int .i64 k1)).setCell ⟨c8, 1, none⟩ (.string y1)) := (hB.setCell (p := ⟨c8, 0, none⟩) g8 _).setCell (p := ⟨c8, 1, none⟩) g8 _
            refine wpAnyH_ready (rs := [9]) (by kernel_rfl) (by simp) ?_
            refine AllReadyH.cons (o := ⟨none, _, _, _, _, _⟩) rfl (fun K hK => ?_) AllReadyH.nil
            go_simp
            refine hK.out _ _ ?_ (fun hHeld => ?_)
            · exact kept4 hB l1 l2 m0 m1 z0 z1
            clear hK K q0 q1 r0 r1
            try simp only [Act.put, List.setIfInBounds_toArray, List.set_cons_zero, List.set_cons_succ]
            obtain ⟨w_19, hw⟩ : ∃ x, x = ((w_18.setCell ⟨c8, 0, none⟩ (.int .i64 k1)).setCell ⟨c8, 1, none⟩ (.string y1)) := ⟨_, rfl⟩
            rw [← hw] at hst hot hE hB
            rw [← hw]
            have h8 := hst
            have h9 := hot.trans h9
            clear hw hst hot
            have q0 : w_19.cell? ⟨c9, 0, none⟩ = some (.int .i64 0) := Lib.cell_of_heap h9 0
            have q1 : w_19.cell? ⟨c9, 1, none⟩ = some (.string { data := #[] }) := Lib.cell_of_heap h9 1
            have r0 : w_19.frozen? ⟨c9, 0, none⟩ = false := by simp [World.frozen?, h9]
            have r1 : w_19.frozen? ⟨c9, 1, none⟩ = false := by simp [World.frozen?, h9]
            have hst := store2 h9 (.int .i64 k2) (.string y2)
            have hot := store2_other (c := c8) (g := c9) hcc (.int .i64 k2) (.string y2) (w := w_19)
            have hE : TksV ((w_19.setCell ⟨c9, 0, none⟩ (.int .i64 k2)).setCell ⟨c9, 1, none⟩ (.string y2)) A L := setT (setT hE n9 _) n9 _
            have hB : Below w0.heap.size w0 ((w_19.setCell ⟨c9, 0, none⟩ (.int .i64 k2)).setCell ⟨c9, 1, none⟩ (.string y2)) := (hB.setCell (p := ⟨c9, 0, none⟩) g9 _).setCell (p := ⟨c9, 1, none⟩) g9 _
            refine wpAnyH_ready (rs := [10]) (by kernel_rfl) (by simp) ?_
            refine AllReadyH.cons (o := ⟨none, _, _, _, _, _⟩) rfl (fun K hK => ?_) AllReadyH.nil
            go_simp
            refine hK.out _ _ ?_ (fun hHeld => ?_)
            · exact kept4 hB l1 l2 m0 m1 z0 z1
            clear hK K q0 q1 r0 r1
            try simp only [Act.put, List.setIfInBounds_toArray, List.set_cons_zero, List.set_cons_succ]
            obtain ⟨w_20, hw⟩ : ∃ x, x = ((w_19.setCell ⟨c9, 0, none⟩ (.int .i64 k2)).setCell ⟨c9, 1, none⟩ (.string y2)) := ⟨_, rfl⟩
            rw [← hw] at hst hot hE hB
            rw [← hw]
            have h9 := hst
            have h8 := hot.trans h8
            clear hw hst hot
            refine wpAnyH_done (by kernel_rfl) ?_ _
            go_wp2_with fail
            go_meet
            exact ⟨A, c, c8, c9, rfl, hE, rfl, rfl, HB0.out.trans (hB.mono HB0.out.size), h8, h9⟩
        · go_simp
          have hal : Below w_2.heap.size w_2 (w_2.alloc (.cells #[.int .i64 0, .string { data := #[] }] 24)) := (Below.refl _ _).alloc (Nat.le_refl _) _
          refine hK.out _ _ ?_ (fun hHeld => ?_)
          · exact kept4 (hB.trans (hal.mono hB.size)) l1 l2 m0 m1 z0 z1
          clear hK K
          try simp only [Act.put, List.setIfInBounds_toArray, List.set_cons_zero, List.set_cons_succ]
          obtain ⟨c9, hc⟩ : ∃ c, c = w_2.heap.size := ⟨_, rfl⟩
          obtain ⟨w_21, hw⟩ : ∃ x, x = w_2.alloc (.cells #[.int .i64 0, .string { data := #[] }] 24) := ⟨_, rfl⟩
          rw [← hw] at hal
          have g9 : w0.heap.size ≤ c9 := by rw [hc]; exact hB.size
          have h9 : w_21.heap[c9]? = some (.cells #[.int .i64 0, .string { data := #[] }] 24 (0, 0)) := by rw [hw, hc]; exact heap_alloc_new _ _
          have n9 : ∀ bb off, A = some ⟨bb, off, none⟩ → 0 < L.length → bb ≠ c9 := fun bb off ha hlen hne => by obtain ⟨b', off', he, hlt, _⟩ := hE hlen; rw [ha] at he; injection he with he; injection he with he1 he2; omega
          have hE : TksV w_21 A L := hE.below hal
          have hB : Below w0.heap.size w0 w_21 := hB.trans (hal.mono hB.size)
          rw [← hw] at hHeld
          rw [← hw]
          rw [← hc]
          clear hw hc hal
          refine wpAnyH_ready (rs := [5, 6]) (by kernel_rfl) (by simp) ?_
          refine AllReadyH.cons (o := ⟨some 18, _, _, _, _, _⟩) rfl (fun K hK => ?_) (AllReadyH.cons (o := ⟨some 8, _, _, _, _, _⟩) rfl (fun K hK => ?_) AllReadyH.nil)
          · go_simp
            go_at_call 12
            with_reducible refine (Hone2.out _).mono ?_
            rintro e w_22 ⟨rfl, hbC⟩
            have h9 : w_22.heap[c9]? = some (.cells #[.int .i64 0, .string { data := #[] }] 24 (0, 0)) := (hbC.block c9 (lt_of_cell (Lib.cell_of_heap h9 0))).trans h9
            have hE : TksV w_22 A L := hE.below hbC
            have hB : Below w0.heap.size w0 w_22 := hB.trans (hbC.mono hB.size)
            refine hK.out _ _ ?_ (fun hHeld => ?_)
            · exact kept4 hB l1 l2 m0 m1 z0 z1
            clear hK K
            try simp only [Act.put, List.setIfInBounds_toArray, List.set_cons_zero, List.set_cons_succ]
            refine wpAnyH_ready (rs := [6]) (by kernel_rfl) (by simp) ?_
            refine AllReadyH.cons (o := ⟨some 8, _, _, _, _, _⟩) rfl (fun K hK => ?_) AllReadyH.nil
            go_simp
            have hal : Below w_22.heap.size w_22 (w_22.alloc (.cells #[.int .i64 0, .string { data := #[] }] 24)) := (Below.refl _ _).alloc (Nat.le_refl _) _
            refine hK.out _ _ ?_ (fun hHeld => ?_)
            · exact kept4 (hB.trans (hal.mono hB.size)) l1 l2 m0 m1 z0 z1
            clear hK K
            try simp only [Act.put, List.setIfInBounds_toArray, List.set_cons_zero, List.set_cons_succ]
            obtain ⟨c8, hc⟩ : ∃ c, c = w_22.heap.size := ⟨_, rfl⟩
            obtain ⟨w_23, hw⟩ : ∃ x, x = w_22.alloc (.cells #[.int .i64 0, .string { data := #[] }] 24) := ⟨_, rfl⟩
            rw [← hw] at hal
            have g8 : w0.heap.size ≤ c8 := by rw [hc]; exact hB.size
            have h8 : w_23.heap[c8]? = some (.cells #[.int .i64 0, .string { data := #[] }] 24 (0, 0)) := by rw [hw, hc]; exact heap_alloc_new _ _
            have hcc : c8 ≠ c9 := by have hlt : c9 < w_22.heap.size := lt_of_cell (Lib.cell_of_heap h9 0); omega
            have n8 : ∀ bb off, A = some ⟨bb, off, none⟩ → 0 < L.length → bb ≠ c8 := fun bb off ha hlen hne => by obtain ⟨b', off', he, hlt, _⟩ := hE hlen; rw [ha] at he; injection he with he; injection he with he1 he2; omega
            have h9 : w_23.heap[c9]? = some (.cells #[.int .i64 0, .string { data := #[] }] 24 (0, 0)) := (hal.block c9 (lt_of_cell (Lib.cell_of_heap h9 0))).trans h9
            have hE : TksV w_23 A L := hE.below hal
            have hB : Below w0.heap.size w0 w_23 := hB.trans (hal.mono hB.size)
            rw [← hw] at hHeld
            rw [← hw]
            rw [← hc]
            clear hw hc hal
            refine wpAnyH_take (i := 8) (oi := ⟨some 7, _, _, _, _, _⟩) (v := ?_) rfl (by kernel_rfl) (by kernel_rfl) (by kernel_rfl) (fun _ _ _ h => h) (Or.inl ⟨by rfl, ?hy⟩) (by assumption) ?_
            case hy => (intro w hSw; (try dsimp only at hSw); go_simp; (try with_reducible rfl))
            try simp only [Act.put, List.setIfInBounds_toArray, List.set_cons_zero, List.set_cons_succ]
            have q0 : w_23.cell? ⟨c8, 0, none⟩ = some (.int .i64 0) := Lib.cell_of_heap h8 0
            have q1 : w_23.cell? ⟨c8, 1, none⟩ = some (.string { data := #[] }) := Lib.cell_of_heap h8 1
            have r0 : w_23.frozen? ⟨c8, 0, none⟩ = false := by simp [World.frozen?, h8]
            have r1 : w_23.frozen? ⟨c8, 1, none⟩ = false := by simp [World.frozen?, h8]
            have hst := store2 h8 (.int .i64 k1) (.string y1)
            have hot := store2_other (c := c9) (g := c8) (Ne.symm hcc) (.int .i64 k1) (.string y1) (w := w_23)
            have hE : TksV ((w_23.setCell ⟨c8, 0, none⟩ (.int .i64 k1)).setCell ⟨c8, 1, none⟩ (.string y1)) A L := setT (setT hE n8 _) n8 _
            have hB : Below w0.heap.size w0 ((w_23.setCell ⟨c8, 0, none⟩ (.int .i64 k1)).setCell ⟨c8, 1, none⟩ (.string y1)) := (hB.setCell (p := ⟨c8, 0, none⟩) g8 _).setCell (p := ⟨c8, 1, none⟩) g8 _
            refine wpAnyH_ready (rs := [9]) (by kernel_rfl) (by simp) ?_
            refine AllReadyH.cons (o := ⟨none, _, _, _, _, _⟩) rfl (fun K hK => ?_) AllReadyH.nil
            go_simp
            refine hK.out _ _ ?_ (fun hHeld => ?_)
            · exact kept4 hB l1 l2 m0 m1 z0 z1
            clear hK K q0 q1 r0 r1
            try simp only [Act.put, List.setIfInBounds_toArray, List.set_cons_zero, List.set_cons_succ]
            obtain ⟨w_24, hw⟩ : ∃ x, x = ((w_23.setCell ⟨c8, 0, none⟩ (.int .i64 k1)).setCell ⟨c8, 1, none⟩ (.string y1)) := ⟨_, rfl⟩
            rw [← hw] at hst hot hE hB
            rw [← hw]
            have h8 := hst
            have h9 := hot.trans h9
            clear hw hst hot
            have q0 : w_24.cell? ⟨c9, 0, none⟩ = some (.int .i64 0) := Lib.cell_of_heap h9 0
            have q1 : w_24.cell? ⟨c9, 1, none⟩ = some (.string { data := #[] }) := Lib.cell_of_heap h9 1
            have r0 : w_24.frozen? ⟨c9, 0, none⟩ = false := by simp [World.frozen?, h9]
            have r1 : w_24.frozen? ⟨c9, 1, none⟩ = false := by simp [World.frozen?, h9]
            have hst := store2 h9 (.int .i64 k2) (.string y2)
            have hot := store2_other (c := c8) (g := c9) hcc (.int .i64 k2) (.string y2) (w := w_24)
            have hE : TksV ((w_24.setCell ⟨c9, 0, none⟩ (.int .i64 k2)).setCell ⟨c9, 1, none⟩ (.string y2)) A L := setT (setT hE n9 _) n9 _
            have hB : Below w0.heap.size w0 ((w_24.setCell ⟨c9, 0, none⟩ (.int .i64 k2)).setCell ⟨c9, 1, none⟩ (.string y2)) := (hB.setCell (p := ⟨c9, 0, none⟩) g9 _).setCell (p := ⟨c9, 1, none⟩) g9 _
            refine wpAnyH_ready (rs := [10]) (by kernel_rfl) (by simp) ?_
            refine AllReadyH.cons (o := ⟨none, _, _, _, _, _⟩) rfl (fun K hK => ?_) AllReadyH.nil
            go_simp
            refine hK.out _ _ ?_ (fun hHeld => ?_)
            · exact kept4 hB l1 l2 m0 m1 z0 z1
            clear hK K q0 q1 r0 r1
            try simp only [Act.put, List.setIfInBounds_toArray, List.set_cons_zero, List.set_cons_succ]
            obtain ⟨w_25, hw⟩ : ∃ x, x = ((w_24.setCell ⟨c9, 0, none⟩ (.int .i64 k2)).setCell ⟨c9, 1, none⟩ (.string y2)) := ⟨_, rfl⟩
            rw [← hw] at hst hot hE hB
            rw [← hw]
            have h9 := hst
            have h8 := hot.trans h8
            clear hw hst hot
            refine wpAnyH_done (by kernel_rfl) ?_ _
            go_wp2_with fail
            go_meet
            exact ⟨A, c, c8, c9, rfl, hE, rfl, rfl, HB0.out.trans (hB.mono HB0.out.size), h8, h9⟩
          · go_simp
            have hal : Below w_21.heap.size w_21 (w_21.alloc (.cells #[.int .i64 0, .string { data := #[] }] 24)) := (Below.refl _ _).alloc (Nat.le_refl _) _
            refine hK.out _ _ ?_ (fun hHeld => ?_)
            · exact kept4 (hB.trans (hal.mono hB.size)) l1 l2 m0 m1 z0 z1
            clear hK K
            try simp only [Act.put, List.setIfInBounds_toArray, List.set_cons_zero, List.set_cons_succ]
            obtain ⟨c8, hc⟩ : ∃ c, c = w_21.heap.size := ⟨_, rfl⟩
            obtain ⟨w_26, hw⟩ : ∃ x, x = w_21.alloc (.cells #[.int .i64 0, .string { data := #[] }] 24) := ⟨_, rfl⟩
            rw [← hw] at hal
            have g8 : w0.heap.size ≤ c8 := by rw [hc]; exact hB.size
            have h8 : w_26.heap[c8]? = some (.cells #[.int .i64 0, .string { data := #[] }] 24 (0, 0)) := by rw [hw, hc]; exact heap_alloc_new _ _
            have hcc : c8 ≠ c9 := by have hlt : c9 < w_21.heap.size := lt_of_cell (Lib.cell_of_heap h9 0); omega
            have n8 : ∀ bb off, A = some ⟨bb, off, none⟩ → 0 < L.length → bb ≠ c8 := fun bb off ha hlen hne => by obtain ⟨b', off', he, hlt, _⟩ := hE hlen; rw [ha] at he; injection he with he; injection he with he1 he2; omega
            have h9 : w_26.heap[c9]? = some (.cells #[.int .i64 0, .string { data := #[] }] 24 (0, 0)) := (hal.block c9 (lt_of_cell (Lib.cell_of_heap h9 0))).trans h9
            have hE : TksV w_26 A L := hE.below hal
            have hB : Below w0.heap.size w0 w_26 := hB.trans (hal.mono hB.size)
            rw [← hw] at hHeld
            rw [← hw]
            rw [← hc]
            clear hw hc hal
            refine wpAnyH_ready (rs := [5]) (by kernel_rfl) (by simp) ?_
            refine AllReadyH.cons (o := ⟨some 18, _, _, _, _, _⟩) rfl (fun K hK => ?_) AllReadyH.nil
            go_simp
            go_at_call 12
            with_reducible refine (Hone2.out _).mono ?_
            rintro e w_27 ⟨rfl, hbC⟩
            have h8 : w_27.heap[c8]? = some (.cells #[.int .i64 0, .string { data := #[] }] 24 (0, 0)) := (hbC.block c8 (lt_of_cell (Lib.cell_of_heap h8 0))).trans h8
            have h9 : w_27.heap[c9]? = some (.cells #[.int .i64 0, .string { data := #[] }] 24 (0, 0)) := (hbC.block c9 (lt_of_cell (Lib.cell_of_heap h9 0))).trans h9
            have hE : TksV w_27 A L := hE.below hbC
            have hB : Below w0.heap.size w0 w_27 := hB.trans (hbC.mono hB.size)
            refine hK.out _ _ ?_ (fun hHeld => ?_)
            · exact kept4 hB l1 l2 m0 m1 z0 z1
            clear hK K
            try simp only [Act.put, List.setIfInBounds_toArray, List.set_cons_zero, List.set_cons_succ]
            refine wpAnyH_take (i := 8) (oi := ⟨some 7, _, _, _, _, _⟩) (v := ?_) rfl (by kernel_rfl) (by kernel_rfl) (by kernel_rfl) (fun _ _ _ h => h) (Or.inl ⟨by rfl, ?hy⟩) (by assumption) ?_
            case hy => (intro w hSw; (try dsimp only at hSw); go_simp; (try with_reducible rfl))
            try simp only [Act.put, List.setIfInBounds_toArray, List.set_cons_zero, List.set_cons_succ]
            have q0 : w_27.cell? ⟨c8, 0, none⟩ = some (.int .i64 0) := Lib.cell_of_heap h8 0
            have q1 : w_27.cell? ⟨c8, 1, none⟩ = some (.string { data := #[] }) := Lib.cell_of_heap h8 1
            have r0 : w_27.frozen? ⟨c8, 0, none⟩ = false := by simp [World.frozen?, h8]
            have r1 : w_27.frozen? ⟨c8, 1, none⟩ = false := by simp [World.frozen?, h8]
            have hst := store2 h8 (.int .i64 k1) (.string y1)
            have hot := store2_other (c := c9) (g := c8) (Ne.symm hcc) (.int .i64 k1) (.string y1) (w := w_27)
            have hE : TksV ((w_27.setCell ⟨c8, 0, none⟩ (.int .i64 k1)).setCell ⟨c8, 1, none⟩ (.string y1)) A L := setT (setT hE n8 _) n8 _
            have hB : Below w0.heap.size w0 ((w_27.setCell ⟨c8, 0, none⟩ (.int .i64 k1)).setCell ⟨c8, 1, none⟩ (.string y1)) := (hB.setCell (p := ⟨c8, 0, none⟩) g8 _).setCell (p := ⟨c8, 1, none⟩) g8 _
            refine wpAnyH_ready (rs := [9]) (by kernel_rfl) (by simp) ?_
            refine AllReadyH.cons (o := ⟨none, _, _, _, _, _⟩) rfl (fun K hK => ?_) AllReadyH.nil
            go_simp
            refine hK.out _ _ ?_ (fun hHeld => ?_)
            · exact kept4 hB l1 l2 m0 m1 z0 z1
            clear hK K q0 q1 r0 r1
            try simp only [Act.put, List.setIfInBounds_toArray, List.set_cons_zero, List.set_cons_succ]
            obtain ⟨w_28, hw⟩ : ∃ x, x = ((w_27.setCell ⟨c8, 0, none⟩ (.int .i64 k1)).setCell ⟨c8, 1, none⟩ (.string y1)) := ⟨_, rfl⟩
            rw [← hw] at hst hot hE hB
            rw [← hw]
            have h8 := hst
            have h9 := hot.trans h9
            clear hw hst hot
            have q0 : w_28.cell? ⟨c9, 0, none⟩ = some (.int .i64 0) := Lib.cell_of_heap h9 0
            have q1 : w_28.cell? ⟨c9, 1, none⟩ = some (.string { data := #[] }) := Lib.cell_of_heap h9 1
            have r0 : w_28.frozen? ⟨c9, 0, none⟩ = false := by simp [World.frozen?, h9]
            have r1 : w_28.frozen? ⟨c9, 1, none⟩ = false := by simp [World.frozen?, h9]
            have hst := store2 h9 (.int .i64 k2) (.string y2)
            have hot := store2_other (c := c8) (g := c9) hcc (.int .i64 k2) (.string y2) (w := w_28)
            have hE : TksV ((w_28.setCell ⟨c9, 0, none⟩ (.int .i64 k2)).setCell ⟨c9, 1, none⟩ (.string y2)) A L := setT (setT hE n9 _) n9 _
            have hB : Below w0.heap.size w0 ((w_28.setCell ⟨c9, 0, none⟩ (.int .i64 k2)).setCell ⟨c9, 1, none⟩ (.string y2)) := (hB.setCell (p := ⟨c9, 0, none⟩) g9 _).setCell (p := ⟨c9, 1, none⟩) g9 _
            refine wpAnyH_ready (rs := [10]) (by kernel_rfl) (by simp) ?_
            refine AllReadyH.cons (o := ⟨none, _, _, _, _, _⟩) rfl (fun K hK => ?_) AllReadyH.nil
            go_simp
            refine hK.out _ _ ?_ (fun hHeld => ?_)
            · exact kept4 hB l1 l2 m0 m1 z0 z1
            clear hK K q0 q1 r0 r1
            try simp only [Act.put, List.setIfInBounds_toArray, List.set_cons_zero, List.set_cons_succ]
            obtain ⟨w_29, hw⟩ : ∃ x, x = ((w_28.setCell ⟨c9, 0, none⟩ (.int .i64 k2)).setCell ⟨c9, 1, none⟩ (.string y2)) := ⟨_, rfl⟩
            rw [← hw] at hst hot hE hB
            rw [← hw]
            have h9 := hst
            have h8 := hot.trans h8
            clear hw hst hot
            refine wpAnyH_done (by kernel_rfl) ?_ _
            go_wp2_with fail
            go_meet
            exact ⟨A, c, c8, c9, rfl, hE, rfl, rfl, HB0.out.trans (hB.mono HB0.out.size), h8, h9⟩
      · go_simp
        have hal : Below w_1.heap.size w_1 (w_1.alloc (.cells #[.int .i64 0, .string { data := #[] }] 24)) := (Below.refl _ _).alloc (Nat.le_refl _) _
        refine hK.out _ _ ?_ (fun hHeld => ?_)
        · exact kept4 (hB.trans (hal.mono hB.size)) l1 l2 m0 m1 z0 z1
        clear hK K
        try simp only [Act.put, List.setIfInBounds_toArray, List.set_cons_zero, List.set_cons_succ]
        obtain ⟨c8, hc⟩ : ∃ c, c = w_1.heap.size := ⟨_, rfl⟩
        obtain ⟨w_30, hw⟩ : ∃ x, x = w_1.alloc (.cells #[.int .i64 0, .string { data := #[] }] 24) := ⟨_, rfl⟩
        rw [← hw] at hal
        have g8 : w0.heap.size ≤ c8 := by rw [hc]; exact hB.size
        have h8 : w_30.heap[c8]? = some (.cells #[.int .i64 0, .string { data := #[] }] 24 (0, 0)) := by rw [hw, hc]; exact heap_alloc_new _ _
        have n8 : ∀ bb off, A = some ⟨bb, off, none⟩ → 0 < L.length → bb ≠ c8 := fun bb off ha hlen hne => by obtain ⟨b', off', he, hlt, _⟩ := hE hlen; rw [ha] at he; injection he with he; injection he with he1 he2; omega
        have hE : TksV w_30 A L := hE.below hal
        have hB : Below w0.heap.size w0 w_30 := hB.trans (hal.mono hB.size)
        rw [← hw] at hHeld
        rw [← hw]
        rw [← hc]
        clear hw hc hal
        refine wpAnyH_ready (rs := [3, 7]) (by kernel_rfl) (by simp) ?_
        refine AllReadyH.cons (o := ⟨some 16, _, _, _, _, _⟩) rfl (fun K hK => ?_) (AllReadyH.cons (o := ⟨some 9, _, _, _, _, _⟩) rfl (fun K hK => ?_) AllReadyH.nil)
        · go_simp
          go_at_call 12
          with_reducible refine (Hone1.out _).mono ?_
          rintro e w_31 ⟨rfl, hbC⟩
          have h8 : w_31.heap[c8]? = some (.cells #[.int .i64 0, .string { data := #[] }] 24 (0, 0)) := (hbC.block c8 (lt_of_cell (Lib.cell_of_heap h8 0))).trans h8
          have hE : TksV w_31 A L := hE.below hbC
          have hB : Below w0.heap.size w0 w_31 := hB.trans (hbC.mono hB.size)
          refine hK.out _ _ ?_ (fun hHeld => ?_)
          · exact kept4 hB l1 l2 m0 m1 z0 z1
          clear hK K
          try simp only [Act.put, List.setIfInBounds_toArray, List.set_cons_zero, List.set_cons_succ]
          refine wpAnyH_ready (rs := [5, 7]) (by kernel_rfl) (by simp) ?_
          refine AllReadyH.cons (o := ⟨some 18, _, _, _, _, _⟩) rfl (fun K hK => ?_) (AllReadyH.cons (o := ⟨some 9, _, _, _, _, _⟩) rfl (fun K hK => ?_) AllReadyH.nil)
          · go_simp
            go_at_call 12
            with_reducible refine (Hone2.out _).mono ?_
            rintro e w_32 ⟨rfl, hbC⟩
            have h8 : w_32.heap[c8]? = some (.cells #[.int .i64 0, .string { data := #[] }] 24 (0, 0)) := (hbC.block c8 (lt_of_cell (Lib.cell_of_heap h8 0))).trans h8
            have hE : TksV w_32 A L := hE.below hbC
            have hB : Below w0.heap.size w0 w_32 := hB.trans (hbC.mono hB.size)
            refine hK.out _ _ ?_ (fun hHeld => ?_)
            · exact kept4 hB l1 l2 m0 m1 z0 z1
            clear hK K
            try simp only [Act.put, List.setIfInBounds_toArray, List.set_cons_zero, List.set_cons_succ]
            refine wpAnyH_ready (rs := [7]) (by kernel_rfl) (by simp) ?_
            refine AllReadyH.cons (o := ⟨some 9, _, _, _, _, _⟩) rfl (fun K hK => ?_) AllReadyH.nil
            go_simp
            have hal : Below w_32.heap.size w_32 (w_32.alloc (.cells #[.int .i64 0, .string { data := #[] }] 24)) := (Below.refl _ _).alloc (Nat.le_refl _) _
            refine hK.out _ _ ?_ (fun hHeld => ?_)
            · exact kept4 (hB.trans (hal.mono hB.size)) l1 l2 m0 m1 z0 z1
            clear hK K
            try simp only [Act.put, List.setIfInBounds_toArray, List.set_cons_zero, List.set_cons_succ]
            obtain ⟨c9, hc⟩ : ∃ c, c = w_32.heap.size := ⟨_, rfl⟩
            obtain ⟨w_33, hw⟩ : ∃ x, x = w_32.alloc (.cells #[.int .i64 0, .string { data := #[] }] 24) := ⟨_, rfl⟩
            rw [← hw] at hal
            have g9 : w0.heap.size ≤ c9 := by rw [hc]; exact hB.size
            have h9 : w_33.heap[c9]? = some (.cells #[.int .i64 0, .string { data := #[] }] 24 (0, 0)) := by rw [hw, hc]; exact heap_alloc_new _ _
            have hcc : c8 ≠ c9 := by have hlt : c8 < w_32.heap.size := lt_of_cell (Lib.cell_of_heap h8 0); omega
            have n9 : ∀ bb off, A = some ⟨bb, off, none⟩ → 0 < L.length → bb ≠ c9 := fun bb off ha hlen hne => by obtain ⟨b', off', he, hlt, _⟩ := hE hlen; rw [ha] at he; injection he with he; injection he with he1 he2; omega
            have h8 : w_33.heap[c8]? = some (.cells #[.int .i64 0, .string { data := #[] }] 24 (0, 0)) := (hal.block c8 (lt_of_cell (Lib.cell_of_heap h8 0))).trans h8
            have hE : TksV w_33 A L := hE.below hal
            have hB : Below w0.heap.size w0 w_33 := hB.trans (hal.mono hB.size)
            rw [← hw] at hHeld
            rw [← hw]
            rw [← hc]
            clear hw hc hal
            refine wpAnyH_take (i := 8) (oi := ⟨some 7, _, _, _, _, _⟩) (v := ?_) rfl (by kernel_rfl) (by kernel_rfl) (by kernel_rfl) (fun _ _ _ h => h) (Or.inl ⟨by rfl, ?hy⟩) (by assumption) ?_
            case hy => (intro w hSw; (try dsimp only at hSw); go_simp; (try with_reducible rfl))
            try simp only [Act.put, List.setIfInBounds_toArray, List.set_cons_zero, List.set_cons_succ]
            have q0 : w_33.cell? ⟨c8, 0, none⟩ = some (.int .i64 0) := Lib.cell_of_heap h8 0
            have q1 : w_33.cell? ⟨c8, 1, none⟩ = some (.string { data := #[] }) := Lib.cell_of_heap h8 1
            have r0 : w_33.frozen? ⟨c8, 0, none⟩ = false := by simp [World.frozen?, h8]
            have r1 : w_33.frozen? ⟨c8, 1, none⟩ = false := by simp [World.frozen?, h8]
            have hst := store2 h8 (.int .i64 k1) (.string y1)
            have hot := store2_other (c := c9) (g := c8) (Ne.symm hcc) (.int .i64 k1) (.string y1) (w := w_33)
            have hE : TksV ((w_33.setCell ⟨c8, 0, none⟩ (.int .i64 k1)).setCell ⟨c8, 1, none⟩ (.string y1)) A L := setT (setT hE n8 _) n8 _
            have hB : Below w0.heap.size w0 ((w_33.setCell ⟨c8, 0, none⟩ (.int .i64 k1)).setCell ⟨c8, 1, none⟩ (.string y1)) := (hB.setCell (p := ⟨c8, 0, none⟩) g8 _).setCell (p := ⟨c8, 1, none⟩) g8 _
            refine wpAnyH_ready (rs := [9]) (by kernel_rfl) (by simp) ?_
            refine AllReadyH.cons (o := ⟨none, _, _, _, _, _⟩) rfl (fun K hK => ?_) AllReadyH.nil
            go_simp
            refine hK.out _ _ ?_ (fun hHeld => ?_)
            · exact kept4 hB l1 l2 m0 m1 z0 z1
            clear hK K q0 q1 r0 r1
            try simp only [Act.put, List.setIfInBounds_toArray, List.set_cons_zero, List.set_cons_succ]
            obtain ⟨w_34, hw⟩ : ∃ x, x = ((w_33.setCell ⟨c8, 0, none⟩ (.int .i64 k1)).setCell ⟨c8, 1, none⟩ (.string y1)) := ⟨_, rfl⟩
            rw [← hw] at hst hot hE hB
            rw [← hw]
            have h8 := hst
            have h9 := hot.trans h9
            clear hw hst hot
            have q0 : w_34.cell? ⟨c9, 0, none⟩ = some (.int .i64 0) := Lib.cell_of_heap h9 0
            have q1 : w_34.cell? ⟨c9, 1, none⟩ = some (.string { data := #[] }) := Lib.cell_of_heap h9 1
            have r0 : w_34.frozen? ⟨c9, 0, none⟩ = false := by simp [World.frozen?, h9]
            have r1 : w_34.frozen? ⟨c9, 1, none⟩ = false := by simp [World.frozen?, h9]
            have hst := store2 h9 (.int .i64 k2) (.string y2)
            have hot := store2_other (c := c8) (g := c9) hcc (.int .i64 k2) (.string y2) (w := w_34)
            have hE : TksV ((w_34.setCell ⟨c9, 0, none⟩ (.int .i64 k2)).setCell ⟨c9, 1, none⟩ (.string y2)) A L := setT (setT hE n9 _) n9 _
            have hB : Below w0.heap.size w0 ((w_34.setCell ⟨c9, 0, none⟩ (.int .i64 k2)).setCell ⟨c9, 1, none⟩ (.string y2)) := (hB.setCell (p := ⟨c9, 0, none⟩) g9 _).setCell (p := ⟨c9, 1, none⟩) g9 _
            refine wpAnyH_ready (rs := [10]) (by kernel_rfl) (by simp) ?_
            refine AllReadyH.cons (o := ⟨none, _, _, _, _, _⟩) rfl (fun K hK => ?_) AllReadyH.nil
            go_simp
            refine hK.out _ _ ?_ (fun hHeld => ?_)
            · exact kept4 hB l1 l2 m0 m1 z0 z1
            clear hK K q0 q1 r0 r1
            try simp only [Act.put, List.setIfInBounds_toArray, List.set_cons_zero, List.set_cons_succ]
            obtain ⟨w_35, hw⟩ : ∃ x, x = ((w_34.setCell ⟨c9, 0, none⟩ (.int .i64 k2)).setCell ⟨c9, 1, none⟩ (.string y2)) := ⟨_, rfl⟩
            rw [← hw] at hst hot hE hB
            rw [← hw]
            have h9 := hst
            have h8 := hot.trans h8
            clear hw hst hot
            refine wpAnyH_done (by kernel_rfl) ?_ _
            go_wp2_with fail
            go_meet
            exact ⟨A, c, c8, c9, rfl, hE, rfl, rfl, HB0.out.trans (hB.mono HB0.out.size), h8, h9⟩
          · go_simp
            have hal : Below w_31.heap.size w_31 (w_31.alloc (.cells #[.int .i64 0, .string { data := #[] }] 24)) := (Below.refl _ _).alloc (Nat.le_refl _) _
            refine hK.out _ _ ?_ (fun hHeld => ?_)
            · exact kept4 (hB.trans (hal.mono hB.size)) l1 l2 m0 m1 z0 z1
            clear hK K
            try simp only [Act.put, List.setIfInBounds_toArray, List.set_cons_zero, List.set_cons_succ]
            obtain ⟨c9, hc⟩ : ∃ c, c = w_31.heap.size := ⟨_, rfl⟩
            obtain ⟨w_36, hw⟩ : ∃ x, x = w_31.alloc (.cells #[.int .i64 0, .string { data := #[] }] 24) := ⟨_, rfl⟩
            rw [← hw] at hal
            have g9 : w0.heap.size ≤ c9 := by rw [hc]; exact hB.size
            have h9 : w_36.heap[c9]? = some (.cells #[.int .i64 0, .string { data := #[] }] 24 (0, 0)) := by rw [hw, hc]; exact heap_alloc_new _ _
            have hcc : c8 ≠ c9 := by have hlt : c8 < w_31.heap.size := lt_of_cell (Lib.cell_of_heap h8 0); omega
            have n9 : ∀ bb off, A = some ⟨bb, off, none⟩ → 0 < L.length → bb ≠ c9 := fun bb off ha hlen hne => by obtain ⟨b', off', he, hlt, _⟩ := hE hlen; rw [ha] at he; injection he with he; injection he with he1 he2; omega
            have h8 : w_36.heap[c8]? = some (.cells #[.int .i64 0, .string { data := #[] }] 24 (0, 0)) := (hal.block c8 (lt_of_cell (Lib.cell_of_heap h8 0))).trans h8
            have hE : TksV w_36 A L := hE.below hal
            have hB : Below w0.heap.size w0 w_36 := hB.trans (hal.mono hB.size)
            rw [← hw] at hHeld
            rw [← hw]
            rw [← hc]
            clear hw hc hal
            refine wpAnyH_ready (rs := [5]) (by kernel_rfl) (by simp) ?_
            refine AllReadyH.cons (o := ⟨some 18, _, _, _, _, _⟩) rfl (fun K hK => ?_) AllReadyH.nil
            go_simp
            go_at_call 12
            with_reducible refine (Hone2.out _).mono ?_
            rintro e w_37 ⟨rfl, hbC⟩
            have h8 : w_37.heap[c8]? = some (.cells #[.int .i64 0, .string { data := #[] }] 24 (0, 0)) := (hbC.block c8 (lt_of_cell (Lib.cell_of_heap h8 0))).trans h8
            have h9 : w_37.heap[c9]? = some (.cells #[.int .i64 0, .string { data := #[] }] 24 (0, 0)) := (hbC.block c9 (lt_of_cell (Lib.cell_of_heap h9 0))).trans h9
            have hE : TksV w_37 A L := hE.below hbC
            have hB : Below w0.heap.size w0 w_37 := hB.trans (hbC.mono hB.size)
            refine hK.out _ _ ?_ (fun hHeld => ?_)
            · exact kept4 hB l1 l2 m0 m1 z0 z1
            clear hK K
            try simp only [Act.put, List.setIfInBounds_toArray, List.set_cons_zero, List.set_cons_succ]
            refine wpAnyH_take (i := 8) (oi := ⟨some 7, _, _, _, _, _⟩) (v := ?_) rfl (by kernel_rfl) (by kernel_rfl) (by kernel_rfl) (fun _ _ _ h => h) (Or.inl ⟨by rfl, ?hy⟩) (by assumption) ?_
            case hy => (intro w hSw; (try dsimp only at hSw); go_simp; (try with_reducible rfl))
            try simp only [Act.put, List.setIfInBounds_toArray, List.set_cons_zero, List.set_cons_succ]
            have q0 : w_37.cell? ⟨c8, 0, none⟩ = some (.int .i64 0) := Lib.cell_of_heap h8 0
            have q1 : w_37.cell? ⟨c8, 1, none⟩ = some (.string { data := #[] }) := Lib.cell_of_heap h8 1
            have r0 : w_37.frozen? ⟨c8, 0, none⟩ = false := by simp [World.frozen?, h8]
            have r1 : w_37.frozen? ⟨c8, 1, none⟩ = false := by simp [World.frozen?, h8]
            have hst := store2 h8 (.int .i64 k1) (.string y1)
            have hot := store2_other (c := c9) (g := c8) (Ne.symm hcc) (.int .i64 k1) (.string y1) (w := w_37)
            have hE : TksV ((w_37.setCell ⟨c8, 0, none⟩ (.int .i64 k1)).setCell ⟨c8, 1, none⟩ (.string y1)) A L := setT (setT hE n8 _) n8 _
            have hB : Below w0.heap.size w0 ((w_37.setCell ⟨c8, 0, none⟩ (.int .i64 k1)).setCell ⟨c8, 1, none⟩ (.string y1)) := (hB.setCell (p := ⟨c8, 0, none⟩) g8 _).setCell (p := ⟨c8, 1, none⟩) g8 _
            refine wpAnyH_ready (rs := [9]) (by kernel_rfl) (by simp) ?_
            refine AllReadyH.cons (o := ⟨none, _, _, _, _, _⟩) rfl (fun K hK => ?_) AllReadyH.nil
            go_simp
            refine hK.out _ _ ?_ (fun hHeld => ?_)
            · exact kept4 hB l1 l2 m0 m1 z0 z1
            clear hK K q0 q1 r0 r1
            try simp only [Act.put, List.setIfInBounds_toArray, List.set_cons_zero, List.set_cons_succ]
            obtain ⟨w_38, hw⟩ : ∃ x, x = ((w_37.setCell ⟨c8, 0, none⟩ (.int .i64 k1)).setCell ⟨c8, 1, none⟩ (.string y1)) := ⟨_, rfl⟩
            rw [← hw] at hst hot hE hB
            rw [← hw]
            have h8 := hst
            have h9 := hot.trans h9
            clear hw hst hot
            have q0 : w_38.cell? ⟨c9, 0, none⟩ = some (.int .i64 0) := Lib.cell_of_heap h9 0
            have q1 : w_38.cell? ⟨c9, 1, none⟩ = some (.string { data := #[] }) := Lib.cell_of_heap h9 1
            have r0 : w_38.frozen? ⟨c9, 0, none⟩ = false := by simp [World.frozen?, h9]
            have r1 : w_38.frozen? ⟨c9, 1, none⟩ = false := by simp [World.frozen?, h9]
            have hst := store2 h9 (.int .i64 k2) (.string y2)
            have hot := store2_other (c := c8) (g := c9) hcc (.int .i64 k2) (.string y2) (w := w_38)
            have hE : TksV ((w_38.setCell ⟨c9, 0, none⟩ (.int .i64 k2)).setCell ⟨c9, 1, none⟩ (.string y2)) A L := setT (setT hE n9 _) n9 _
            have hB : Below w0.heap.size w0 ((w_38.setCell ⟨c9, 0, none⟩ (.int .i64 k2)).setCell ⟨c9, 1, none⟩ (.string y2)) := (hB.setCell (p := ⟨c9, 0, none⟩) g9 _).setCell (p := ⟨c9, 1, none⟩) g9 _
            refine wpAnyH_ready (rs := [10]) (by kernel_rfl) (by simp) ?_
            refine AllReadyH.cons (o := ⟨none, _, _, _, _, _⟩) rfl (fun K hK => ?_) AllReadyH.nil
            go_simp
            refine hK.out _ _ ?_ (fun hHeld => ?_)
            · exact kept4 hB l1 l2 m0 m1 z0 z1
            clear hK K q0 q1 r0 r1
            try simp only [Act.put, List.setIfInBounds_toArray, List.set_cons_zero, List.set_cons_succ]
            obtain ⟨w_39, hw⟩ : ∃ x, x = ((w_38.setCell ⟨c9, 0, none⟩ (.int .i64 k2)).setCell ⟨c9, 1, none⟩ (.string y2)) := ⟨_, rfl⟩
            rw [← hw] at hst hot hE hB
            rw [← hw]
            have h9 := hst
            have h8 := hot.trans h8
            clear hw hst hot
            refine wpAnyH_done (by kernel_rfl) ?_ _
            go_wp2_with fail
            go_meet
            exact ⟨A, c, c8, c9, rfl, hE, rfl, rfl, HB0.out.trans (hB.mono HB0.out.size), h8, h9⟩
        · go_simp
          have hal : Below w_30.heap.size w_30 (w_30.alloc (.cells #[.int .i64 0, .string { data := #[] }] 24)) := (Below.refl _ _).alloc (Nat.le_refl _) _
          refine hK.out _ _ ?_ (fun hHeld => ?_)
          · exact kept4 (hB.trans (hal.mono hB.size)) l1 l2 m0 m1 z0 z1
          clear hK K
          try simp only [Act.put, List.setIfInBounds_toArray, List.set_cons_zero, List.set_cons_succ]
          obtain ⟨c9, hc⟩ : ∃ c, c = w_30.heap.size := ⟨_, rfl⟩
          obtain ⟨w_40, hw⟩ : ∃ x, x = w_30.alloc (.cells #[.int .i64 0, .string { data := #[] }] 24) := ⟨_, rfl⟩
          rw [← hw] at hal
          have g9 : w0.heap.size ≤ c9 := by rw [hc]; exact hB.size
          have h9 : w_40.heap[c9]? = some (.cells #[.int .i64 0, .string { data := #[] }] 24 (0, 0)) := by rw [hw, hc]; exact heap_alloc_new _ _
          have hcc : c8 ≠ c9 := by have hlt : c8 < w_30.heap.size := lt_of_cell (Lib.cell_of_heap h8 0); omega
          have n9 : ∀ bb off, A = some ⟨bb, off, none⟩ → 0 < L.length → bb ≠ c9 := fun bb off ha hlen hne => by obtain ⟨b', off', he, hlt, _⟩ := hE hlen; rw [ha] at he; injection he with he; injection he with he1 he2; omega
          have h8 : w_40.heap[c8]? = some (.cells #[.int .i64 0, .string { data := #[] }] 24 (0, 0)) := (hal.block c8 (lt_of_cell (Lib.cell_of_heap h8 0))).trans h8
          have hE : TksV w_40 A L := hE.below hal
          have hB : Below w0.heap.size w0 w_40 := hB.trans (hal.mono hB.size)
          rw [← hw] at hHeld
          rw [← hw]
          rw [← hc]
          clear hw hc hal
          refine wpAnyH_ready (rs := [3]) (by kernel_rfl) (by simp) ?_
          refine AllReadyH.cons (o := ⟨some 16, _, _, _, _, _⟩) rfl (fun K hK => ?_) AllReadyH.nil
          go_simp
          go_at_call 12
          with_reducible refine (Hone1.out _).mono ?_
          rintro e w_41 ⟨rfl, hbC⟩
          have h8 : w_41.heap[c8]? = some (.cells #[.int .i64 0, .string { data := #[] }] 24 (0, 0)) := (hbC.block c8 (lt_of_cell (Lib.cell_of_heap h8 0))).trans h8
          have h9 : w_41.heap[c9]? = some (.cells #[.int .i64 0, .string { data := #[] }] 24 (0, 0)) := (hbC.block c9 (lt_of_cell (Lib.cell_of_heap h9 0))).trans h9
          have hE : TksV w_41 A L := hE.below hbC
          have hB : Below w0.heap.size w0 w_41 := hB.trans (hbC.mono hB.size)
          refine hK.out _ _ ?_ (fun hHeld => ?_)
          · exact kept4 hB l1 l2 m0 m1 z0 z1
          clear hK K
          try simp only [Act.put, List.setIfInBounds_toArray, List.set_cons_zero, List.set_cons_succ]
          refine wpAnyH_ready (rs := [5]) (by kernel_rfl) (by simp) ?_
          refine AllReadyH.cons (o := ⟨some 18, _, _, _, _, _⟩) rfl (fun K hK => ?_) AllReadyH.nil
          go_simp
          go_at_call 12
          with_reducible refine (Hone2.out _).mono ?_
          rintro e w_42 ⟨rfl, hbC⟩
          have h8 : w_42.heap[c8]? = some (.cells #[.int .i64 0, .string { data := #[] }] 24 (0, 0)) := (hbC.block c8 (lt_of_cell (Lib.cell_of_heap h8 0))).trans h8
          have h9 : w_42.heap[c9]? = some (.cells #[.int .i64 0, .string { data := #[] }] 24 (0, 0)) := (hbC.block c9 (lt_of_cell (Lib.cell_of_heap h9 0))).trans h9
          have hE : TksV w_42 A L := hE.below hbC
          have hB : Below w0.heap.size w0 w_42 := hB.trans (hbC.mono hB.size)
          refine hK.out _ _ ?_ (fun hHeld => ?_)
          · exact kept4 hB l1 l2 m0 m1 z0 z1
          clear hK K
          try simp only [Act.put, List.setIfInBounds_toArray, List.set_cons_zero, List.set_cons_succ]
          refine wpAnyH_take (i := 8) (oi := ⟨some 7, _, _, _, _, _⟩) (v := ?_) rfl (by kernel_rfl) (by kernel_rfl) (by kernel_rfl) (fun _ _ _ h => h) (Or.inl ⟨by rfl, ?hy⟩) (by assumption) ?_
          case hy => (intro w hSw; (try dsimp only at hSw); go_simp; (try with_reducible rfl))
          try simp only [Act.put, List.setIfInBounds_toArray, List.set_cons_zero, List.set_cons_succ]
          have q0 : w_42.cell? ⟨c8, 0, none⟩ = some (.int .i64 0) := Lib.cell_of_heap h8 0
          have q1 : w_42.cell? ⟨c8, 1, none⟩ = some (.string { data := #[] }) := Lib.cell_of_heap h8 1
          have r0 : w_42.frozen? ⟨c8, 0, none⟩ = false := by simp [World.frozen?, h8]
          have r1 : w_42.frozen? ⟨c8, 1, none⟩ = false := by simp [World.frozen?, h8]
          have hst := store2 h8 (.int .i64 k1) (.string y1)
          have hot := store2_other (c := c9) (g := c8) (Ne.symm hcc) (.int .i64 k1) (.string y1) (w := w_42)
          have hE : TksV ((w_42.setCell ⟨c8, 0, none⟩ (.int .i64 k1)).setCell ⟨c8, 1, none⟩ (.string y1)) A L := setT (setT hE n8 _) n8 _
          have hB : Below w0.heap.size w0 ((w_42.setCell ⟨c8, 0, none⟩ (.int .i64 k1)).setCell ⟨c8, 1, none⟩ (.string y1)) := (hB.setCell (p := ⟨c8, 0, none⟩) g8 _).setCell (p := ⟨c8, 1, none⟩) g8 _
          refine wpAnyH_ready (rs := [9]) (by kernel_rfl) (by simp) ?_
          refine AllReadyH.cons (o := ⟨none, _, _, _, _, _⟩) rfl (fun K hK => ?_) AllReadyH.nil
          go_simp
          refine hK.out _ _ ?_ (fun hHeld => ?_)
          · exact kept4 hB l1 l2 m0 m1 z0 z1
          clear hK K q0 q1 r0 r1
          try simp only [Act.put, List.setIfInBounds_toArray, List.set_cons_zero, List.set_cons_succ]
          obtain ⟨w_43, hw⟩ : ∃ x, x = ((w_42.setCell ⟨c8, 0, none⟩ (.int .i64 k1)).setCell ⟨c8, 1, none⟩ (.string y1)) := ⟨_, rfl⟩
          rw [← hw] at hst hot hE hB
          rw [← hw]
          have h8 := hst
          have h9 := hot.trans h9
          clear hw hst hot
          have q0 : w_43.cell? ⟨c9, 0, none⟩ = some (.int .i64 0) := Lib.cell_of_heap h9 0
          have q1 : w_43.cell? ⟨c9, 1, none⟩ = some (.string { data := #[] }) := Lib.cell_of_heap h9 1
          have r0 : w_43.frozen? ⟨c9, 0, none⟩ = false := by simp [World.frozen?, h9]
          have r1 : w_43.frozen? ⟨c9, 1, none⟩ = false := by simp [World.frozen?, h9]
          have hst := store2 h9 (.int .i64 k2) (.string y2)
          have hot := store2_other (c := c8) (g := c9) hcc (.int .i64 k2) (.string y2) (w := w_43)
          have hE : TksV ((w_43.setCell ⟨c9, 0, none⟩ (.int .i64 k2)).setCell ⟨c9, 1, none⟩ (.string y2)) A L := setT (setT hE n9 _) n9 _
          have hB : Below w0.heap.size w0 ((w_43.setCell ⟨c9, 0, none⟩ (.int .i64 k2)).setCell ⟨c9, 1, none⟩ (.string y2)) := (hB.setCell (p := ⟨c9, 0, none⟩) g9 _).setCell (p := ⟨c9, 1, none⟩) g9 _
          refine wpAnyH_ready (rs := [10]) (by kernel_rfl) (by simp) ?_
          refine AllReadyH.cons (o := ⟨none, _, _, _, _, _⟩) rfl (fun K hK => ?_) AllReadyH.nil
          go_simp
          refine hK.out _ _ ?_ (fun hHeld => ?_)
          · exact kept4 hB l1 l2 m0 m1 z0 z1
          clear hK K q0 q1 r0 r1
          try simp only [Act.put, List.setIfInBounds_toArray, List.set_cons_zero, List.set_cons_succ]
          obtain ⟨w_44, hw⟩ : ∃ x, x = ((w_43.setCell ⟨c9, 0, none⟩ (.int .i64 k2)).setCell ⟨c9, 1, none⟩ (.string y2)) := ⟨_, rfl⟩
          rw [← hw] at hst hot hE hB
          rw [← hw]
          have h9 := hst
          have h8 := hot.trans h8
          clear hw hst hot
          refine wpAnyH_done (by kernel_rfl) ?_ _
          go_wp2_with fail
          go_meet
          exact ⟨A, c, c8, c9, rfl, hE, rfl, rfl, HB0.out.trans (hB.mono HB0.out.size), h8, h9⟩
      · go_simp
        have hal : Below w_1.heap.size w_1 (w_1.alloc (.cells #[.int .i64 0, .string { data := #[] }] 24)) := (Below.refl _ _).alloc (Nat.le_refl _) _
        refine hK.out _ _ ?_ (fun hHeld => ?_)
        · exact kept4 (hB.trans (hal.mono hB.size)) l1 l2 m0 m1 z0 z1
        clear hK K
        try simp only [Act.put, List.setIfInBounds_toArray, List.set_cons_zero, List.set_cons_succ]
        obtain ⟨c9, hc⟩ : ∃ c, c = w_1.heap.size := ⟨_, rfl⟩
        obtain ⟨w_45, hw⟩ : ∃ x, x = w_1.alloc (.cells #[.int .i64 0, .string { data := #[] }] 24) := ⟨_, rfl⟩
        rw [← hw] at hal
        have g9 : w0.heap.size ≤ c9 := by rw [hc]; exact hB.size
        have h9 : w_45.heap[c9]? = some (.cells #[.int .i64 0, .string { data := #[] }] 24 (0, 0)) := by rw [hw, hc]; exact heap_alloc_new _ _
        have n9 : ∀ bb off, A = some ⟨bb, off, none⟩ → 0 < L.length → bb ≠ c9 := fun bb off ha hlen hne => by obtain ⟨b', off', he, hlt, _⟩ := hE hlen; rw [ha] at he; injection he with he; injection he with he1 he2; omega
        have hE : TksV w_45 A L := hE.below hal
        have hB : Below w0.heap.size w0 w_45 := hB.trans (hal.mono hB.size)
        rw [← hw] at hHeld
        rw [← hw]
        rw [← hc]
        clear hw hc hal
        refine wpAnyH_ready (rs := [3, 6]) (by kernel_rfl) (by simp) ?_
        refine AllReadyH.cons (o := ⟨some 16, _, _, _, _, _⟩) rfl (fun K hK => ?_) (AllReadyH.cons (o := ⟨some 8, _, _, _, _, _⟩) rfl (fun K hK => ?_) AllReadyH.nil)
        · go_simp
          go_at_call 12
          with_reducible refine (Hone1.out _).mono ?_
          rintro e w_46 ⟨rfl, hbC⟩
          have h9 : w_46.heap[c9]? = some (.cells #[.int .i64 0, .string { data := #[] }] 24 (0, 0)) := (hbC.block c9 (lt_of_cell (Lib.cell_of_heap h9 0))).trans h9
          have hE : TksV w_46 A L := hE.below hbC
          have hB : Below w0.heap.size w0 w_46 := hB.trans (hbC.mono hB.size)
          refine hK.out _ _ ?_ (fun hHeld => ?_)
          · exact kept4 hB l1 l2 m0 m1 z0 z1
          clear hK K
          try simp only [Act.put, List.setIfInBounds_toArray, List.set_cons_zero, List.set_cons_succ]
          refine wpAnyH_ready (rs := [5, 6]) (by kernel_rfl) (by simp) ?_
          refine AllReadyH.cons (o := ⟨some 18, _, _, _, _, _⟩) rfl (fun K hK => ?_) (AllReadyH.cons (o := ⟨some 8, _, _, _, _, _⟩) rfl (fun K hK => ?_) AllReadyH.nil)
          · go_simp
            go_at_call 12
            with_reducible refine (Hone2.out _).mono ?_
            rintro e w_47 ⟨rfl, hbC⟩
            have h9 : w_47.heap[c9]? = some (.cells #[.int .i64 0, .string { data := #[] }] 24 (0, 0)) := (hbC.block c9 (lt_of_cell (Lib.cell_of_heap h9 0))).trans h9
            have hE : TksV w_47 A L := hE.below hbC
            have hB : Below w0.heap.size w0 w_47 := hB.trans (hbC.mono hB.size)
            refine hK.out _ _ ?_ (fun hHeld => ?_)
            · exact kept4 hB l1 l2 m0 m1 z0 z1
            clear hK K
            try simp only [Act.put, List.setIfInBounds_toArray, List.set_cons_zero, List.set_cons_succ]
            refine wpAnyH_ready (rs := [6]) (by kernel_rfl) (by simp) ?_
            refine AllReadyH.cons (o := ⟨some 8, _, _, _, _, _⟩) rfl (fun K hK => ?_) AllReadyH.nil
            go_simp
            have hal : Below w_47.heap.size w_47 (w_47.alloc (.cells #[.int .i64 0, .string { data := #[] }] 24)) := (Below.refl _ _).alloc (Nat.le_refl _) _
            refine hK.out _ _ ?_ (fun hHeld => ?_)
            · exact kept4 (hB.trans (hal.mono hB.size)) l1 l2 m0 m1 z0 z1
            clear hK K
            try simp only [Act.put, List.setIfInBounds_toArray, List.set_cons_zero, List.set_cons_succ]
            obtain ⟨c8, hc⟩ : ∃ c, c = w_47.heap.size := ⟨_, rfl⟩
            obtain ⟨w_48, hw⟩ : ∃ x, x = w_47.alloc (.cells #[.int .i64 0, .string { data := #[] }] 24) := ⟨_, rfl⟩
            rw [← hw] at hal
            have g8 : w0.heap.size ≤ c8 := by rw [hc]; exact hB.size
            have h8 : w_48.heap[c8]? = some (.cells #[.int .i64 0, .string { data := #[] }] 24 (0, 0)) := by rw [hw, hc]; exact heap_alloc_new _ _
            have hcc : c8 ≠ c9 := by have hlt : c9 < w_47.heap.size := lt_of_cell (Lib.cell_of_heap h9 0); omega
            have n8 : ∀ bb off, A = some ⟨bb, off, none⟩ → 0 < L.length → bb ≠ c8 := fun bb off ha hlen hne => by obtain ⟨b', off', he, hlt, _⟩ := hE hlen; rw [ha] at he; injection he with he; injection he with he1 he2; omega
            have h9 : w_48.heap[c9]? = some (.cells #[.int .i64 0, .string { data := #[] }] 24 (0, 0)) := (hal.block c9 (lt_of_cell (Lib.cell_of_heap h9 0))).trans h9
            have hE : TksV w_48 A L := hE.below hal
            have hB : Below w0.heap.size w0 w_48 := hB.trans (hal.mono hB.size)
            rw [← hw] at hHeld
            rw [← hw]
            rw [← hc]
            clear hw hc hal
            refine wpAnyH_take (i := 8) (oi := ⟨some 7, _, _, _, _, _⟩) (v := ?_) rfl (by kernel_rfl) (by kernel_rfl) (by kernel_rfl) (fun _ _ _ h => h) (Or.inl ⟨by rfl, ?hy⟩) (by assumption) ?_
            case hy => (intro w hSw; (try dsimp only at hSw); go_simp; (try with_reducible rfl))
            try simp only [Act.put, List.setIfInBounds_toArray, List.set_cons_zero, List.set_cons_succ]
            have q0 : w_48.cell? ⟨c8, 0, none⟩ = some (.int .i64 0) := Lib.cell_of_heap h8 0
            have q1 : w_48.cell? ⟨c8, 1, none⟩ = some (.string { data := #[] }) := Lib.cell_of_heap h8 1
            have r0 : w_48.frozen? ⟨c8, 0, none⟩ = false := by simp [World.frozen?, h8]
            have r1 : w_48.frozen? ⟨c8, 1, none⟩ = false := by simp [World.frozen?, h8]
            have hst := store2 h8 (.int .i64 k1) (.string y1)
            have hot := store2_other (c := c9) (g := c8) (Ne.symm hcc) (.int .i64 k1) (.string y1) (w := w_48)
            have hE : TksV ((w_48.setCell ⟨c8, 0, none⟩ (.int .i64 k1)).setCell ⟨c8, 1, none⟩ (.string y1)) A L := setT (setT hE n8 _) n8 _
            have hB : Below w0.heap.size w0 ((w_48.setCell ⟨c8, 0, none⟩ (.int .i64 k1)).setCell ⟨c8, 1, none⟩ (.string y1)) := (hB.setCell (p := ⟨c8, 0, none⟩) g8 _).setCell (p := ⟨c8, 1, none⟩) g8 _
            refine wpAnyH_ready (rs := [9]) (by kernel_rfl) (by simp) ?_
            refine AllReadyH.cons (o := ⟨none, _, _, _, _, _⟩) rfl (fun K hK => ?_) AllReadyH.nil
            go_simp
            refine hK.out _ _ ?_ (fun hHeld => ?_)
            · exact kept4 hB l1 l2 m0 m1 z0 z1
            clear hK K q0 q1 r0 r1
            try simp only [Act.put, List.setIfInBounds_toArray, List.set_cons_zero, List.set_cons_succ]
            obtain ⟨w_49, hw⟩ : ∃ x, x = ((w_48.setCell ⟨c8, 0, none⟩ (.int .i64 k1)).setCell ⟨c8, 1, none⟩ (.string y1)) := ⟨_, rfl⟩
            rw [← hw] at hst hot hE hB
            rw [← hw]
            have h8 := hst
            have h9 := hot.trans h9
            clear hw hst hot
            have q0 : w_49.cell? ⟨c9, 0, none⟩ = some (.int .i64 0) := Lib.cell_of_heap h9 0
            have q1 : w_49.cell? ⟨c9, 1, none⟩ = some (.string { data := #[] }) := Lib.cell_of_heap h9 1
            have r0 : w_49.frozen? ⟨c9, 0, none⟩ = false := by simp [World.frozen?, h9]
            have r1 : w_49.frozen? ⟨c9, 1, none⟩ = false := by simp [World.frozen?, h9]
            have hst := store2 h9 (.int .i64 k2) (.string y2)
            have hot := store2_other (c := c8) (g := c9) hcc (.int .i64 k2) (.string y2) (w := w_49)
            have hE : TksV ((w_49.setCell ⟨c9, 0, none⟩ (.int .i64 k2)).setCell ⟨c9, 1, none⟩ (.string y2)) A L := setT (setT hE n9 _) n9 _
            have hB : Below w0.heap.size w0 ((w_49.setCell ⟨c9, 0, none⟩ (.int .i64 k2)).setCell ⟨c9, 1, none⟩ (.string y2)) := (hB.setCell (p := ⟨c9, 0, none⟩) g9 _).setCell (p := ⟨c9, 1, none⟩) g9 _
            refine wpAnyH_ready (rs := [10]) (by kernel_rfl) (by simp) ?_
            refine AllReadyH.cons (o := ⟨none, _, _, _, _, _⟩) rfl (fun K hK => ?_) AllReadyH.nil
            go_simp
            refine hK.out _ _ ?_ (fun hHeld => ?_)
            · exact kept4 hB l1 l2 m0 m1 z0 z1
            clear hK K q0 q1 r0 r1
            try simp only [Act.put, List.setIfInBounds_toArray, List.set_cons_zero, List.set_cons_succ]
            obtain ⟨w_50, hw⟩ : ∃ x, x = ((w_49.setCell ⟨c9, 0, none⟩ (.int .i64 k2)).setCell ⟨c9, 1, none⟩ (.string y2)) := ⟨_, rfl⟩
            rw [← hw] at hst hot hE hB
            rw [← hw]
            have h9 := hst
            have h8 := hot.trans h8
            clear hw hst hot
            refine wpAnyH_done (by kernel_rfl) ?_ _
            go_wp2_with fail
            go_meet
            exact ⟨A, c, c8, c9, rfl, hE, rfl, rfl, HB0.out.trans (hB.mono HB0.out.size), h8, h9⟩
          · go_simp
            have hal : Below w_46.heap.size w_46 (w_46.alloc (.cells #[.int .i64 0, .string { data := #[] }] 24)) := (Below.refl _ _).alloc (Nat.le_refl _) _
            refine hK.out _ _ ?_ (fun hHeld => ?_)
            · exact kept4 (hB.trans (hal.mono hB.size)) l1 l2 m0 m1 z0 z1
            clear hK K
            try simp only [Act.put, List.setIfInBounds_toArray, List.set_cons_zero, List.set_cons_succ]
            obtain ⟨c8, hc⟩ : ∃ c, c = w_46.heap.size := ⟨_, rfl⟩
            obtain ⟨w_51, hw⟩ : ∃ x, x = w_46.alloc (.cells #[.int .i64 0, .string { data := #[] }] 24) := ⟨_, rfl⟩
            rw [← hw] at hal
            have g8 : w0.heap.size ≤ c8 := by rw [hc]; exact hB.size
            have h8 : w_51.heap[c8]? = some (.cells #[.int .i64 0, .string { data := #[] }] 24 (0, 0)) := by rw [hw, hc]; exact heap_alloc_new _ _
            have hcc : c8 ≠ c9 := by have hlt : c9 < w_46.heap.size := lt_of_cell (Lib.cell_of_heap h9 0); omega
            have n8 : ∀ bb off, A = some ⟨bb, off, none⟩ → 0 < L.length → bb ≠ c8 := fun bb off ha hlen hne => by obtain ⟨b', off', he, hlt, _⟩ := hE hlen; rw [ha] at he; injection he with he; injection he with he1 he2; omega
            have h9 : w_51.heap[c9]? = some (.cells #[.int .i64 0, .string { data := #[] }] 24 (0, 0)) := (hal.block c9 (lt_of_cell (Lib.cell_of_heap h9 0))).trans h9
            have hE : TksV w_51 A L := hE.below hal
            have hB : Below w0.heap.size w0 w_51 := hB.trans (hal.mono hB.size)
            rw [← hw] at hHeld
            rw [← hw]
            rw [← hc]
            clear hw hc hal
            refine wpAnyH_ready (rs := [5]) (by kernel_rfl) (by simp) ?_
            refine AllReadyH.cons (o := ⟨some 18, _, _, _, _, _⟩) rfl (fun K hK => ?_) AllReadyH.nil
            go_simp
            go_at_call 12
            with_reducible refine (Hone2.out _).mono ?_
            rintro e w_52 ⟨rfl, hbC⟩
            have h8 : w_52.heap[c8]? = some (.cells #[.int .i64 0, .string { data := #[] }] 24 (0, 0)) := (hbC.block c8 (lt_of_cell (Lib.cell_of_heap h8 0))).trans h8
            have h9 : w_52.heap[c9]? = some (.cells #[.int .i64 0, .string { data := #[] }] 24 (0, 0)) := (hbC.block c9 (lt_of_cell (Lib.cell_of_heap h9 0))).trans h9
            have hE : TksV w_52 A L := hE.below hbC
            have hB : Below w0.heap.size w0 w_52 := hB.trans (hbC.mono hB.size)
            refine hK.out _ _ ?_ (fun hHeld => ?_)
            · exact kept4 hB l1 l2 m0 m1 z0 z1
            clear hK K
            try simp only [Act.put, List.setIfInBounds_toArray, List.set_cons_zero, List.set_cons_succ]
            refine wpAnyH_take (i := 8) (oi := ⟨some 7, _, _, _, _, _⟩) (v := ?_) rfl (by kernel_rfl) (by kernel_rfl) (by kernel_rfl) (fun _ _ _ h => h) (Or.inl ⟨by rfl, ?hy⟩) (by assumption) ?_
            case hy => (intro w hSw; (try dsimp only at hSw); go_simp; (try with_reducible rfl))
            try simp only [Act.put, List.setIfInBounds_toArray, List.set_cons_zero, List.set_cons_succ]
            have q0 : w_52.cell? ⟨c8, 0, none⟩ = some (.int .i64 0) := Lib.cell_of_heap h8 0
            have q1 : w_52.cell? ⟨c8, 1, none⟩ = some (.string { data := #[] }) := Lib.cell_of_heap h8 1
            have r0 : w_52.frozen? ⟨c8, 0, none⟩ = false := by simp [World.frozen?, h8]
            have r1 : w_52.frozen? ⟨c8, 1, none⟩ = false := by simp [World.frozen?, h8]
            have hst := store2 h8 (.int .i64 k1) (.string y1)
            have hot := store2_other (c := c9) (g := c8) (Ne.symm hcc) (.int .i64 k1) (.string y1) (w := w_52)
            have hE : TksV ((w_52.setCell ⟨c8, 0, none⟩ (.int .i64 k1)).setCell ⟨c8, 1, none⟩ (.string y1)) A L := setT (setT hE n8 _) n8 _
            have hB : Below w0.heap.size w0 ((w_52.setCell ⟨c8, 0, none⟩ (.int .i64 k1)).setCell ⟨c8, 1, none⟩ (.string y1)) := (hB.setCell (p := ⟨c8, 0, none⟩) g8 _).setCell (p := ⟨c8, 1, none⟩) g8 _
            refine wpAnyH_ready (rs := [9]) (by kernel_rfl) (by simp) ?_
            refine AllReadyH.cons (o := ⟨none, _, _, _, _, _⟩) rfl (fun K hK => ?_) AllReadyH.nil
            go_simp
            refine hK.out _ _ ?_ (fun hHeld => ?_)
            · exact kept4 hB l1 l2 m0 m1 z0 z1
            clear hK K q0 q1 r0 r1
            try simp only [Act.put, List.setIfInBounds_toArray, List.set_cons_zero, List.set_cons_succ]
            obtain ⟨w_53, hw⟩ : ∃ x, x = ((w_52.setCell ⟨c8, 0, none⟩ (.int .i64 k1)).setCell ⟨c8, 1, none⟩ (.string y1)) := ⟨_, rfl⟩
            rw [← hw] at hst hot hE hB
            rw [← hw]
            have h8 := hst
            have h9 := hot.trans h9
            clear hw hst hot
            have q0 : w_53.cell? ⟨c9, 0, none⟩ = some (.int .i64 0) := Lib.cell_of_heap h9 0
            have q1 : w_53.cell? ⟨c9, 1, none⟩ = some (.string { data := #[] }) := Lib.cell_of_heap h9 1
            have r0 : w_53.frozen? ⟨c9, 0, none⟩ = false := by simp [World.frozen?, h9]
            have r1 : w_53.frozen? ⟨c9, 1, none⟩ = false := by simp [World.frozen?, h9]
            have hst := store2 h9 (.int .i64 k2) (.string y2)
            have hot := store2_other (c := c8) (g := c9) hcc (.int .i64 k2) (.string y2) (w := w_53)
            have hE : TksV ((w_53.setCell ⟨c9, 0, none⟩ (.int .i64 k2)).setCell ⟨c9, 1, none⟩ (.string y2)) A L := setT (setT hE n9 _) n9 _
            have hB : Below w0.heap.size w0 ((w_53.setCell ⟨c9, 0, none⟩ (.int .i64 k2)).setCell ⟨c9, 1, none⟩ (.string y2)) := (hB.setCell (p := ⟨c9, 0, none⟩) g9 _).setCell (p := ⟨c9, 1, none⟩) g9 _
            refine wpAnyH_ready (rs := [10]) (by kernel_rfl) (by simp) ?_
            refine AllReadyH.cons (o := ⟨none, _, _, _, _, _⟩) rfl (fun K hK => ?_) AllReadyH.nil
            go_simp
            refine hK.out _ _ ?_ (fun hHeld => ?_)
            · exact kept4 hB l1 l2 m0 m1 z0 z1
            clear hK K q0 q1 r0 r1
            try simp only [Act.put, List.setIfInBounds_toArray, List.set_cons_zero, List.set_cons_succ]
            obtain ⟨w_54, hw⟩ : ∃ x, x = ((w_53.setCell ⟨c9, 0, none⟩ (.int .i64 k2)).setCell ⟨c9, 1, none⟩ (.string y2)) := ⟨_, rfl⟩
            rw [← hw] at hst hot hE hB
            rw [← hw]
            have h9 := hst
            have h8 := hot.trans h8
            clear hw hst hot
            refine wpAnyH_done (by kernel_rfl) ?_ _
            go_wp2_with fail
            go_meet
            exact ⟨A, c, c8, c9, rfl, hE, rfl, rfl, HB0.out.trans (hB.mono HB0.out.size), h8, h9⟩
        · go_simp
          have hal : Below w_45.heap.size w_45 (w_45.alloc (.cells #[.int .i64 0, .string { data := #[] }] 24)) := (Below.refl _ _).alloc (Nat.le_refl _) _
          refine hK.out _ _ ?_ (fun hHeld => ?_)
          · exact kept4 (hB.trans (hal.mono hB.size)) l1 l2 m0 m1 z0 z1
          clear hK K
          try simp only [Act.put, List.setIfInBounds_toArray, List.set_cons_zero, List.set_cons_succ]
          obtain ⟨c8, hc⟩ : ∃ c, c = w_45.heap.size := ⟨_, rfl⟩
          obtain ⟨w_55, hw⟩ : ∃ x, x = w_45.alloc (.cells #[.int .i64 0, .string { data := #[] }] 24) := ⟨_, rfl⟩
          rw [← hw] at hal
          have g8 : w0.heap.size ≤ c8 := by rw [hc]; exact hB.size
          have h8 : w_55.heap[c8]? = some (.cells #[.int .i64 0, .string { data := #[] }] 24 (0, 0)) := by rw [hw, hc]; exact heap_alloc_new _ _
          have hcc : c8 ≠ c9 := by have hlt : c9 < w_45.heap.size := lt_of_cell (Lib.cell_of_heap h9 0); omega
          have n8 : ∀ bb off, A = some ⟨bb, off, none⟩ → 0 < L.length → bb ≠ c8 := fun bb off ha hlen hne => by obtain ⟨b', off', he, hlt, _⟩ := hE hlen; rw [ha] at he; injection he with he; injection he with he1 he2; omega
          have h9 : w_55.heap[c9]? = some (.cells #[.int .i64 0, .string { data := #[] }] 24 (0, 0)) := (hal.block c9 (lt_of_cell (Lib.cell_of_heap h9 0))).trans h9
          have hE : TksV w_55 A L := hE.below hal
          have hB : Below w0.heap.size w0 w_55 := hB.trans (hal.mono hB.size)
          rw [← hw] at hHeld
          rw [← hw]
          rw [← hc]
          clear hw hc hal
          refine wpAnyH_ready (rs := [3]) (by kernel_rfl) (by simp) ?_
          refine AllReadyH.cons (o := ⟨some 16, _, _, _, _, _⟩) rfl (fun K hK => ?_) AllReadyH.nil
          go_simp
          go_at_call 12
          with_reducible refine (Hone1.out _).mono ?_
          rintro e w_56 ⟨rfl, hbC⟩
          have h8 : w_56.heap[c8]? = some (.cells #[.int .i64 0, .string { data := #[] }] 24 (0, 0)) := (hbC.block c8 (lt_of_cell (Lib.cell_of_heap h8 0))).trans h8
          have h9 : w_56.heap[c9]? = some (.cells #[.int .i64 0, .string { data := #[] }] 24 (0, 0)) := (hbC.block c9 (lt_of_cell (Lib.cell_of_heap h9 0))).trans h9
          have hE : TksV w_56 A L := hE.below hbC
          have hB : Below w0.heap.size w0 w_56 := hB.trans (hbC.mono hB.size)
          refine hK.out _ _ ?_ (fun hHeld => ?_)
          · exact kept4 hB l1 l2 m0 m1 z0 z1
          clear hK K
          try simp only [Act.put, List.setIfInBounds_toArray, List.set_cons_zero, List.set_cons_succ]
          refine wpAnyH_ready (rs := [5]) (by kernel_rfl) (by simp) ?_
          refine AllReadyH.cons (o := ⟨some 18, _, _, _, _, _⟩) rfl (fun K hK => ?_) AllReadyH.nil
          go_simp
          go_at_call 12
          with_reducible refine (Hone2.out _).mono ?_
          rintro e w_57 ⟨rfl, hbC⟩
          have h8 : w_57.heap[c8]? = some (.cells #[.int .i64 0, .string { data := #[] }] 24 (0, 0)) := (hbC.block c8 (lt_of_cell (Lib.cell_of_heap h8 0))).trans h8
          have h9 : w_57.heap[c9]? = some (.cells #[.int .i64 0, .string { data := #[] }] 24 (0, 0)) := (hbC.block c9 (lt_of_cell (Lib.cell_of_heap h9 0))).trans h9
          have hE : TksV w_57 A L := hE.below hbC
          have hB : Below w0.heap.size w0 w_57 := hB.trans (hbC.mono hB.size)
          refine hK.out _ _ ?_ (fun hHeld => ?_)
          · exact kept4 hB l1 l2 m0 m1 z0 z1
          clear hK K
          try simp only [Act.put, List.setIfInBounds_toArray, List.set_cons_zero, List.set_cons_succ]
          refine wpAnyH_take (i := 8) (oi := ⟨some 7, _, _, _, _, _⟩) (v := ?_) rfl (by kernel_rfl) (by kernel_rfl) (by kernel_rfl) (fun _ _ _ h => h) (Or.inl ⟨by rfl, ?hy⟩) (by assumption) ?_
          case hy => (intro w hSw; (try dsimp only at hSw); go_simp; (try with_reducible rfl))
          try simp only [Act.put, List.setIfInBounds_toArray, List.set_cons_zero, List.set_cons_succ]
          have q0 : w_57.cell? ⟨c8, 0, none⟩ = some (.int .i64 0) := Lib.cell_of_heap h8 0
          have q1 : w_57.cell? ⟨c8, 1, none⟩ = some (.string { data := #[] }) := Lib.cell_of_heap h8 1
          have r0 : w_57.frozen? ⟨c8, 0, none⟩ = false := by simp [World.frozen?, h8]
          have r1 : w_57.frozen? ⟨c8, 1, none⟩ = false := by simp [World.frozen?, h8]
          have hst := store2 h8 (.int .i64 k1) (.string y1)
          have hot := store2_other (c := c9) (g := c8) (Ne.symm hcc) (.int .i64 k1) (.string y1) (w := w_57)
          have hE : TksV ((w_57.setCell ⟨c8, 0, none⟩ (.int .i64 k1)).setCell ⟨c8, 1, none⟩ (.string y1)) A L := setT (setT hE n8 _) n8 _
          have hB : Below w0.heap.size w0 ((w_57.setCell ⟨c8, 0, none⟩ (.int .i64 k1)).setCell ⟨c8, 1, none⟩ (.string y1)) := (hB.setCell (p := ⟨c8, 0, none⟩) g8 _).setCell (p := ⟨c8, 1, none⟩) g8 _
          refine wpAnyH_ready (rs := [9]) (by kernel_rfl) (by simp) ?_
          refine AllReadyH.cons (o := ⟨none, _, _, _, _, _⟩) rfl (fun K hK => ?_) AllReadyH.nil
          go_simp
          refine hK.out _ _ ?_ (fun hHeld => ?_)
          · exact kept4 hB l1 l2 m0 m1 z0 z1
          clear hK K q0 q1 r0 r1
          try simp only [Act.put, List.setIfInBounds_toArray, List.set_cons_zero, List.set_cons_succ]
          obtain ⟨w_58, hw⟩ : ∃ x, x = ((w_57.setCell ⟨c8, 0, none⟩ (.int .i64 k1)).setCell ⟨c8, 1, none⟩ (.string y1)) := ⟨_, rfl⟩
          rw [← hw] at hst hot hE hB
          rw [← hw]
          have h8 := hst
          have h9 := hot.trans h9
          clear hw hst hot
          have q0 : w_58.cell? ⟨c9, 0, none⟩ = some (.int .i64 0) := Lib.cell_of_heap h9 0
          have q1 : w_58.cell? ⟨c9, 1, none⟩ = some (.string { data := #[] }) := Lib.cell_of_heap h9 1
          have r0 : w_58.frozen? ⟨c9, 0, none⟩ = false := by simp [World.frozen?, h9]
          have r1 : w_58.frozen? ⟨c9, 1, none⟩ = false := by simp [World.frozen?, h9]
          have hst := store2 h9 (.int .i64 k2) (.string y2)
          have hot := store2_other (c := c8) (g := c9) hcc (.int .i64 k2) (.string y2) (w := w_58)
          have hE : TksV ((w_58.setCell ⟨c9, 0, none⟩ (.int .i64 k2)).setCell ⟨c9, 1, none⟩ (.string y2)) A L := setT (setT hE n9 _) n9 _
          have hB : Below w0.heap.size w0 ((w_58.setCell ⟨c9, 0, none⟩ (.int .i64 k2)).setCell ⟨c9, 1, none⟩ (.string y2)) := (hB.setCell (p := ⟨c9, 0, none⟩) g9 _).setCell (p := ⟨c9, 1, none⟩) g9 _
          refine wpAnyH_ready (rs := [10]) (by kernel_rfl) (by simp) ?_
          refine AllReadyH.cons (o := ⟨none, _, _, _, _, _⟩) rfl (fun K hK => ?_) AllReadyH.nil
          go_simp
          refine hK.out _ _ ?_ (fun hHeld => ?_)
          · exact kept4 hB l1 l2 m0 m1 z0 z1
          clear hK K q0 q1 r0 r1
          try simp only [Act.put, List.setIfInBounds_toArray, List.set_cons_zero, List.set_cons_succ]
          obtain ⟨w_59, hw⟩ : ∃ x, x = ((w_58.setCell ⟨c9, 0, none⟩ (.int .i64 k2)).setCell ⟨c9, 1, none⟩ (.string y2)) := ⟨_, rfl⟩
          rw [← hw] at hst hot hE hB
          rw [← hw]
          have h9 := hst
          have h8 := hot.trans h8
          clear hw hst hot
          refine wpAnyH_done (by kernel_rfl) ?_ _
          go_wp2_with fail
          go_meet
          exact ⟨A, c, c8, c9, rfl, hE, rfl, rfl, HB0.out.trans (hB.mono HB0.out.size), h8, h9⟩
    · go_simp
      have hal : Below w_0.heap.size w_0 (w_0.alloc (.cells #[.int .i64 0, .string { data := #[] }] 24)) := (Below.refl _ _).alloc (Nat.le_refl _) _
      refine hK.out _ _ ?_ (fun hHeld => ?_)
      · exact kept4 (hB.trans (hal.mono hB.size)) l1 l2 m0 m1 z0 z1
      clear hK K
      try simp only [Act.put, List.setIfInBounds_toArray, List.set_cons_zero, List.set_cons_succ]
      obtain ⟨c8, hc⟩ : ∃ c, c = w_0.heap.size := ⟨_, rfl⟩
      obtain ⟨w_60, hw⟩ : ∃ x, x = w_0.alloc (.cells #[.int .i64 0, .string { data := #[] }] 24) := ⟨_, rfl⟩
      rw [← hw] at hal
      have g8 : w0.heap.size ≤ c8 := by rw [hc]; exact hB.size
      have h8 : w_60.heap[c8]? = some (.cells #[.int .i64 0, .string { data := #[] }] 24 (0, 0)) := by rw [hw, hc]; exact heap_alloc_new _ _
      have hB : Below w0.heap.size w0 w_60 := hB.trans (hal.mono hB.size)
      rw [← hw] at hHeld
      rw [← hw]
      rw [← hc]
      clear hw hc hal
      refine wpAnyH_ready (rs := [1, 7]) (by kernel_rfl) (by simp) ?_
      refine AllReadyH.cons (o := ⟨some 14, _, _, _, _, _⟩) rfl (fun K hK => ?_) (AllReadyH.cons (o := ⟨some 9, _, _, _, _, _⟩) rfl (fun K hK => ?_) AllReadyH.nil)
      · go_simp
        go_at_call 11
        with_reducible refine (Hcut.out _ ?_).mono ?_
        · exact HE0.out.below hB
        rintro e w_61 ⟨vC, rfl, hoC, hbC⟩
        obtain ⟨A, c, rfl, hE, _, hAb⟩ := TksV.of_own hoC
        have n8 : ∀ bb off, A = some ⟨bb, off, none⟩ → 0 < L.length → bb ≠ c8 := fun bb off ha _ hne => by have h1 : w_60.heap.size ≤ bb := hAb _ ha; have h2 : c8 < w_60.heap.size := lt_of_cell (Lib.cell_of_heap h8 0); omega
        have h8 : w_61.heap[c8]? = some (.cells #[.int .i64 0, .string { data := #[] }] 24 (0, 0)) := (hbC.block c8 (lt_of_cell (Lib.cell_of_heap h8 0))).trans h8
        have hB : Below w0.heap.size w0 w_61 := hB.trans (hbC.mono hB.size)
        refine hK.out _ _ ?_ (fun hHeld => ?_)
        · exact kept4 hB l1 l2 m0 m1 z0 z1
        clear hK K
        try simp only [Act.put, List.setIfInBounds_toArray, List.set_cons_zero, List.set_cons_succ]
        refine wpAnyH_ready (rs := [3, 7]) (by kernel_rfl) (by simp) ?_
        refine AllReadyH.cons (o := ⟨some 16, _, _, _, _, _⟩) rfl (fun K hK => ?_) (AllReadyH.cons (o := ⟨some 9, _, _, _, _, _⟩) rfl (fun K hK => ?_) AllReadyH.nil)
        · go_simp
          go_at_call 12
          with_reducible refine (Hone1.out _).mono ?_
          rintro e w_62 ⟨rfl, hbC⟩
          have h8 : w_62.heap[c8]? = some (.cells #[.int .i64 0, .string { data := #[] }] 24 (0, 0)) := (hbC.block c8 (lt_of_cell (Lib.cell_of_heap h8 0))).trans h8
          have hE : TksV w_62 A L := hE.below hbC
          have hB : Below w0.heap.size w0 w_62 := hB.trans (hbC.mono hB.size)
          refine hK.out _ _ ?_ (fun hHeld => ?_)
          · exact kept4 hB l1 l2 m0 m1 z0 z1
          clear hK K
          try simp only [Act.put, List.setIfInBounds_toArray, List.set_cons_zero, List.set_cons_succ]
          refine wpAnyH_ready (rs := [5, 7]) (by kernel_rfl) (by simp) ?_
          refine AllReadyH.cons (o := ⟨some 18, _, _, _, _, _⟩) rfl (fun K hK => ?_) (AllReadyH.cons (o := ⟨some 9, _, _, _, _, _⟩) rfl (fun K hK => ?_) AllReadyH.nil)
          · go_simp
            go_at_call 12
            with_reducible refine (Hone2.out _).mono ?_
            rintro e w_63 ⟨rfl, hbC⟩
            have h8 : w_63.heap[c8]? = some (.cells #[.int .i64 0, .string { data := #[] }] 24 (0, 0)) := (hbC.block c8 (lt_of_cell (Lib.cell_of_heap h8 0))).trans h8
            have hE : TksV w_63 A L := hE.below hbC
            have hB : Below w0.heap.size w0 w_63 := hB.trans (hbC.mono hB.size)
            refine hK.out _ _ ?_ (fun hHeld => ?_)
            · exact kept4 hB l1 l2 m0 m1 z0 z1
            clear hK K
            try simp only [Act.put, List.setIfInBounds_toArray, List.set_cons_zero, List.set_cons_succ]
            refine wpAnyH_ready (rs := [7]) (by kernel_rfl) (by simp) ?_
            refine AllReadyH.cons (o := ⟨some 9, _, _, _, _, _⟩) rfl (fun K hK => ?_) AllReadyH.nil
            go_simp
            have hal : Below w_63.heap.size w_63 (w_63.alloc (.cells #[.int .i64 0, .string { data := #[] }] 24)) := (Below.refl _ _).alloc (Nat.le_refl _) _
            refine hK.out _ _ ?_ (fun hHeld => ?_)
            · exact kept4 (hB.trans (hal.mono hB.size)) l1 l2 m0 m1 z0 z1
            clear hK K
            try simp only [Act.put, List.setIfInBounds_toArray, List.set_cons_zero, List.set_cons_succ]
            obtain ⟨c9, hc⟩ : ∃ c, c = w_63.heap.size := ⟨_, rfl⟩
            obtain ⟨w_64, hw⟩ : ∃ x, x = w_63.alloc (.cells #[.int .i64 0, .string { data := #[] }] 24) := ⟨_, rfl⟩
            rw [← hw] at hal
            have g9 : w0.heap.size ≤ c9 := by rw [hc]; exact hB.size
            have h9 : w_64.heap[c9]? = some (.cells #[.int .i64 0, .string { data := #[] }] 24 (0, 0)) := by rw [hw, hc]; exact heap_alloc_new _ _
            have hcc : c8 ≠ c9 := by have hlt : c8 < w_63.heap.size := lt_of_cell (Lib.cell_of_heap h8 0); omega
            have n9 : ∀ bb off, A = some ⟨bb, off, none⟩ → 0 < L.length → bb ≠ c9 := fun bb off ha hlen hne => by obtain ⟨b', off', he, hlt, _⟩ := hE hlen; rw [ha] at he; injection he with he; injection he with he1 he2; omega
            have h8 : w_64.heap[c8]? = some (.cells #[.int .i64 0, .string { data := #[] }] 24 (0, 0)) := (hal.block c8 (lt_of_cell (Lib.cell_of_heap h8 0))).trans h8
            have hE : TksV w_64 A L := hE.below hal
            have hB : Below w0.heap.size w0 w_64 := hB.trans (hal.mono hB.size)
            rw [← hw] at hHeld
            rw [← hw]
            rw [← hc]
            clear hw hc hal
            refine wpAnyH_take (i := 8) (oi := ⟨some 7, _, _, _, _, _⟩) (v := ?_) rfl (by kernel_rfl) (by kernel_rfl) (by kernel_rfl) (fun _ _ _ h => h) (Or.inl ⟨by rfl, ?hy⟩) (by assumption) ?_
            case hy => (intro w hSw; (try dsimp only at hSw); go_simp; (try with_reducible rfl))
            try simp only [Act.put, List.setIfInBounds_toArray, List.set_cons_zero, List.set_cons_succ]
            have q0 : w_64.cell? ⟨c8, 0, none⟩ = some (.int .i64 0) := Lib.cell_of_heap h8 0
            have q1 : w_64.cell? ⟨c8, 1, none⟩ = some (.string { data := #[] }) := Lib.cell_of_heap h8 1
            have r0 : w_64.frozen? ⟨c8, 0, none⟩ = false := by simp [World.frozen?, h8]
            have r1 : w_64.frozen? ⟨c8, 1, none⟩ = false := by simp [World.frozen?, h8]
            have hst := store2 h8 (.int .i64 k1) (.string y1)
            have hot := store2_other (c := c9) (g := c8) (Ne.symm hcc) (.int .i64 k1) (.string y1) (w := w_64)
            have hE : TksV ((w_64.setCell ⟨c8, 0, none⟩ (.int .i64 k1)).setCell ⟨c8, 1, none⟩ (.string y1)) A L := setT (setT hE n8 _) n8 _
            have hB : Below w0.heap.size w0 ((w_64.setCell ⟨c8, 0, none⟩ (.int .i64 k1)).setCell ⟨c8, 1, none⟩ (.string y1)) := (hB.setCell (p := ⟨c8, 0, none⟩) g8 _).setCell (p := ⟨c8, 1, none⟩) g8 _
            refine wpAnyH_ready (rs := [9]) (by kernel_rfl) (by simp) ?_
            refine AllReadyH.cons (o := ⟨none, _, _, _, _, _⟩) rfl (fun K hK => ?_) AllReadyH.nil
            go_simp
            refine hK.out _ _ ?_ (fun hHeld => ?_)
            · exact kept4 hB l1 l2 m0 m1 z0 z1
            clear hK K q0 q1 r0 r1
            try simp only [Act.put, List.setIfInBounds_toArray, List.set_cons_zero, List.set_cons_succ]
            obtain ⟨w_65, hw⟩ : ∃ x, x = ((w_64.setCell ⟨c8, 0, none⟩ (.int .i64 k1)).setCell ⟨c8, 1, none⟩ (.string y1)) := ⟨_, rfl⟩
            rw [← hw] at hst hot hE hB
            rw [← hw]
            have h8 := hst
            have h9 := hot.trans h9
            clear hw hst hot
            have q0 : w_65.cell? ⟨c9, 0, none⟩ = some (.int .i64 0) := Lib.cell_of_heap h9 0
            have q1 : w_65.cell? ⟨c9, 1, none⟩ = some (.string { data := #[] }) := Lib.cell_of_heap h9 1
            have r0 : w_65.frozen? ⟨c9, 0, none⟩ = false := by simp [World.frozen?, h9]
            have r1 : w_65.frozen? ⟨c9, 1, none⟩ = false := by simp [World.frozen?, h9]
            have hst := store2 h9 (.int .i64 k2) (.string y2)
            have hot := store2_other (c := c8) (g := c9) hcc (.int .i64 k2) (.string y2) (w := w_65)
            have hE : TksV ((w_65.setCell ⟨c9, 0, none⟩ (.int .i64 k2)).setCell ⟨c9, 1, none⟩ (.string y2)) A L := setT (setT hE n9 _) n9 _
            have hB : Below w0.heap.size w0 ((w_65.setCell ⟨c9, 0, none⟩ (.int .i64 k2)).setCell ⟨c9, 1, none⟩ (.string y2)) := (hB.setCell (p := ⟨c9, 0, none⟩) g9 _).setCell (p := ⟨c9, 1, none⟩) g9 _
            refine wpAnyH_ready (rs := [10]) (by kernel_rfl) (by simp) ?_
            refine AllReadyH.cons (o := ⟨none, _, _, _, _, _⟩) rfl (fun K hK => ?_) AllReadyH.nil
            go_simp
            refine hK.out _ _ ?_ (fun hHeld => ?_)
            · exact kept4 hB l1 l2 m0 m1 z0 z1
            clear hK K q0 q1 r0 r1
            try simp only [Act.put, List.setIfInBounds_toArray, List.set_cons_zero, List.set_cons_succ]
            obtain ⟨w_66, hw⟩ : ∃ x, x = ((w_65.setCell ⟨c9, 0, none⟩ (.int .i64 k2)).setCell ⟨c9, 1, none⟩ (.string y2)) := ⟨_, rfl⟩
            rw [← hw] at hst hot hE hB
            rw [← hw]
            have h9 := hst
            have h8 := hot.trans h8
            clear hw hst hot
            refine wpAnyH_done (by kernel_rfl) ?_ _
            go_wp2_with fail
            go_meet
            exact ⟨A, c, c8, c9, rfl, hE, rfl, rfl, HB0.out.trans (hB.mono HB0.out.size), h8, h9⟩
          · go_simp
            have hal : Below w_62.heap.size w_62 (w_62.alloc (.cells #[.int .i64 0, .string { data := #[] }] 24)) := (Below.refl _ _).alloc (Nat.le_refl _) _
            refine hK.out _ _ ?_ (fun hHeld => ?_)
            · exact kept4 (hB.trans (hal.mono hB.size)) l1 l2 m0 m1 z0 z1
            clear hK K
            try simp only [Act.put, List.setIfInBounds_toArray, List.set_cons_zero, List.set_cons_succ]
            obtain ⟨c9, hc⟩ : ∃ c, c = w_62.heap.size := ⟨_, rfl⟩
            obtain ⟨w_67, hw⟩ : ∃ x, x = w_62.alloc (.cells #[.int .i64 0, .string { data := #[] }] 24) := ⟨_, rfl⟩
            rw [← hw] at hal
            have g9 : w0.heap.size ≤ c9 := by rw [hc]; exact hB.size
            have h9 : w_67.heap[c9]? = some (.cells #[.int .i64 0, .string { data := #[] }] 24 (0, 0)) := by rw [hw, hc]; exact heap_alloc_new _ _
            have hcc : c8 ≠ c9 := by have hlt : c8 < w_62.heap.size := lt_of_cell (Lib.cell_of_heap h8 0); omega
            have n9 : ∀ bb off, A = some ⟨bb, off, none⟩ → 0 < L.length → bb ≠ c9 := fun bb off ha hlen hne => by obtain ⟨b', off', he, hlt, _⟩ := hE hlen; rw [ha] at he; injection he with he; injection he with he1 he2; omega
            have h8 : w_67.heap[c8]? = some (.cells #[.int .i64 0, .string { data := #[] }] 24 (0, 0)) := (hal.block c8 (lt_of_cell (Lib.cell_of_heap h8 0))).trans h8
            have hE : TksV w_67 A L := hE.below hal
            have hB : Below w0.heap.size w0 w_67 := hB.trans (hal.mono hB.size)
            rw [← hw] at hHeld
            rw [← hw]
            rw [← hc]
            clear hw hc hal
            refine wpAnyH_ready (rs := [5]) (by kernel_rfl) (by simp) ?_
            refine AllReadyH.cons (o := ⟨some 18, _, _, _, _, _⟩) rfl (fun K hK => ?_) AllReadyH.nil
            go_simp
            go_at_call 12
            with_reducible refine (Hone2.out _).mono ?_
            rintro e w_68 ⟨rfl, hbC⟩
            have h8 : w_68.heap[c8]? = some (.cells #[.int .i64 0, .string { data := #[] }] 24 (0, 0)) := (hbC.block c8 (lt_of_cell (Lib.cell_of_heap h8 0))).trans h8
            have h9 : w_68.heap[c9]? = some (.cells #[.int .i64 0, .string { data := #[] }] 24 (0, 0)) := (hbC.block c9 (lt_of_cell (Lib.cell_of_heap h9 0))).trans h9
            have hE : TksV w_68 A L := hE.below hbC
            have hB : Below w0.heap.size w0 w_68 := hB.trans (hbC.mono hB.size)
            refine hK.out _ _ ?_ (fun hHeld => ?_)
            · exact kept4 hB l1 l2 m0 m1 z0 z1
            clear hK K
            try simp only [Act.put, List.setIfInBounds_toArray, List.set_cons_zero, List.set_cons_succ]
            refine wpAnyH_take (i := 8) (oi := ⟨some 7, _, _, _, _, _⟩) (v := ?_) rfl (by kernel_rfl) (by kernel_rfl) (by kernel_rfl) (fun _ _ _ h => h) (Or.inl ⟨by rfl, ?hy⟩) (by assumption) ?_
            case hy => (intro w hSw; (try dsimp only at hSw); go_simp; (try with_reducible rfl))
            try simp only [Act.put, List.setIfInBounds_toArray, List.set_cons_zero, List.set_cons_succ]
            have q0 : w_68.cell? ⟨c8, 0, none⟩ = some (.int .i64 0) := Lib.cell_of_heap h8 0
            have q1 : w_68.cell? ⟨c8, 1, none⟩ = some (.string { data := #[] }) := Lib.cell_of_heap h8 1
            have r0 : w_68.frozen? ⟨c8, 0, none⟩ = false := by simp [World.frozen?, h8]
            have r1 : w_68.frozen? ⟨c8, 1, none⟩ = false := by simp [World.frozen?, h8]
            have hst := store2 h8 (.int .i64 k1) (.string y1)
            have hot := store2_other (c := c9) (g := c8) (Ne.symm hcc) (.int .i64 k1) (.string y1) (w := w_68)
            have hE : TksV ((w_68.setCell ⟨c8, 0, none⟩ (.int .i64 k1)).setCell ⟨c8, 1, none⟩ (.string y1)) A L := setT (setT hE n8 _) n8 _
            have hB : Below w0.heap.size w0 ((w_68.setCell ⟨c8, 0, none⟩ (.int .i64 k1)).setCell ⟨c8, 1, none⟩ (.string y1)) := (hB.setCell (p := ⟨c8, 0, none⟩) g8 _).setCell (p := ⟨c8, 1, none⟩) g8 _
            refine wpAnyH_ready (rs := [9]) (by kernel_rfl) (by simp) ?_
            refine AllReadyH.cons (o := ⟨none, _, _, _, _, _⟩) rfl (fun K hK => ?_) AllReadyH.nil
            go_simp
            refine hK.out _ _ ?_ (fun hHeld => ?_)
            · exact kept4 hB l1 l2 m0 m1 z0 z1
            clear hK K q0 q1 r0 r1
            try simp only [Act.put, List.setIfInBounds_toArray, List.set_cons_zero, List.set_cons_succ]
            obtain ⟨w_69, hw⟩ : ∃ x, x = ((w_68.setCell ⟨c8, 0, none⟩ (.int .i64 k1)).setCell ⟨c8, 1, none⟩ (.string y1)) := ⟨_, rfl⟩
            rw [← hw] at hst hot hE hB
            rw [← hw]
            have h8 := hst
            have h9 := hot.trans h9
            clear hw hst hot
            have q0 : w_69.cell? ⟨c9, 0, none⟩ = some (.int .i64 0) := Lib.cell_of_heap h9 0
            have q1 : w_69.cell? ⟨c9, 1, none⟩ = some (.string { data := #[] }) := Lib.cell_of_heap h9 1
            have r0 : w_69.frozen? ⟨c9, 0, none⟩ = false := by simp [World.frozen?, h9]
            have r1 : w_69.frozen? ⟨c9, 1, none⟩ = false := by simp [World.frozen?, h9]
            have hst := store2 h9 (.int .i64 k2) (.string y2)
            have hot := store2_other (c := c8) (g := c9) hcc (.int .i64 k2) (.string y2) (w := w_69)
            have hE : TksV ((w_69.setCell ⟨c9, 0, none⟩ (.int .i64 k2)).setCell ⟨c9, 1, none⟩ (.string y2)) A L := setT (setT hE n9 _) n9 _
            have hB : Below w0.heap.size w0 ((w_69.setCell ⟨c9, 0, none⟩ (.int .i64 k2)).setCell ⟨c9, 1, none⟩ (.string y2)) := (hB.setCell (p := ⟨c9, 0, none⟩) g9 _).setCell (p := ⟨c9, 1, none⟩) g9 _
            refine wpAnyH_ready (rs := [10]) (by kernel_rfl) (by simp) ?_
            refine AllReadyH.cons (o := ⟨none, _, _, _, _, _⟩) rfl (fun K hK => ?_) AllReadyH.nil
            go_simp
            refine hK.out _ _ ?_ (fun hHeld => ?_)
            · exact kept4 hB l1 l2 m0 m1 z0 z1
            clear hK K q0 q1 r0 r1
            try simp only [Act.put, List.setIfInBounds_toArray, List.set_cons_zero, List.set_cons_succ]
            obtain ⟨w_70, hw⟩ : ∃ x, x = ((w_69.setCell ⟨c9, 0, none⟩ (.int .i64 k2)).setCell ⟨c9, 1, none⟩ (.string y2)) := ⟨_, rfl⟩
            rw [← hw] at hst hot hE hB
            rw [← hw]
            have h9 := hst
            have h8 := hot.trans h8
            clear hw hst hot
            refine wpAnyH_done (by kernel_rfl) ?_ _
            go_wp2_with fail
            go_meet
            exact ⟨A, c, c8, c9, rfl, hE, rfl, rfl, HB0.out.trans (hB.mono HB0.out.size), h8, h9⟩
        · go_simp
          have hal : Below w_61.heap.size w_61 (w_61.alloc (.cells #[.int .i64 0, .string { data := #[] }] 24)) := (Below.refl _ _).alloc (Nat.le_refl _) _
          refine hK.out _ _ ?_ (fun hHeld => ?_)
          · exact kept4 (hB.trans (hal.mono hB.size)) l1 l2 m0 m1 z0 z1
          clear hK K
          try simp only [Act.put, List.setIfInBounds_toArray, List.set_cons_zero, List.set_cons_succ]
          obtain ⟨c9, hc⟩ : ∃ c, c = w_61.heap.size := ⟨_, rfl⟩
          obtain ⟨w_71, hw⟩ : ∃ x, x = w_61.alloc (.cells #[.int .i64 0, .string { data := #[] }] 24) := ⟨_, rfl⟩
          rw [← hw] at hal
          have g9 : w0.heap.size ≤ c9 := by rw [hc]; exact hB.size
          have h9 : w_71.heap[c9]? = some (.cells #[.int .i64 0, .string { data := #[] }] 24 (0, 0)) := by rw [hw, hc]; exact heap_alloc_new _ _
          have hcc : c8 ≠ c9 := by have hlt : c8 < w_61.heap.size := lt_of_cell (Lib.cell_of_heap h8 0); omega
          have n9 : ∀ bb off, A = some ⟨bb, off, none⟩ → 0 < L.length → bb ≠ c9 := fun bb off ha hlen hne => by obtain ⟨b', off', he, hlt, _⟩ := hE hlen; rw [ha] at he; injection he with he; injection he with he1 he2; omega
          have h8 : w_71.heap[c8]? = some (.cells #[.int .i64 0, .string { data := #[] }] 24 (0, 0)) := (hal.block c8 (lt_of_cell (Lib.cell_of_heap h8 0))).trans h8
          have hE : TksV w_71 A L := hE.below hal
          have hB : Below w0.heap.size w0 w_71 := hB.trans (hal.mono hB.size)
          rw [← hw] at hHeld
          rw [← hw]
          rw [← hc]
          clear hw hc hal
          refine wpAnyH_ready (rs := [3]) (by kernel_rfl) (by simp) ?_
          refine AllReadyH.cons (o := ⟨some 16, _, _, _, _, _⟩) rfl (fun K hK => ?_) AllReadyH.nil
          go_simp
          go_at_call 12
          with_reducible refine (Hone1.out _).mono ?_
          rintro e w_72 ⟨rfl, hbC⟩
          have h8 : w_72.heap[c8]? = some (.cells #[.int .i64 0, .string { data := #[] }] 24 (0, 0)) := (hbC.block c8 (lt_of_cell (Lib.cell_of_heap h8 0))).trans h8
          have h9 : w_72.heap[c9]? = some (.cells #[.int .i64 0, .string { data := #[] }] 24 (0, 0)) := (hbC.block c9 (lt_of_cell (Lib.cell_of_heap h9 0))).trans h9
          have hE : TksV w_72 A L := hE.below hbC
          have hB : Below w0.heap.size w0 w_72 := hB.trans (hbC.mono hB.size)
          refine hK.out _ _ ?_ (fun hHeld => ?_)
          · exact kept4 hB l1 l2 m0 m1 z0 z1
          clear hK K
          try simp only [Act.put, List.setIfInBounds_toArray, List.set_cons_zero, List.set_cons_succ]
          refine wpAnyH_ready (rs := [5]) (by kernel_rfl) (by simp) ?_
          refine AllReadyH.cons (o := ⟨some 18, _, _, _, _, _⟩) rfl (fun K hK => ?_) AllReadyH.nil
          go_simp
          go_at_call 12
          with_reducible refine (Hone2.out _).mono ?_
          rintro e w_73 ⟨rfl, hbC⟩
          have h8 : w_73.heap[c8]? = some (.cells #[.int .i64 0, .string { data := #[] }] 24 (0, 0)) := (hbC.block c8 (lt_of_cell (Lib.cell_of_heap h8 0))).trans h8
          have h9 : w_73.heap[c9]? = some (.cells #[.int .i64 0, .string { data := #[] }] 24 (0, 0)) := (hbC.block c9 (lt_of_cell (Lib.cell_of_heap h9 0))).trans h9
          have hE : TksV w_73 A L := hE.below hbC
          have hB : Below w0.heap.size w0 w_73 := hB.trans (hbC.mono hB.size)
          refine hK.out _ _ ?_ (fun hHeld => ?_)
          · exact kept4 hB l1 l2 m0 m1 z0 z1
          clear hK K
          try simp only [Act.put, List.setIfInBounds_toArray, List.set_cons_zero, List.set_cons_succ]
          refine wpAnyH_take (i := 8) (oi := ⟨some 7, _, _, _, _, _⟩) (v := ?_) rfl (by kernel_rfl) (by kernel_rfl) (by kernel_rfl) (fun _ _ _ h => h) (Or.inl ⟨by rfl, ?hy⟩) (by assumption) ?_
          case hy => (intro w hSw; (try dsimp only at hSw); go_simp; (try with_reducible rfl))
          try simp only [Act.put, List.setIfInBounds_toArray, List.set_cons_zero, List.set_cons_succ]
          have q0 : w_73.cell? ⟨c8, 0, none⟩ = some (.int .i64 0) := Lib.cell_of_heap h8 0
          have q1 : w_73.cell? ⟨c8, 1, none⟩ = some (.string { data := #[] }) := Lib.cell_of_heap h8 1
          have r0 : w_73.frozen? ⟨c8, 0, none⟩ = false := by simp [World.frozen?, h8]
          have r1 : w_73.frozen? ⟨c8, 1, none⟩ = false := by simp [World.frozen?, h8]
          have hst := store2 h8 (.int .i64 k1) (.string y1)
          have hot := store2_other (c := c9) (g := c8) (Ne.symm hcc) (.int .i64 k1) (.string y1) (w := w_73)
          have hE : TksV ((w_73.setCell ⟨c8, 0, none⟩ (.int .i64 k1)).setCell ⟨c8, 1, none⟩ (.string y1)) A L := setT (setT hE n8 _) n8 _
          have hB : Below w0.heap.size w0 ((w_73.setCell ⟨c8, 0, none⟩ (.int .i64 k1)).setCell ⟨c8, 1, none⟩ (.string y1)) := (hB.setCell (p := ⟨c8, 0, none⟩) g8 _).setCell (p := ⟨c8, 1, none⟩) g8 _
          refine wpAnyH_ready (rs := [9]) (by kernel_rfl) (by simp) ?_
          refine AllReadyH.cons (o := ⟨none, _, _, _, _, _⟩) rfl (fun K hK => ?_) AllReadyH.nil
          go_simp
          refine hK.out _ _ ?_ (fun hHeld => ?_)
          · exact kept4 hB l1 l2 m0 m1 z0 z1
          clear hK K q0 q1 r0 r1
          try simp only [Act.put, List.setIfInBounds_toArray, List.set_cons_zero, List.set_cons_succ]
          obtain ⟨w_74, hw⟩ : ∃ x, x = ((w_73.setCell ⟨c8, 0, none⟩ (.int .i64 k1)).setCell ⟨c8, 1, none⟩ (.string y1)) := ⟨_, rfl⟩
          rw [← hw] at hst hot hE hB
          rw [← hw]
          have h8 := hst
          have h9 := hot.trans h9
          clear hw hst hot
          have q0 : w_74.cell? ⟨c9, 0, none⟩ = some (.int .i64 0) := Lib.cell_of_heap h9 0
          have q1 : w_74.cell? ⟨c9, 1, none⟩ = some (.string { data := #[] }) := Lib.cell_of_heap h9 1
          have r0 : w_74.frozen? ⟨c9, 0, none⟩ = false := by simp [World.frozen?, h9]
          have r1 : w_74.frozen? ⟨c9, 1, none⟩ = false := by simp [World.frozen?, h9]
          have hst := store2 h9 (.int .i64 k2) (.string y2)
          have hot := store2_other (c := c8) (g := c9) hcc (.int .i64 k2) (.string y2) (w := w_74)
          have hE : TksV ((w_74.setCell ⟨c9, 0, none⟩ (.int .i64 k2)).setCell ⟨c9, 1, none⟩ (.string y2)) A L := setT (setT hE n9 _) n9 _
          have hB : Below w0.heap.size w0 ((w_74.setCell ⟨c9, 0, none⟩ (.int .i64 k2)).setCell ⟨c9, 1, none⟩ (.string y2)) := (hB.setCell (p := ⟨c9, 0, none⟩) g9 _).setCell (p := ⟨c9, 1, none⟩) g9 _
          refine wpAnyH_ready (rs := [10]) (by kernel_rfl) (by simp) ?_
          refine AllReadyH.cons (o := ⟨none, _, _, _, _, _⟩) rfl (fun K hK => ?_) AllReadyH.nil
          go_simp
          refine hK.out _ _ ?_ (fun hHeld => ?_)
          · exact kept4 hB l1 l2 m0 m1 z0 z1
          clear hK K q0 q1 r0 r1
          try simp only [Act.put, List.setIfInBounds_toArray, List.set_cons_zero, List.set_cons_succ]
          obtain ⟨w_75, hw⟩ : ∃ x, x = ((w_74.setCell ⟨c9, 0, none⟩ (.int .i64 k2)).setCell ⟨c9, 1, none⟩ (.string y2)) := ⟨_, rfl⟩
          rw [← hw] at hst hot hE hB
          rw [← hw]
          have h9 := hst
          have h8 := hot.trans h8
          clear hw hst hot
          refine wpAnyH_done (by kernel_rfl) ?_ _
          go_wp2_with fail
          go_meet
          exact ⟨A, c, c8, c9, rfl, hE, rfl, rfl, HB0.out.trans (hB.mono HB0.out.size), h8, h9⟩
      · go_simp
        have hal : Below w_60.heap.size w_60 (w_60.alloc (.cells #[.int .i64 0, .string { data := #[] }] 24)) := (Below.refl _ _).alloc (Nat.le_refl _) _
        refine hK.out _ _ ?_ (fun hHeld => ?_)
        · exact kept4 (hB.trans (hal.mono hB.size)) l1 l2 m0 m1 z0 z1
        clear hK K
        try simp only [Act.put, List.setIfInBounds_toArray, List.set_cons_zero, List.set_cons_succ]
        obtain ⟨c9, hc⟩ : ∃ c, c = w_60.heap.size := ⟨_, rfl⟩
        obtain ⟨w_76, hw⟩ : ∃ x, x = w_60.alloc (.cells #[.int .i64 0, .string { data := #[] }] 24) := ⟨_, rfl⟩
        rw [← hw] at hal
        have g9 : w0.heap.size ≤ c9 := by rw [hc]; exact hB.size
        have h9 : w_76.heap[c9]? = some (.cells #[.int .i64 0, .string { data := #[] }] 24 (0, 0)) := by rw [hw, hc]; exact heap_alloc_new _ _
        have hcc : c8 ≠ c9 := by have hlt : c8 < w_60.heap.size := lt_of_cell (Lib.cell_of_heap h8 0); omega
        have h8 : w_76.heap[c8]? = some (.cells #[.int .i64 0, .string { data := #[] }] 24 (0, 0)) := (hal.block c8 (lt_of_cell (Lib.cell_of_heap h8 0))).trans h8
        have hB : Below w0.heap.size w0 w_76 := hB.trans (hal.mono hB.size)
        rw [← hw] at hHeld
        rw [← hw]
        rw [← hc]
        clear hw hc hal
        refine wpAnyH_ready (rs := [1]) (by kernel_rfl) (by simp) ?_
        refine AllReadyH.cons (o := ⟨some 14, _, _, _, _, _⟩) rfl (fun K hK => ?_) AllReadyH.nil
        go_simp
        go_at_call 11
        with_reducible refine (Hcut.out _ ?_).mono ?_
        · exact HE0.out.below hB
        rintro e w_77 ⟨vC, rfl, hoC, hbC⟩
        obtain ⟨A, c, rfl, hE, _, hAb⟩ := TksV.of_own hoC
        have n8 : ∀ bb off, A = some ⟨bb, off, none⟩ → 0 < L.length → bb ≠ c8 := fun bb off ha _ hne => by have h1 : w_76.heap.size ≤ bb := hAb _ ha; have h2 : c8 < w_76.heap.size := lt_of_cell (Lib.cell_of_heap h8 0); omega
        have n9 : ∀ bb off, A = some ⟨bb, off, none⟩ → 0 < L.length → bb ≠ c9 := fun bb off ha _ hne => by have h1 : w_76.heap.size ≤ bb := hAb _ ha; have h2 : c9 < w_76.heap.size := lt_of_cell (Lib.cell_of_heap h9 0); omega
        have h8 : w_77.heap[c8]? = some (.cells #[.int .i64 0, .string { data := #[] }] 24 (0, 0)) := (hbC.block c8 (lt_of_cell (Lib.cell_of_heap h8 0))).trans h8
        have h9 : w_77.heap[c9]? = some (.cells #[.int .i64 0, .string { data := #[] }] 24 (0, 0)) := (hbC.block c9 (lt_of_cell (Lib.cell_of_heap h9 0))).trans h9
        have hB : Below w0.heap.size w0 w_77 := hB.trans (hbC.mono hB.size)
        refine hK.out _ _ ?_ (fun hHeld => ?_)
        · exact kept4 hB l1 l2 m0 m1 z0 z1
        clear hK K
        try simp only [Act.put, List.setIfInBounds_toArray, List.set_cons_zero, List.set_cons_succ]
        refine wpAnyH_ready (rs := [3]) (by kernel_rfl) (by simp) ?_
        refine AllReadyH.cons (o := ⟨some 16, _, _, _, _, _⟩) rfl (fun K hK => ?_) AllReadyH.nil
        go_simp
        go_at_call 12
        with_reducible refine (Hone1.out _).mono ?_
        rintro e w_78 ⟨rfl, hbC⟩
        have h8 : w_78.heap[c8]? = some (.cells #[.int .i64 0, .string { data := #[] }] 24 (0, 0)) := (hbC.block c8 (lt_of_cell (Lib.cell_of_heap h8 0))).trans h8
        have h9 : w_78.heap[c9]? = some (.cells #[.int .i64 0, .string { data := #[] }] 24 (0, 0)) := (hbC.block c9 (lt_of_cell (Lib.cell_of_heap h9 0))).trans h9
        have hE : TksV w_78 A L := hE.below hbC
        have hB : Below w0.heap.size w0 w_78 := hB.trans (hbC.mono hB.size)
        refine hK.out _ _ ?_ (fun hHeld => ?_)
        · exact kept4 hB l1 l2 m0 m1 z0 z1
        clear hK K
        try simp only [Act.put, List.setIfInBounds_toArray, List.set_cons_zero, List.set_cons_succ]
        refine wpAnyH_ready (rs := [5]) (by kernel_rfl) (by simp) ?_
        refine AllReadyH.cons (o := ⟨some 18, _, _, _, _, _⟩) rfl (fun K hK => ?_) AllReadyH.nil
        go_simp
        go_at_call 12
        with_reducible refine (Hone2.out _).mono ?_
        rintro e w_79 ⟨rfl, hbC⟩
        have h8 : w_79.heap[c8]? = some (.cells #[.int .i64 0, .string { data := #[] }] 24 (0, 0)) := (hbC.block c8 (lt_of_cell (Lib.cell_of_heap h8 0))).trans h8
        have h9 : w_79.heap[c9]? = some (.cells #[.int .i64 0, .string { data := #[] }] 24 (0, 0)) := (hbC.block c9 (lt_of_cell (Lib.cell_of_heap h9 0))).trans h9
        have hE : TksV w_79 A L := hE.below hbC
        have hB : Below w0.heap.size w0 w_79 := hB.trans (hbC.mono hB.size)
        refine hK.out _ _ ?_ (fun hHeld => ?_)
        · exact kept4 hB l1 l2 m0 m1 z0 z1
        clear hK K
        try simp only [Act.put, List.setIfInBounds_toArray, List.set_cons_zero, List.set_cons_succ]
        refine wpAnyH_take (i := 8) (oi := ⟨some 7, _, _, _, _, _⟩) (v := ?_) rfl (by kernel_rfl) (by kernel_rfl) (by kernel_rfl) (fun _ _ _ h => h) (Or.inl ⟨by rfl, ?hy⟩) (by assumption) ?_
        case hy => (intro w hSw; (try dsimp only at hSw); go_simp; (try with_reducible rfl))
        try simp only [Act.put, List.setIfInBounds_toArray, List.set_cons_zero, List.set_cons_succ]
        have q0 : w_79.cell? ⟨c8, 0, none⟩ = some (.int .i64 0) := Lib.cell_of_heap h8 0
        have q1 : w_79.cell? ⟨c8, 1, none⟩ = some (.string { data := #[] }) := Lib.cell_of_heap h8 1
        have r0 : w_79.frozen? ⟨c8, 0, none⟩ = false := by simp [World.frozen?, h8]
        have r1 : w_79.frozen? ⟨c8, 1, none⟩ = false := by simp [World.frozen?, h8]
        have hst := store2 h8 (.int .i64 k1) (.string y1)
        have hot := store2_other (c := c9) (g := c8) (Ne.symm hcc) (.int .i64 k1) (.string y1) (w := w_79)
        have hE : TksV ((w_79.setCell ⟨c8, 0, none⟩ (.int .i64 k1)).setCell ⟨c8, 1, none⟩ (.string y1)) A L := setT (setT hE n8 _) n8 _
        have hB : Below w0.heap.size w0 ((w_79.setCell ⟨c8, 0, none⟩ (.int .i64 k1)).setCell ⟨c8, 1, none⟩ (.string y1)) := (hB.setCell (p := ⟨c8, 0, none⟩) g8 _).setCell (p := ⟨c8, 1, none⟩) g8 _
        refine wpAnyH_ready (rs := [9]) (by kernel_rfl) (by simp) ?_
        refine AllReadyH.cons (o := ⟨none, _, _, _, _, _⟩) rfl (fun K hK => ?_) AllReadyH.nil
        go_simp
        refine hK.out _ _ ?_ (fun hHeld => ?_)
        · exact kept4 hB l1 l2 m0 m1 z0 z1
        clear hK K q0 q1 r0 r1
        try simp only [Act.put, List.setIfInBounds_toArray, List.set_cons_zero, List.set_cons_succ]
        obtain ⟨w_80, hw⟩ : ∃ x, x = ((w_79.setCell ⟨c8, 0, none⟩ (.int .i64 k1)).setCell ⟨c8, 1, none⟩ (.string y1)) := ⟨_, rfl⟩
        rw [← hw] at hst hot hE hB
        rw [← hw]
        have h8 := hst
        have h9 := hot.trans h9
        clear hw hst hot
        have q0 : w_80.cell? ⟨c9, 0, none⟩ = some (.int .i64 0) := Lib.cell_of_heap h9 0
        have q1 : w_80.cell? ⟨c9, 1, none⟩ = some (.string { data := #[] }) := Lib.cell_of_heap h9 1
        have r0 : w_80.frozen? ⟨c9, 0, none⟩ = false := by simp [World.frozen?, h9]
        have r1 : w_80.frozen? ⟨c9, 1, none⟩ = false := by simp [World.frozen?, h9]
        have hst := store2 h9 (.int .i64 k2) (.string y2)
        have hot := store2_other (c := c8) (g := c9) hcc (.int .i64 k2) (.string y2) (w := w_80)
        have hE : TksV ((w_80.setCell ⟨c9, 0, none⟩ (.int .i64 k2)).setCell ⟨c9, 1, none⟩ (.string y2)) A L := setT (setT hE n9 _) n9 _
        have hB : Below w0.heap.size w0 ((w_80.setCell ⟨c9, 0, none⟩ (.int .i64 k2)).setCell ⟨c9, 1, none⟩ (.string y2)) := (hB.setCell (p := ⟨c9, 0, none⟩) g9 _).setCell (p := ⟨c9, 1, none⟩) g9 _
        refine wpAnyH_ready (rs := [10]) (by kernel_rfl) (by simp) ?_
        refine AllReadyH.cons (o := ⟨none, _, _, _, _, _⟩) rfl (fun K hK => ?_) AllReadyH.nil
        go_simp
        refine hK.out _ _ ?_ (fun hHeld => ?_)
        · exact kept4 hB l1 l2 m0 m1 z0 z1
        clear hK K q0 q1 r0 r1
        try simp only [Act.put, List.setIfInBounds_toArray, List.set_cons_zero, List.set_cons_succ]
        obtain ⟨w_81, hw⟩ : ∃ x, x = ((w_80.setCell ⟨c9, 0, none⟩ (.int .i64 k2)).setCell ⟨c9, 1, none⟩ (.string y2)) := ⟨_, rfl⟩
        rw [← hw] at hst hot hE hB
        rw [← hw]
        have h9 := hst
        have h8 := hot.trans h8
        clear hw hst hot
        refine wpAnyH_done (by kernel_rfl) ?_ _
        go_wp2_with fail
        go_meet
        exact ⟨A, c, c8, c9, rfl, hE, rfl, rfl, HB0.out.trans (hB.mono HB0.out.size), h8, h9⟩
    · go_simp
      have hal : Below w_0.heap.size w_0 (w_0.alloc (.cells #[.int .i64 0, .string { data := #[] }] 24)) := (Below.refl _ _).alloc (Nat.le_refl _) _
      refine hK.out _ _ ?_ (fun hHeld => ?_)
      · exact kept4 (hB.trans (hal.mono hB.size)) l1 l2 m0 m1 z0 z1
      clear hK K
      try simp only [Act.put, List.setIfInBounds_toArray, List.set_cons_zero, List.set_cons_succ]
      obtain ⟨c9, hc⟩ : ∃ c, c = w_0.heap.size := ⟨_, rfl⟩
      obtain ⟨w_82, hw⟩ : ∃ x, x = w_0.alloc (.cells #[.int .i64 0, .string { data := #[] }] 24) := ⟨_, rfl⟩
      rw [← hw] at hal
      have g9 : w0.heap.size ≤ c9 := by rw [hc]; exact hB.size
      have h9 : w_82.heap[c9]? = some (.cells #[.int .i64 0, .string { data := #[] }] 24 (0, 0)) := by rw [hw, hc]; exact heap_alloc_new _ _
      have hB : Below w0.heap.size w0 w_82 := hB.trans (hal.mono hB.size)
      rw [← hw] at hHeld
      rw [← hw]
      rw [← hc]
      clear hw hc hal
      refine wpAnyH_ready (rs := [1, 6]) (by kernel_rfl) (by simp) ?_
      refine AllReadyH.cons (o := ⟨some 14, _, _, _, _, _⟩) rfl (fun K hK => ?_) (AllReadyH.cons (o := ⟨some 8, _, _, _, _, _⟩) rfl (fun K hK => ?_) AllReadyH.nil)
      · go_simp
        go_at_call 11
        with_reducible refine (Hcut.out _ ?_).mono ?_
        · exact HE0.out.below hB
        rintro e w_83 ⟨vC, rfl, hoC, hbC⟩
        obtain ⟨A, c, rfl, hE, _, hAb⟩ := TksV.of_own hoC
        have n9 : ∀ bb off, A = some ⟨bb, off, none⟩ → 0 < L.length → bb ≠ c9 := fun bb off ha _ hne => by have h1 : w_82.heap.size ≤ bb := hAb _ ha; have h2 : c9 < w_82.heap.size := lt_of_cell (Lib.cell_of_heap h9 0); omega
        have h9 : w_83.heap[c9]? = some (.cells #[.int .i64 0, .string { data := #[] }] 24 (0, 0)) := (hbC.block c9 (lt_of_cell (Lib.cell_of_heap h9 0))).trans h9
        have hB : Below w0.heap.size w0 w_83 := hB.trans (hbC.mono hB.size)
        refine hK.out _ _ ?_ (fun hHeld => ?_)
        · exact kept4 hB l1 l2 m0 m1 z0 z1
        clear hK K
        try simp only [Act.put, List.setIfInBounds_toArray, List.set_cons_zero, List.set_cons_succ]
        refine wpAnyH_ready (rs := [3, 6]) (by kernel_rfl) (by simp) ?_
        refine AllReadyH.cons (o := ⟨some 16, _, _, _, _, _⟩) rfl (fun K hK => ?_) (AllReadyH.cons (o := ⟨some 8, _, _, _, _, _⟩) rfl (fun K hK => ?_) AllReadyH.nil)
        · go_simp
          go_at_call 12
          with_reducible refine (Hone1.out _).mono ?_
          rintro e w_84 ⟨rfl, hbC⟩
          have h9 : w_84.heap[c9]? = some (.cells #[.int .i64 0, .string { data := #[] }] 24 (0, 0)) := (hbC.block c9 (lt_of_cell (Lib.cell_of_heap h9 0))).trans h9
          have hE : TksV w_84 A L := hE.below hbC
          have hB : Below w0.heap.size w0 w_84 := hB.trans (hbC.mono hB.size)
          refine hK.out _ _ ?_ (fun hHeld => ?_)
          · exact kept4 hB l1 l2 m0 m1 z0 z1
          clear hK K
          try simp only [Act.put, List.setIfInBounds_toArray, List.set_cons_zero, List.set_cons_succ]
          refine wpAnyH_ready (rs := [5, 6]) (by kernel_rfl) (by simp) ?_
          refine AllReadyH.cons (o := ⟨some 18, _, _, _, _, _⟩) rfl (fun K hK => ?_) (AllReadyH.cons (o := ⟨some 8, _, _, _, _, _⟩) rfl (fun K hK => ?_) AllReadyH.nil)
          · go_simp
            go_at_call 12
            with_reducible refine (Hone2.out _).mono ?_
            rintro e w_85 ⟨rfl, hbC⟩
            have h9 : w_85.heap[c9]? = some (.cells #[.int .i64 0, .string { data := #[] }] 24 (0, 0)) := (hbC.block c9 (lt_of_cell (Lib.cell_of_heap h9 0))).trans h9
            have hE : TksV w_85 A L := hE.below hbC
            have hB : Below w0.heap.size w0 w_85 := hB.trans (hbC.mono hB.size)
            refine hK.out _ _ ?_ (fun hHeld => ?_)
            · exact kept4 hB l1 l2 m0 m1 z0 z1
            clear hK K
            try simp only [Act.put, List.setIfInBounds_toArray, List.set_cons_zero, List.set_cons_succ]
            refine wpAnyH_ready (rs := [6]) (by kernel_rfl) (by simp) ?_
            refine AllReadyH.cons (o := ⟨some 8, _, _, _, _, _⟩) rfl (fun K hK => ?_) AllReadyH.nil
            go_simp
            have hal : Below w_85.heap.size w_85 (w_85.alloc (.cells #[.int .i64 0, .string { data := #[] }] 24)) := (Below.refl _ _).alloc (Nat.le_refl _) _
            refine hK.out _ _ ?_ (fun hHeld => ?_)
            · exact kept4 (hB.trans (hal.mono hB.size)) l1 l2 m0 m1 z0 z1
            clear hK K
            try simp only [Act.put, List.setIfInBounds_toArray, List.set_cons_zero, List.set_cons_succ]
            obtain ⟨c8, hc⟩ : ∃ c, c = w_85.heap.size := ⟨_, rfl⟩
            obtain ⟨w_86, hw⟩ : ∃ x, x = w_85.alloc (.cells #[.int .i64 0, .string { data := #[] }] 24) := ⟨_, rfl⟩
            rw [← hw] at hal
            have g8 : w0.heap.size ≤ c8 := by rw [hc]; exact hB.size
            have h8 : w_86.heap[c8]? = some (.cells #[.int .i64 0, .string { data := #[] }] 24 (0, 0)) := by rw [hw, hc]; exact heap_alloc_new _ _
            have hcc : c8 ≠ c9 := by have hlt : c9 < w_85.heap.size := lt_of_cell (Lib.cell_of_heap h9 0); omega
            have n8 : ∀ bb off, A = some ⟨bb, off, none⟩ → 0 < L.length → bb ≠ c8 := fun bb off ha hlen hne => by obtain ⟨b', off', he, hlt, _⟩ := hE hlen; rw [ha] at he; injection he with he; injection he with he1 he2; omega
            have h9 : w_86.heap[c9]? = some (.cells #[.int .i64 0, .string { data := #[] }] 24 (0, 0)) := (hal.block c9 (lt_of_cell (Lib.cell_of_heap h9 0))).trans h9
            have hE : TksV w_86 A L := hE.below hal
            have hB : Below w0.heap.size w0 w_86 := hB.trans (hal.mono hB.size)
            rw [← hw] at hHeld
            rw [← hw]
            rw [← hc]
            clear hw hc hal
            refine wpAnyH_take (i := 8) (oi := ⟨some 7, _, _, _, _, _⟩) (v := ?_) rfl (by kernel_rfl) (by kernel_rfl) (by kernel_rfl) (fun _ _ _ h => h) (Or.inl ⟨by rfl, ?hy⟩) (by assumption) ?_
            case hy => (intro w hSw; (try dsimp only at hSw); go_simp; (try with_reducible rfl))
            try simp only [Act.put, List.setIfInBounds_toArray, List.set_cons_zero, List.set_cons_succ]
            have q0 : w_86.cell? ⟨c8, 0, none⟩ = some (.int .i64 0) := Lib.cell_of_heap h8 0
            have q1 : w_86.cell? ⟨c8, 1, none⟩ = some (.string { data := #[] }) := Lib.cell_of_heap h8 1
            have r0 : w_86.frozen? ⟨c8, 0, none⟩ = false := by simp [World.frozen?, h8]
            have r1 : w_86.frozen? ⟨c8, 1, none⟩ = false := by simp [World.frozen?, h8]
            have hst := store2 h8 (.int .i64 k1) (.string y1)
            have hot := store2_other (c := c9) (g := c8) (Ne.symm hcc) (.int .i64 k1) (.string y1) (w := w_86)
            have hE : TksV ((w_86.setCell ⟨c8, 0, none⟩ (.int .i64 k1)).setCell ⟨c8, 1, none⟩ (.string y1)) A L := setT (setT hE n8 _) n8 _
            have hB : Below w0.heap.size w0 ((w_86.setCell ⟨c8, 0, none⟩ (.int .i64 k1)).setCell ⟨c8, 1, none⟩ (.string y1)) := (hB.setCell (p := ⟨c8, 0, none⟩) g8 _).setCell (p := ⟨c8, 1, none⟩) g8 _
            refine wpAnyH_ready (rs := [9]) (by kernel_rfl) (by simp) ?_
            refine AllReadyH.cons (o := ⟨none, _, _, _, _, _⟩) rfl (fun K hK => ?_) AllReadyH.nil
            go_simp
            refine hK.out _ _ ?_ (fun hHeld => ?_)
            · exact kept4 hB l1 l2 m0 m1 z0 z1
            clear hK K q0 q1 r0 r1
            try simp only [Act.put, List.setIfInBounds_toArray, List.set_cons_zero, List.set_cons_succ]
            obtain ⟨w_87, hw⟩ : ∃ x, x = ((w_86.setCell ⟨c8, 0, none⟩ (.int .i64 k1)).setCell ⟨c8, 1, none⟩ (.string y1)) := ⟨_, rfl⟩
            rw [← hw] at hst hot hE hB
            rw [← hw]
            have h8 := hst
            have h9 := hot.trans h9
            clear hw hst hot
            have q0 : w_87.cell? ⟨c9, 0, none⟩ = some (.int .i64 0) := Lib.cell_of_heap h9 0
            have q1 : w_87.cell? ⟨c9, 1, none⟩ = some (.string { data := #[] }) := Lib.cell_of_heap h9 1
            have r0 : w_87.frozen? ⟨c9, 0, none⟩ = false := by simp [World.frozen?, h9]
            have r1 : w_87.frozen? ⟨c9, 1, none⟩ = false := by simp [World.frozen?, h9]
            have hst := store2 h9 (.int .i64 k2) (.string y2)
            have hot := store2_other (c := c8) (g := c9) hcc (.int .i64 k2) (.string y2) (w := w_87)
            have hE : TksV ((w_87.setCell ⟨c9, 0, none⟩ (.int .i64 k2)).setCell ⟨c9, 1, none⟩ (.string y2)) A L := setT (setT hE n9 _) n9 _
            have hB : Below w0.heap.size w0 ((w_87.setCell ⟨c9, 0, none⟩ (.int .i64 k2)).setCell ⟨c9, 1, none⟩ (.string y2)) := (hB.setCell (p := ⟨c9, 0, none⟩) g9 _).setCell (p := ⟨c9, 1, none⟩) g9 _
            refine wpAnyH_ready (rs := [10]) (by kernel_rfl) (by simp) ?_
            refine AllReadyH.cons (o := ⟨none, _, _, _, _, _⟩) rfl (fun K hK => ?_) AllReadyH.nil
            go_simp
            refine hK.out _ _ ?_ (fun hHeld => ?_)
            · exact kept4 hB l1 l2 m0 m1 z0 z1
            clear hK K q0 q1 r0 r1
            try simp only [Act.put, List.setIfInBounds_toArray, List.set_cons_zero, List.set_cons_succ]
            obtain ⟨w_88, hw⟩ : ∃ x, x = ((w_87.setCell ⟨c9, 0, none⟩ (.int .i64 k2)).setCell ⟨c9, 1, none⟩ (.string y2)) := ⟨_, rfl⟩
            rw [← hw] at hst hot hE hB
            rw [← hw]
            have h9 := hst
            have h8 := hot.trans h8
            clear hw hst hot
            refine wpAnyH_done (by kernel_rfl) ?_ _
            go_wp2_with fail
            go_meet
            exact ⟨A, c, c8, c9, rfl, hE, rfl, rfl, HB0.out.trans (hB.mono HB0.out.size), h8, h9⟩
          · go_simp
            have hal : Below w_84.heap.size w_84 (w_84.alloc (.cells #[.int .i64 0, .string { data := #[] }] 24)) := (Below.refl _ _).alloc (Nat.le_refl _) _
            refine hK.out _ _ ?_ (fun hHeld => ?_)
            · exact kept4 (hB.trans (hal.mono hB.size)) l1 l2 m0 m1 z0 z1
            clear hK K
            try simp only [Act.put, List.setIfInBounds_toArray, List.set_cons_zero, List.set_cons_succ]
            obtain ⟨c8, hc⟩ : ∃ c, c = w_84.heap.size := ⟨_, rfl⟩
            obtain ⟨w_89, hw⟩ : ∃ x, x = w_84.alloc (.cells #[.int .i64 0, .string { data := #[] }] 24) := ⟨_, rfl⟩
            rw [← hw] at hal
            have g8 : w0.heap.size ≤ c8 := by rw [hc]; exact hB.size
            have h8 : w_89.heap[c8]? = some (.cells #[.int .i64 0, .string { data := #[] }] 24 (0, 0)) := by rw [hw, hc]; exact heap_alloc_new _ _
            have hcc : c8 ≠ c9 := by have hlt : c9 < w_84.heap.size := lt_of_cell (Lib.cell_of_heap h9 0); omega
            have n8 : ∀ bb off, A = some ⟨bb, off, none⟩ → 0 < L.length → bb ≠ c8 := fun bb off ha hlen hne => by obtain ⟨b', off', he, hlt, _⟩ := hE hlen; rw [ha] at he; injection he with he; injection he with he1 he2; omega
            have h9 : w_89.heap[c9]? = some (.cells #[.int .i64 0, .string { data := #[] }] 24 (0, 0)) := (hal.block c9 (lt_of_cell (Lib.cell_of_heap h9 0))).trans h9
            have hE : TksV w_89 A L := hE.below hal
            have hB : Below w0.heap.size w0 w_89 := hB.trans (hal.mono hB.size)
            rw [← hw] at hHeld
            rw [← hw]
            rw [← hc]
            clear hw hc hal
            refine wpAnyH_ready (rs := [5]) (by kernel_rfl) (by simp) ?_
            refine AllReadyH.cons (o := ⟨some 18, _, _, _, _, _⟩) rfl (fun K hK => ?_) AllReadyH.nil
            go_simp
            go_at_call 12
            with_reducible refine (Hone2.out _).mono ?_
            rintro e w_90 ⟨rfl, hbC⟩
            have h8 : w_90.heap[c8]? = some (.cells #[.int .i64 0, .string { data := #[] }] 24 (0, 0)) := (hbC.block c8 (lt_of_cell (Lib.cell_of_heap h8 0))).trans h8
            have h9 : w_90.heap[c9]? = some (.cells #[.int .i64 0, .string { data := #[] }] 24 (0, 0)) := (hbC.block c9 (lt_of_cell (Lib.cell_of_heap h9 0))).trans h9
            have hE : TksV w_90 A L := hE.below hbC
            have hB : Below w0.heap.size w0 w_90 := hB.trans (hbC.mono hB.size)
            refine hK.out _ _ ?_ (fun hHeld => ?_)
            · exact kept4 hB l1 l2 m0 m1 z0 z1
            clear hK K
            try simp only [Act.put, List.setIfInBounds_toArray, List.set_cons_zero, List.set_cons_succ]
            refine wpAnyH_take (i := 8) (oi := ⟨some 7, _, _, _, _, _⟩) (v := ?_) rfl (by kernel_rfl) (by kernel_rfl) (by kernel_rfl) (fun _ _ _ h => h) (Or.inl ⟨by rfl, ?hy⟩) (by assumption) ?_
            case hy => (intro w hSw; (try dsimp only at hSw); go_simp; (try with_reducible rfl))
            try simp only [Act.put, List.setIfInBounds_toArray, List.set_cons_zero, List.set_cons_succ]
            have q0 : w_90.cell? ⟨c8, 0, none⟩ = some (.int .i64 0) := Lib.cell_of_heap h8 0
            have q1 : w_90.cell? ⟨c8, 1, none⟩ = some (.string { data := #[] }) := Lib.cell_of_heap h8 1
            have r0 : w_90.frozen? ⟨c8, 0, none⟩ = false := by simp [World.frozen?, h8]
            have r1 : w_90.frozen? ⟨c8, 1, none⟩ = false := by simp [World.frozen?, h8]
            have hst := store2 h8 (.int .i64 k1) (.string y1)
            have hot := store2_other (c := c9) (g := c8) (Ne.symm hcc) (.int .i64 k1) (.string y1) (w := w_90)
            have hE : TksV ((w_90.setCell ⟨c8, 0, none⟩ (.int .i64 k1)).setCell ⟨c8, 1, none⟩ (.string y1)) A L := setT (setT hE n8 _) n8 _
            have hB : Below w0.heap.size w0 ((w_90.setCell ⟨c8, 0, none⟩ (.int .i64 k1)).setCell ⟨c8, 1, none⟩ (.string y1)) := (hB.setCell (p := ⟨c8, 0, none⟩) g8 _).setCell (p := ⟨c8, 1, none⟩) g8 _
            refine wpAnyH_ready (rs := [9]) (by kernel_rfl) (by simp) ?_
            refine AllReadyH.cons (o := ⟨none, _, _, _, _, _⟩) rfl (fun K hK => ?_) AllReadyH.nil
            go_simp
            refine hK.out _ _ ?_ (fun hHeld => ?_)
            · exact kept4 hB l1 l2 m0 m1 z0 z1
            clear hK K q0 q1 r0 r1
            try simp only [Act.put, List.setIfInBounds_toArray, List.set_cons_zero, List.set_cons_succ]
            obtain ⟨w_91, hw⟩ : ∃ x, x = ((w_90.setCell ⟨c8, 0, none⟩ (.int .i64 k1)).setCell ⟨c8, 1, none⟩ (.string y1)) := ⟨_, rfl⟩
            rw [← hw] at hst hot hE hB
            rw [← hw]
            have h8 := hst
            have h9 := hot.trans h9
            clear hw hst hot
            have q0 : w_91.cell? ⟨c9, 0, none⟩ = some (.int .i64 0) := Lib.cell_of_heap h9 0
            have q1 : w_91.cell? ⟨c9, 1, none⟩ = some (.string { data := #[] }) := Lib.cell_of_heap h9 1
            have r0 : w_91.frozen? ⟨c9, 0, none⟩ = false := by simp [World.frozen?, h9]
            have r1 : w_91.frozen? ⟨c9, 1, none⟩ = false := by simp [World.frozen?, h9]
            have hst := store2 h9 (.int .i64 k2) (.string y2)
            have hot := store2_other (c := c8) (g := c9) hcc (.int .i64 k2) (.string y2) (w := w_91)
            have hE : TksV ((w_91.setCell ⟨c9, 0, none⟩ (.int .i64 k2)).setCell ⟨c9, 1, none⟩ (.string y2)) A L := setT (setT hE n9 _) n9 _
            have hB : Below w0.heap.size w0 ((w_91.setCell ⟨c9, 0, none⟩ (.int .i64 k2)).setCell ⟨c9, 1, none⟩ (.string y2)) := (hB.setCell (p := ⟨c9, 0, none⟩) g9 _).setCell (p := ⟨c9, 1, none⟩) g9 _
            refine wpAnyH_ready (rs := [10]) (by kernel_rfl) (by simp) ?_
            refine AllReadyH.cons (o := ⟨none, _, _, _, _, _⟩) rfl (fun K hK => ?_) AllReadyH.nil
            go_simp
            refine hK.out _ _ ?_ (fun hHeld => ?_)
            · exact kept4 hB l1 l2 m0 m1 z0 z1
            clear hK K q0 q1 r0 r1
            try simp only [Act.put, List.setIfInBounds_toArray, List.set_cons_zero, List.set_cons_succ]
            obtain ⟨w_92, hw⟩ : ∃ x, x = ((w_91.setCell ⟨c9, 0, none⟩ (.int .i64 k2)).setCell ⟨c9, 1, none⟩ (.string y2)) := ⟨_, rfl⟩
            rw [← hw] at hst hot hE hB
            rw [← hw]
            have h9 := hst
            have h8 := hot.trans h8
            clear hw hst hot
            refine wpAnyH_done (by kernel_rfl) ?_ _
            go_wp2_with fail
            go_meet
            exact ⟨A, c, c8, c9, rfl, hE, rfl, rfl, HB0.out.trans (hB.mono HB0.out.size), h8, h9⟩
        · go_simp
          have hal : Below w_83.heap.size w_83 (w_83.alloc (.cells #[.int .i64 0, .string { data := #[] }] 24)) := (Below.refl _ _).alloc (Nat.le_refl _) _
          refine hK.out _ _ ?_ (fun hHeld => ?_)
          · exact kept4 (hB.trans (hal.mono hB.size)) l1 l2 m0 m1 z0 z1
          clear hK K
          try simp only [Act.put, List.setIfInBounds_toArray, List.set_cons_zero, List.set_cons_succ]
          obtain ⟨c8, hc⟩ : ∃ c, c = w_83.heap.size := ⟨_, rfl⟩
          obtain ⟨w_93, hw⟩ : ∃ x, x = w_83.alloc (.cells #[.int .i64 0, .string { data := #[] }] 24) := ⟨_, rfl⟩
          rw [← hw] at hal
          have g8 : w0.heap.size ≤ c8 := by rw [hc]; exact hB.size
          have h8 : w_93.heap[c8]? = some (.cells #[.int .i64 0, .string { data := #[] }] 24 (0, 0)) := by rw [hw, hc]; exact heap_alloc_new _ _
          have hcc : c8 ≠ c9 := by have hlt : c9 < w_83.heap.size := lt_of_cell (Lib.cell_of_heap h9 0); omega
          have n8 : ∀ bb off, A = some ⟨bb, off, none⟩ → 0 < L.length → bb ≠ c8 := fun bb off ha hlen hne => by obtain ⟨b', off', he, hlt, _⟩ := hE hlen; rw [ha] at he; injection he with he; injection he with he1 he2; omega
          have h9 : w_93.heap[c9]? = some (.cells #[.int .i64 0, .string { data := #[] }] 24 (0, 0)) := (hal.block c9 (lt_of_cell (Lib.cell_of_heap h9 0))).trans h9
          have hE : TksV w_93 A L := hE.below hal
          have hB : Below w0.heap.size w0 w_93 := hB.trans (hal.mono hB.size)
          rw [← hw] at hHeld
          rw [← hw]
          rw [← hc]
          clear hw hc hal
          refine wpAnyH_ready (rs := [3]) (by kernel_rfl) (by simp) ?_
          refine AllReadyH.cons (o := ⟨some 16, _, _, _, _, _⟩) rfl (fun K hK => ?_) AllReadyH.nil
          go_simp
          go_at_call 12
          with_reducible refine (Hone1.out _).mono ?_
          rintro e w_94 ⟨rfl, hbC⟩
          have h8 : w_94.heap[c8]? = some (.cells #[.int .i64 0, .string { data := #[] }] 24 (0, 0)) := (hbC.block c8 (lt_of_cell (Lib.cell_of_heap h8 0))).trans h8
          have h9 : w_94.heap[c9]? = some (.cells #[.int .i64 0, .string { data := #[] }] 24 (0, 0)) := (hbC.block c9 (lt_of_cell (Lib.cell_of_heap h9 0))).trans h9
          have hE : TksV w_94 A L := hE.below hbC
          have hB : Below w0.heap.size w0 w_94 := hB.trans (hbC.mono hB.size)
          refine hK.out _ _ ?_ (fun hHeld => ?_)
          · exact kept4 hB l1 l2 m0 m1 z0 z1
          clear hK K
          try simp only [Act.put, List.setIfInBounds_toArray, List.set_cons_zero, List.set_cons_succ]
          refine wpAnyH_ready (rs := [5]) (by kernel_rfl) (by simp) ?_
          refine AllReadyH.cons (o := ⟨some 18, _, _, _, _, _⟩) rfl (fun K hK => ?_) AllReadyH.nil
          go_simp
          go_at_call 12
          with_reducible refine (Hone2.out _).mono ?_
          rintro e w_95 ⟨rfl, hbC⟩
          have h8 : w_95.heap[c8]? = some (.cells #[.int .i64 0, .string { data := #[] }] 24 (0, 0)) := (hbC.block c8 (lt_of_cell (Lib.cell_of_heap h8 0))).trans h8
          have h9 : w_95.heap[c9]? = some (.cells #[.int .i64 0, .string { data := #[] }] 24 (0, 0)) := (hbC.block c9 (lt_of_cell (Lib.cell_of_heap h9 0))).trans h9
          have hE : TksV w_95 A L := hE.below hbC
          have hB : Below w0.heap.size w0 w_95 := hB.trans (hbC.mono hB.size)
          refine hK.out _ _ ?_ (fun hHeld => ?_)
          · exact kept4 hB l1 l2 m0 m1 z0 z1
          clear hK K
          try simp only [Act.put, List.setIfInBounds_toArray, List.set_cons_zero, List.set_cons_succ]
          refine wpAnyH_take (i := 8) (oi := ⟨some 7, _, _, _, _, _⟩) (v := ?_) rfl (by kernel_rfl) (by kernel_rfl) (by kernel_rfl) (fun _ _ _ h => h) (Or.inl ⟨by rfl, ?hy⟩) (by assumption) ?_
          case hy => (intro w hSw; (try dsimp only at hSw); go_simp; (try with_reducible rfl))
          try simp only [Act.put, List.setIfInBounds_toArray, List.set_cons_zero, List.set_cons_succ]
          have q0 : w_95.cell? ⟨c8, 0, none⟩ = some (.int .i64 0) := Lib.cell_of_heap h8 0
          have q1 : w_95.cell? ⟨c8, 1, none⟩ = some (.string { data := #[] }) := Lib.cell_of_heap h8 1
          have r0 : w_95.frozen? ⟨c8, 0, none⟩ = false := by simp [World.frozen?, h8]
          have r1 : w_95.frozen? ⟨c8, 1, none⟩ = false := by simp [World.frozen?, h8]
          have hst := store2 h8 (.int .i64 k1) (.string y1)
          have hot := store2_other (c := c9) (g := c8) (Ne.symm hcc) (.int .i64 k1) (.string y1) (w := w_95)
          have hE : TksV ((w_95.setCell ⟨c8, 0, none⟩ (.int .i64 k1)).setCell ⟨c8, 1, none⟩ (.string y1)) A L := setT (setT hE n8 _) n8 _
          have hB : Below w0.heap.size w0 ((w_95.setCell ⟨c8, 0, none⟩ (.int .i64 k1)).setCell ⟨c8, 1, none⟩ (.string y1)) := (hB.setCell (p := ⟨c8, 0, none⟩) g8 _).setCell (p := ⟨c8, 1, none⟩) g8 _
          refine wpAnyH_ready (rs := [9]) (by kernel_rfl) (by simp) ?_
          refine AllReadyH.cons (o := ⟨none, _, _, _, _, _⟩) rfl (fun K hK => ?_) AllReadyH.nil
          go_simp
          refine hK.out _ _ ?_ (fun hHeld => ?_)
          · exact kept4 hB l1 l2 m0 m1 z0 z1
          clear hK K q0 q1 r0 r1
          try simp only [Act.put, List.setIfInBounds_toArray, List.set_cons_zero, List.set_cons_succ]
          obtain ⟨w_96, hw⟩ : ∃ x, x = ((w_95.setCell ⟨c8, 0, none⟩ (.int .i64 k1)).setCell ⟨c8, 1, none⟩ (.string y1)) := ⟨_, rfl⟩
          rw [← hw] at hst hot hE hB
          rw [← hw]
          have h8 := hst
          have h9 := hot.trans h9
          clear hw hst hot
          have q0 : w_96.cell? ⟨c9, 0, none⟩ = some (.int .i64 0) := Lib.cell_of_heap h9 0
          have q1 : w_96.cell? ⟨c9, 1, none⟩ = some (.string { data := #[] }) := Lib.cell_of_heap h9 1
          have r0 : w_96.frozen? ⟨c9, 0, none⟩ = false := by simp [World.frozen?, h9]
          have r1 : w_96.frozen? ⟨c9, 1, none⟩ = false := by simp [World.frozen?, h9]
          have hst := store2 h9 (.int .i64 k2) (.string y2)
          have hot := store2_other (c := c8) (g := c9) hcc (.int .i64 k2) (.string y2) (w := w_96)
          have hE : TksV ((w_96.setCell ⟨c9, 0, none⟩ (.int .i64 k2)).setCell ⟨c9, 1, none⟩ (.string y2)) A L := setT (setT hE n9 _) n9 _
          have hB : Below w0.heap.size w0 ((w_96.setCell ⟨c9, 0, none⟩ (.int .i64 k2)).setCell ⟨c9, 1, none⟩ (.string y2)) := (hB.setCell (p := ⟨c9, 0, none⟩) g9 _).setCell (p := ⟨c9, 1, none⟩) g9 _
          refine wpAnyH_ready (rs := [10]) (by kernel_rfl) (by simp) ?_
          refine AllReadyH.cons (o := ⟨none, _, _, _, _, _⟩) rfl (fun K hK => ?_) AllReadyH.nil
          go_simp
          refine hK.out _ _ ?_ (fun hHeld => ?_)
          · exact kept4 hB l1 l2 m0 m1 z0 z1
          clear hK K q0 q1 r0 r1
          try simp only [Act.put, List.setIfInBounds_toArray, List.set_cons_zero, List.set_cons_succ]
          obtain ⟨w_97, hw⟩ : ∃ x, x = ((w_96.setCell ⟨c9, 0, none⟩ (.int .i64 k2)).setCell ⟨c9, 1, none⟩ (.string y2)) := ⟨_, rfl⟩
          rw [← hw] at hst hot hE hB
          rw [← hw]
          have h9 := hst
          have h8 := hot.trans h8
          clear hw hst hot
          refine wpAnyH_done (by kernel_rfl) ?_ _
          go_wp2_with fail
          go_meet
          exact ⟨A, c, c8, c9, rfl, hE, rfl, rfl, HB0.out.trans (hB.mono HB0.out.size), h8, h9⟩
      · go_simp
        have hal : Below w_82.heap.size w_82 (w_82.alloc (.cells #[.int .i64 0, .string { data := #[] }] 24)) := (Below.refl _ _).alloc (Nat.le_refl _) _
        refine hK.out _ _ ?_ (fun hHeld => ?_)
        · exact kept4 (hB.trans (hal.mono hB.size)) l1 l2 m0 m1 z0 z1
        clear hK K
        try simp only [Act.put, List.setIfInBounds_toArray, List.set_cons_zero, List.set_cons_succ]
        obtain ⟨c8, hc⟩ : ∃ c, c = w_82.heap.size := ⟨_, rfl⟩
        obtain ⟨w_98, hw⟩ : ∃ x, x = w_82.alloc (.cells #[.int .i64 0, .string { data := #[] }] 24) := ⟨_, rfl⟩
        rw [← hw] at hal
        have g8 : w0.heap.size ≤ c8 := by rw [hc]; exact hB.size
        have h8 : w_98.heap[c8]? = some (.cells #[.int .i64 0, .string { data := #[] }] 24 (0, 0)) := by rw [hw, hc]; exact heap_alloc_new _ _
        have hcc : c8 ≠ c9 := by have hlt : c9 < w_82.heap.size := lt_of_cell (Lib.cell_of_heap h9 0); omega
        have h9 : w_98.heap[c9]? = some (.cells #[.int .i64 0, .string { data := #[] }] 24 (0, 0)) := (hal.block c9 (lt_of_cell (Lib.cell_of_heap h9 0))).trans h9
        have hB : Below w0.heap.size w0 w_98 := hB.trans (hal.mono hB.size)
        rw [← hw] at hHeld
        rw [← hw]
        rw [← hc]
        clear hw hc hal
        refine wpAnyH_ready (rs := [1]) (by kernel_rfl) (by simp) ?_
        refine AllReadyH.cons (o := ⟨some 14, _, _, _, _, _⟩) rfl (fun K hK => ?_) AllReadyH.nil
        go_simp
        go_at_call 11
        with_reducible refine (Hcut.out _ ?_).mono ?_
        · exact HE0.out.below hB
        rintro e w_99 ⟨vC, rfl, hoC, hbC⟩
        obtain ⟨A, c, rfl, hE, _, hAb⟩ := TksV.of_own hoC
        have n8 : ∀ bb off, A = some ⟨bb, off, none⟩ → 0 < L.length → bb ≠ c8 := fun bb off ha _ hne => by have h1 : w_98.heap.size ≤ bb := hAb _ ha; have h2 : c8 < w_98.heap.size := lt_of_cell (Lib.cell_of_heap h8 0); omega
        have n9 : ∀ bb off, A = some ⟨bb, off, none⟩ → 0 < L.length → bb ≠ c9 := fun bb off ha _ hne => by have h1 : w_98.heap.size ≤ bb := hAb _ ha; have h2 : c9 < w_98.heap.size := lt_of_cell (Lib.cell_of_heap h9 0); omega
        have h8 : w_99.heap[c8]? = some (.cells #[.int .i64 0, .string { data := #[] }] 24 (0, 0)) := (hbC.block c8 (lt_of_cell (Lib.cell_of_heap h8 0))).trans h8
        have h9 : w_99.heap[c9]? = some (.cells #[.int .i64 0, .string { data := #[] }] 24 (0, 0)) := (hbC.block c9 (lt_of_cell (Lib.cell_of_heap h9 0))).trans h9
        have hB : Below w0.heap.size w0 w_99 := hB.trans (hbC.mono hB.size)
        refine hK.out _ _ ?_ (fun hHeld => ?_)
        · exact kept4 hB l1 l2 m0 m1 z0 z1
        clear hK K
        try simp only [Act.put, List.setIfInBounds_toArray, List.set_cons_zero, List.set_cons_succ]
        refine wpAnyH_ready (rs := [3]) (by kernel_rfl) (by simp) ?_
        refine AllReadyH.cons (o := ⟨some 16, _, _, _, _, _⟩) rfl (fun K hK => ?_) AllReadyH.nil
        go_simp
        go_at_call 12
        with_reducible refine (Hone1.out _).mono ?_
        rintro e w_100 ⟨rfl, hbC⟩
        have h8 : w_100.heap[c8]? = some (.cells #[.int .i64 0, .string { data := #[] }] 24 (0, 0)) := (hbC.block c8 (lt_of_cell (Lib.cell_of_heap h8 0))).trans h8
        have h9 : w_100.heap[c9]? = some (.cells #[.int .i64 0, .string { data := #[] }] 24 (0, 0)) := (hbC.block c9 (lt_of_cell (Lib.cell_of_heap h9 0))).trans h9
        have hE : TksV w_100 A L := hE.below hbC
        have hB : Below w0.heap.size w0 w_100 := hB.trans (hbC.mono hB.size)
        refine hK.out _ _ ?_ (fun hHeld => ?_)
        · exact kept4 hB l1 l2 m0 m1 z0 z1
        clear hK K
        try simp only [Act.put, List.setIfInBounds_toArray, List.set_cons_zero, List.set_cons_succ]
        refine wpAnyH_ready (rs := [5]) (by kernel_rfl) (by simp) ?_
        refine AllReadyH.cons (o := ⟨some 18, _, _, _, _, _⟩) rfl (fun K hK => ?_) AllReadyH.nil
        go_simp
        go_at_call 12
        with_reducible refine (Hone2.out _).mono ?_
        rintro e w_101 ⟨rfl, hbC⟩
        have h8 : w_101.heap[c8]? = some (.cells #[.int .i64 0, .string { data := #[] }] 24 (0, 0)) := (hbC.block c8 (lt_of_cell (Lib.cell_of_heap h8 0))).trans h8
        have h9 : w_101.heap[c9]? = some (.cells #[.int .i64 0, .string { data := #[] }] 24 (0, 0)) := (hbC.block c9 (lt_of_cell (Lib.cell_of_heap h9 0))).trans h9
        have hE : TksV w_101 A L := hE.below hbC
        have hB : Below w0.heap.size w0 w_101 := hB.trans (hbC.mono hB.size)
        refine hK.out _ _ ?_ (fun hHeld => ?_)
        · exact kept4 hB l1 l2 m0 m1 z0 z1
        clear hK K
        try simp only [Act.put, List.setIfInBounds_toArray, List.set_cons_zero, List.set_cons_succ]
        refine wpAnyH_take (i := 8) (oi := ⟨some 7, _, _, _, _, _⟩) (v := ?_) rfl (by kernel_rfl) (by kernel_rfl) (by kernel_rfl) (fun _ _ _ h => h) (Or.inl ⟨by rfl, ?hy⟩) (by assumption) ?_
        case hy => (intro w hSw; (try dsimp only at hSw); go_simp; (try with_reducible rfl))
        try simp only [Act.put, List.setIfInBounds_toArray, List.set_cons_zero, List.set_cons_succ]
        have q0 : w_101.cell? ⟨c8, 0, none⟩ = some (.int .i64 0) := Lib.cell_of_heap h8 0
        have q1 : w_101.cell? ⟨c8, 1, none⟩ = some (.string { data := #[] }) := Lib.cell_of_heap h8 1
        have r0 : w_101.frozen? ⟨c8, 0, none⟩ = false := by simp [World.frozen?, h8]
        have r1 : w_101.frozen? ⟨c8, 1, none⟩ = false := by simp [World.frozen?, h8]
        have hst := store2 h8 (.int .i64 k1) (.string y1)
        have hot := store2_other (c := c9) (g := c8) (Ne.symm hcc) (.int .i64 k1) (.string y1) (w := w_101)
        have hE : TksV ((w_101.setCell ⟨c8, 0, none⟩ (.int .i64 k1)).setCell ⟨c8, 1, none⟩ (.string y1)) A L := setT (setT hE n8 _) n8 _
        have hB : Below w0.heap.size w0 ((w_101.setCell ⟨c8, 0, none⟩ (.int .i64 k1)).setCell ⟨c8, 1, none⟩ (.string y1)) := (hB.setCell (p := ⟨c8, 0, none⟩) g8 _).setCell (p := ⟨c8, 1, none⟩) g8 _
        refine wpAnyH_ready (rs := [9]) (by kernel_rfl) (by simp) ?_
        refine AllReadyH.cons (o := ⟨none, _, _, _, _, _⟩) rfl (fun K hK => ?_) AllReadyH.nil
        go_simp
        refine hK.out _ _ ?_ (fun hHeld => ?_)
        · exact kept4 hB l1 l2 m0 m1 z0 z1
        clear hK K q0 q1 r0 r1
        try simp only [Act.put, List.setIfInBounds_toArray, List.set_cons_zero, List.set_cons_succ]
        obtain ⟨w_102, hw⟩ : ∃ x, x = ((w_101.setCell ⟨c8, 0, none⟩ (.int .i64 k1)).setCell ⟨c8, 1, none⟩ (.string y1)) := ⟨_, rfl⟩
        rw [← hw] at hst hot hE hB
        rw [← hw]
        have h8 := hst
        have h9 := hot.trans h9
        clear hw hst hot
        have q0 : w_102.cell? ⟨c9, 0, none⟩ = some (.int .i64 0) := Lib.cell_of_heap h9 0
        have q1 : w_102.cell? ⟨c9, 1, none⟩ = some (.string { data := #[] }) := Lib.cell_of_heap h9 1
        have r0 : w_102.frozen? ⟨c9, 0, none⟩ = false := by simp [World.frozen?, h9]
        have r1 : w_102.frozen? ⟨c9, 1, none⟩ = false := by simp [World.frozen?, h9]
        have hst := store2 h9 (.int .i64 k2) (.string y2)
        have hot := store2_other (c := c8) (g := c9) hcc (.int .i64 k2) (.string y2) (w := w_102)
        have hE : TksV ((w_102.setCell ⟨c9, 0, none⟩ (.int .i64 k2)).setCell ⟨c9, 1, none⟩ (.string y2)) A L := setT (setT hE n9 _) n9 _
        have hB : Below w0.heap.size w0 ((w_102.setCell ⟨c9, 0, none⟩ (.int .i64 k2)).setCell ⟨c9, 1, none⟩ (.string y2)) := (hB.setCell (p := ⟨c9, 0, none⟩) g9 _).setCell (p := ⟨c9, 1, none⟩) g9 _
        refine wpAnyH_ready (rs := [10]) (by kernel_rfl) (by simp) ?_
        refine AllReadyH.cons (o := ⟨none, _, _, _, _, _⟩) rfl (fun K hK => ?_) AllReadyH.nil
        go_simp
        refine hK.out _ _ ?_ (fun hHeld => ?_)
        · exact kept4 hB l1 l2 m0 m1 z0 z1
        clear hK K q0 q1 r0 r1
        try simp only [Act.put, List.setIfInBounds_toArray, List.set_cons_zero, List.set_cons_succ]
        obtain ⟨w_103, hw⟩ : ∃ x, x = ((w_102.setCell ⟨c9, 0, none⟩ (.int .i64 k2)).setCell ⟨c9, 1, none⟩ (.string y2)) := ⟨_, rfl⟩
        rw [← hw] at hst hot hE hB
        rw [← hw]
        have h9 := hst
        have h8 := hot.trans h8
        clear hw hst hot
        refine wpAnyH_done (by kernel_rfl) ?_ _
        go_wp2_with fail
        go_meet
        exact ⟨A, c, c8, c9, rfl, hE, rfl, rfl, HB0.out.trans (hB.mono HB0.out.size), h8, h9⟩
  case rest =>
    rename World => w5
    obtain ⟨A, c, g1, g2, rfl, hE5, rfl, rfl, hB5, h1, h2⟩ := hcut
    have a0 : w5.cell? ⟨g1, 0, none⟩ = some (.int .i64 k1) := Lib.cell_of_heap h1 0
    have a1 : w5.cell? ⟨g1, 1, none⟩ = some (.string y1) := Lib.cell_of_heap h1 1
    have b0 : w5.cell? ⟨g2, 0, none⟩ = some (.int .i64 k2) := Lib.cell_of_heap h2 0
    have b1 : w5.cell? ⟨g2, 1, none⟩ = some (.string y2) := Lib.cell_of_heap h2 1
    have t1 := lt_of_cell a0
    have t2 := lt_of_cell b0
    have HT5 := Lib.hid (HT.out.below hB5)
    have hi1 := fun W hW => IsToken_any k1 y1 W hW
    have hi2 := fun W => RIsTok_any k1 y1 W (by omega)
    have hi3 := fun W hW => Apart_any k1 y1 k2 y2 W hW
    have hi4 := fun W => RApart_any k1 k2 y1 y2 W (by omega) (by omega)
    have hi5 := fun W => IsTrivia_any k1 y1 W
    have hi6 := fun W => RIsTrivia_any k1 y1 W
    have hi7 := fun W => Great_any k1 y1 W
    have hi8 := fun W => RGreat_any k1 y1 W
    have HE5 := Lib.hid hE5
    have HB5 := Lib.hid hB5
    clear hE5 hB5 h1 h2 m0 m1 z0 z1
    have Hi1 := Lib.hid hi1
    have Hi2 := Lib.hid hi2
    have Hi3 := Lib.hid hi3
    have Hi4 := Lib.hid hi4
    have Hi5 := Lib.hid hi5
    have Hi6 := Lib.hid hi6
    have Hi7 := Lib.hid hi7
    have Hi8 := Lib.hid hi8
    clear hi1 hi2 hi3 hi4 hi5 hi6 hi7 hi8
    go_wp2_with fail
    refine wp_region_held_drew (S := (fun W => Below w5.heap.size w5 W ∧ (W.cell? ⟨g1, 0, none⟩ = some (.int .i64 k1) ∧ W.cell? ⟨g1, 1, none⟩ = some (.string y1)) ∧ (W.cell? ⟨g2, 0, none⟩ = some (.int .i64 k2) ∧ W.cell? ⟨g2, 1, none⟩ = some (.string y2)))) (by kernel_rfl) ?_ (fun hHeld => ?_)
    · exact kept4 (by repeat (first | with_reducible exact Below.refl _ _ | with_reducible assumption | with_reducible refine Below.drew ?_ | with_reducible refine below_drewT ?_ _)) t1 t2 a0 a1 b0 b1
    refine wpAnyH_take (i := 0) (oi := ⟨some 19, _, _, _, _, _⟩) (v := ?_) rfl (by kernel_rfl) (by kernel_rfl) (by kernel_rfl) (fun _ _ _ h => h) (Or.inl ⟨by rfl, ?hy⟩) (by assumption) ?_
    case hy => (intro w hSw; (try dsimp only at hSw); go_simp; (try with_reducible rfl))
    try simp only [Act.put, List.setIfInBounds_toArray, List.set_cons_zero, List.set_cons_succ]
    try simp only [bne_self_eq_false]
    refine wpAnyH_take (i := 2) (oi := ⟨some 21, _, _, _, _, _⟩) (v := ?_) rfl (by kernel_rfl) (by kernel_rfl) (by kernel_rfl) (fun _ _ _ h => h) (Or.inl ⟨by rfl, ?hy⟩) (by assumption) ?_
    case hy => (intro w hSw; (try dsimp only at hSw); go_simp; (try with_reducible rfl))
    try simp only [Act.put, List.setIfInBounds_toArray, List.set_cons_zero, List.set_cons_succ]
    try simp only [bne_self_eq_false]
    refine wpAnyH_ready (rs := [1]) (by kernel_rfl) (by simp) ?_
    refine AllReadyH.cons (o := ⟨some 20, _, _, _, _, _⟩) rfl (fun K hK => ?_) AllReadyH.nil
    go_simp
    go_at_call 13
    with_reducible refine (Hi1.out _ ?_).mono ?_
    · exact HT5.out.below (by repeat (first | with_reducible exact Below.refl _ _ | with_reducible assumption | with_reducible refine Below.drew ?_ | with_reducible refine below_drewT ?_ _))
    rintro e wA ⟨rfl, hbA⟩
    refine hK.out _ _ ?_ (fun hHeld => ?_)
    · exact kept4 (by repeat (first | with_reducible exact Below.refl _ _ | with_reducible assumption | with_reducible refine Below.drew ?_ | with_reducible refine below_drewT ?_ _ | with_reducible refine below_callR ?_ (Nat.le_refl _) hbA)) t1 t2 a0 a1 b0 b1
    clear hK K
    try simp only [Act.put, List.setIfInBounds_toArray, List.set_cons_zero, List.set_cons_succ]
    try simp only [bne_self_eq_false]
    refine wpAnyH_ready (rs := [3]) (by kernel_rfl) (by simp) ?_
    refine AllReadyH.cons (o := ⟨some 22, _, _, _, _, _⟩) rfl (fun K hK => ?_) AllReadyH.nil
    go_simp
    go_at_call 14
    with_reducible refine (Hi2.out _).mono ?_
    rintro e wB ⟨rfl, hbB⟩
    refine hK.out _ _ ?_ (fun hHeld => ?_)
    · exact kept4 (by repeat (first | with_reducible exact Below.refl _ _ | with_reducible assumption | with_reducible refine Below.drew ?_ | with_reducible refine below_drewT ?_ _ | with_reducible refine below_callR ?_ (Nat.le_refl _) hbB | with_reducible refine below_callR ?_ (Nat.le_refl _) hbA)) t1 t2 a0 a1 b0 b1
    clear hK K
    try simp only [Act.put, List.setIfInBounds_toArray, List.set_cons_zero, List.set_cons_succ]
    try simp only [bne_self_eq_false]
    refine wpAnyH_take (i := 4) (oi := ⟨some 23, _, _, _, _, _⟩) (v := ?_) rfl (by kernel_rfl) (by kernel_rfl) (by kernel_rfl) (fun _ _ _ h => h) (Or.inl ⟨by rfl, ?hy⟩) (by assumption) ?_
    case hy => (intro w hSw; (try dsimp only at hSw); go_simp; (try with_reducible rfl))
    try simp only [Act.put, List.setIfInBounds_toArray, List.set_cons_zero, List.set_cons_succ]
    try simp only [bne_self_eq_false]
    refine wpAnyH_take (i := 5) (oi := ⟨some 24, _, _, _, _, _⟩) (v := ?_) rfl (by kernel_rfl) (by kernel_rfl) (by kernel_rfl) (fun _ _ _ h => h) (Or.inl ⟨by rfl, ?hy⟩) (by assumption) ?_
    case hy => (intro w hSw; (try dsimp only at hSw); go_simp; (try with_reducible rfl))
    try simp only [Act.put, List.setIfInBounds_toArray, List.set_cons_zero, List.set_cons_succ]
    try simp only [bne_self_eq_false]
    refine wpAnyH_take (i := 6) (oi := ⟨some 25, _, _, _, _, _⟩) (v := ?_) rfl (by kernel_rfl) (by kernel_rfl) (by kernel_rfl) (fun _ _ _ h => h) (Or.inl ⟨by rfl, ?hy⟩) (by assumption) ?_
    case hy => (intro w hSw; (try dsimp only at hSw); go_simp; (try with_reducible rfl))
    try simp only [Act.put, List.setIfInBounds_toArray, List.set_cons_zero, List.set_cons_succ]
    try simp only [bne_self_eq_false]
    refine wpAnyH_take (i := 7) (oi := ⟨some 26, _, _, _, _, _⟩) (v := ?_) rfl (by kernel_rfl) (by kernel_rfl) (by kernel_rfl) (fun _ _ _ h => h) (Or.inl ⟨by rfl, ?hy⟩) (by assumption) ?_
    case hy => (intro w hSw; (try dsimp only at hSw); go_simp; (try with_reducible rfl))
    try simp only [Act.put, List.setIfInBounds_toArray, List.set_cons_zero, List.set_cons_succ]
    try simp only [bne_self_eq_false]
    refine wpAnyH_take (i := 9) (oi := ⟨some 28, _, _, _, _, _⟩) (v := ?_) rfl (by kernel_rfl) (by kernel_rfl) (by kernel_rfl) (fun _ _ _ h => h) (Or.inl ⟨by rfl, ?hy⟩) (by assumption) ?_
    case hy => (intro w hSw; (try dsimp only at hSw); go_simp; (try with_reducible rfl))
    try simp only [Act.put, List.setIfInBounds_toArray, List.set_cons_zero, List.set_cons_succ]
    try simp only [bne_self_eq_false]
    refine wpAnyH_take (i := 10) (oi := ⟨some 29, _, _, _, _, _⟩) (v := ?_) rfl (by kernel_rfl) (by kernel_rfl) (by kernel_rfl) (fun _ _ _ h => h) (Or.inl ⟨by rfl, ?hy⟩) (by assumption) ?_
    case hy => (intro w hSw; (try dsimp only at hSw); go_simp; (try with_reducible rfl))
    try simp only [Act.put, List.setIfInBounds_toArray, List.set_cons_zero, List.set_cons_succ]
    try simp only [bne_self_eq_false]
    refine wpAnyH_ready (rs := [8]) (by kernel_rfl) (by simp) ?_
    refine AllReadyH.cons (o := ⟨some 27, _, _, _, _, _⟩) rfl (fun K hK => ?_) AllReadyH.nil
    go_simp
    go_at_call 15
    with_reducible refine (Hi3.out _ ?_).mono ?_
    · exact HT5.out.below (by repeat (first | with_reducible exact Below.refl _ _ | with_reducible assumption | with_reducible refine Below.drew ?_ | with_reducible refine below_drewT ?_ _ | with_reducible refine below_callR ?_ (Nat.le_refl _) hbB | with_reducible refine below_callR ?_ (Nat.le_refl _) hbA))
    rintro e wC ⟨rfl, hbC⟩
    refine hK.out _ _ ?_ (fun hHeld => ?_)
    · exact kept4 (by repeat (first | with_reducible exact Below.refl _ _ | with_reducible assumption | with_reducible refine Below.drew ?_ | with_reducible refine below_drewT ?_ _ | with_reducible refine below_callR ?_ (Nat.le_refl _) hbC | with_reducible refine below_callR ?_ (Nat.le_refl _) hbB | with_reducible refine below_callR ?_ (Nat.le_refl _) hbA)) t1 t2 a0 a1 b0 b1
    clear hK K
    try simp only [Act.put, List.setIfInBounds_toArray, List.set_cons_zero, List.set_cons_succ]
    try simp only [bne_self_eq_false]
    refine wpAnyH_ready (rs := [11]) (by kernel_rfl) (by simp) ?_
    refine AllReadyH.cons (o := ⟨some 30, _, _, _, _, _⟩) rfl (fun K hK => ?_) AllReadyH.nil
    go_simp
    go_at_call 16
    with_reducible refine (Hi4.out _).mono ?_
    rintro e wD ⟨rfl, hbD⟩
    refine hK.out _ _ ?_ (fun hHeld => ?_)
    · exact kept4 (by repeat (first | with_reducible exact Below.refl _ _ | with_reducible assumption | with_reducible refine Below.drew ?_ | with_reducible refine below_drewT ?_ _ | with_reducible refine below_callR ?_ (Nat.le_refl _) hbD | with_reducible refine below_callR ?_ (Nat.le_refl _) hbC | with_reducible refine below_callR ?_ (Nat.le_refl _) hbB | with_reducible refine below_callR ?_ (Nat.le_refl _) hbA)) t1 t2 a0 a1 b0 b1
    clear hK K
    try simp only [Act.put, List.setIfInBounds_toArray, List.set_cons_zero, List.set_cons_succ]
    try simp only [bne_self_eq_false]
    refine wpAnyH_take (i := 12) (oi := ⟨some 31, _, _, _, _, _⟩) (v := ?_) rfl (by kernel_rfl) (by kernel_rfl) (by kernel_rfl) (fun _ _ _ h => h) (Or.inl ⟨by rfl, ?hy⟩) (by assumption) ?_
    case hy => (intro w hSw; (try dsimp only at hSw); go_simp; (try with_reducible rfl))
    try simp only [Act.put, List.setIfInBounds_toArray, List.set_cons_zero, List.set_cons_succ]
    try simp only [bne_self_eq_false]
    refine wpAnyH_take (i := 13) (oi := ⟨some 32, _, _, _, _, _⟩) (v := ?_) rfl (by kernel_rfl) (by kernel_rfl) (by kernel_rfl) (fun _ _ _ h => h) (Or.inl ⟨by rfl, ?hy⟩) (by assumption) ?_
    case hy => (intro w hSw; (try dsimp only at hSw); go_simp; (try with_reducible rfl))
    try simp only [Act.put, List.setIfInBounds_toArray, List.set_cons_zero, List.set_cons_succ]
    try simp only [bne_self_eq_false]
    refine wpAnyH_take (i := 14) (oi := ⟨some 33, _, _, _, _, _⟩) (v := ?_) rfl (by kernel_rfl) (by kernel_rfl) (by kernel_rfl) (fun _ _ _ h => h) (Or.inl ⟨by rfl, ?hy⟩) (by assumption) ?_
    case hy => (intro w hSw; (try dsimp only at hSw); go_simp; (try with_reducible rfl))
    try simp only [Act.put, List.setIfInBounds_toArray, List.set_cons_zero, List.set_cons_succ]
    try simp only [bne_self_eq_false]
    refine wpAnyH_take (i := 15) (oi := ⟨some 34, _, _, _, _, _⟩) (v := ?_) rfl (by kernel_rfl) (by kernel_rfl) (by kernel_rfl) (fun _ _ _ h => h) (Or.inl ⟨by rfl, ?hy⟩) (by assumption) ?_
    case hy => (intro w hSw; (try dsimp only at hSw); go_simp; (try with_reducible rfl))
    try simp only [Act.put, List.setIfInBounds_toArray, List.set_cons_zero, List.set_cons_succ]
    try simp only [bne_self_eq_false]
    refine wpAnyH_take (i := 17) (oi := ⟨some 36, _, _, _, _, _⟩) (v := ?_) rfl (by kernel_rfl) (by kernel_rfl) (by kernel_rfl) (fun _ _ _ h => h) (Or.inl ⟨by rfl, ?hy⟩) (by assumption) ?_
    case hy => (intro w hSw; (try dsimp only at hSw); go_simp; (try with_reducible rfl))
    try simp only [Act.put, List.setIfInBounds_toArray, List.set_cons_zero, List.set_cons_succ]
    try simp only [bne_self_eq_false]
    refine wpAnyH_ready (rs := [16]) (by kernel_rfl) (by simp) ?_
    refine AllReadyH.cons (o := ⟨some 35, _, _, _, _, _⟩) rfl (fun K hK => ?_) AllReadyH.nil
    go_simp
    go_at_call 17
    with_reducible refine (Hi5.out _).mono ?_
    rintro e wE ⟨rfl, hbE⟩
    refine hK.out _ _ ?_ (fun hHeld => ?_)
    · exact kept4 (by repeat (first | with_reducible exact Below.refl _ _ | with_reducible assumption | with_reducible refine Below.drew ?_ | with_reducible refine below_drewT ?_ _ | with_reducible refine below_callR ?_ (Nat.le_refl _) hbE | with_reducible refine below_callR ?_ (Nat.le_refl _) hbD | with_reducible refine below_callR ?_ (Nat.le_refl _) hbC | with_reducible refine below_callR ?_ (Nat.le_refl _) hbB | with_reducible refine below_callR ?_ (Nat.le_refl _) hbA)) t1 t2 a0 a1 b0 b1
    clear hK K
    try simp only [Act.put, List.setIfInBounds_toArray, List.set_cons_zero, List.set_cons_succ]
    try simp only [bne_self_eq_false]
    refine wpAnyH_ready (rs := [18]) (by kernel_rfl) (by simp) ?_
    refine AllReadyH.cons (o := ⟨some 37, _, _, _, _, _⟩) rfl (fun K hK => ?_) AllReadyH.nil
    go_simp
    go_at_call 18
    with_reducible refine (Hi6.out _).mono ?_
    rintro e wF ⟨rfl, hbF⟩
    refine hK.out _ _ ?_ (fun hHeld => ?_)
    · exact kept4 (by repeat (first | with_reducible exact Below.refl _ _ | with_reducible assumption | with_reducible refine Below.drew ?_ | with_reducible refine below_drewT ?_ _ | with_reducible refine below_callR ?_ (Nat.le_refl _) hbF | with_reducible refine below_callR ?_ (Nat.le_refl _) hbE | with_reducible refine below_callR ?_ (Nat.le_refl _) hbD | with_reducible refine below_callR ?_ (Nat.le_refl _) hbC | with_reducible refine below_callR ?_ (Nat.le_refl _) hbB | with_reducible refine below_callR ?_ (Nat.le_refl _) hbA)) t1 t2 a0 a1 b0 b1
    clear hK K
    try simp only [Act.put, List.setIfInBounds_toArray, List.set_cons_zero, List.set_cons_succ]
    try simp only [bne_self_eq_false]
    refine wpAnyH_take (i := 19) (oi := ⟨some 38, _, _, _, _, _⟩) (v := ?_) rfl (by kernel_rfl) (by kernel_rfl) (by kernel_rfl) (fun _ _ _ h => h) (Or.inl ⟨by rfl, ?hy⟩) (by assumption) ?_
    case hy => (intro w hSw; (try dsimp only at hSw); go_simp; (try with_reducible rfl))
    try simp only [Act.put, List.setIfInBounds_toArray, List.set_cons_zero, List.set_cons_succ]
    try simp only [bne_self_eq_false]
    refine wpAnyH_take (i := 20) (oi := ⟨some 39, _, _, _, _, _⟩) (v := ?_) rfl (by kernel_rfl) (by kernel_rfl) (by kernel_rfl) (fun _ _ _ h => h) (Or.inl ⟨by rfl, ?hy⟩) (by assumption) ?_
    case hy => (intro w hSw; (try dsimp only at hSw); go_simp; (try with_reducible rfl))
    try simp only [Act.put, List.setIfInBounds_toArray, List.set_cons_zero, List.set_cons_succ]
    try simp only [bne_self_eq_false]
    refine wpAnyH_take (i := 21) (oi := ⟨some 40, _, _, _, _, _⟩) (v := ?_) rfl (by kernel_rfl) (by kernel_rfl) (by kernel_rfl) (fun _ _ _ h => h) (Or.inl ⟨by rfl, ?hy⟩) (by assumption) ?_
    case hy => (intro w hSw; (try dsimp only at hSw); go_simp; (try with_reducible rfl))
    try simp only [Act.put, List.setIfInBounds_toArray, List.set_cons_zero, List.set_cons_succ]
    try simp only [bne_self_eq_false]
    refine wpAnyH_take (i := 22) (oi := ⟨some 41, _, _, _, _, _⟩) (v := ?_) rfl (by kernel_rfl) (by kernel_rfl) (by kernel_rfl) (fun _ _ _ h => h) (Or.inl ⟨by rfl, ?hy⟩) (by assumption) ?_
    case hy => (intro w hSw; (try dsimp only at hSw); go_simp; (try with_reducible rfl))
    try simp only [Act.put, List.setIfInBounds_toArray, List.set_cons_zero, List.set_cons_succ]
    try simp only [bne_self_eq_false]
    refine wpAnyH_take (i := 24) (oi := ⟨some 43, _, _, _, _, _⟩) (v := ?_) rfl (by kernel_rfl) (by kernel_rfl) (by kernel_rfl) (fun _ _ _ h => h) (Or.inl ⟨by rfl, ?hy⟩) (by assumption) ?_
    case hy => (intro w hSw; (try dsimp only at hSw); go_simp; (try with_reducible rfl))
    try simp only [Act.put, List.setIfInBounds_toArray, List.set_cons_zero, List.set_cons_succ]
    try simp only [bne_self_eq_false]
    refine wpAnyH_ready (rs := [23]) (by kernel_rfl) (by simp) ?_
    refine AllReadyH.cons (o := ⟨some 42, _, _, _, _, _⟩) rfl (fun K hK => ?_) AllReadyH.nil
    go_simp
    go_at_call 19
    with_reducible refine (Hi7.out _).mono ?_
    rintro e wG ⟨rfl, hbG⟩
    refine hK.out _ _ ?_ (fun hHeld => ?_)
    · exact kept4 (by repeat (first | with_reducible exact Below.refl _ _ | with_reducible assumption | with_reducible refine Below.drew ?_ | with_reducible refine below_drewT ?_ _ | with_reducible refine below_callR ?_ (Nat.le_refl _) hbG | with_reducible refine below_callR ?_ (Nat.le_refl _) hbF | with_reducible refine below_callR ?_ (Nat.le_refl _) hbE | with_reducible refine below_callR ?_ (Nat.le_refl _) hbD | with_reducible refine below_callR ?_ (Nat.le_refl _) hbC | with_reducible refine below_callR ?_ (Nat.le_refl _) hbB | with_reducible refine below_callR ?_ (Nat.le_refl _) hbA)) t1 t2 a0 a1 b0 b1
    clear hK K
    try simp only [Act.put, List.setIfInBounds_toArray, List.set_cons_zero, List.set_cons_succ]
    try simp only [bne_self_eq_false]
    refine wpAnyH_ready (rs := [25]) (by kernel_rfl) (by simp) ?_
    refine AllReadyH.cons (o := ⟨some 44, _, _, _, _, _⟩) rfl (fun K hK => ?_) AllReadyH.nil
    go_simp
    go_at_call 20
    with_reducible refine (Hi8.out _).mono ?_
    rintro e wH ⟨rfl, hbH⟩
    refine hK.out _ _ ?_ (fun hHeld => ?_)
    · exact kept4 (by repeat (first | with_reducible exact Below.refl _ _ | with_reducible assumption | with_reducible refine Below.drew ?_ | with_reducible refine below_drewT ?_ _ | with_reducible refine below_callR ?_ (Nat.le_refl _) hbH | with_reducible refine below_callR ?_ (Nat.le_refl _) hbG | with_reducible refine below_callR ?_ (Nat.le_refl _) hbF | with_reducible refine below_callR ?_ (Nat.le_refl _) hbE | with_reducible refine below_callR ?_ (Nat.le_refl _) hbD | with_reducible refine below_callR ?_ (Nat.le_refl _) hbC | with_reducible refine below_callR ?_ (Nat.le_refl _) hbB | with_reducible refine below_callR ?_ (Nat.le_refl _) hbA)) t1 t2 a0 a1 b0 b1
    clear hK K
    try simp only [Act.put, List.setIfInBounds_toArray, List.set_cons_zero, List.set_cons_succ]
    try simp only [bne_self_eq_false]
    refine wpAnyH_take (i := 26) (oi := ⟨some 45, _, _, _, _, _⟩) (v := ?_) rfl (by kernel_rfl) (by kernel_rfl) (by kernel_rfl) (fun _ _ _ h => h) (Or.inl ⟨by rfl, ?hy⟩) (by assumption) ?_
    case hy => (intro w hSw; (try dsimp only at hSw); go_simp; (try with_reducible rfl))
    try simp only [Act.put, List.setIfInBounds_toArray, List.set_cons_zero, List.set_cons_succ]
    try simp only [bne_self_eq_false]
    refine wpAnyH_take (i := 27) (oi := ⟨some 46, _, _, _, _, _⟩) (v := ?_) rfl (by kernel_rfl) (by kernel_rfl) (by kernel_rfl) (fun _ _ _ h => h) (Or.inl ⟨by rfl, ?hy⟩) (by assumption) ?_
    case hy => (intro w hSw; (try dsimp only at hSw); go_simp; (try with_reducible rfl))
    try simp only [Act.put, List.setIfInBounds_toArray, List.set_cons_zero, List.set_cons_succ]
    try simp only [bne_self_eq_false]
    refine wpAnyH_done (by kernel_rfl) ?_ _
    have hB6 : Below w5.heap.size w5 wH := (by repeat (first | with_reducible exact Below.refl _ _ | with_reducible assumption | with_reducible refine Below.drew ?_ | with_reducible refine below_drewT ?_ _ | with_reducible refine below_callR ?_ (Nat.le_refl _) hbH | with_reducible refine below_callR ?_ (Nat.le_refl _) hbG | with_reducible refine below_callR ?_ (Nat.le_refl _) hbF | with_reducible refine below_callR ?_ (Nat.le_refl _) hbE | with_reducible refine below_callR ?_ (Nat.le_refl _) hbD | with_reducible refine below_callR ?_ (Nat.le_refl _) hbC | with_reducible refine below_callR ?_ (Nat.le_refl _) hbB | with_reducible refine below_callR ?_ (Nat.le_refl _) hbA))
    have HE6 := Lib.hid (HE5.out.below hB6)
    have HB6 := Lib.hid (HB5.out.trans (hB6.mono HB5.out.size))
    clear hbA hbB hbC hbD hbE hbF hbG hbH hB6 hHeld a0 a1 b0 b1
    go_wp2_with fail
    first | (with_reducible refine (Solid_own c A L _ (by omega) HE6.out).mono ?_) | (with_reducible refine (Solid_own c A L _ (by omega) (HE6.out.below (Below.drew (Below.refl _ _)))).mono ?_)
    rintro e w7 ⟨v7, rfl, ho7, hb7⟩
    obtain ⟨A7, c7, rfl, hI7, _⟩ := IntsV.of_own ho7
    have hb7' : Below wH.heap.size wH w7 := by first | exact hb7 | exact (Below.drew (Below.refl _ _)).trans hb7
    have HB7 := Lib.hid (HB6.out.trans (hb7'.mono HB6.out.size))
    have HE7 := Lib.hid (HE6.out.below hb7')
    have HI7 := Lib.hid hI7
    clear ho7 hb7 hb7' hI7
    go_wp2_with fail
    refine (RSolid_own c A L w7 (by omega) HE7.out).mono ?_
    rintro e w8 ⟨v8, rfl, ho8, hb8⟩
    obtain ⟨A8, c8, rfl, hI8, _⟩ := IntsV.of_own ho8
    have HB8 := Lib.hid (HB7.out.trans (hb8.mono HB7.out.size))
    have HJ := Lib.hid (HI7.out.below hb8)
    have HI8 := Lib.hid hI8
    have hsl := solF_length 0 L
    clear ho8 hb8 hI8
    generalize solF 0 L = R at *
    have qn : ((R.length : Int) != (R.length : Int)) = false := by simp
    go_wp2_with fail
    go_loopw [12] (fun i wr => ∃ k : Nat, k ≤ R.length ∧ i = .int .i64 k ∧ Below w8.heap.size w8 wr) (fun i _ => R.length - (intOf i).toNat)
    case atStart => exact ⟨0, Nat.zero_le _, rfl, Below.refl _ _⟩
    case round =>
      obtain ⟨k, hk, rfl, hB⟩ := hrel
      have hk0 : (0 : Int) ≤ (k : Int) := by omega
      by_cases hlt : k < R.length
      · have hk1 : (k : Int) < (R.length : Int) := by omega
        obtain ⟨ba, e7, _, h7⟩ := (HJ.out.below hB) (by omega)
        obtain ⟨bb, e8, _, h8⟩ := (HI8.out.below hB) (by omega)
        subst e7 e8
        have d7 := h7 k _ (List.getElem?_eq_getElem hlt)
        have d8 := h8 k _ (List.getElem?_eq_getElem hlt)
        generalize R[k] = rk at *
        have qk : ((rk : Int) != (rk : Int)) = false := by simp
        have HB := Lib.hid hB
        clear hB h7 h8
        go_wp2_with fail
        go_quiet (fail)
        go_wp2_with fail
        exact ⟨⟨k + 1, by omega, by go_num, below_drewT HB.out _⟩, by simp [intOf]; omega⟩
      · have hke : k = R.length := by omega
        subst hke
        have hB9 := HB8.out.trans (hB.mono HB8.out.size)
        go_wp2_with fail
        refine (alive_any wr (HT.out.below hB9)).mono ?_
        rintro e w9 ⟨rfl, hb9⟩
        go_wp2_with fail
        go_ret
        exact ⟨rfl, hB9.trans (hb9.mono hB9.size)⟩
end Go.Proofs.YtkdnacniligjjaaDoor.lawTokenKinds
