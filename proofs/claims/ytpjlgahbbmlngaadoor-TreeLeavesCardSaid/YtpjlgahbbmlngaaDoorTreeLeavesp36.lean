/-
  TreeLeaves: the strings of the leaves, one after the other, are the string; the spans of the kids of a node are its span, one after the other. No condition: every input. (gen_wtl5.py)
-/
import Derived.Test.YtpjlgahbbmlngaaDoorTreeLeavesp32
import Derived.Test.YtpjlgahbbmlngaaDoorTreeLeavesp34
import Derived.Test.YtpjlgahbbmlngaaDoorTreeLeavesp35
import Derived.Test.YtpjlgahbbmlngaaDoorTreeLeavesp25
import Derived.Test.YtpjlgahbbmlngaaDoorTreeLeavesp27
import Derived.Deep.RegionHeld3
import Derived.Deep.DeepCutAuto
namespace Go.Proofs.YtpjlgahbbmlngaaDoor.lawTreeLeaves
set_option linter.unusedVariables false
set_option linter.unusedSimpArgs false
open Go.ChangeShapes Go.WideShapes Go.RowKit

theorem kids_leaves {x : Nd} (h : partsN x = true) : 0 < x.kids.length → sumT (leavesL x.kids) = sumT (leavesN x) := fun hl => by
  cases x with
  | mk k t l =>
    simp only [partsN, Bool.and_eq_true] at h
    simp only [Nd.kids] at hl ⊢
    obtain ⟨hk, _⟩ := part_kids h.1 (List.length_pos_iff.1 hl)
    simp [leavesN, hk]
theorem own_keep {w w' : World} {base e size n : Nat} {v : Value} {xs : List Value} (h : w.ownsRow base e size v n xs) (hb : Below w.heap.size w w') : w'.ownsRow base e size v n xs :=
  own_same h (fun g e => hb.block g (h.lt g e).2)

set_option maxRecDepth 100000 in
set_option maxHeartbeats 8000000 in
theorem walk (n0 : Nd) (v0 : Value) (hr0 : rawN n0) (A1 : Option Addr) (c1 : Nat) (l1 : List Int) (hl1 : l1.length ≤ c1) (hc1 : c1 ≤ maxLen) (w : World) (hT : Tabs w) (hN0 : NodeV w v0 n0) (hE1 : IntsA w A1 l1) :
    Calls Tryd.prog 10 #[v0, .slice A1 l1.length c1] w fun e w' => e = .returned (.bool true) ∧ Below w.heap.size w w' := by
  have hN := hN0
  obtain ⟨A0, c0, rfl, hk0⟩ := hN0
  have hB0 : Below w.heap.size w (w.alloc (.cells (nodeCells n0 A0 c0) 26)) := (Below.refl _ _).alloc (Nat.le_refl _) _
  have hcut := Cut_any n0 _ (w.alloc (.cells (nodeCells n0 A0 c0) 26)) hr0 (hN.below hB0)
  have hz := SmZ.of_cut (most := 600) (by decide) (by decide) n0
  have HT := Lib.hid (show _ ∧ _ ∧ _ ∧ _ from ⟨tabs_alloc (o := .cells (nodeCells n0 A0 c0) 26) hT, hE1.below hB0, hl1, hc1⟩)
  have HSh := Lib.hid (fun W (h : IntsA W A1 l1) => short_any A1 c1 l1 W hl1 hc1 h)
  have hLl : (l1.take 40).length ≤ 40 := by rw [List.length_take]; omega
  generalize cutM 600 n0 = z at hcut hz
  generalize l1.take 40 = R at HSh hLl
  have Hcut := Lib.hid hcut
  have HZ := Lib.hid (show _ ∧ _ ∧ _ ∧ _ from ⟨hz, hz.size, hz.sum, hLl⟩)
  have HB0 := Lib.hid hB0
  clear hcut hz hT hN hk0 hr0 hB0 hE1 hl1 hc1 hLl
  cases hf : formedB z with
  | false =>
    have h17 := fun W v (t : Tabs W) (h : NodeV W v z) => Text_any z v W HZ.out.2.1 HZ.out.2.2.1 t h
    have h21 := fun W v (t : Tabs W) (h : NodeV W v z) => IsFormed_any z v W HZ.out.2.1 t h
    rw [hf] at h17 h21
    simp only [Bool.false_eq_true, if_false] at h17
    have H17 := Lib.hid h17
    have H21 := Lib.hid h21
    clear hf h17 h21
    go_enter Tryd.func10, Tryd.ntmps10
    go_wp2_with (go_at_call 15; refine Hcut.out.mono ?_; rintro e w1 ⟨v1, rfl, ⟨A, c, rfl, hcc, hkp⟩, hb1⟩)
    have hBw : Below w.heap.size w w1 := HB0.out.trans (hb1.mono HB0.out.size)
    have KZ := Lib.hid (KeepZ.of (c := c) hcc hkp (HT.out.1.below hb1))
    have E1 := Lib.hid ((HT.out.2.1.below hb1).below (allocB w1 (.cells (nodeCells z A c) 26)))
    have BB := Lib.hid (hBw.alloc (o := .cells (nodeCells z A c) 26) hBw.size)
    clear hBw hb1 hkp hcc
    obtain ⟨wa, hwa⟩ : ∃ x, x = w1.alloc (.cells (nodeCells z A c) 26) := ⟨_, rfl⟩
    rw [show w1.alloc (.cells #[.int .i64 z.kind, .int .i64 z.tok.1, .string z.tok.2, .slice A z.kids.length c] 26) = wa from hwa.symm]
    rw [← hwa] at KZ E1 BB
    obtain ⟨bz, hbz⟩ : ∃ x, x = w1.heap.size := ⟨_, rfl⟩
    rw [← hbz] at KZ
    rw [← hbz]
    clear hwa hbz
    refine (H17.out wa _ KZ.out.tabs KZ.out.node).mono ?_
    rintro e w2 ⟨rfl, hb⟩
    have KZ := Lib.hid (KZ.out.below hb)
    have BB := Lib.hid (BB.out.trans (hb.mono BB.out.size))
    obtain ⟨q0, q1, q2, q3⟩ := cells_of_block KZ.out.box
    clear hb
    go_wp2_with fail
    try clear q0 q1 q2 q3
    try clear hlt5
    refine (H21.out w2 _ KZ.out.tabs KZ.out.node).mono ?_
    rintro e w3 ⟨rfl, hb⟩
    have KZ := Lib.hid (KZ.out.below hb)
    have BB := Lib.hid (BB.out.trans (hb.mono BB.out.size))
    clear hb
    go_wp2_with fail
    refine (alive5_any w3 KZ.out.tabs).mono ?_
    rintro e w4 ⟨rfl, hb⟩
    have KZ := Lib.hid (KZ.out.below hb)
    have BB := Lib.hid (BB.out.trans (hb.mono BB.out.size))
    clear hb
    go_wp2_with fail
    go_ret
    exact ⟨rfl, BB.out⟩
  | true =>
    have hparts : partsN z = true := by
      have := hf
      unfold formedB at this
      simp only [Bool.and_eq_true] at this
      exact this.1.1
    have h17 := fun W v (t : Tabs W) (h : NodeV W v z) => Text_any z v W HZ.out.2.1 HZ.out.2.2.1 t h
    have h19 := fun W v (t : Tabs W) (h : NodeV W v z) => Leaves_any z v W HZ.out.2.1 t h
    rw [hf, textN_cat] at h17
    rw [hf] at h19
    simp only [if_true] at h17 h19
    have hll := Nat.le_trans (leavesN_le z) HZ.out.1.count
    obtain ⟨x, b, hgo⟩ : ∃ x b, goR z (intL (posN z R)) 0 = some (x, b) := posN_goR R z 0
    have hpl := posN_len R z
    have hpos := fun W v Ar cr (h : NodeP (fun _ => True) W v z) (hi : IntsR W Ar R) => position_any z v R Ar cr W HZ.out.2.1 h (by have := HZ.out.2.2.2; omega) hi
    generalize posN z R = p at hgo hpl hpos
    have hpp : p.length ≤ 40 := Nat.le_trans hpl HZ.out.2.2.2
    obtain ⟨gc1, gc2, gc3⟩ := goR_facts hgo
    have hxk := kids_leaves (gc3 hparts)
    have hxc : x.kids.length ≤ 600 := by
      have h1 := countN_kids x
      have h2 := len_countL x.kids
      have h3 := HZ.out.1.count
      omega
    have HPos := Lib.hid hpos
    have HF := Lib.hid (show _ ∧ _ ∧ _ ∧ _ ∧ _ from ⟨hf, hparts, hgo, hxk, (by simpa [intL] using (by omega : p.length ≤ 1000000000) : (intL p).length ≤ 1000000000)⟩)
    obtain ⟨T, hTc⟩ : ∃ T, T = mkB (catL (leavesN z)) := ⟨_, rfl⟩
    rw [← hTc] at h17
    obtain ⟨L, hL⟩ : ∃ L, L = leavesN z := ⟨_, rfl⟩
    rw [← hL] at h19 hll hTc
    have hsum : (catL L).length ≤ 1000000000000 := by
      rw [hL, catL_sum]
      exact HZ.out.2.2.1
    have HSUM := Lib.hid hsum
    have HTC := Lib.hid hTc
    have H17 := Lib.hid h17
    have H19 := Lib.hid h19
    clear hf hparts h17 h19 hTc hL hsum hgo hpl hpos gc1 gc2 gc3 hxk
    go_enter Tryd.func10, Tryd.ntmps10
    go_wp2_with (go_at_call 15; refine Hcut.out.mono ?_; rintro e w1 ⟨v1, rfl, ⟨A, c, rfl, hcc, hkp⟩, hb1⟩)
    have hBw : Below w.heap.size w w1 := HB0.out.trans (hb1.mono HB0.out.size)
    have KZ := Lib.hid (KeepZ.of (c := c) hcc hkp (HT.out.1.below hb1))
    have E1 := Lib.hid ((HT.out.2.1.below hb1).below (allocB w1 (.cells (nodeCells z A c) 26)))
    have BB := Lib.hid (hBw.alloc (o := .cells (nodeCells z A c) 26) hBw.size)
    clear hBw hb1 hkp hcc
    obtain ⟨wa, hwa⟩ : ∃ x, x = w1.alloc (.cells (nodeCells z A c) 26) := ⟨_, rfl⟩
    rw [show w1.alloc (.cells #[.int .i64 z.kind, .int .i64 z.tok.1, .string z.tok.2, .slice A z.kids.length c] 26) = wa from hwa.symm]
    rw [← hwa] at KZ E1 BB
    obtain ⟨bz, hbz⟩ : ∃ x, x = w1.heap.size := ⟨_, rfl⟩
    rw [← hbz] at KZ
    rw [← hbz]
    clear hwa hbz
    refine (H17.out wa _ KZ.out.tabs KZ.out.node).mono ?_
    rintro e w2 ⟨rfl, hb⟩
    have KZ := Lib.hid (KZ.out.below hb)
    have BB := Lib.hid (BB.out.trans (hb.mono BB.out.size))
    have E1 := Lib.hid (E1.out.below hb)
    obtain ⟨q0, q1, q2, q3⟩ := cells_of_block KZ.out.box
    clear hb
    go_wp2_with fail
    try clear q0 q1 q2 q3
    try clear hlt5
    refine (H19.out w2 _ KZ.out.tabs KZ.out.node).mono ?_
    rintro e w3 ⟨⟨sv, rfl, hrow⟩, hb⟩
    have KZ := Lib.hid (KZ.out.below hb)
    have BB := Lib.hid (BB.out.trans (hb.mono BB.out.size))
    have E1 := Lib.hid (E1.out.below hb)
    obtain ⟨q0, q1, q2, q3⟩ := cells_of_block KZ.out.box
    obtain ⟨A5, c5, rfl, hE, _⟩ := TksV.of_own hrow
    have E5 := Lib.hid hE
    clear hrow hE
    clear hb
    go_wp2_with fail
    try clear q0 q1 q2 q3
    try clear hlt5
    go_loop [10, 11] (fun s i => ∃ k : Nat, k ≤ L.length ∧ i = .int .i64 k ∧ s = .string (mkB (catL (L.take k)))) (fun _ i => L.length - (intOf i).toNat)
    case atStart => exact ⟨0, Nat.zero_le _, rfl, rfl⟩
    case round =>
      obtain ⟨k, hk, rfl, rfl⟩ := hrel
      have hk0 : (0 : Int) ≤ (k : Int) := by omega
      by_cases hlt : k < L.length
      · obtain ⟨b5, o5, rfl, hb5, m0, m1⟩ := E5.out.get hlt
        have hk2 : (k : Int) < (L.length : Int) := by omega
        have hct := catL_take hlt
        obtain ⟨⟨kd, x⟩, hx⟩ : ∃ p, p = L[k] := ⟨_, rfl⟩
        rw [← hx] at m0 m1 hct
        simp only at m0 m1 hct
        have hln := congrArg List.length hct
        rw [List.length_append, byt_length] at hln
        have hle := catL_take_le L (k + 1)
        have hsz : (mkB (catL (L.take k))).size + x.size ≤ 9223372036854775807 := by
          rw [mkB_size]
          have := HSUM.out
          omega
        have HC := Lib.hid hct
        clear hct hx hln hle
        go_wp2_with fail
        exact ⟨⟨k + 1, by omega, by go_num, by rw [HC.out, mkB_add]; rfl⟩, by simp only [intOf]; omega⟩
      · have hke : k = L.length := by omega
        subst hke
        have hk2 : decide ((L.length : Int) < (L.length : Int)) = false := by simp
        have hk3 : ¬ (L.length : Int) < (L.length : Int) := by omega
        rw [List.take_length, ← HTC.out]
        obtain ⟨q0, q1, q2, q3⟩ := cells_of_block KZ.out.box
        go_wp2_with fail
        try clear q0 q1 q2 q3
        refine wp_region_held_drew (S := (fun W => W.cell? ⟨bz, 0, none⟩ = some (.int .i64 z.kind) ∧ W.cell? ⟨bz, 1, none⟩ = some (.int .i64 z.tok.1) ∧ W.cell? ⟨bz, 2, none⟩ = some (.string z.tok.2) ∧ W.cell? ⟨bz, 3, none⟩ = some (.slice A z.kids.length c))) (by kernel_rfl) ?_ (fun hHeld => ?_)
        · exact keptN (Below.drew (Below.refl _ _)) KZ.out.box
        obtain ⟨w4, hw⟩ : ∃ x, x = w3.drew := ⟨_, rfl⟩
        have hb : Below w3.heap.size w3 w4 := by rw [hw]; exact Below.drew (Below.refl _ _)
        rw [← hw] at hHeld
        rw [← hw]
        have KZ := Lib.hid (KZ.out.below hb)
        have BB := Lib.hid (BB.out.trans (hb.mono BB.out.size))
        have E1 := Lib.hid (E1.out.below hb)
        clear hw hb
        refine wpAnyH_take (i := 0) (oi := ⟨some 61, _, _, _, _, _⟩) (v := ?_) rfl (by kernel_rfl) (by kernel_rfl) (by kernel_rfl) (fun _ _ _ h => h) (Or.inl ⟨by rfl, ?hy⟩) (by assumption) ?_
        case hy => (intro w hSw; (try dsimp only at hSw); go_simp; (try with_reducible rfl))
        try simp only [Act.put, List.setIfInBounds_toArray, List.set_cons_zero, List.set_cons_succ]
        refine wpAnyH_take (i := 1) (oi := ⟨some 62, _, _, _, _, _⟩) (v := ?_) rfl (by kernel_rfl) (by kernel_rfl) (by kernel_rfl) (fun _ _ _ h => h) (Or.inl ⟨by rfl, ?hy⟩) (by assumption) ?_
        case hy => (intro w hSw; (try dsimp only at hSw); go_simp; (try with_reducible rfl))
        try simp only [Act.put, List.setIfInBounds_toArray, List.set_cons_zero, List.set_cons_succ]
        refine wpAnyH_ready (rs := [2]) (by kernel_rfl) (by simp) ?_
        refine AllReadyH.cons (o := ⟨some 63, _, _, _, _, _⟩) rfl (fun K hK => ?_) AllReadyH.nil
        go_simp
        go_at_call 36
        with_reducible refine (HSh.out w4 E1.out).mono ?_
        rintro e w5 ⟨v2, rfl, hrow, hb⟩
        obtain ⟨Ar, cr, rfl, _, hI⟩ := IntsR.of_ownI hrow
        have KZ := Lib.hid (KZ.out.below hb)
        have BB := Lib.hid (BB.out.trans (hb.mono BB.out.size))
        refine hK.out _ _ ?_ (fun hHeld => ?_)
        · exact keptN (Below.refl _ _) KZ.out.box
        clear hK hb hrow
        try simp only [Act.put, List.setIfInBounds_toArray, List.set_cons_zero, List.set_cons_succ]
        refine wpAnyH_ready (rs := [3]) (by kernel_rfl) (by simp) ?_
        refine AllReadyH.cons (o := ⟨some 64, _, _, _, _, _⟩) rfl (fun K hK => ?_) AllReadyH.nil
        go_simp
        go_at_call 54
        with_reducible refine (HPos.out w5 _ Ar cr KZ.out.nodeC hI).mono ?_
        rintro e w6 ⟨v6, rfl, hrow, hb⟩
        have KZ := Lib.hid (KZ.out.below hb)
        have BB := Lib.hid (BB.out.trans (hb.mono BB.out.size))
        refine hK.out _ _ ?_ (fun hHeld => ?_)
        · exact keptN (Below.refl _ _) KZ.out.box
        clear hK hb hI
        try simp only [Act.put, List.setIfInBounds_toArray, List.set_cons_zero, List.set_cons_succ]
        refine wpAnyH_take (i := 4) (oi := ⟨some 12, _, _, _, _, _⟩) (v := ?_) rfl (by kernel_rfl) (by kernel_rfl) (by kernel_rfl) (fun _ _ _ h => h) (Or.inl ⟨by rfl, ?hy⟩) (by assumption) ?_
        case hy => (intro w hSw; (try dsimp only at hSw); go_simp; (try with_reducible rfl))
        try simp only [Act.put, List.setIfInBounds_toArray, List.set_cons_zero, List.set_cons_succ]
        refine wpAnyH_done (by kernel_rfl) ?_ _
        obtain ⟨Ap, cp, hv, hI⟩ := IntsR.of_own hrow
        have hv2 : v6 = .slice Ap (intL p).length cp := by simpa [intL] using hv
        clear hv
        subst hv2
        have PR := Lib.hid hrow
        have IP := Lib.hid (show IntsR w6 Ap (intL p) from hI)
        clear hrow hI
        obtain ⟨q0, q1, q2, q3⟩ := cells_of_block KZ.out.box
        go_wp2_with fail
        try clear q0 q1 q2 q3
        try clear hlt5
        refine (At_ok z x b _ (intL p) Ap cp w6 HZ.out.2.1 HZ.out.2.2.1 KZ.out.tabs KZ.out.nodeC HF.out.2.2.2.2 IP.out HF.out.1 HF.out.2.2.1).mono ?_
        rintro e w7 ⟨⟨v7, rfl, ⟨A2, c2, rfl, hc2, _⟩⟩, hb⟩
        have KZ := Lib.hid (KZ.out.below hb)
        have BB := Lib.hid (BB.out.trans (hb.mono BB.out.size))
        have PR := Lib.hid (own_keep PR.out hb)
        have IP := Lib.hid (IP.out.below hb)
        obtain ⟨q0, q1, q2, q3⟩ := cells_of_block KZ.out.box
        have hlt5 : bz < w7.heap.size := (Array.getElem?_eq_some_iff.1 KZ.out.box).1
        clear hb
        go_wp2_with fail
        try clear q0 q1 q2 q3
        try clear hlt5
        have hb := allocB w7 (.cells #[.int .i64 x.kind, .int .i64 x.tok.1, .string x.tok.2, .slice A2 x.kids.length c2] 26)
        obtain ⟨w7a, hw⟩ : ∃ u, u = w7.alloc (.cells #[.int .i64 x.kind, .int .i64 x.tok.1, .string x.tok.2, .slice A2 x.kids.length c2] 26) := ⟨_, rfl⟩
        have h13 : w7a.heap[w7.heap.size]? = some (.cells #[.int .i64 x.kind, .int .i64 x.tok.1, .string x.tok.2, .slice A2 x.kids.length c2] 26 (0, 0)) := by rw [hw]; exact alloc_at _ _ _ rfl
        rw [← hw] at hb
        rw [← hw]
        obtain ⟨b13, hbb⟩ : ∃ x, x = w7.heap.size := ⟨_, rfl⟩
        rw [← hbb] at h13
        rw [← hbb]
        have KZ := Lib.hid (KZ.out.below hb)
        have BB := Lib.hid (BB.out.trans (hb.mono BB.out.size))
        have PR := Lib.hid (own_keep PR.out hb)
        have IP := Lib.hid (IP.out.below hb)
        have N13 := Lib.hid h13
        clear hw hb hbb h13
        refine (Span_ok z x b _ (intL p) Ap cp w7a HZ.out.2.1 HZ.out.2.2.1 KZ.out.tabs KZ.out.nodeC HF.out.2.2.2.2 IP.out HF.out.1 HF.out.2.2.1).mono ?_
        rintro e w8 ⟨rfl, hb⟩
        have KZ := Lib.hid (KZ.out.below hb)
        have BB := Lib.hid (BB.out.trans (hb.mono BB.out.size))
        have PR := Lib.hid (own_keep PR.out hb)
        have IP := Lib.hid (IP.out.below hb)
        have N13 := Lib.hid (keepB N13.out hb)
        clear hb
        obtain ⟨be, hbe⟩ : ∃ be, be = b + sumT (leavesN x) := ⟨_, rfl⟩
        rw [← hbe]
        have HBE := Lib.hid hbe
        clear hbe
        have q13 := Lib.cell_of_heap N13.out 3
        go_wp2_with fail
        have hb := allocB w8 (.cells #[.int .i64 (b : Nat), .int .i64 (be : Nat)] 62)
        obtain ⟨w8a, hw⟩ : ∃ u, u = w8.alloc (.cells #[.int .i64 (b : Nat), .int .i64 (be : Nat)] 62) := ⟨_, rfl⟩
        have h15 : w8a.heap[w8.heap.size]? = some (.cells #[.int .i64 (b : Nat), .int .i64 (be : Nat)] 62 (0, 0)) := by rw [hw]; exact alloc_at _ _ _ rfl
        rw [← hw] at hb
        rw [← hw]
        obtain ⟨b15, hbb⟩ : ∃ x, x = w8.heap.size := ⟨_, rfl⟩
        rw [← hbb] at h15
        rw [← hbb]
        have KZ := Lib.hid (KZ.out.below hb)
        have BB := Lib.hid (BB.out.trans (hb.mono BB.out.size))
        have PR := Lib.hid (own_keep PR.out hb)
        have IP := Lib.hid (IP.out.below hb)
        have N13 := Lib.hid (keepB N13.out hb)
        have N15 := Lib.hid h15
        clear hw hb hbb h15
        clear q13
        go_loopw [17, 18] (fun at0 i wr => ∃ k : Nat, k ≤ x.kids.length ∧ i = .int .i64 k ∧ at0 = .int .i64 ((b + sumT (leavesL (x.kids.take k)) : Nat) : Int) ∧ Below w8a.heap.size w8a wr) (fun _ i _ => x.kids.length - (intOf i).toNat)
        case atStart => exact ⟨0, Nat.zero_le _, rfl, by simp [leavesL, sumT], Below.refl _ _⟩
        case round =>
          obtain ⟨k, hkl, rfl, rfl, hb⟩ := hrel
          have KZ := Lib.hid (KZ.out.below hb)
          have BB := Lib.hid (BB.out.trans (hb.mono BB.out.size))
          have PR := Lib.hid (own_keep PR.out hb)
          have N13 := Lib.hid (keepB N13.out hb)
          have N15 := Lib.hid (keepB N15.out hb)
          have BR := Lib.hid hb
          obtain ⟨fk, hfk⟩ : ∃ fk, fk = b + sumT (leavesL (x.kids.take k)) := ⟨_, rfl⟩
          rw [← hfk]
          have q13 := Lib.cell_of_heap N13.out 3
          have hk00 : (0 : Int) ≤ (k : Int) := by omega
          clear hb
          by_cases hlt : k < x.kids.length
          · have hk2 : (k : Int) < (x.kids.length : Int) := by omega
            have hy0 : x.kids[k]? = some x.kids[k] := List.getElem?_eq_getElem hlt
            obtain ⟨y, hy⟩ : ∃ y, y = x.kids[k] := ⟨_, rfl⟩
            rw [← hy] at hy0
            obtain ⟨tk, htk⟩ : ∃ tk, tk = fk + sumT (leavesN y) := ⟨_, rfl⟩
            have hgk : goR z (intL (p ++ [k])) 0 = some (y, fk) := by rw [intL_append, hfk]; exact goR_snoc HF.out.2.2.1 hy0
            have hspan : ∀ W v f g, PkSt wr k (p ++ [k]) v f g W → Calls Tryd.prog 38 #[.agg #[.int .i64 z.kind, .int .i64 z.tok.1, .string z.tok.2, .slice A z.kids.length c], v] W fun e w' => e = .returned (.tuple #[.agg #[.int .i64 (fk : Nat), .int .i64 (tk : Nat)], .int .i64 0]) ∧ Below W.heap.size W w' := fun W v f g st => by
              obtain ⟨Aq, cq, rfl, hI⟩ := st.arg
              have KW := KZ.out.below st.below
              rw [htk]
              exact Span_ok z y fk _ (intL (p ++ [k])) Aq cq W HZ.out.2.1 HZ.out.2.2.1 KW.tabs KW.nodeC (by simp [intL]; omega) hI HF.out.1 hgk
            have HSpan := Lib.hid hspan
            have hnx : b + sumT (leavesL (x.kids.take (k + 1))) = tk := by rw [leavesL_next hy0, sumT_append, htk, hfk]; omega
            have HNX := Lib.hid hnx
            have htf : decide (((tk : Nat) : Int) < ((fk : Nat) : Int)) = false := decide_eq_false (by omega)
            have htf2 : ¬ ((tk : Nat) : Int) < ((fk : Nat) : Int) := by omega
            clear hfk hy hy0 htk hgk hspan hnx
            go_upto_region 22 with fail
            go_cut [19, 20] (fun s19 s20 W5 => ∃ bs : Nat, s19 = .pointer (some ⟨bs, 0, none⟩) ∧ s20 = .int .i64 0 ∧ W5.heap[bs]? = some (.cells #[.int .i64 (fk : Nat), .int .i64 (tk : Nat)] 62 (0, 0)) ∧ Below wr.heap.size wr W5)
            case first =>
              refine wp_region_held_drew (S := (fun W => W.cell? ⟨bz, 0, none⟩ = some (.int .i64 z.kind) ∧ W.cell? ⟨bz, 1, none⟩ = some (.int .i64 z.tok.1) ∧ W.cell? ⟨bz, 2, none⟩ = some (.string z.tok.2) ∧ W.cell? ⟨bz, 3, none⟩ = some (.slice A z.kids.length c))) (by kernel_rfl) ?_ (fun hHeld => ?_)
              · exact keptN (Below.drew (Below.refl _ _)) KZ.out.box
              have st := PkSt.init wr k
              obtain ⟨W0, hw⟩ : ∃ x, x = wr.drew := ⟨_, rfl⟩
              rw [← hw] at st hHeld
              rw [← hw]
              clear hw
              refine wpAnyH_take (i := 0) (oi := ⟨some 93, _, _, _, _, _⟩) (v := ?_) rfl (by kernel_rfl) (by kernel_rfl) (by kernel_rfl) (fun _ _ _ h => h) (Or.inl ⟨by rfl, ?hy⟩) (by assumption) ?_
              case hy => (intro w hSw; (try dsimp only at hSw); go_simp; (try with_reducible rfl))
              try simp only [Act.put, List.setIfInBounds_toArray, List.set_cons_zero, List.set_cons_succ]
              refine wpAnyH_take (i := 2) (oi := ⟨some 95, _, _, _, _, _⟩) (v := ?_) rfl (by kernel_rfl) (by kernel_rfl) (by kernel_rfl) (fun _ _ _ h => h) (Or.inl ⟨by rfl, ?hy⟩) (by assumption) ?_
              case hy => (intro w hSw; (try dsimp only at hSw); go_simp; (try with_reducible rfl))
              try simp only [Act.put, List.setIfInBounds_toArray, List.set_cons_zero, List.set_cons_succ]
              refine wpAnyH_take (i := 4) (oi := ⟨some 97, _, _, _, _, _⟩) (v := ?_) rfl (by kernel_rfl) (by kernel_rfl) (by kernel_rfl) (fun _ _ _ h => h) (Or.inl ⟨by rfl, ?hy⟩) (by assumption) ?_
              case hy => (intro w hSw; (try dsimp only at hSw); go_simp; (try with_reducible rfl))
              try simp only [Act.put, List.setIfInBounds_toArray, List.set_cons_zero, List.set_cons_succ]
              refine wpAnyH_ready (rs := [1, 5, 11]) (by kernel_rfl) (by simp) ?_
              refine AllReadyH.cons (o := ⟨some 94, _, _, _, _, _⟩) rfl (fun K hK => ?_) (AllReadyH.cons (o := ⟨some 98, _, _, _, _, _⟩) rfl (fun K hK => ?_) (AllReadyH.cons (o := ⟨some 19, _, _, _, _, _⟩) rfl (fun K hK => ?_) AllReadyH.nil))
              · go_simp
                have sn := st.zero
                refine hK.out _ _ ?_ (fun hHeld => ?_)
                · exact keptN sn.below KZ.out.box
                clear hK K st
                try simp only [Act.put, List.setIfInBounds_toArray, List.set_cons_zero, List.set_cons_succ]
                obtain ⟨bz, hc⟩ : ∃ x, x = W0.heap.size := ⟨_, rfl⟩
                obtain ⟨W1, hw⟩ : ∃ x, x = W0.alloc (.cells #[] 3) := ⟨_, rfl⟩
                rw [← hw] at sn hHeld
                rw [← hw]
                rw [← hc] at sn
                rw [← hc]
                obtain ⟨vz, hv⟩ : ∃ x : Value, x = .slice (some ⟨bz, 0, none⟩) 0 0 := ⟨_, rfl⟩
                rw [← hv] at sn
                rw [← hv]
                clear hv
                clear hw hc
                have st := sn
                clear sn
                refine wpAnyH_ready (rs := [3, 5, 11]) (by kernel_rfl) (by simp) ?_
                refine AllReadyH.cons (o := ⟨some 96, _, _, _, _, _⟩) rfl (fun K hK => ?_) (AllReadyH.cons (o := ⟨some 98, _, _, _, _, _⟩) rfl (fun K hK => ?_) (AllReadyH.cons (o := ⟨some 19, _, _, _, _, _⟩) rfl (fun K hK => ?_) AllReadyH.nil))
                · obtain ⟨va, W2, hrun, sn⟩ := st.app 51 (own_below PR.out st.below) (by simp; omega)
                  rw [List.nil_append] at sn
                  refine opH_append rfl _ _ _ rfl rfl rfl hrun ?_
                  refine hK.out _ _ ?_ (fun hHeld => ?_)
                  · exact keptN sn.below KZ.out.box
                  clear hK K hrun st
                  try simp only [Act.put, List.setIfInBounds_toArray, List.set_cons_zero, List.set_cons_succ]
                  have st := sn
                  clear sn
                  refine wpAnyH_ready (rs := [5, 11]) (by kernel_rfl) (by simp) ?_
                  refine AllReadyH.cons (o := ⟨some 98, _, _, _, _, _⟩) rfl (fun K hK => ?_) (AllReadyH.cons (o := ⟨some 19, _, _, _, _, _⟩) rfl (fun K hK => ?_) AllReadyH.nil)
                  · go_simp
                    have sn := st.one
                    refine hK.out _ _ ?_ (fun hHeld => ?_)
                    · exact keptN sn.below KZ.out.box
                    clear hK K st
                    try simp only [Act.put, List.setIfInBounds_toArray, List.set_cons_zero, List.set_cons_succ]
                    obtain ⟨bo, hc⟩ : ∃ x, x = W2.heap.size := ⟨_, rfl⟩
                    obtain ⟨W3, hw⟩ : ∃ x, x = W2.alloc (.cells #[.int .i64 (k : Nat)] 3) := ⟨_, rfl⟩
                    rw [← hw] at sn hHeld
                    rw [← hw]
                    rw [← hc] at sn
                    rw [← hc]
                    clear hw hc
                    have st := sn
                    clear sn
                    refine wpAnyH_ready (rs := [6, 11]) (by kernel_rfl) (by simp) ?_
                    refine AllReadyH.cons (o := ⟨some 99, _, _, _, _, _⟩) rfl (fun K hK => ?_) (AllReadyH.cons (o := ⟨some 19, _, _, _, _, _⟩) rfl (fun K hK => ?_) AllReadyH.nil)
                    · obtain ⟨vb, W4, hrun, sn⟩ := st.app 51 st.oneRow (by simp; omega)
                      refine opH_append rfl _ _ _ rfl rfl rfl hrun ?_
                      refine hK.out _ _ ?_ (fun hHeld => ?_)
                      · exact keptN sn.below KZ.out.box
                      clear hK K hrun st
                      try simp only [Act.put, List.setIfInBounds_toArray, List.set_cons_zero, List.set_cons_succ]
                      have st := sn
                      clear sn
                      refine wpAnyH_ready (rs := [7, 11]) (by kernel_rfl) (by simp) ?_
                      refine AllReadyH.cons (o := ⟨some 100, _, _, _, _, _⟩) rfl (fun K hK => ?_) (AllReadyH.cons (o := ⟨some 19, _, _, _, _, _⟩) rfl (fun K hK => ?_) AllReadyH.nil)
                      · go_simp
                        go_at_call 38
                        with_reducible refine (HSpan.out _ _ _ _ st).mono ?_
                        rintro e W5 ⟨rfl, hbC⟩
                        have sn := st.call hbC
                        refine hK.out _ _ ?_ (fun hHeld => ?_)
                        · exact keptN sn.below KZ.out.box
                        clear hK K hbC st
                        try simp only [Act.put, List.setIfInBounds_toArray, List.set_cons_zero, List.set_cons_succ]
                        have st := sn
                        clear sn
                        refine wpAnyH_take (i := 8) (oi := ⟨some 92, _, _, _, _, _⟩) (v := ?_) rfl (by kernel_rfl) (by kernel_rfl) (by kernel_rfl) (fun _ _ _ h => h) (Or.inl ⟨by rfl, ?hy⟩) (by assumption) ?_
                        case hy => (intro w hSw; (try dsimp only at hSw); go_simp; (try with_reducible rfl))
                        try simp only [Act.put, List.setIfInBounds_toArray, List.set_cons_zero, List.set_cons_succ]
                        refine wpAnyH_take (i := 9) (oi := ⟨some 101, _, _, _, _, _⟩) (v := ?_) rfl (by kernel_rfl) (by kernel_rfl) (by kernel_rfl) (fun _ _ _ h => h) (Or.inl ⟨by rfl, ?hy⟩) (by assumption) ?_
                        case hy => (intro w hSw; (try dsimp only at hSw); go_simp; (try with_reducible rfl))
                        try simp only [Act.put, List.setIfInBounds_toArray, List.set_cons_zero, List.set_cons_succ]
                        refine wpAnyH_take (i := 10) (oi := ⟨some 102, _, _, _, _, _⟩) (v := ?_) rfl (by kernel_rfl) (by kernel_rfl) (by kernel_rfl) (fun _ _ _ h => h) (Or.inl ⟨by rfl, ?hy⟩) (by assumption) ?_
                        case hy => (intro w hSw; (try dsimp only at hSw); go_simp; (try with_reducible rfl))
                        try simp only [Act.put, List.setIfInBounds_toArray, List.set_cons_zero, List.set_cons_succ]
                        refine wpAnyH_ready (rs := [11]) (by kernel_rfl) (by simp) ?_
                        refine AllReadyH.cons (o := ⟨some 19, _, _, _, _, _⟩) rfl (fun K hK => ?_) AllReadyH.nil
                        go_simp
                        have sn := st.span
                        refine hK.out _ _ ?_ (fun hHeld => ?_)
                        · exact keptN sn.below KZ.out.box
                        clear hK K st
                        try simp only [Act.put, List.setIfInBounds_toArray, List.set_cons_zero, List.set_cons_succ]
                        obtain ⟨bs, hc⟩ : ∃ x, x = W5.heap.size := ⟨_, rfl⟩
                        obtain ⟨W6, hw⟩ : ∃ x, x = W5.alloc (.cells #[.int .i64 0, .int .i64 0] 62) := ⟨_, rfl⟩
                        rw [← hw] at sn hHeld
                        rw [← hw]
                        rw [← hc] at sn
                        rw [← hc]
                        clear hw hc
                        have st := sn
                        clear sn
                        refine wpAnyH_ready (rs := [12]) (by kernel_rfl) (by simp) ?_
                        refine AllReadyH.cons (o := ⟨none, _, _, _, _, _⟩) rfl (fun K hK => ?_) AllReadyH.nil
                        have he := (st.elv _ rfl).2.1
                        have q0 := Lib.cell_of_heap he 0
                        have q1 := Lib.cell_of_heap he 1
                        have r0 := frozen_block (j := 0) he
                        have r1 := frozen_block (j := 1) he
                        clear he
                        go_simp
                        have sn := st.stored (.int .i64 (fk : Nat)) (.int .i64 (tk : Nat))
                        refine hK.out _ _ ?_ (fun hHeld => ?_)
                        · exact keptN sn.2.1 KZ.out.box
                        clear hK K q0 q1 r0 r1
                        try simp only [Act.put, List.setIfInBounds_toArray, List.set_cons_zero, List.set_cons_succ]
                        refine wpAnyH_take (i := 13) (oi := ⟨some 20, _, _, _, _, _⟩) (v := ?_) rfl (by kernel_rfl) (by kernel_rfl) (by kernel_rfl) (fun _ _ _ h => h) (Or.inl ⟨by rfl, ?hy⟩) (by assumption) ?_
                        case hy => (intro w hSw; (try dsimp only at hSw); go_simp; (try with_reducible rfl))
                        try simp only [Act.put, List.setIfInBounds_toArray, List.set_cons_zero, List.set_cons_succ]
                        refine wpAnyH_done (by kernel_rfl) ?_ _
                        go_wp2_with fail
                        go_meet
                        exact ⟨bs, rfl, rfl, sn.1, sn.2.1⟩
                      · go_simp
                        have sn := st.span
                        refine hK.out _ _ ?_ (fun hHeld => ?_)
                        · exact keptN sn.below KZ.out.box
                        clear hK K st
                        try simp only [Act.put, List.setIfInBounds_toArray, List.set_cons_zero, List.set_cons_succ]
                        obtain ⟨bs, hc⟩ : ∃ x, x = W4.heap.size := ⟨_, rfl⟩
                        obtain ⟨W8, hw⟩ : ∃ x, x = W4.alloc (.cells #[.int .i64 0, .int .i64 0] 62) := ⟨_, rfl⟩
                        rw [← hw] at sn hHeld
                        rw [← hw]
                        rw [← hc] at sn
                        rw [← hc]
                        clear hw hc
                        have st := sn
                        clear sn
                        refine wpAnyH_ready (rs := [7]) (by kernel_rfl) (by simp) ?_
                        refine AllReadyH.cons (o := ⟨some 100, _, _, _, _, _⟩) rfl (fun K hK => ?_) AllReadyH.nil
                        go_simp
                        go_at_call 38
                        with_reducible refine (HSpan.out _ _ _ _ st).mono ?_
                        rintro e W9 ⟨rfl, hbC⟩
                        have sn := st.call hbC
                        refine hK.out _ _ ?_ (fun hHeld => ?_)
                        · exact keptN sn.below KZ.out.box
                        clear hK K hbC st
                        try simp only [Act.put, List.setIfInBounds_toArray, List.set_cons_zero, List.set_cons_succ]
                        have st := sn
                        clear sn
                        refine wpAnyH_take (i := 8) (oi := ⟨some 92, _, _, _, _, _⟩) (v := ?_) rfl (by kernel_rfl) (by kernel_rfl) (by kernel_rfl) (fun _ _ _ h => h) (Or.inl ⟨by rfl, ?hy⟩) (by assumption) ?_
                        case hy => (intro w hSw; (try dsimp only at hSw); go_simp; (try with_reducible rfl))
                        try simp only [Act.put, List.setIfInBounds_toArray, List.set_cons_zero, List.set_cons_succ]
                        refine wpAnyH_take (i := 9) (oi := ⟨some 101, _, _, _, _, _⟩) (v := ?_) rfl (by kernel_rfl) (by kernel_rfl) (by kernel_rfl) (fun _ _ _ h => h) (Or.inl ⟨by rfl, ?hy⟩) (by assumption) ?_
                        case hy => (intro w hSw; (try dsimp only at hSw); go_simp; (try with_reducible rfl))
                        try simp only [Act.put, List.setIfInBounds_toArray, List.set_cons_zero, List.set_cons_succ]
                        refine wpAnyH_take (i := 10) (oi := ⟨some 102, _, _, _, _, _⟩) (v := ?_) rfl (by kernel_rfl) (by kernel_rfl) (by kernel_rfl) (fun _ _ _ h => h) (Or.inl ⟨by rfl, ?hy⟩) (by assumption) ?_
                        case hy => (intro w hSw; (try dsimp only at hSw); go_simp; (try with_reducible rfl))
                        try simp only [Act.put, List.setIfInBounds_toArray, List.set_cons_zero, List.set_cons_succ]
                        refine wpAnyH_ready (rs := [12]) (by kernel_rfl) (by simp) ?_
                        refine AllReadyH.cons (o := ⟨none, _, _, _, _, _⟩) rfl (fun K hK => ?_) AllReadyH.nil
                        have he := (st.elv _ rfl).2.1
                        have q0 := Lib.cell_of_heap he 0
                        have q1 := Lib.cell_of_heap he 1
                        have r0 := frozen_block (j := 0) he
                        have r1 := frozen_block (j := 1) he
                        clear he
                        go_simp
                        have sn := st.stored (.int .i64 (fk : Nat)) (.int .i64 (tk : Nat))
                        refine hK.out _ _ ?_ (fun hHeld => ?_)
                        · exact keptN sn.2.1 KZ.out.box
                        clear hK K q0 q1 r0 r1
                        try simp only [Act.put, List.setIfInBounds_toArray, List.set_cons_zero, List.set_cons_succ]
                        refine wpAnyH_take (i := 13) (oi := ⟨some 20, _, _, _, _, _⟩) (v := ?_) rfl (by kernel_rfl) (by kernel_rfl) (by kernel_rfl) (fun _ _ _ h => h) (Or.inl ⟨by rfl, ?hy⟩) (by assumption) ?_
                        case hy => (intro w hSw; (try dsimp only at hSw); go_simp; (try with_reducible rfl))
                        try simp only [Act.put, List.setIfInBounds_toArray, List.set_cons_zero, List.set_cons_succ]
                        refine wpAnyH_done (by kernel_rfl) ?_ _
                        go_wp2_with fail
                        go_meet
                        exact ⟨bs, rfl, rfl, sn.1, sn.2.1⟩
                    · go_simp
                      have sn := st.span
                      refine hK.out _ _ ?_ (fun hHeld => ?_)
                      · exact keptN sn.below KZ.out.box
                      clear hK K st
                      try simp only [Act.put, List.setIfInBounds_toArray, List.set_cons_zero, List.set_cons_succ]
                      obtain ⟨bs, hc⟩ : ∃ x, x = W3.heap.size := ⟨_, rfl⟩
                      obtain ⟨W11, hw⟩ : ∃ x, x = W3.alloc (.cells #[.int .i64 0, .int .i64 0] 62) := ⟨_, rfl⟩
                      rw [← hw] at sn hHeld
                      rw [← hw]
                      rw [← hc] at sn
                      rw [← hc]
                      clear hw hc
                      have st := sn
                      clear sn
                      refine wpAnyH_ready (rs := [6]) (by kernel_rfl) (by simp) ?_
                      refine AllReadyH.cons (o := ⟨some 99, _, _, _, _, _⟩) rfl (fun K hK => ?_) AllReadyH.nil
                      obtain ⟨vb, W12, hrun, sn⟩ := st.app 51 st.oneRow (by simp; omega)
                      refine opH_append rfl _ _ _ rfl rfl rfl hrun ?_
                      refine hK.out _ _ ?_ (fun hHeld => ?_)
                      · exact keptN sn.below KZ.out.box
                      clear hK K hrun st
                      try simp only [Act.put, List.setIfInBounds_toArray, List.set_cons_zero, List.set_cons_succ]
                      have st := sn
                      clear sn
                      refine wpAnyH_ready (rs := [7]) (by kernel_rfl) (by simp) ?_
                      refine AllReadyH.cons (o := ⟨some 100, _, _, _, _, _⟩) rfl (fun K hK => ?_) AllReadyH.nil
                      go_simp
                      go_at_call 38
                      with_reducible refine (HSpan.out _ _ _ _ st).mono ?_
                      rintro e W13 ⟨rfl, hbC⟩
                      have sn := st.call hbC
                      refine hK.out _ _ ?_ (fun hHeld => ?_)
                      · exact keptN sn.below KZ.out.box
                      clear hK K hbC st
                      try simp only [Act.put, List.setIfInBounds_toArray, List.set_cons_zero, List.set_cons_succ]
                      have st := sn
                      clear sn
                      refine wpAnyH_take (i := 8) (oi := ⟨some 92, _, _, _, _, _⟩) (v := ?_) rfl (by kernel_rfl) (by kernel_rfl) (by kernel_rfl) (fun _ _ _ h => h) (Or.inl ⟨by rfl, ?hy⟩) (by assumption) ?_
                      case hy => (intro w hSw; (try dsimp only at hSw); go_simp; (try with_reducible rfl))
                      try simp only [Act.put, List.setIfInBounds_toArray, List.set_cons_zero, List.set_cons_succ]
                      refine wpAnyH_take (i := 9) (oi := ⟨some 101, _, _, _, _, _⟩) (v := ?_) rfl (by kernel_rfl) (by kernel_rfl) (by kernel_rfl) (fun _ _ _ h => h) (Or.inl ⟨by rfl, ?hy⟩) (by assumption) ?_
                      case hy => (intro w hSw; (try dsimp only at hSw); go_simp; (try with_reducible rfl))
                      try simp only [Act.put, List.setIfInBounds_toArray, List.set_cons_zero, List.set_cons_succ]
                      refine wpAnyH_take (i := 10) (oi := ⟨some 102, _, _, _, _, _⟩) (v := ?_) rfl (by kernel_rfl) (by kernel_rfl) (by kernel_rfl) (fun _ _ _ h => h) (Or.inl ⟨by rfl, ?hy⟩) (by assumption) ?_
                      case hy => (intro w hSw; (try dsimp only at hSw); go_simp; (try with_reducible rfl))
                      try simp only [Act.put, List.setIfInBounds_toArray, List.set_cons_zero, List.set_cons_succ]
                      refine wpAnyH_ready (rs := [12]) (by kernel_rfl) (by simp) ?_
                      refine AllReadyH.cons (o := ⟨none, _, _, _, _, _⟩) rfl (fun K hK => ?_) AllReadyH.nil
                      have he := (st.elv _ rfl).2.1
                      have q0 := Lib.cell_of_heap he 0
                      have q1 := Lib.cell_of_heap he 1
                      have r0 := frozen_block (j := 0) he
                      have r1 := frozen_block (j := 1) he
                      clear he
                      go_simp
                      have sn := st.stored (.int .i64 (fk : Nat)) (.int .i64 (tk : Nat))
                      refine hK.out _ _ ?_ (fun hHeld => ?_)
                      · exact keptN sn.2.1 KZ.out.box
                      clear hK K q0 q1 r0 r1
                      try simp only [Act.put, List.setIfInBounds_toArray, List.set_cons_zero, List.set_cons_succ]
                      refine wpAnyH_take (i := 13) (oi := ⟨some 20, _, _, _, _, _⟩) (v := ?_) rfl (by kernel_rfl) (by kernel_rfl) (by kernel_rfl) (fun _ _ _ h => h) (Or.inl ⟨by rfl, ?hy⟩) (by assumption) ?_
                      case hy => (intro w hSw; (try dsimp only at hSw); go_simp; (try with_reducible rfl))
                      try simp only [Act.put, List.setIfInBounds_toArray, List.set_cons_zero, List.set_cons_succ]
                      refine wpAnyH_done (by kernel_rfl) ?_ _
                      go_wp2_with fail
                      go_meet
                      exact ⟨bs, rfl, rfl, sn.1, sn.2.1⟩
                  · go_simp
                    have sn := st.span
                    refine hK.out _ _ ?_ (fun hHeld => ?_)
                    · exact keptN sn.below KZ.out.box
                    clear hK K st
                    try simp only [Act.put, List.setIfInBounds_toArray, List.set_cons_zero, List.set_cons_succ]
                    obtain ⟨bs, hc⟩ : ∃ x, x = W2.heap.size := ⟨_, rfl⟩
                    obtain ⟨W15, hw⟩ : ∃ x, x = W2.alloc (.cells #[.int .i64 0, .int .i64 0] 62) := ⟨_, rfl⟩
                    rw [← hw] at sn hHeld
                    rw [← hw]
                    rw [← hc] at sn
                    rw [← hc]
                    clear hw hc
                    have st := sn
                    clear sn
                    refine wpAnyH_ready (rs := [5]) (by kernel_rfl) (by simp) ?_
                    refine AllReadyH.cons (o := ⟨some 98, _, _, _, _, _⟩) rfl (fun K hK => ?_) AllReadyH.nil
                    go_simp
                    have sn := st.one
                    refine hK.out _ _ ?_ (fun hHeld => ?_)
                    · exact keptN sn.below KZ.out.box
                    clear hK K st
                    try simp only [Act.put, List.setIfInBounds_toArray, List.set_cons_zero, List.set_cons_succ]
                    obtain ⟨bo, hc⟩ : ∃ x, x = W15.heap.size := ⟨_, rfl⟩
                    obtain ⟨W16, hw⟩ : ∃ x, x = W15.alloc (.cells #[.int .i64 (k : Nat)] 3) := ⟨_, rfl⟩
                    rw [← hw] at sn hHeld
                    rw [← hw]
                    rw [← hc] at sn
                    rw [← hc]
                    clear hw hc
                    have st := sn
                    clear sn
                    refine wpAnyH_ready (rs := [6]) (by kernel_rfl) (by simp) ?_
                    refine AllReadyH.cons (o := ⟨some 99, _, _, _, _, _⟩) rfl (fun K hK => ?_) AllReadyH.nil
                    obtain ⟨vb, W17, hrun, sn⟩ := st.app 51 st.oneRow (by simp; omega)
                    refine opH_append rfl _ _ _ rfl rfl rfl hrun ?_
                    refine hK.out _ _ ?_ (fun hHeld => ?_)
                    · exact keptN sn.below KZ.out.box
                    clear hK K hrun st
                    try simp only [Act.put, List.setIfInBounds_toArray, List.set_cons_zero, List.set_cons_succ]
                    have st := sn
                    clear sn
                    refine wpAnyH_ready (rs := [7]) (by kernel_rfl) (by simp) ?_
                    refine AllReadyH.cons (o := ⟨some 100, _, _, _, _, _⟩) rfl (fun K hK => ?_) AllReadyH.nil
                    go_simp
                    go_at_call 38
                    with_reducible refine (HSpan.out _ _ _ _ st).mono ?_
                    rintro e W18 ⟨rfl, hbC⟩
                    have sn := st.call hbC
                    refine hK.out _ _ ?_ (fun hHeld => ?_)
                    · exact keptN sn.below KZ.out.box
                    clear hK K hbC st
                    try simp only [Act.put, List.setIfInBounds_toArray, List.set_cons_zero, List.set_cons_succ]
                    have st := sn
                    clear sn
                    refine wpAnyH_take (i := 8) (oi := ⟨some 92, _, _, _, _, _⟩) (v := ?_) rfl (by kernel_rfl) (by kernel_rfl) (by kernel_rfl) (fun _ _ _ h => h) (Or.inl ⟨by rfl, ?hy⟩) (by assumption) ?_
                    case hy => (intro w hSw; (try dsimp only at hSw); go_simp; (try with_reducible rfl))
                    try simp only [Act.put, List.setIfInBounds_toArray, List.set_cons_zero, List.set_cons_succ]
                    refine wpAnyH_take (i := 9) (oi := ⟨some 101, _, _, _, _, _⟩) (v := ?_) rfl (by kernel_rfl) (by kernel_rfl) (by kernel_rfl) (fun _ _ _ h => h) (Or.inl ⟨by rfl, ?hy⟩) (by assumption) ?_
                    case hy => (intro w hSw; (try dsimp only at hSw); go_simp; (try with_reducible rfl))
                    try simp only [Act.put, List.setIfInBounds_toArray, List.set_cons_zero, List.set_cons_succ]
                    refine wpAnyH_take (i := 10) (oi := ⟨some 102, _, _, _, _, _⟩) (v := ?_) rfl (by kernel_rfl) (by kernel_rfl) (by kernel_rfl) (fun _ _ _ h => h) (Or.inl ⟨by rfl, ?hy⟩) (by assumption) ?_
                    case hy => (intro w hSw; (try dsimp only at hSw); go_simp; (try with_reducible rfl))
                    try simp only [Act.put, List.setIfInBounds_toArray, List.set_cons_zero, List.set_cons_succ]
                    refine wpAnyH_ready (rs := [12]) (by kernel_rfl) (by simp) ?_
                    refine AllReadyH.cons (o := ⟨none, _, _, _, _, _⟩) rfl (fun K hK => ?_) AllReadyH.nil
                    have he := (st.elv _ rfl).2.1
                    have q0 := Lib.cell_of_heap he 0
                    have q1 := Lib.cell_of_heap he 1
                    have r0 := frozen_block (j := 0) he
                    have r1 := frozen_block (j := 1) he
                    clear he
                    go_simp
                    have sn := st.stored (.int .i64 (fk : Nat)) (.int .i64 (tk : Nat))
                    refine hK.out _ _ ?_ (fun hHeld => ?_)
                    · exact keptN sn.2.1 KZ.out.box
                    clear hK K q0 q1 r0 r1
                    try simp only [Act.put, List.setIfInBounds_toArray, List.set_cons_zero, List.set_cons_succ]
                    refine wpAnyH_take (i := 13) (oi := ⟨some 20, _, _, _, _, _⟩) (v := ?_) rfl (by kernel_rfl) (by kernel_rfl) (by kernel_rfl) (fun _ _ _ h => h) (Or.inl ⟨by rfl, ?hy⟩) (by assumption) ?_
                    case hy => (intro w hSw; (try dsimp only at hSw); go_simp; (try with_reducible rfl))
                    try simp only [Act.put, List.setIfInBounds_toArray, List.set_cons_zero, List.set_cons_succ]
                    refine wpAnyH_done (by kernel_rfl) ?_ _
                    go_wp2_with fail
                    go_meet
                    exact ⟨bs, rfl, rfl, sn.1, sn.2.1⟩
                · go_simp
                  have sn := st.one
                  refine hK.out _ _ ?_ (fun hHeld => ?_)
                  · exact keptN sn.below KZ.out.box
                  clear hK K st
                  try simp only [Act.put, List.setIfInBounds_toArray, List.set_cons_zero, List.set_cons_succ]
                  obtain ⟨bo, hc⟩ : ∃ x, x = W1.heap.size := ⟨_, rfl⟩
                  obtain ⟨W20, hw⟩ : ∃ x, x = W1.alloc (.cells #[.int .i64 (k : Nat)] 3) := ⟨_, rfl⟩
                  rw [← hw] at sn hHeld
                  rw [← hw]
                  rw [← hc] at sn
                  rw [← hc]
                  clear hw hc
                  have st := sn
                  clear sn
                  refine wpAnyH_ready (rs := [3, 11]) (by kernel_rfl) (by simp) ?_
                  refine AllReadyH.cons (o := ⟨some 96, _, _, _, _, _⟩) rfl (fun K hK => ?_) (AllReadyH.cons (o := ⟨some 19, _, _, _, _, _⟩) rfl (fun K hK => ?_) AllReadyH.nil)
                  · obtain ⟨va, W21, hrun, sn⟩ := st.app 51 (own_below PR.out st.below) (by simp; omega)
                    rw [List.nil_append] at sn
                    refine opH_append rfl _ _ _ rfl rfl rfl hrun ?_
                    refine hK.out _ _ ?_ (fun hHeld => ?_)
                    · exact keptN sn.below KZ.out.box
                    clear hK K hrun st
                    try simp only [Act.put, List.setIfInBounds_toArray, List.set_cons_zero, List.set_cons_succ]
                    have st := sn
                    clear sn
                    refine wpAnyH_ready (rs := [6, 11]) (by kernel_rfl) (by simp) ?_
                    refine AllReadyH.cons (o := ⟨some 99, _, _, _, _, _⟩) rfl (fun K hK => ?_) (AllReadyH.cons (o := ⟨some 19, _, _, _, _, _⟩) rfl (fun K hK => ?_) AllReadyH.nil)
                    · obtain ⟨vb, W22, hrun, sn⟩ := st.app 51 st.oneRow (by simp; omega)
                      refine opH_append rfl _ _ _ rfl rfl rfl hrun ?_
                      refine hK.out _ _ ?_ (fun hHeld => ?_)
                      · exact keptN sn.below KZ.out.box
                      clear hK K hrun st
                      try simp only [Act.put, List.setIfInBounds_toArray, List.set_cons_zero, List.set_cons_succ]
                      have st := sn
                      clear sn
                      refine wpAnyH_ready (rs := [7, 11]) (by kernel_rfl) (by simp) ?_
                      refine AllReadyH.cons (o := ⟨some 100, _, _, _, _, _⟩) rfl (fun K hK => ?_) (AllReadyH.cons (o := ⟨some 19, _, _, _, _, _⟩) rfl (fun K hK => ?_) AllReadyH.nil)
                      · go_simp
                        go_at_call 38
                        with_reducible refine (HSpan.out _ _ _ _ st).mono ?_
                        rintro e W23 ⟨rfl, hbC⟩
                        have sn := st.call hbC
                        refine hK.out _ _ ?_ (fun hHeld => ?_)
                        · exact keptN sn.below KZ.out.box
                        clear hK K hbC st
                        try simp only [Act.put, List.setIfInBounds_toArray, List.set_cons_zero, List.set_cons_succ]
                        have st := sn
                        clear sn
                        refine wpAnyH_take (i := 8) (oi := ⟨some 92, _, _, _, _, _⟩) (v := ?_) rfl (by kernel_rfl) (by kernel_rfl) (by kernel_rfl) (fun _ _ _ h => h) (Or.inl ⟨by rfl, ?hy⟩) (by assumption) ?_
                        case hy => (intro w hSw; (try dsimp only at hSw); go_simp; (try with_reducible rfl))
                        try simp only [Act.put, List.setIfInBounds_toArray, List.set_cons_zero, List.set_cons_succ]
                        refine wpAnyH_take (i := 9) (oi := ⟨some 101, _, _, _, _, _⟩) (v := ?_) rfl (by kernel_rfl) (by kernel_rfl) (by kernel_rfl) (fun _ _ _ h => h) (Or.inl ⟨by rfl, ?hy⟩) (by assumption) ?_
                        case hy => (intro w hSw; (try dsimp only at hSw); go_simp; (try with_reducible rfl))
                        try simp only [Act.put, List.setIfInBounds_toArray, List.set_cons_zero, List.set_cons_succ]
                        refine wpAnyH_take (i := 10) (oi := ⟨some 102, _, _, _, _, _⟩) (v := ?_) rfl (by kernel_rfl) (by kernel_rfl) (by kernel_rfl) (fun _ _ _ h => h) (Or.inl ⟨by rfl, ?hy⟩) (by assumption) ?_
                        case hy => (intro w hSw; (try dsimp only at hSw); go_simp; (try with_reducible rfl))
                        try simp only [Act.put, List.setIfInBounds_toArray, List.set_cons_zero, List.set_cons_succ]
                        refine wpAnyH_ready (rs := [11]) (by kernel_rfl) (by simp) ?_
                        refine AllReadyH.cons (o := ⟨some 19, _, _, _, _, _⟩) rfl (fun K hK => ?_) AllReadyH.nil
                        go_simp
                        have sn := st.span
                        refine hK.out _ _ ?_ (fun hHeld => ?_)
                        · exact keptN sn.below KZ.out.box
                        clear hK K st
                        try simp only [Act.put, List.setIfInBounds_toArray, List.set_cons_zero, List.set_cons_succ]
                        obtain ⟨bs, hc⟩ : ∃ x, x = W23.heap.size := ⟨_, rfl⟩
                        obtain ⟨W24, hw⟩ : ∃ x, x = W23.alloc (.cells #[.int .i64 0, .int .i64 0] 62) := ⟨_, rfl⟩
                        rw [← hw] at sn hHeld
                        rw [← hw]
                        rw [← hc] at sn
                        rw [← hc]
                        clear hw hc
                        have st := sn
                        clear sn
                        refine wpAnyH_ready (rs := [12]) (by kernel_rfl) (by simp) ?_
                        refine AllReadyH.cons (o := ⟨none, _, _, _, _, _⟩) rfl (fun K hK => ?_) AllReadyH.nil
                        have he := (st.elv _ rfl).2.1
                        have q0 := Lib.cell_of_heap he 0
                        have q1 := Lib.cell_of_heap he 1
                        have r0 := frozen_block (j := 0) he
                        have r1 := frozen_block (j := 1) he
                        clear he
                        go_simp
                        have sn := st.stored (.int .i64 (fk : Nat)) (.int .i64 (tk : Nat))
                        refine hK.out _ _ ?_ (fun hHeld => ?_)
                        · exact keptN sn.2.1 KZ.out.box
                        clear hK K q0 q1 r0 r1
                        try simp only [Act.put, List.setIfInBounds_toArray, List.set_cons_zero, List.set_cons_succ]
                        refine wpAnyH_take (i := 13) (oi := ⟨some 20, _, _, _, _, _⟩) (v := ?_) rfl (by kernel_rfl) (by kernel_rfl) (by kernel_rfl) (fun _ _ _ h => h) (Or.inl ⟨by rfl, ?hy⟩) (by assumption) ?_
                        case hy => (intro w hSw; (try dsimp only at hSw); go_simp; (try with_reducible rfl))
                        try simp only [Act.put, List.setIfInBounds_toArray, List.set_cons_zero, List.set_cons_succ]
                        refine wpAnyH_done (by kernel_rfl) ?_ _
                        go_wp2_with fail
                        go_meet
                        exact ⟨bs, rfl, rfl, sn.1, sn.2.1⟩
                      · go_simp
                        have sn := st.span
                        refine hK.out _ _ ?_ (fun hHeld => ?_)
                        · exact keptN sn.below KZ.out.box
                        clear hK K st
                        try simp only [Act.put, List.setIfInBounds_toArray, List.set_cons_zero, List.set_cons_succ]
                        obtain ⟨bs, hc⟩ : ∃ x, x = W22.heap.size := ⟨_, rfl⟩
                        obtain ⟨W26, hw⟩ : ∃ x, x = W22.alloc (.cells #[.int .i64 0, .int .i64 0] 62) := ⟨_, rfl⟩
                        rw [← hw] at sn hHeld
                        rw [← hw]
                        rw [← hc] at sn
                        rw [← hc]
                        clear hw hc
                        have st := sn
                        clear sn
                        refine wpAnyH_ready (rs := [7]) (by kernel_rfl) (by simp) ?_
                        refine AllReadyH.cons (o := ⟨some 100, _, _, _, _, _⟩) rfl (fun K hK => ?_) AllReadyH.nil
                        go_simp
                        go_at_call 38
                        with_reducible refine (HSpan.out _ _ _ _ st).mono ?_
                        rintro e W27 ⟨rfl, hbC⟩
                        have sn := st.call hbC
                        refine hK.out _ _ ?_ (fun hHeld => ?_)
                        · exact keptN sn.below KZ.out.box
                        clear hK K hbC st
                        try simp only [Act.put, List.setIfInBounds_toArray, List.set_cons_zero, List.set_cons_succ]
                        have st := sn
                        clear sn
                        refine wpAnyH_take (i := 8) (oi := ⟨some 92, _, _, _, _, _⟩) (v := ?_) rfl (by kernel_rfl) (by kernel_rfl) (by kernel_rfl) (fun _ _ _ h => h) (Or.inl ⟨by rfl, ?hy⟩) (by assumption) ?_
                        case hy => (intro w hSw; (try dsimp only at hSw); go_simp; (try with_reducible rfl))
                        try simp only [Act.put, List.setIfInBounds_toArray, List.set_cons_zero, List.set_cons_succ]
                        refine wpAnyH_take (i := 9) (oi := ⟨some 101, _, _, _, _, _⟩) (v := ?_) rfl (by kernel_rfl) (by kernel_rfl) (by kernel_rfl) (fun _ _ _ h => h) (Or.inl ⟨by rfl, ?hy⟩) (by assumption) ?_
                        case hy => (intro w hSw; (try dsimp only at hSw); go_simp; (try with_reducible rfl))
                        try simp only [Act.put, List.setIfInBounds_toArray, List.set_cons_zero, List.set_cons_succ]
                        refine wpAnyH_take (i := 10) (oi := ⟨some 102, _, _, _, _, _⟩) (v := ?_) rfl (by kernel_rfl) (by kernel_rfl) (by kernel_rfl) (fun _ _ _ h => h) (Or.inl ⟨by rfl, ?hy⟩) (by assumption) ?_
                        case hy => (intro w hSw; (try dsimp only at hSw); go_simp; (try with_reducible rfl))
                        try simp only [Act.put, List.setIfInBounds_toArray, List.set_cons_zero, List.set_cons_succ]
                        refine wpAnyH_ready (rs := [12]) (by kernel_rfl) (by simp) ?_
                        refine AllReadyH.cons (o := ⟨none, _, _, _, _, _⟩) rfl (fun K hK => ?_) AllReadyH.nil
                        have he := (st.elv _ rfl).2.1
                        have q0 := Lib.cell_of_heap he 0
                        have q1 := Lib.cell_of_heap he 1
                        have r0 := frozen_block (j := 0) he
                        have r1 := frozen_block (j := 1) he
                        clear he
                        go_simp
                        have sn := st.stored (.int .i64 (fk : Nat)) (.int .i64 (tk : Nat))
                        refine hK.out _ _ ?_ (fun hHeld => ?_)
                        · exact keptN sn.2.1 KZ.out.box
                        clear hK K q0 q1 r0 r1
                        try simp only [Act.put, List.setIfInBounds_toArray, List.set_cons_zero, List.set_cons_succ]
                        refine wpAnyH_take (i := 13) (oi := ⟨some 20, _, _, _, _, _⟩) (v := ?_) rfl (by kernel_rfl) (by kernel_rfl) (by kernel_rfl) (fun _ _ _ h => h) (Or.inl ⟨by rfl, ?hy⟩) (by assumption) ?_
                        case hy => (intro w hSw; (try dsimp only at hSw); go_simp; (try with_reducible rfl))
                        try simp only [Act.put, List.setIfInBounds_toArray, List.set_cons_zero, List.set_cons_succ]
                        refine wpAnyH_done (by kernel_rfl) ?_ _
                        go_wp2_with fail
                        go_meet
                        exact ⟨bs, rfl, rfl, sn.1, sn.2.1⟩
                    · go_simp
                      have sn := st.span
                      refine hK.out _ _ ?_ (fun hHeld => ?_)
                      · exact keptN sn.below KZ.out.box
                      clear hK K st
                      try simp only [Act.put, List.setIfInBounds_toArray, List.set_cons_zero, List.set_cons_succ]
                      obtain ⟨bs, hc⟩ : ∃ x, x = W21.heap.size := ⟨_, rfl⟩
                      obtain ⟨W29, hw⟩ : ∃ x, x = W21.alloc (.cells #[.int .i64 0, .int .i64 0] 62) := ⟨_, rfl⟩
                      rw [← hw] at sn hHeld
                      rw [← hw]
                      rw [← hc] at sn
                      rw [← hc]
                      clear hw hc
                      have st := sn
                      clear sn
                      refine wpAnyH_ready (rs := [6]) (by kernel_rfl) (by simp) ?_
                      refine AllReadyH.cons (o := ⟨some 99, _, _, _, _, _⟩) rfl (fun K hK => ?_) AllReadyH.nil
                      obtain ⟨vb, W30, hrun, sn⟩ := st.app 51 st.oneRow (by simp; omega)
                      refine opH_append rfl _ _ _ rfl rfl rfl hrun ?_
                      refine hK.out _ _ ?_ (fun hHeld => ?_)
                      · exact keptN sn.below KZ.out.box
                      clear hK K hrun st
                      try simp only [Act.put, List.setIfInBounds_toArray, List.set_cons_zero, List.set_cons_succ]
                      have st := sn
                      clear sn
                      refine wpAnyH_ready (rs := [7]) (by kernel_rfl) (by simp) ?_
                      refine AllReadyH.cons (o := ⟨some 100, _, _, _, _, _⟩) rfl (fun K hK => ?_) AllReadyH.nil
                      go_simp
                      go_at_call 38
                      with_reducible refine (HSpan.out _ _ _ _ st).mono ?_
                      rintro e W31 ⟨rfl, hbC⟩
                      have sn := st.call hbC
                      refine hK.out _ _ ?_ (fun hHeld => ?_)
                      · exact keptN sn.below KZ.out.box
                      clear hK K hbC st
                      try simp only [Act.put, List.setIfInBounds_toArray, List.set_cons_zero, List.set_cons_succ]
                      have st := sn
                      clear sn
                      refine wpAnyH_take (i := 8) (oi := ⟨some 92, _, _, _, _, _⟩) (v := ?_) rfl (by kernel_rfl) (by kernel_rfl) (by kernel_rfl) (fun _ _ _ h => h) (Or.inl ⟨by rfl, ?hy⟩) (by assumption) ?_
                      case hy => (intro w hSw; (try dsimp only at hSw); go_simp; (try with_reducible rfl))
                      try simp only [Act.put, List.setIfInBounds_toArray, List.set_cons_zero, List.set_cons_succ]
                      refine wpAnyH_take (i := 9) (oi := ⟨some 101, _, _, _, _, _⟩) (v := ?_) rfl (by kernel_rfl) (by kernel_rfl) (by kernel_rfl) (fun _ _ _ h => h) (Or.inl ⟨by rfl, ?hy⟩) (by assumption) ?_
                      case hy => (intro w hSw; (try dsimp only at hSw); go_simp; (try with_reducible rfl))
                      try simp only [Act.put, List.setIfInBounds_toArray, List.set_cons_zero, List.set_cons_succ]
                      refine wpAnyH_take (i := 10) (oi := ⟨some 102, _, _, _, _, _⟩) (v := ?_) rfl (by kernel_rfl) (by kernel_rfl) (by kernel_rfl) (fun _ _ _ h => h) (Or.inl ⟨by rfl, ?hy⟩) (by assumption) ?_
                      case hy => (intro w hSw; (try dsimp only at hSw); go_simp; (try with_reducible rfl))
                      try simp only [Act.put, List.setIfInBounds_toArray, List.set_cons_zero, List.set_cons_succ]
                      refine wpAnyH_ready (rs := [12]) (by kernel_rfl) (by simp) ?_
                      refine AllReadyH.cons (o := ⟨none, _, _, _, _, _⟩) rfl (fun K hK => ?_) AllReadyH.nil
                      have he := (st.elv _ rfl).2.1
                      have q0 := Lib.cell_of_heap he 0
                      have q1 := Lib.cell_of_heap he 1
                      have r0 := frozen_block (j := 0) he
                      have r1 := frozen_block (j := 1) he
                      clear he
                      go_simp
                      have sn := st.stored (.int .i64 (fk : Nat)) (.int .i64 (tk : Nat))
                      refine hK.out _ _ ?_ (fun hHeld => ?_)
                      · exact keptN sn.2.1 KZ.out.box
                      clear hK K q0 q1 r0 r1
                      try simp only [Act.put, List.setIfInBounds_toArray, List.set_cons_zero, List.set_cons_succ]
                      refine wpAnyH_take (i := 13) (oi := ⟨some 20, _, _, _, _, _⟩) (v := ?_) rfl (by kernel_rfl) (by kernel_rfl) (by kernel_rfl) (fun _ _ _ h => h) (Or.inl ⟨by rfl, ?hy⟩) (by assumption) ?_
                      case hy => (intro w hSw; (try dsimp only at hSw); go_simp; (try with_reducible rfl))
                      try simp only [Act.put, List.setIfInBounds_toArray, List.set_cons_zero, List.set_cons_succ]
                      refine wpAnyH_done (by kernel_rfl) ?_ _
                      go_wp2_with fail
                      go_meet
                      exact ⟨bs, rfl, rfl, sn.1, sn.2.1⟩
                  · go_simp
                    have sn := st.span
                    refine hK.out _ _ ?_ (fun hHeld => ?_)
                    · exact keptN sn.below KZ.out.box
                    clear hK K st
                    try simp only [Act.put, List.setIfInBounds_toArray, List.set_cons_zero, List.set_cons_succ]
                    obtain ⟨bs, hc⟩ : ∃ x, x = W20.heap.size := ⟨_, rfl⟩
                    obtain ⟨W33, hw⟩ : ∃ x, x = W20.alloc (.cells #[.int .i64 0, .int .i64 0] 62) := ⟨_, rfl⟩
                    rw [← hw] at sn hHeld
                    rw [← hw]
                    rw [← hc] at sn
                    rw [← hc]
                    clear hw hc
                    have st := sn
                    clear sn
                    refine wpAnyH_ready (rs := [3]) (by kernel_rfl) (by simp) ?_
                    refine AllReadyH.cons (o := ⟨some 96, _, _, _, _, _⟩) rfl (fun K hK => ?_) AllReadyH.nil
                    obtain ⟨va, W34, hrun, sn⟩ := st.app 51 (own_below PR.out st.below) (by simp; omega)
                    rw [List.nil_append] at sn
                    refine opH_append rfl _ _ _ rfl rfl rfl hrun ?_
                    refine hK.out _ _ ?_ (fun hHeld => ?_)
                    · exact keptN sn.below KZ.out.box
                    clear hK K hrun st
                    try simp only [Act.put, List.setIfInBounds_toArray, List.set_cons_zero, List.set_cons_succ]
                    have st := sn
                    clear sn
                    refine wpAnyH_ready (rs := [6]) (by kernel_rfl) (by simp) ?_
                    refine AllReadyH.cons (o := ⟨some 99, _, _, _, _, _⟩) rfl (fun K hK => ?_) AllReadyH.nil
                    obtain ⟨vb, W35, hrun, sn⟩ := st.app 51 st.oneRow (by simp; omega)
                    refine opH_append rfl _ _ _ rfl rfl rfl hrun ?_
                    refine hK.out _ _ ?_ (fun hHeld => ?_)
                    · exact keptN sn.below KZ.out.box
                    clear hK K hrun st
                    try simp only [Act.put, List.setIfInBounds_toArray, List.set_cons_zero, List.set_cons_succ]
                    have st := sn
                    clear sn
                    refine wpAnyH_ready (rs := [7]) (by kernel_rfl) (by simp) ?_
                    refine AllReadyH.cons (o := ⟨some 100, _, _, _, _, _⟩) rfl (fun K hK => ?_) AllReadyH.nil
                    go_simp
                    go_at_call 38
                    with_reducible refine (HSpan.out _ _ _ _ st).mono ?_
                    rintro e W36 ⟨rfl, hbC⟩
                    have sn := st.call hbC
                    refine hK.out _ _ ?_ (fun hHeld => ?_)
                    · exact keptN sn.below KZ.out.box
                    clear hK K hbC st
                    try simp only [Act.put, List.setIfInBounds_toArray, List.set_cons_zero, List.set_cons_succ]
                    have st := sn
                    clear sn
                    refine wpAnyH_take (i := 8) (oi := ⟨some 92, _, _, _, _, _⟩) (v := ?_) rfl (by kernel_rfl) (by kernel_rfl) (by kernel_rfl) (fun _ _ _ h => h) (Or.inl ⟨by rfl, ?hy⟩) (by assumption) ?_
                    case hy => (intro w hSw; (try dsimp only at hSw); go_simp; (try with_reducible rfl))
                    try simp only [Act.put, List.setIfInBounds_toArray, List.set_cons_zero, List.set_cons_succ]
                    refine wpAnyH_take (i := 9) (oi := ⟨some 101, _, _, _, _, _⟩) (v := ?_) rfl (by kernel_rfl) (by kernel_rfl) (by kernel_rfl) (fun _ _ _ h => h) (Or.inl ⟨by rfl, ?hy⟩) (by assumption) ?_
                    case hy => (intro w hSw; (try dsimp only at hSw); go_simp; (try with_reducible rfl))
                    try simp only [Act.put, List.setIfInBounds_toArray, List.set_cons_zero, List.set_cons_succ]
                    refine wpAnyH_take (i := 10) (oi := ⟨some 102, _, _, _, _, _⟩) (v := ?_) rfl (by kernel_rfl) (by kernel_rfl) (by kernel_rfl) (fun _ _ _ h => h) (Or.inl ⟨by rfl, ?hy⟩) (by assumption) ?_
                    case hy => (intro w hSw; (try dsimp only at hSw); go_simp; (try with_reducible rfl))
                    try simp only [Act.put, List.setIfInBounds_toArray, List.set_cons_zero, List.set_cons_succ]
                    refine wpAnyH_ready (rs := [12]) (by kernel_rfl) (by simp) ?_
                    refine AllReadyH.cons (o := ⟨none, _, _, _, _, _⟩) rfl (fun K hK => ?_) AllReadyH.nil
                    have he := (st.elv _ rfl).2.1
                    have q0 := Lib.cell_of_heap he 0
                    have q1 := Lib.cell_of_heap he 1
                    have r0 := frozen_block (j := 0) he
                    have r1 := frozen_block (j := 1) he
                    clear he
                    go_simp
                    have sn := st.stored (.int .i64 (fk : Nat)) (.int .i64 (tk : Nat))
                    refine hK.out _ _ ?_ (fun hHeld => ?_)
                    · exact keptN sn.2.1 KZ.out.box
                    clear hK K q0 q1 r0 r1
                    try simp only [Act.put, List.setIfInBounds_toArray, List.set_cons_zero, List.set_cons_succ]
                    refine wpAnyH_take (i := 13) (oi := ⟨some 20, _, _, _, _, _⟩) (v := ?_) rfl (by kernel_rfl) (by kernel_rfl) (by kernel_rfl) (fun _ _ _ h => h) (Or.inl ⟨by rfl, ?hy⟩) (by assumption) ?_
                    case hy => (intro w hSw; (try dsimp only at hSw); go_simp; (try with_reducible rfl))
                    try simp only [Act.put, List.setIfInBounds_toArray, List.set_cons_zero, List.set_cons_succ]
                    refine wpAnyH_done (by kernel_rfl) ?_ _
                    go_wp2_with fail
                    go_meet
                    exact ⟨bs, rfl, rfl, sn.1, sn.2.1⟩
                · go_simp
                  have sn := st.span
                  refine hK.out _ _ ?_ (fun hHeld => ?_)
                  · exact keptN sn.below KZ.out.box
                  clear hK K st
                  try simp only [Act.put, List.setIfInBounds_toArray, List.set_cons_zero, List.set_cons_succ]
                  obtain ⟨bs, hc⟩ : ∃ x, x = W1.heap.size := ⟨_, rfl⟩
                  obtain ⟨W38, hw⟩ : ∃ x, x = W1.alloc (.cells #[.int .i64 0, .int .i64 0] 62) := ⟨_, rfl⟩
                  rw [← hw] at sn hHeld
                  rw [← hw]
                  rw [← hc] at sn
                  rw [← hc]
                  clear hw hc
                  have st := sn
                  clear sn
                  refine wpAnyH_ready (rs := [3, 5]) (by kernel_rfl) (by simp) ?_
                  refine AllReadyH.cons (o := ⟨some 96, _, _, _, _, _⟩) rfl (fun K hK => ?_) (AllReadyH.cons (o := ⟨some 98, _, _, _, _, _⟩) rfl (fun K hK => ?_) AllReadyH.nil)
                  · obtain ⟨va, W39, hrun, sn⟩ := st.app 51 (own_below PR.out st.below) (by simp; omega)
                    rw [List.nil_append] at sn
                    refine opH_append rfl _ _ _ rfl rfl rfl hrun ?_
                    refine hK.out _ _ ?_ (fun hHeld => ?_)
                    · exact keptN sn.below KZ.out.box
                    clear hK K hrun st
                    try simp only [Act.put, List.setIfInBounds_toArray, List.set_cons_zero, List.set_cons_succ]
                    have st := sn
                    clear sn
                    refine wpAnyH_ready (rs := [5]) (by kernel_rfl) (by simp) ?_
                    refine AllReadyH.cons (o := ⟨some 98, _, _, _, _, _⟩) rfl (fun K hK => ?_) AllReadyH.nil
                    go_simp
                    have sn := st.one
                    refine hK.out _ _ ?_ (fun hHeld => ?_)
                    · exact keptN sn.below KZ.out.box
                    clear hK K st
                    try simp only [Act.put, List.setIfInBounds_toArray, List.set_cons_zero, List.set_cons_succ]
                    obtain ⟨bo, hc⟩ : ∃ x, x = W39.heap.size := ⟨_, rfl⟩
                    obtain ⟨W40, hw⟩ : ∃ x, x = W39.alloc (.cells #[.int .i64 (k : Nat)] 3) := ⟨_, rfl⟩
                    rw [← hw] at sn hHeld
                    rw [← hw]
                    rw [← hc] at sn
                    rw [← hc]
                    clear hw hc
                    have st := sn
                    clear sn
                    refine wpAnyH_ready (rs := [6]) (by kernel_rfl) (by simp) ?_
                    refine AllReadyH.cons (o := ⟨some 99, _, _, _, _, _⟩) rfl (fun K hK => ?_) AllReadyH.nil
                    obtain ⟨vb, W41, hrun, sn⟩ := st.app 51 st.oneRow (by simp; omega)
                    refine opH_append rfl _ _ _ rfl rfl rfl hrun ?_
                    refine hK.out _ _ ?_ (fun hHeld => ?_)
                    · exact keptN sn.below KZ.out.box
                    clear hK K hrun st
                    try simp only [Act.put, List.setIfInBounds_toArray, List.set_cons_zero, List.set_cons_succ]
                    have st := sn
                    clear sn
                    refine wpAnyH_ready (rs := [7]) (by kernel_rfl) (by simp) ?_
                    refine AllReadyH.cons (o := ⟨some 100, _, _, _, _, _⟩) rfl (fun K hK => ?_) AllReadyH.nil
                    go_simp
                    go_at_call 38
                    with_reducible refine (HSpan.out _ _ _ _ st).mono ?_
                    rintro e W42 ⟨rfl, hbC⟩
                    have sn := st.call hbC
                    refine hK.out _ _ ?_ (fun hHeld => ?_)
                    · exact keptN sn.below KZ.out.box
                    clear hK K hbC st
                    try simp only [Act.put, List.setIfInBounds_toArray, List.set_cons_zero, List.set_cons_succ]
                    have st := sn
                    clear sn
                    refine wpAnyH_take (i := 8) (oi := ⟨some 92, _, _, _, _, _⟩) (v := ?_) rfl (by kernel_rfl) (by kernel_rfl) (by kernel_rfl) (fun _ _ _ h => h) (Or.inl ⟨by rfl, ?hy⟩) (by assumption) ?_
                    case hy => (intro w hSw; (try dsimp only at hSw); go_simp; (try with_reducible rfl))
                    try simp only [Act.put, List.setIfInBounds_toArray, List.set_cons_zero, List.set_cons_succ]
                    refine wpAnyH_take (i := 9) (oi := ⟨some 101, _, _, _, _, _⟩) (v := ?_) rfl (by kernel_rfl) (by kernel_rfl) (by kernel_rfl) (fun _ _ _ h => h) (Or.inl ⟨by rfl, ?hy⟩) (by assumption) ?_
                    case hy => (intro w hSw; (try dsimp only at hSw); go_simp; (try with_reducible rfl))
                    try simp only [Act.put, List.setIfInBounds_toArray, List.set_cons_zero, List.set_cons_succ]
                    refine wpAnyH_take (i := 10) (oi := ⟨some 102, _, _, _, _, _⟩) (v := ?_) rfl (by kernel_rfl) (by kernel_rfl) (by kernel_rfl) (fun _ _ _ h => h) (Or.inl ⟨by rfl, ?hy⟩) (by assumption) ?_
                    case hy => (intro w hSw; (try dsimp only at hSw); go_simp; (try with_reducible rfl))
                    try simp only [Act.put, List.setIfInBounds_toArray, List.set_cons_zero, List.set_cons_succ]
                    refine wpAnyH_ready (rs := [12]) (by kernel_rfl) (by simp) ?_
                    refine AllReadyH.cons (o := ⟨none, _, _, _, _, _⟩) rfl (fun K hK => ?_) AllReadyH.nil
                    have he := (st.elv _ rfl).2.1
                    have q0 := Lib.cell_of_heap he 0
                    have q1 := Lib.cell_of_heap he 1
                    have r0 := frozen_block (j := 0) he
                    have r1 := frozen_block (j := 1) he
                    clear he
                    go_simp
                    have sn := st.stored (.int .i64 (fk : Nat)) (.int .i64 (tk : Nat))
                    refine hK.out _ _ ?_ (fun hHeld => ?_)
                    · exact keptN sn.2.1 KZ.out.box
                    clear hK K q0 q1 r0 r1
                    try simp only [Act.put, List.setIfInBounds_toArray, List.set_cons_zero, List.set_cons_succ]
                    refine wpAnyH_take (i := 13) (oi := ⟨some 20, _, _, _, _, _⟩) (v := ?_) rfl (by kernel_rfl) (by kernel_rfl) (by kernel_rfl) (fun _ _ _ h => h) (Or.inl ⟨by rfl, ?hy⟩) (by assumption) ?_
                    case hy => (intro w hSw; (try dsimp only at hSw); go_simp; (try with_reducible rfl))
                    try simp only [Act.put, List.setIfInBounds_toArray, List.set_cons_zero, List.set_cons_succ]
                    refine wpAnyH_done (by kernel_rfl) ?_ _
                    go_wp2_with fail
                    go_meet
                    exact ⟨bs, rfl, rfl, sn.1, sn.2.1⟩
                  · go_simp
                    have sn := st.one
                    refine hK.out _ _ ?_ (fun hHeld => ?_)
                    · exact keptN sn.below KZ.out.box
                    clear hK K st
                    try simp only [Act.put, List.setIfInBounds_toArray, List.set_cons_zero, List.set_cons_succ]
                    obtain ⟨bo, hc⟩ : ∃ x, x = W38.heap.size := ⟨_, rfl⟩
                    obtain ⟨W44, hw⟩ : ∃ x, x = W38.alloc (.cells #[.int .i64 (k : Nat)] 3) := ⟨_, rfl⟩
                    rw [← hw] at sn hHeld
                    rw [← hw]
                    rw [← hc] at sn
                    rw [← hc]
                    clear hw hc
                    have st := sn
                    clear sn
                    refine wpAnyH_ready (rs := [3]) (by kernel_rfl) (by simp) ?_
                    refine AllReadyH.cons (o := ⟨some 96, _, _, _, _, _⟩) rfl (fun K hK => ?_) AllReadyH.nil
                    obtain ⟨va, W45, hrun, sn⟩ := st.app 51 (own_below PR.out st.below) (by simp; omega)
                    rw [List.nil_append] at sn
                    refine opH_append rfl _ _ _ rfl rfl rfl hrun ?_
                    refine hK.out _ _ ?_ (fun hHeld => ?_)
                    · exact keptN sn.below KZ.out.box
                    clear hK K hrun st
                    try simp only [Act.put, List.setIfInBounds_toArray, List.set_cons_zero, List.set_cons_succ]
                    have st := sn
                    clear sn
                    refine wpAnyH_ready (rs := [6]) (by kernel_rfl) (by simp) ?_
                    refine AllReadyH.cons (o := ⟨some 99, _, _, _, _, _⟩) rfl (fun K hK => ?_) AllReadyH.nil
                    obtain ⟨vb, W46, hrun, sn⟩ := st.app 51 st.oneRow (by simp; omega)
                    refine opH_append rfl _ _ _ rfl rfl rfl hrun ?_
                    refine hK.out _ _ ?_ (fun hHeld => ?_)
                    · exact keptN sn.below KZ.out.box
                    clear hK K hrun st
                    try simp only [Act.put, List.setIfInBounds_toArray, List.set_cons_zero, List.set_cons_succ]
                    have st := sn
                    clear sn
                    refine wpAnyH_ready (rs := [7]) (by kernel_rfl) (by simp) ?_
                    refine AllReadyH.cons (o := ⟨some 100, _, _, _, _, _⟩) rfl (fun K hK => ?_) AllReadyH.nil
                    go_simp
                    go_at_call 38
                    with_reducible refine (HSpan.out _ _ _ _ st).mono ?_
                    rintro e W47 ⟨rfl, hbC⟩
                    have sn := st.call hbC
                    refine hK.out _ _ ?_ (fun hHeld => ?_)
                    · exact keptN sn.below KZ.out.box
                    clear hK K hbC st
                    try simp only [Act.put, List.setIfInBounds_toArray, List.set_cons_zero, List.set_cons_succ]
                    have st := sn
                    clear sn
                    refine wpAnyH_take (i := 8) (oi := ⟨some 92, _, _, _, _, _⟩) (v := ?_) rfl (by kernel_rfl) (by kernel_rfl) (by kernel_rfl) (fun _ _ _ h => h) (Or.inl ⟨by rfl, ?hy⟩) (by assumption) ?_
                    case hy => (intro w hSw; (try dsimp only at hSw); go_simp; (try with_reducible rfl))
                    try simp only [Act.put, List.setIfInBounds_toArray, List.set_cons_zero, List.set_cons_succ]
                    refine wpAnyH_take (i := 9) (oi := ⟨some 101, _, _, _, _, _⟩) (v := ?_) rfl (by kernel_rfl) (by kernel_rfl) (by kernel_rfl) (fun _ _ _ h => h) (Or.inl ⟨by rfl, ?hy⟩) (by assumption) ?_
                    case hy => (intro w hSw; (try dsimp only at hSw); go_simp; (try with_reducible rfl))
                    try simp only [Act.put, List.setIfInBounds_toArray, List.set_cons_zero, List.set_cons_succ]
                    refine wpAnyH_take (i := 10) (oi := ⟨some 102, _, _, _, _, _⟩) (v := ?_) rfl (by kernel_rfl) (by kernel_rfl) (by kernel_rfl) (fun _ _ _ h => h) (Or.inl ⟨by rfl, ?hy⟩) (by assumption) ?_
                    case hy => (intro w hSw; (try dsimp only at hSw); go_simp; (try with_reducible rfl))
                    try simp only [Act.put, List.setIfInBounds_toArray, List.set_cons_zero, List.set_cons_succ]
                    refine wpAnyH_ready (rs := [12]) (by kernel_rfl) (by simp) ?_
                    refine AllReadyH.cons (o := ⟨none, _, _, _, _, _⟩) rfl (fun K hK => ?_) AllReadyH.nil
                    have he := (st.elv _ rfl).2.1
                    have q0 := Lib.cell_of_heap he 0
                    have q1 := Lib.cell_of_heap he 1
                    have r0 := frozen_block (j := 0) he
                    have r1 := frozen_block (j := 1) he
                    clear he
                    go_simp
                    have sn := st.stored (.int .i64 (fk : Nat)) (.int .i64 (tk : Nat))
                    refine hK.out _ _ ?_ (fun hHeld => ?_)
                    · exact keptN sn.2.1 KZ.out.box
                    clear hK K q0 q1 r0 r1
                    try simp only [Act.put, List.setIfInBounds_toArray, List.set_cons_zero, List.set_cons_succ]
                    refine wpAnyH_take (i := 13) (oi := ⟨some 20, _, _, _, _, _⟩) (v := ?_) rfl (by kernel_rfl) (by kernel_rfl) (by kernel_rfl) (fun _ _ _ h => h) (Or.inl ⟨by rfl, ?hy⟩) (by assumption) ?_
                    case hy => (intro w hSw; (try dsimp only at hSw); go_simp; (try with_reducible rfl))
                    try simp only [Act.put, List.setIfInBounds_toArray, List.set_cons_zero, List.set_cons_succ]
                    refine wpAnyH_done (by kernel_rfl) ?_ _
                    go_wp2_with fail
                    go_meet
                    exact ⟨bs, rfl, rfl, sn.1, sn.2.1⟩
              · go_simp
                have sn := st.one
                refine hK.out _ _ ?_ (fun hHeld => ?_)
                · exact keptN sn.below KZ.out.box
                clear hK K st
                try simp only [Act.put, List.setIfInBounds_toArray, List.set_cons_zero, List.set_cons_succ]
                obtain ⟨bo, hc⟩ : ∃ x, x = W0.heap.size := ⟨_, rfl⟩
                obtain ⟨W49, hw⟩ : ∃ x, x = W0.alloc (.cells #[.int .i64 (k : Nat)] 3) := ⟨_, rfl⟩
                rw [← hw] at sn hHeld
                rw [← hw]
                rw [← hc] at sn
                rw [← hc]
                clear hw hc
                have st := sn
                clear sn
                refine wpAnyH_ready (rs := [1, 11]) (by kernel_rfl) (by simp) ?_
                refine AllReadyH.cons (o := ⟨some 94, _, _, _, _, _⟩) rfl (fun K hK => ?_) (AllReadyH.cons (o := ⟨some 19, _, _, _, _, _⟩) rfl (fun K hK => ?_) AllReadyH.nil)
                · go_simp
                  have sn := st.zero
                  refine hK.out _ _ ?_ (fun hHeld => ?_)
                  · exact keptN sn.below KZ.out.box
                  clear hK K st
                  try simp only [Act.put, List.setIfInBounds_toArray, List.set_cons_zero, List.set_cons_succ]
                  obtain ⟨bz, hc⟩ : ∃ x, x = W49.heap.size := ⟨_, rfl⟩
                  obtain ⟨W50, hw⟩ : ∃ x, x = W49.alloc (.cells #[] 3) := ⟨_, rfl⟩
                  rw [← hw] at sn hHeld
                  rw [← hw]
                  rw [← hc] at sn
                  rw [← hc]
                  obtain ⟨vz, hv⟩ : ∃ x : Value, x = .slice (some ⟨bz, 0, none⟩) 0 0 := ⟨_, rfl⟩
                  rw [← hv] at sn
                  rw [← hv]
                  clear hv
                  clear hw hc
                  have st := sn
                  clear sn
                  refine wpAnyH_ready (rs := [3, 11]) (by kernel_rfl) (by simp) ?_
                  refine AllReadyH.cons (o := ⟨some 96, _, _, _, _, _⟩) rfl (fun K hK => ?_) (AllReadyH.cons (o := ⟨some 19, _, _, _, _, _⟩) rfl (fun K hK => ?_) AllReadyH.nil)
                  · obtain ⟨va, W51, hrun, sn⟩ := st.app 51 (own_below PR.out st.below) (by simp; omega)
                    rw [List.nil_append] at sn
                    refine opH_append rfl _ _ _ rfl rfl rfl hrun ?_
                    refine hK.out _ _ ?_ (fun hHeld => ?_)
                    · exact keptN sn.below KZ.out.box
                    clear hK K hrun st
                    try simp only [Act.put, List.setIfInBounds_toArray, List.set_cons_zero, List.set_cons_succ]
                    have st := sn
                    clear sn
                    refine wpAnyH_ready (rs := [6, 11]) (by kernel_rfl) (by simp) ?_
                    refine AllReadyH.cons (o := ⟨some 99, _, _, _, _, _⟩) rfl (fun K hK => ?_) (AllReadyH.cons (o := ⟨some 19, _, _, _, _, _⟩) rfl (fun K hK => ?_) AllReadyH.nil)
                    · obtain ⟨vb, W52, hrun, sn⟩ := st.app 51 st.oneRow (by simp; omega)
                      refine opH_append rfl _ _ _ rfl rfl rfl hrun ?_
                      refine hK.out _ _ ?_ (fun hHeld => ?_)
                      · exact keptN sn.below KZ.out.box
                      clear hK K hrun st
                      try simp only [Act.put, List.setIfInBounds_toArray, List.set_cons_zero, List.set_cons_succ]
                      have st := sn
                      clear sn
                      refine wpAnyH_ready (rs := [7, 11]) (by kernel_rfl) (by simp) ?_
                      refine AllReadyH.cons (o := ⟨some 100, _, _, _, _, _⟩) rfl (fun K hK => ?_) (AllReadyH.cons (o := ⟨some 19, _, _, _, _, _⟩) rfl (fun K hK => ?_) AllReadyH.nil)
                      · go_simp
                        go_at_call 38
                        with_reducible refine (HSpan.out _ _ _ _ st).mono ?_
                        rintro e W53 ⟨rfl, hbC⟩
                        have sn := st.call hbC
                        refine hK.out _ _ ?_ (fun hHeld => ?_)
                        · exact keptN sn.below KZ.out.box
                        clear hK K hbC st
                        try simp only [Act.put, List.setIfInBounds_toArray, List.set_cons_zero, List.set_cons_succ]
                        have st := sn
                        clear sn
                        refine wpAnyH_take (i := 8) (oi := ⟨some 92, _, _, _, _, _⟩) (v := ?_) rfl (by kernel_rfl) (by kernel_rfl) (by kernel_rfl) (fun _ _ _ h => h) (Or.inl ⟨by rfl, ?hy⟩) (by assumption) ?_
                        case hy => (intro w hSw; (try dsimp only at hSw); go_simp; (try with_reducible rfl))
                        try simp only [Act.put, List.setIfInBounds_toArray, List.set_cons_zero, List.set_cons_succ]
                        refine wpAnyH_take (i := 9) (oi := ⟨some 101, _, _, _, _, _⟩) (v := ?_) rfl (by kernel_rfl) (by kernel_rfl) (by kernel_rfl) (fun _ _ _ h => h) (Or.inl ⟨by rfl, ?hy⟩) (by assumption) ?_
                        case hy => (intro w hSw; (try dsimp only at hSw); go_simp; (try with_reducible rfl))
                        try simp only [Act.put, List.setIfInBounds_toArray, List.set_cons_zero, List.set_cons_succ]
                        refine wpAnyH_take (i := 10) (oi := ⟨some 102, _, _, _, _, _⟩) (v := ?_) rfl (by kernel_rfl) (by kernel_rfl) (by kernel_rfl) (fun _ _ _ h => h) (Or.inl ⟨by rfl, ?hy⟩) (by assumption) ?_
                        case hy => (intro w hSw; (try dsimp only at hSw); go_simp; (try with_reducible rfl))
                        try simp only [Act.put, List.setIfInBounds_toArray, List.set_cons_zero, List.set_cons_succ]
                        refine wpAnyH_ready (rs := [11]) (by kernel_rfl) (by simp) ?_
                        refine AllReadyH.cons (o := ⟨some 19, _, _, _, _, _⟩) rfl (fun K hK => ?_) AllReadyH.nil
                        go_simp
                        have sn := st.span
                        refine hK.out _ _ ?_ (fun hHeld => ?_)
                        · exact keptN sn.below KZ.out.box
                        clear hK K st
                        try simp only [Act.put, List.setIfInBounds_toArray, List.set_cons_zero, List.set_cons_succ]
                        obtain ⟨bs, hc⟩ : ∃ x, x = W53.heap.size := ⟨_, rfl⟩
                        obtain ⟨W54, hw⟩ : ∃ x, x = W53.alloc (.cells #[.int .i64 0, .int .i64 0] 62) := ⟨_, rfl⟩
                        rw [← hw] at sn hHeld
                        rw [← hw]
                        rw [← hc] at sn
                        rw [← hc]
                        clear hw hc
                        have st := sn
                        clear sn
                        refine wpAnyH_ready (rs := [12]) (by kernel_rfl) (by simp) ?_
                        refine AllReadyH.cons (o := ⟨none, _, _, _, _, _⟩) rfl (fun K hK => ?_) AllReadyH.nil
                        have he := (st.elv _ rfl).2.1
                        have q0 := Lib.cell_of_heap he 0
                        have q1 := Lib.cell_of_heap he 1
                        have r0 := frozen_block (j := 0) he
                        have r1 := frozen_block (j := 1) he
                        clear he
                        go_simp
                        have sn := st.stored (.int .i64 (fk : Nat)) (.int .i64 (tk : Nat))
                        refine hK.out _ _ ?_ (fun hHeld => ?_)
                        · exact keptN sn.2.1 KZ.out.box
                        clear hK K q0 q1 r0 r1
                        try simp only [Act.put, List.setIfInBounds_toArray, List.set_cons_zero, List.set_cons_succ]
                        refine wpAnyH_take (i := 13) (oi := ⟨some 20, _, _, _, _, _⟩) (v := ?_) rfl (by kernel_rfl) (by kernel_rfl) (by kernel_rfl) (fun _ _ _ h => h) (Or.inl ⟨by rfl, ?hy⟩) (by assumption) ?_
                        case hy => (intro w hSw; (try dsimp only at hSw); go_simp; (try with_reducible rfl))
                        try simp only [Act.put, List.setIfInBounds_toArray, List.set_cons_zero, List.set_cons_succ]
                        refine wpAnyH_done (by kernel_rfl) ?_ _
                        go_wp2_with fail
                        go_meet
                        exact ⟨bs, rfl, rfl, sn.1, sn.2.1⟩
                      · go_simp
                        have sn := st.span
                        refine hK.out _ _ ?_ (fun hHeld => ?_)
                        · exact keptN sn.below KZ.out.box
                        clear hK K st
                        try simp only [Act.put, List.setIfInBounds_toArray, List.set_cons_zero, List.set_cons_succ]
                        obtain ⟨bs, hc⟩ : ∃ x, x = W52.heap.size := ⟨_, rfl⟩
                        obtain ⟨W56, hw⟩ : ∃ x, x = W52.alloc (.cells #[.int .i64 0, .int .i64 0] 62) := ⟨_, rfl⟩
                        rw [← hw] at sn hHeld
                        rw [← hw]
                        rw [← hc] at sn
                        rw [← hc]
                        clear hw hc
                        have st := sn
                        clear sn
                        refine wpAnyH_ready (rs := [7]) (by kernel_rfl) (by simp) ?_
                        refine AllReadyH.cons (o := ⟨some 100, _, _, _, _, _⟩) rfl (fun K hK => ?_) AllReadyH.nil
                        go_simp
                        go_at_call 38
                        with_reducible refine (HSpan.out _ _ _ _ st).mono ?_
                        rintro e W57 ⟨rfl, hbC⟩
                        have sn := st.call hbC
                        refine hK.out _ _ ?_ (fun hHeld => ?_)
                        · exact keptN sn.below KZ.out.box
                        clear hK K hbC st
                        try simp only [Act.put, List.setIfInBounds_toArray, List.set_cons_zero, List.set_cons_succ]
                        have st := sn
                        clear sn
                        refine wpAnyH_take (i := 8) (oi := ⟨some 92, _, _, _, _, _⟩) (v := ?_) rfl (by kernel_rfl) (by kernel_rfl) (by kernel_rfl) (fun _ _ _ h => h) (Or.inl ⟨by rfl, ?hy⟩) (by assumption) ?_
                        case hy => (intro w hSw; (try dsimp only at hSw); go_simp; (try with_reducible rfl))
                        try simp only [Act.put, List.setIfInBounds_toArray, List.set_cons_zero, List.set_cons_succ]
                        refine wpAnyH_take (i := 9) (oi := ⟨some 101, _, _, _, _, _⟩) (v := ?_) rfl (by kernel_rfl) (by kernel_rfl) (by kernel_rfl) (fun _ _ _ h => h) (Or.inl ⟨by rfl, ?hy⟩) (by assumption) ?_
                        case hy => (intro w hSw; (try dsimp only at hSw); go_simp; (try with_reducible rfl))
                        try simp only [Act.put, List.setIfInBounds_toArray, List.set_cons_zero, List.set_cons_succ]
                        refine wpAnyH_take (i := 10) (oi := ⟨some 102, _, _, _, _, _⟩) (v := ?_) rfl (by kernel_rfl) (by kernel_rfl) (by kernel_rfl) (fun _ _ _ h => h) (Or.inl ⟨by rfl, ?hy⟩) (by assumption) ?_
                        case hy => (intro w hSw; (try dsimp only at hSw); go_simp; (try with_reducible rfl))
                        try simp only [Act.put, List.setIfInBounds_toArray, List.set_cons_zero, List.set_cons_succ]
                        refine wpAnyH_ready (rs := [12]) (by kernel_rfl) (by simp) ?_
                        refine AllReadyH.cons (o := ⟨none, _, _, _, _, _⟩) rfl (fun K hK => ?_) AllReadyH.nil
                        have he := (st.elv _ rfl).2.1
                        have q0 := Lib.cell_of_heap he 0
                        have q1 := Lib.cell_of_heap he 1
                        have r0 := frozen_block (j := 0) he
                        have r1 := frozen_block (j := 1) he
                        clear he
                        go_simp
                        have sn := st.stored (.int .i64 (fk : Nat)) (.int .i64 (tk : Nat))
                        refine hK.out _ _ ?_ (fun hHeld => ?_)
                        · exact keptN sn.2.1 KZ.out.box
                        clear hK K q0 q1 r0 r1
                        try simp only [Act.put, List.setIfInBounds_toArray, List.set_cons_zero, List.set_cons_succ]
                        refine wpAnyH_take (i := 13) (oi := ⟨some 20, _, _, _, _, _⟩) (v := ?_) rfl (by kernel_rfl) (by kernel_rfl) (by kernel_rfl) (fun _ _ _ h => h) (Or.inl ⟨by rfl, ?hy⟩) (by assumption) ?_
                        case hy => (intro w hSw; (try dsimp only at hSw); go_simp; (try with_reducible rfl))
                        try simp only [Act.put, List.setIfInBounds_toArray, List.set_cons_zero, List.set_cons_succ]
                        refine wpAnyH_done (by kernel_rfl) ?_ _
                        go_wp2_with fail
                        go_meet
                        exact ⟨bs, rfl, rfl, sn.1, sn.2.1⟩
                    · go_simp
                      have sn := st.span
                      refine hK.out _ _ ?_ (fun hHeld => ?_)
                      · exact keptN sn.below KZ.out.box
                      clear hK K st
                      try simp only [Act.put, List.setIfInBounds_toArray, List.set_cons_zero, List.set_cons_succ]
                      obtain ⟨bs, hc⟩ : ∃ x, x = W51.heap.size := ⟨_, rfl⟩
                      obtain ⟨W59, hw⟩ : ∃ x, x = W51.alloc (.cells #[.int .i64 0, .int .i64 0] 62) := ⟨_, rfl⟩
                      rw [← hw] at sn hHeld
                      rw [← hw]
                      rw [← hc] at sn
                      rw [← hc]
                      clear hw hc
                      have st := sn
                      clear sn
                      refine wpAnyH_ready (rs := [6]) (by kernel_rfl) (by simp) ?_
                      refine AllReadyH.cons (o := ⟨some 99, _, _, _, _, _⟩) rfl (fun K hK => ?_) AllReadyH.nil
                      obtain ⟨vb, W60, hrun, sn⟩ := st.app 51 st.oneRow (by simp; omega)
                      refine opH_append rfl _ _ _ rfl rfl rfl hrun ?_
                      refine hK.out _ _ ?_ (fun hHeld => ?_)
                      · exact keptN sn.below KZ.out.box
                      clear hK K hrun st
                      try simp only [Act.put, List.setIfInBounds_toArray, List.set_cons_zero, List.set_cons_succ]
                      have st := sn
                      clear sn
                      refine wpAnyH_ready (rs := [7]) (by kernel_rfl) (by simp) ?_
                      refine AllReadyH.cons (o := ⟨some 100, _, _, _, _, _⟩) rfl (fun K hK => ?_) AllReadyH.nil
                      go_simp
                      go_at_call 38
                      with_reducible refine (HSpan.out _ _ _ _ st).mono ?_
                      rintro e W61 ⟨rfl, hbC⟩
                      have sn := st.call hbC
                      refine hK.out _ _ ?_ (fun hHeld => ?_)
                      · exact keptN sn.below KZ.out.box
                      clear hK K hbC st
                      try simp only [Act.put, List.setIfInBounds_toArray, List.set_cons_zero, List.set_cons_succ]
                      have st := sn
                      clear sn
                      refine wpAnyH_take (i := 8) (oi := ⟨some 92, _, _, _, _, _⟩) (v := ?_) rfl (by kernel_rfl) (by kernel_rfl) (by kernel_rfl) (fun _ _ _ h => h) (Or.inl ⟨by rfl, ?hy⟩) (by assumption) ?_
                      case hy => (intro w hSw; (try dsimp only at hSw); go_simp; (try with_reducible rfl))
                      try simp only [Act.put, List.setIfInBounds_toArray, List.set_cons_zero, List.set_cons_succ]
                      refine wpAnyH_take (i := 9) (oi := ⟨some 101, _, _, _, _, _⟩) (v := ?_) rfl (by kernel_rfl) (by kernel_rfl) (by kernel_rfl) (fun _ _ _ h => h) (Or.inl ⟨by rfl, ?hy⟩) (by assumption) ?_
                      case hy => (intro w hSw; (try dsimp only at hSw); go_simp; (try with_reducible rfl))
                      try simp only [Act.put, List.setIfInBounds_toArray, List.set_cons_zero, List.set_cons_succ]
                      refine wpAnyH_take (i := 10) (oi := ⟨some 102, _, _, _, _, _⟩) (v := ?_) rfl (by kernel_rfl) (by kernel_rfl) (by kernel_rfl) (fun _ _ _ h => h) (Or.inl ⟨by rfl, ?hy⟩) (by assumption) ?_
                      case hy => (intro w hSw; (try dsimp only at hSw); go_simp; (try with_reducible rfl))
                      try simp only [Act.put, List.setIfInBounds_toArray, List.set_cons_zero, List.set_cons_succ]
                      refine wpAnyH_ready (rs := [12]) (by kernel_rfl) (by simp) ?_
                      refine AllReadyH.cons (o := ⟨none, _, _, _, _, _⟩) rfl (fun K hK => ?_) AllReadyH.nil
                      have he := (st.elv _ rfl).2.1
                      have q0 := Lib.cell_of_heap he 0
                      have q1 := Lib.cell_of_heap he 1
                      have r0 := frozen_block (j := 0) he
                      have r1 := frozen_block (j := 1) he
                      clear he
                      go_simp
                      have sn := st.stored (.int .i64 (fk : Nat)) (.int .i64 (tk : Nat))
                      refine hK.out _ _ ?_ (fun hHeld => ?_)
                      · exact keptN sn.2.1 KZ.out.box
                      clear hK K q0 q1 r0 r1
                      try simp only [Act.put, List.setIfInBounds_toArray, List.set_cons_zero, List.set_cons_succ]
                      refine wpAnyH_take (i := 13) (oi := ⟨some 20, _, _, _, _, _⟩) (v := ?_) rfl (by kernel_rfl) (by kernel_rfl) (by kernel_rfl) (fun _ _ _ h => h) (Or.inl ⟨by rfl, ?hy⟩) (by assumption) ?_
                      case hy => (intro w hSw; (try dsimp only at hSw); go_simp; (try with_reducible rfl))
                      try simp only [Act.put, List.setIfInBounds_toArray, List.set_cons_zero, List.set_cons_succ]
                      refine wpAnyH_done (by kernel_rfl) ?_ _
                      go_wp2_with fail
                      go_meet
                      exact ⟨bs, rfl, rfl, sn.1, sn.2.1⟩
                  · go_simp
                    have sn := st.span
                    refine hK.out _ _ ?_ (fun hHeld => ?_)
                    · exact keptN sn.below KZ.out.box
                    clear hK K st
                    try simp only [Act.put, List.setIfInBounds_toArray, List.set_cons_zero, List.set_cons_succ]
                    obtain ⟨bs, hc⟩ : ∃ x, x = W50.heap.size := ⟨_, rfl⟩
                    obtain ⟨W63, hw⟩ : ∃ x, x = W50.alloc (.cells #[.int .i64 0, .int .i64 0] 62) := ⟨_, rfl⟩
                    rw [← hw] at sn hHeld
                    rw [← hw]
                    rw [← hc] at sn
                    rw [← hc]
                    clear hw hc
                    have st := sn
                    clear sn
                    refine wpAnyH_ready (rs := [3]) (by kernel_rfl) (by simp) ?_
                    refine AllReadyH.cons (o := ⟨some 96, _, _, _, _, _⟩) rfl (fun K hK => ?_) AllReadyH.nil
                    obtain ⟨va, W64, hrun, sn⟩ := st.app 51 (own_below PR.out st.below) (by simp; omega)
                    rw [List.nil_append] at sn
                    refine opH_append rfl _ _ _ rfl rfl rfl hrun ?_
                    refine hK.out _ _ ?_ (fun hHeld => ?_)
                    · exact keptN sn.below KZ.out.box
                    clear hK K hrun st
                    try simp only [Act.put, List.setIfInBounds_toArray, List.set_cons_zero, List.set_cons_succ]
                    have st := sn
                    clear sn
                    refine wpAnyH_ready (rs := [6]) (by kernel_rfl) (by simp) ?_
                    refine AllReadyH.cons (o := ⟨some 99, _, _, _, _, _⟩) rfl (fun K hK => ?_) AllReadyH.nil
                    obtain ⟨vb, W65, hrun, sn⟩ := st.app 51 st.oneRow (by simp; omega)
                    refine opH_append rfl _ _ _ rfl rfl rfl hrun ?_
                    refine hK.out _ _ ?_ (fun hHeld => ?_)
                    · exact keptN sn.below KZ.out.box
                    clear hK K hrun st
                    try simp only [Act.put, List.setIfInBounds_toArray, List.set_cons_zero, List.set_cons_succ]
                    have st := sn
                    clear sn
                    refine wpAnyH_ready (rs := [7]) (by kernel_rfl) (by simp) ?_
                    refine AllReadyH.cons (o := ⟨some 100, _, _, _, _, _⟩) rfl (fun K hK => ?_) AllReadyH.nil
                    go_simp
                    go_at_call 38
                    with_reducible refine (HSpan.out _ _ _ _ st).mono ?_
                    rintro e W66 ⟨rfl, hbC⟩
                    have sn := st.call hbC
                    refine hK.out _ _ ?_ (fun hHeld => ?_)
                    · exact keptN sn.below KZ.out.box
                    clear hK K hbC st
                    try simp only [Act.put, List.setIfInBounds_toArray, List.set_cons_zero, List.set_cons_succ]
                    have st := sn
                    clear sn
                    refine wpAnyH_take (i := 8) (oi := ⟨some 92, _, _, _, _, _⟩) (v := ?_) rfl (by kernel_rfl) (by kernel_rfl) (by kernel_rfl) (fun _ _ _ h => h) (Or.inl ⟨by rfl, ?hy⟩) (by assumption) ?_
                    case hy => (intro w hSw; (try dsimp only at hSw); go_simp; (try with_reducible rfl))
                    try simp only [Act.put, List.setIfInBounds_toArray, List.set_cons_zero, List.set_cons_succ]
                    refine wpAnyH_take (i := 9) (oi := ⟨some 101, _, _, _, _, _⟩) (v := ?_) rfl (by kernel_rfl) (by kernel_rfl) (by kernel_rfl) (fun _ _ _ h => h) (Or.inl ⟨by rfl, ?hy⟩) (by assumption) ?_
                    case hy => (intro w hSw; (try dsimp only at hSw); go_simp; (try with_reducible rfl))
                    try simp only [Act.put, List.setIfInBounds_toArray, List.set_cons_zero, List.set_cons_succ]
                    refine wpAnyH_take (i := 10) (oi := ⟨some 102, _, _, _, _, _⟩) (v := ?_) rfl (by kernel_rfl) (by kernel_rfl) (by kernel_rfl) (fun _ _ _ h => h) (Or.inl ⟨by rfl, ?hy⟩) (by assumption) ?_
                    case hy => (intro w hSw; (try dsimp only at hSw); go_simp; (try with_reducible rfl))
                    try simp only [Act.put, List.setIfInBounds_toArray, List.set_cons_zero, List.set_cons_succ]
                    refine wpAnyH_ready (rs := [12]) (by kernel_rfl) (by simp) ?_
                    refine AllReadyH.cons (o := ⟨none, _, _, _, _, _⟩) rfl (fun K hK => ?_) AllReadyH.nil
                    have he := (st.elv _ rfl).2.1
                    have q0 := Lib.cell_of_heap he 0
                    have q1 := Lib.cell_of_heap he 1
                    have r0 := frozen_block (j := 0) he
                    have r1 := frozen_block (j := 1) he
                    clear he
                    go_simp
                    have sn := st.stored (.int .i64 (fk : Nat)) (.int .i64 (tk : Nat))
                    refine hK.out _ _ ?_ (fun hHeld => ?_)
                    · exact keptN sn.2.1 KZ.out.box
                    clear hK K q0 q1 r0 r1
                    try simp only [Act.put, List.setIfInBounds_toArray, List.set_cons_zero, List.set_cons_succ]
                    refine wpAnyH_take (i := 13) (oi := ⟨some 20, _, _, _, _, _⟩) (v := ?_) rfl (by kernel_rfl) (by kernel_rfl) (by kernel_rfl) (fun _ _ _ h => h) (Or.inl ⟨by rfl, ?hy⟩) (by assumption) ?_
                    case hy => (intro w hSw; (try dsimp only at hSw); go_simp; (try with_reducible rfl))
                    try simp only [Act.put, List.setIfInBounds_toArray, List.set_cons_zero, List.set_cons_succ]
                    refine wpAnyH_done (by kernel_rfl) ?_ _
                    go_wp2_with fail
                    go_meet
                    exact ⟨bs, rfl, rfl, sn.1, sn.2.1⟩
                · go_simp
                  have sn := st.span
                  refine hK.out _ _ ?_ (fun hHeld => ?_)
                  · exact keptN sn.below KZ.out.box
                  clear hK K st
                  try simp only [Act.put, List.setIfInBounds_toArray, List.set_cons_zero, List.set_cons_succ]
                  obtain ⟨bs, hc⟩ : ∃ x, x = W49.heap.size := ⟨_, rfl⟩
                  obtain ⟨W68, hw⟩ : ∃ x, x = W49.alloc (.cells #[.int .i64 0, .int .i64 0] 62) := ⟨_, rfl⟩
                  rw [← hw] at sn hHeld
                  rw [← hw]
                  rw [← hc] at sn
                  rw [← hc]
                  clear hw hc
                  have st := sn
                  clear sn
                  refine wpAnyH_ready (rs := [1]) (by kernel_rfl) (by simp) ?_
                  refine AllReadyH.cons (o := ⟨some 94, _, _, _, _, _⟩) rfl (fun K hK => ?_) AllReadyH.nil
                  go_simp
                  have sn := st.zero
                  refine hK.out _ _ ?_ (fun hHeld => ?_)
                  · exact keptN sn.below KZ.out.box
                  clear hK K st
                  try simp only [Act.put, List.setIfInBounds_toArray, List.set_cons_zero, List.set_cons_succ]
                  obtain ⟨bz, hc⟩ : ∃ x, x = W68.heap.size := ⟨_, rfl⟩
                  obtain ⟨W69, hw⟩ : ∃ x, x = W68.alloc (.cells #[] 3) := ⟨_, rfl⟩
                  rw [← hw] at sn hHeld
                  rw [← hw]
                  rw [← hc] at sn
                  rw [← hc]
                  obtain ⟨vz, hv⟩ : ∃ x : Value, x = .slice (some ⟨bz, 0, none⟩) 0 0 := ⟨_, rfl⟩
                  rw [← hv] at sn
                  rw [← hv]
                  clear hv
                  clear hw hc
                  have st := sn
                  clear sn
                  refine wpAnyH_ready (rs := [3]) (by kernel_rfl) (by simp) ?_
                  refine AllReadyH.cons (o := ⟨some 96, _, _, _, _, _⟩) rfl (fun K hK => ?_) AllReadyH.nil
                  obtain ⟨va, W70, hrun, sn⟩ := st.app 51 (own_below PR.out st.below) (by simp; omega)
                  rw [List.nil_append] at sn
                  refine opH_append rfl _ _ _ rfl rfl rfl hrun ?_
                  refine hK.out _ _ ?_ (fun hHeld => ?_)
                  · exact keptN sn.below KZ.out.box
                  clear hK K hrun st
                  try simp only [Act.put, List.setIfInBounds_toArray, List.set_cons_zero, List.set_cons_succ]
                  have st := sn
                  clear sn
                  refine wpAnyH_ready (rs := [6]) (by kernel_rfl) (by simp) ?_
                  refine AllReadyH.cons (o := ⟨some 99, _, _, _, _, _⟩) rfl (fun K hK => ?_) AllReadyH.nil
                  obtain ⟨vb, W71, hrun, sn⟩ := st.app 51 st.oneRow (by simp; omega)
                  refine opH_append rfl _ _ _ rfl rfl rfl hrun ?_
                  refine hK.out _ _ ?_ (fun hHeld => ?_)
                  · exact keptN sn.below KZ.out.box
                  clear hK K hrun st
                  try simp only [Act.put, List.setIfInBounds_toArray, List.set_cons_zero, List.set_cons_succ]
                  have st := sn
                  clear sn
                  refine wpAnyH_ready (rs := [7]) (by kernel_rfl) (by simp) ?_
                  refine AllReadyH.cons (o := ⟨some 100, _, _, _, _, _⟩) rfl (fun K hK => ?_) AllReadyH.nil
                  go_simp
                  go_at_call 38
                  with_reducible refine (HSpan.out _ _ _ _ st).mono ?_
                  rintro e W72 ⟨rfl, hbC⟩
                  have sn := st.call hbC
                  refine hK.out _ _ ?_ (fun hHeld => ?_)
                  · exact keptN sn.below KZ.out.box
                  clear hK K hbC st
                  try simp only [Act.put, List.setIfInBounds_toArray, List.set_cons_zero, List.set_cons_succ]
                  have st := sn
                  clear sn
                  refine wpAnyH_take (i := 8) (oi := ⟨some 92, _, _, _, _, _⟩) (v := ?_) rfl (by kernel_rfl) (by kernel_rfl) (by kernel_rfl) (fun _ _ _ h => h) (Or.inl ⟨by rfl, ?hy⟩) (by assumption) ?_
                  case hy => (intro w hSw; (try dsimp only at hSw); go_simp; (try with_reducible rfl))
                  try simp only [Act.put, List.setIfInBounds_toArray, List.set_cons_zero, List.set_cons_succ]
                  refine wpAnyH_take (i := 9) (oi := ⟨some 101, _, _, _, _, _⟩) (v := ?_) rfl (by kernel_rfl) (by kernel_rfl) (by kernel_rfl) (fun _ _ _ h => h) (Or.inl ⟨by rfl, ?hy⟩) (by assumption) ?_
                  case hy => (intro w hSw; (try dsimp only at hSw); go_simp; (try with_reducible rfl))
                  try simp only [Act.put, List.setIfInBounds_toArray, List.set_cons_zero, List.set_cons_succ]
                  refine wpAnyH_take (i := 10) (oi := ⟨some 102, _, _, _, _, _⟩) (v := ?_) rfl (by kernel_rfl) (by kernel_rfl) (by kernel_rfl) (fun _ _ _ h => h) (Or.inl ⟨by rfl, ?hy⟩) (by assumption) ?_
                  case hy => (intro w hSw; (try dsimp only at hSw); go_simp; (try with_reducible rfl))
                  try simp only [Act.put, List.setIfInBounds_toArray, List.set_cons_zero, List.set_cons_succ]
                  refine wpAnyH_ready (rs := [12]) (by kernel_rfl) (by simp) ?_
                  refine AllReadyH.cons (o := ⟨none, _, _, _, _, _⟩) rfl (fun K hK => ?_) AllReadyH.nil
                  have he := (st.elv _ rfl).2.1
                  have q0 := Lib.cell_of_heap he 0
                  have q1 := Lib.cell_of_heap he 1
                  have r0 := frozen_block (j := 0) he
                  have r1 := frozen_block (j := 1) he
                  clear he
                  go_simp
                  have sn := st.stored (.int .i64 (fk : Nat)) (.int .i64 (tk : Nat))
                  refine hK.out _ _ ?_ (fun hHeld => ?_)
                  · exact keptN sn.2.1 KZ.out.box
                  clear hK K q0 q1 r0 r1
                  try simp only [Act.put, List.setIfInBounds_toArray, List.set_cons_zero, List.set_cons_succ]
                  refine wpAnyH_take (i := 13) (oi := ⟨some 20, _, _, _, _, _⟩) (v := ?_) rfl (by kernel_rfl) (by kernel_rfl) (by kernel_rfl) (fun _ _ _ h => h) (Or.inl ⟨by rfl, ?hy⟩) (by assumption) ?_
                  case hy => (intro w hSw; (try dsimp only at hSw); go_simp; (try with_reducible rfl))
                  try simp only [Act.put, List.setIfInBounds_toArray, List.set_cons_zero, List.set_cons_succ]
                  refine wpAnyH_done (by kernel_rfl) ?_ _
                  go_wp2_with fail
                  go_meet
                  exact ⟨bs, rfl, rfl, sn.1, sn.2.1⟩
              · go_simp
                have sn := st.span
                refine hK.out _ _ ?_ (fun hHeld => ?_)
                · exact keptN sn.below KZ.out.box
                clear hK K st
                try simp only [Act.put, List.setIfInBounds_toArray, List.set_cons_zero, List.set_cons_succ]
                obtain ⟨bs, hc⟩ : ∃ x, x = W0.heap.size := ⟨_, rfl⟩
                obtain ⟨W74, hw⟩ : ∃ x, x = W0.alloc (.cells #[.int .i64 0, .int .i64 0] 62) := ⟨_, rfl⟩
                rw [← hw] at sn hHeld
                rw [← hw]
                rw [← hc] at sn
                rw [← hc]
                clear hw hc
                have st := sn
                clear sn
                refine wpAnyH_ready (rs := [1, 5]) (by kernel_rfl) (by simp) ?_
                refine AllReadyH.cons (o := ⟨some 94, _, _, _, _, _⟩) rfl (fun K hK => ?_) (AllReadyH.cons (o := ⟨some 98, _, _, _, _, _⟩) rfl (fun K hK => ?_) AllReadyH.nil)
                · go_simp
                  have sn := st.zero
                  refine hK.out _ _ ?_ (fun hHeld => ?_)
                  · exact keptN sn.below KZ.out.box
                  clear hK K st
                  try simp only [Act.put, List.setIfInBounds_toArray, List.set_cons_zero, List.set_cons_succ]
                  obtain ⟨bz, hc⟩ : ∃ x, x = W74.heap.size := ⟨_, rfl⟩
                  obtain ⟨W75, hw⟩ : ∃ x, x = W74.alloc (.cells #[] 3) := ⟨_, rfl⟩
                  rw [← hw] at sn hHeld
                  rw [← hw]
                  rw [← hc] at sn
                  rw [← hc]
                  obtain ⟨vz, hv⟩ : ∃ x : Value, x = .slice (some ⟨bz, 0, none⟩) 0 0 := ⟨_, rfl⟩
                  rw [← hv] at sn
                  rw [← hv]
                  clear hv
                  clear hw hc
                  have st := sn
                  clear sn
                  refine wpAnyH_ready (rs := [3, 5]) (by kernel_rfl) (by simp) ?_
                  refine AllReadyH.cons (o := ⟨some 96, _, _, _, _, _⟩) rfl (fun K hK => ?_) (AllReadyH.cons (o := ⟨some 98, _, _, _, _, _⟩) rfl (fun K hK => ?_) AllReadyH.nil)
                  · obtain ⟨va, W76, hrun, sn⟩ := st.app 51 (own_below PR.out st.below) (by simp; omega)
                    rw [List.nil_append] at sn
                    refine opH_append rfl _ _ _ rfl rfl rfl hrun ?_
                    refine hK.out _ _ ?_ (fun hHeld => ?_)
                    · exact keptN sn.below KZ.out.box
                    clear hK K hrun st
                    try simp only [Act.put, List.setIfInBounds_toArray, List.set_cons_zero, List.set_cons_succ]
                    have st := sn
                    clear sn
                    refine wpAnyH_ready (rs := [5]) (by kernel_rfl) (by simp) ?_
                    refine AllReadyH.cons (o := ⟨some 98, _, _, _, _, _⟩) rfl (fun K hK => ?_) AllReadyH.nil
                    go_simp
                    have sn := st.one
                    refine hK.out _ _ ?_ (fun hHeld => ?_)
                    · exact keptN sn.below KZ.out.box
                    clear hK K st
                    try simp only [Act.put, List.setIfInBounds_toArray, List.set_cons_zero, List.set_cons_succ]
                    obtain ⟨bo, hc⟩ : ∃ x, x = W76.heap.size := ⟨_, rfl⟩
                    obtain ⟨W77, hw⟩ : ∃ x, x = W76.alloc (.cells #[.int .i64 (k : Nat)] 3) := ⟨_, rfl⟩
                    rw [← hw] at sn hHeld
                    rw [← hw]
                    rw [← hc] at sn
                    rw [← hc]
                    clear hw hc
                    have st := sn
                    clear sn
                    refine wpAnyH_ready (rs := [6]) (by kernel_rfl) (by simp) ?_
                    refine AllReadyH.cons (o := ⟨some 99, _, _, _, _, _⟩) rfl (fun K hK => ?_) AllReadyH.nil
                    obtain ⟨vb, W78, hrun, sn⟩ := st.app 51 st.oneRow (by simp; omega)
                    refine opH_append rfl _ _ _ rfl rfl rfl hrun ?_
                    refine hK.out _ _ ?_ (fun hHeld => ?_)
                    · exact keptN sn.below KZ.out.box
                    clear hK K hrun st
                    try simp only [Act.put, List.setIfInBounds_toArray, List.set_cons_zero, List.set_cons_succ]
                    have st := sn
                    clear sn
                    refine wpAnyH_ready (rs := [7]) (by kernel_rfl) (by simp) ?_
                    refine AllReadyH.cons (o := ⟨some 100, _, _, _, _, _⟩) rfl (fun K hK => ?_) AllReadyH.nil
                    go_simp
                    go_at_call 38
                    with_reducible refine (HSpan.out _ _ _ _ st).mono ?_
                    rintro e W79 ⟨rfl, hbC⟩
                    have sn := st.call hbC
                    refine hK.out _ _ ?_ (fun hHeld => ?_)
                    · exact keptN sn.below KZ.out.box
                    clear hK K hbC st
                    try simp only [Act.put, List.setIfInBounds_toArray, List.set_cons_zero, List.set_cons_succ]
                    have st := sn
                    clear sn
                    refine wpAnyH_take (i := 8) (oi := ⟨some 92, _, _, _, _, _⟩) (v := ?_) rfl (by kernel_rfl) (by kernel_rfl) (by kernel_rfl) (fun _ _ _ h => h) (Or.inl ⟨by rfl, ?hy⟩) (by assumption) ?_
                    case hy => (intro w hSw; (try dsimp only at hSw); go_simp; (try with_reducible rfl))
                    try simp only [Act.put, List.setIfInBounds_toArray, List.set_cons_zero, List.set_cons_succ]
                    refine wpAnyH_take (i := 9) (oi := ⟨some 101, _, _, _, _, _⟩) (v := ?_) rfl (by kernel_rfl) (by kernel_rfl) (by kernel_rfl) (fun _ _ _ h => h) (Or.inl ⟨by rfl, ?hy⟩) (by assumption) ?_
                    case hy => (intro w hSw; (try dsimp only at hSw); go_simp; (try with_reducible rfl))
                    try simp only [Act.put, List.setIfInBounds_toArray, List.set_cons_zero, List.set_cons_succ]
                    refine wpAnyH_take (i := 10) (oi := ⟨some 102, _, _, _, _, _⟩) (v := ?_) rfl (by kernel_rfl) (by kernel_rfl) (by kernel_rfl) (fun _ _ _ h => h) (Or.inl ⟨by rfl, ?hy⟩) (by assumption) ?_
                    case hy => (intro w hSw; (try dsimp only at hSw); go_simp; (try with_reducible rfl))
                    try simp only [Act.put, List.setIfInBounds_toArray, List.set_cons_zero, List.set_cons_succ]
                    refine wpAnyH_ready (rs := [12]) (by kernel_rfl) (by simp) ?_
                    refine AllReadyH.cons (o := ⟨none, _, _, _, _, _⟩) rfl (fun K hK => ?_) AllReadyH.nil
                    have he := (st.elv _ rfl).2.1
                    have q0 := Lib.cell_of_heap he 0
                    have q1 := Lib.cell_of_heap he 1
                    have r0 := frozen_block (j := 0) he
                    have r1 := frozen_block (j := 1) he
                    clear he
                    go_simp
                    have sn := st.stored (.int .i64 (fk : Nat)) (.int .i64 (tk : Nat))
                    refine hK.out _ _ ?_ (fun hHeld => ?_)
                    · exact keptN sn.2.1 KZ.out.box
                    clear hK K q0 q1 r0 r1
                    try simp only [Act.put, List.setIfInBounds_toArray, List.set_cons_zero, List.set_cons_succ]
                    refine wpAnyH_take (i := 13) (oi := ⟨some 20, _, _, _, _, _⟩) (v := ?_) rfl (by kernel_rfl) (by kernel_rfl) (by kernel_rfl) (fun _ _ _ h => h) (Or.inl ⟨by rfl, ?hy⟩) (by assumption) ?_
                    case hy => (intro w hSw; (try dsimp only at hSw); go_simp; (try with_reducible rfl))
                    try simp only [Act.put, List.setIfInBounds_toArray, List.set_cons_zero, List.set_cons_succ]
                    refine wpAnyH_done (by kernel_rfl) ?_ _
                    go_wp2_with fail
                    go_meet
                    exact ⟨bs, rfl, rfl, sn.1, sn.2.1⟩
                  · go_simp
                    have sn := st.one
                    refine hK.out _ _ ?_ (fun hHeld => ?_)
                    · exact keptN sn.below KZ.out.box
                    clear hK K st
                    try simp only [Act.put, List.setIfInBounds_toArray, List.set_cons_zero, List.set_cons_succ]
                    obtain ⟨bo, hc⟩ : ∃ x, x = W75.heap.size := ⟨_, rfl⟩
                    obtain ⟨W81, hw⟩ : ∃ x, x = W75.alloc (.cells #[.int .i64 (k : Nat)] 3) := ⟨_, rfl⟩
                    rw [← hw] at sn hHeld
                    rw [← hw]
                    rw [← hc] at sn
                    rw [← hc]
                    clear hw hc
                    have st := sn
                    clear sn
                    refine wpAnyH_ready (rs := [3]) (by kernel_rfl) (by simp) ?_
                    refine AllReadyH.cons (o := ⟨some 96, _, _, _, _, _⟩) rfl (fun K hK => ?_) AllReadyH.nil
                    obtain ⟨va, W82, hrun, sn⟩ := st.app 51 (own_below PR.out st.below) (by simp; omega)
                    rw [List.nil_append] at sn
                    refine opH_append rfl _ _ _ rfl rfl rfl hrun ?_
                    refine hK.out _ _ ?_ (fun hHeld => ?_)
                    · exact keptN sn.below KZ.out.box
                    clear hK K hrun st
                    try simp only [Act.put, List.setIfInBounds_toArray, List.set_cons_zero, List.set_cons_succ]
                    have st := sn
                    clear sn
                    refine wpAnyH_ready (rs := [6]) (by kernel_rfl) (by simp) ?_
                    refine AllReadyH.cons (o := ⟨some 99, _, _, _, _, _⟩) rfl (fun K hK => ?_) AllReadyH.nil
                    obtain ⟨vb, W83, hrun, sn⟩ := st.app 51 st.oneRow (by simp; omega)
                    refine opH_append rfl _ _ _ rfl rfl rfl hrun ?_
                    refine hK.out _ _ ?_ (fun hHeld => ?_)
                    · exact keptN sn.below KZ.out.box
                    clear hK K hrun st
                    try simp only [Act.put, List.setIfInBounds_toArray, List.set_cons_zero, List.set_cons_succ]
                    have st := sn
                    clear sn
                    refine wpAnyH_ready (rs := [7]) (by kernel_rfl) (by simp) ?_
                    refine AllReadyH.cons (o := ⟨some 100, _, _, _, _, _⟩) rfl (fun K hK => ?_) AllReadyH.nil
                    go_simp
                    go_at_call 38
                    with_reducible refine (HSpan.out _ _ _ _ st).mono ?_
                    rintro e W84 ⟨rfl, hbC⟩
                    have sn := st.call hbC
                    refine hK.out _ _ ?_ (fun hHeld => ?_)
                    · exact keptN sn.below KZ.out.box
                    clear hK K hbC st
                    try simp only [Act.put, List.setIfInBounds_toArray, List.set_cons_zero, List.set_cons_succ]
                    have st := sn
                    clear sn
                    refine wpAnyH_take (i := 8) (oi := ⟨some 92, _, _, _, _, _⟩) (v := ?_) rfl (by kernel_rfl) (by kernel_rfl) (by kernel_rfl) (fun _ _ _ h => h) (Or.inl ⟨by rfl, ?hy⟩) (by assumption) ?_
                    case hy => (intro w hSw; (try dsimp only at hSw); go_simp; (try with_reducible rfl))
                    try simp only [Act.put, List.setIfInBounds_toArray, List.set_cons_zero, List.set_cons_succ]
                    refine wpAnyH_take (i := 9) (oi := ⟨some 101, _, _, _, _, _⟩) (v := ?_) rfl (by kernel_rfl) (by kernel_rfl) (by kernel_rfl) (fun _ _ _ h => h) (Or.inl ⟨by rfl, ?hy⟩) (by assumption) ?_
                    case hy => (intro w hSw; (try dsimp only at hSw); go_simp; (try with_reducible rfl))
                    try simp only [Act.put, List.setIfInBounds_toArray, List.set_cons_zero, List.set_cons_succ]
                    refine wpAnyH_take (i := 10) (oi := ⟨some 102, _, _, _, _, _⟩) (v := ?_) rfl (by kernel_rfl) (by kernel_rfl) (by kernel_rfl) (fun _ _ _ h => h) (Or.inl ⟨by rfl, ?hy⟩) (by assumption) ?_
                    case hy => (intro w hSw; (try dsimp only at hSw); go_simp; (try with_reducible rfl))
                    try simp only [Act.put, List.setIfInBounds_toArray, List.set_cons_zero, List.set_cons_succ]
                    refine wpAnyH_ready (rs := [12]) (by kernel_rfl) (by simp) ?_
                    refine AllReadyH.cons (o := ⟨none, _, _, _, _, _⟩) rfl (fun K hK => ?_) AllReadyH.nil
                    have he := (st.elv _ rfl).2.1
                    have q0 := Lib.cell_of_heap he 0
                    have q1 := Lib.cell_of_heap he 1
                    have r0 := frozen_block (j := 0) he
                    have r1 := frozen_block (j := 1) he
                    clear he
                    go_simp
                    have sn := st.stored (.int .i64 (fk : Nat)) (.int .i64 (tk : Nat))
                    refine hK.out _ _ ?_ (fun hHeld => ?_)
                    · exact keptN sn.2.1 KZ.out.box
                    clear hK K q0 q1 r0 r1
                    try simp only [Act.put, List.setIfInBounds_toArray, List.set_cons_zero, List.set_cons_succ]
                    refine wpAnyH_take (i := 13) (oi := ⟨some 20, _, _, _, _, _⟩) (v := ?_) rfl (by kernel_rfl) (by kernel_rfl) (by kernel_rfl) (fun _ _ _ h => h) (Or.inl ⟨by rfl, ?hy⟩) (by assumption) ?_
                    case hy => (intro w hSw; (try dsimp only at hSw); go_simp; (try with_reducible rfl))
                    try simp only [Act.put, List.setIfInBounds_toArray, List.set_cons_zero, List.set_cons_succ]
                    refine wpAnyH_done (by kernel_rfl) ?_ _
                    go_wp2_with fail
                    go_meet
                    exact ⟨bs, rfl, rfl, sn.1, sn.2.1⟩
                · go_simp
                  have sn := st.one
                  refine hK.out _ _ ?_ (fun hHeld => ?_)
                  · exact keptN sn.below KZ.out.box
                  clear hK K st
                  try simp only [Act.put, List.setIfInBounds_toArray, List.set_cons_zero, List.set_cons_succ]
                  obtain ⟨bo, hc⟩ : ∃ x, x = W74.heap.size := ⟨_, rfl⟩
                  obtain ⟨W86, hw⟩ : ∃ x, x = W74.alloc (.cells #[.int .i64 (k : Nat)] 3) := ⟨_, rfl⟩
                  rw [← hw] at sn hHeld
                  rw [← hw]
                  rw [← hc] at sn
                  rw [← hc]
                  clear hw hc
                  have st := sn
                  clear sn
                  refine wpAnyH_ready (rs := [1]) (by kernel_rfl) (by simp) ?_
                  refine AllReadyH.cons (o := ⟨some 94, _, _, _, _, _⟩) rfl (fun K hK => ?_) AllReadyH.nil
                  go_simp
                  have sn := st.zero
                  refine hK.out _ _ ?_ (fun hHeld => ?_)
                  · exact keptN sn.below KZ.out.box
                  clear hK K st
                  try simp only [Act.put, List.setIfInBounds_toArray, List.set_cons_zero, List.set_cons_succ]
                  obtain ⟨bz, hc⟩ : ∃ x, x = W86.heap.size := ⟨_, rfl⟩
                  obtain ⟨W87, hw⟩ : ∃ x, x = W86.alloc (.cells #[] 3) := ⟨_, rfl⟩
                  rw [← hw] at sn hHeld
                  rw [← hw]
                  rw [← hc] at sn
                  rw [← hc]
                  obtain ⟨vz, hv⟩ : ∃ x : Value, x = .slice (some ⟨bz, 0, none⟩) 0 0 := ⟨_, rfl⟩
                  rw [← hv] at sn
                  rw [← hv]
                  clear hv
                  clear hw hc
                  have st := sn
                  clear sn
                  refine wpAnyH_ready (rs := [3]) (by kernel_rfl) (by simp) ?_
                  refine AllReadyH.cons (o := ⟨some 96, _, _, _, _, _⟩) rfl (fun K hK => ?_) AllReadyH.nil
                  obtain ⟨va, W88, hrun, sn⟩ := st.app 51 (own_below PR.out st.below) (by simp; omega)
                  rw [List.nil_append] at sn
                  refine opH_append rfl _ _ _ rfl rfl rfl hrun ?_
                  refine hK.out _ _ ?_ (fun hHeld => ?_)
                  · exact keptN sn.below KZ.out.box
                  clear hK K hrun st
                  try simp only [Act.put, List.setIfInBounds_toArray, List.set_cons_zero, List.set_cons_succ]
                  have st := sn
                  clear sn
                  refine wpAnyH_ready (rs := [6]) (by kernel_rfl) (by simp) ?_
                  refine AllReadyH.cons (o := ⟨some 99, _, _, _, _, _⟩) rfl (fun K hK => ?_) AllReadyH.nil
                  obtain ⟨vb, W89, hrun, sn⟩ := st.app 51 st.oneRow (by simp; omega)
                  refine opH_append rfl _ _ _ rfl rfl rfl hrun ?_
                  refine hK.out _ _ ?_ (fun hHeld => ?_)
                  · exact keptN sn.below KZ.out.box
                  clear hK K hrun st
                  try simp only [Act.put, List.setIfInBounds_toArray, List.set_cons_zero, List.set_cons_succ]
                  have st := sn
                  clear sn
                  refine wpAnyH_ready (rs := [7]) (by kernel_rfl) (by simp) ?_
                  refine AllReadyH.cons (o := ⟨some 100, _, _, _, _, _⟩) rfl (fun K hK => ?_) AllReadyH.nil
                  go_simp
                  go_at_call 38
                  with_reducible refine (HSpan.out _ _ _ _ st).mono ?_
                  rintro e W90 ⟨rfl, hbC⟩
                  have sn := st.call hbC
                  refine hK.out _ _ ?_ (fun hHeld => ?_)
                  · exact keptN sn.below KZ.out.box
                  clear hK K hbC st
                  try simp only [Act.put, List.setIfInBounds_toArray, List.set_cons_zero, List.set_cons_succ]
                  have st := sn
                  clear sn
                  refine wpAnyH_take (i := 8) (oi := ⟨some 92, _, _, _, _, _⟩) (v := ?_) rfl (by kernel_rfl) (by kernel_rfl) (by kernel_rfl) (fun _ _ _ h => h) (Or.inl ⟨by rfl, ?hy⟩) (by assumption) ?_
                  case hy => (intro w hSw; (try dsimp only at hSw); go_simp; (try with_reducible rfl))
                  try simp only [Act.put, List.setIfInBounds_toArray, List.set_cons_zero, List.set_cons_succ]
                  refine wpAnyH_take (i := 9) (oi := ⟨some 101, _, _, _, _, _⟩) (v := ?_) rfl (by kernel_rfl) (by kernel_rfl) (by kernel_rfl) (fun _ _ _ h => h) (Or.inl ⟨by rfl, ?hy⟩) (by assumption) ?_
                  case hy => (intro w hSw; (try dsimp only at hSw); go_simp; (try with_reducible rfl))
                  try simp only [Act.put, List.setIfInBounds_toArray, List.set_cons_zero, List.set_cons_succ]
                  refine wpAnyH_take (i := 10) (oi := ⟨some 102, _, _, _, _, _⟩) (v := ?_) rfl (by kernel_rfl) (by kernel_rfl) (by kernel_rfl) (fun _ _ _ h => h) (Or.inl ⟨by rfl, ?hy⟩) (by assumption) ?_
                  case hy => (intro w hSw; (try dsimp only at hSw); go_simp; (try with_reducible rfl))
                  try simp only [Act.put, List.setIfInBounds_toArray, List.set_cons_zero, List.set_cons_succ]
                  refine wpAnyH_ready (rs := [12]) (by kernel_rfl) (by simp) ?_
                  refine AllReadyH.cons (o := ⟨none, _, _, _, _, _⟩) rfl (fun K hK => ?_) AllReadyH.nil
                  have he := (st.elv _ rfl).2.1
                  have q0 := Lib.cell_of_heap he 0
                  have q1 := Lib.cell_of_heap he 1
                  have r0 := frozen_block (j := 0) he
                  have r1 := frozen_block (j := 1) he
                  clear he
                  go_simp
                  have sn := st.stored (.int .i64 (fk : Nat)) (.int .i64 (tk : Nat))
                  refine hK.out _ _ ?_ (fun hHeld => ?_)
                  · exact keptN sn.2.1 KZ.out.box
                  clear hK K q0 q1 r0 r1
                  try simp only [Act.put, List.setIfInBounds_toArray, List.set_cons_zero, List.set_cons_succ]
                  refine wpAnyH_take (i := 13) (oi := ⟨some 20, _, _, _, _, _⟩) (v := ?_) rfl (by kernel_rfl) (by kernel_rfl) (by kernel_rfl) (fun _ _ _ h => h) (Or.inl ⟨by rfl, ?hy⟩) (by assumption) ?_
                  case hy => (intro w hSw; (try dsimp only at hSw); go_simp; (try with_reducible rfl))
                  try simp only [Act.put, List.setIfInBounds_toArray, List.set_cons_zero, List.set_cons_succ]
                  refine wpAnyH_done (by kernel_rfl) ?_ _
                  go_wp2_with fail
                  go_meet
                  exact ⟨bs, rfl, rfl, sn.1, sn.2.1⟩
            case rest =>
              obtain ⟨bs, rfl, rfl, hs, hb⟩ := hcut
              have s0 := Lib.cell_of_heap hs 0
              have s1 := Lib.cell_of_heap hs 1
              have HB2 := Lib.hid (BR.out.trans (hb.mono BR.out.size))
              clear hs hb
              go_wp2_with fail
              exact ⟨⟨k + 1, by omega, by go_num, by rw [HNX.out], HB2.out⟩, by simp only [intOf]; omega⟩
          · have hke : k = x.kids.length := by omega
            subst hke
            rw [List.take_length] at hfk
            have hk2 : decide ((x.kids.length : Int) < (x.kids.length : Int)) = false := by simp
            have hk3 : ¬ (x.kids.length : Int) < (x.kids.length : Int) := by omega
            have e0 := Lib.cell_of_heap N15.out 1
            rcases Nat.eq_zero_or_pos x.kids.length with hx0 | hx0
            · have hx1 : (x.kids.length : Int) = 0 := by omega
              clear hfk
              go_wp2_with fail
              refine (alive5_any wr KZ.out.tabs).mono ?_
              rintro e w10 ⟨rfl, hb⟩
              have BB := Lib.hid (BB.out.trans (hb.mono BB.out.size))
              clear hb
              go_wp2_with fail
              go_ret
              exact ⟨rfl, BB.out⟩
            · have hfb : fk = be := by rw [HBE.out, hfk, HF.out.2.2.2.1 hx0]
              subst hfb
              have hx1 : ¬ (x.kids.length : Int) = 0 := by omega
              have hx2 : ((x.kids.length : Int) == 0) = false := by simpa using hx1
              clear hfk
              go_wp2_with fail
              refine (alive5_any wr KZ.out.tabs).mono ?_
              rintro e w10 ⟨rfl, hb⟩
              have BB := Lib.hid (BB.out.trans (hb.mono BB.out.size))
              clear hb
              go_wp2_with fail
              go_ret
              exact ⟨rfl, BB.out⟩
end Go.Proofs.YtpjlgahbbmlngaaDoor.lawTreeLeaves
