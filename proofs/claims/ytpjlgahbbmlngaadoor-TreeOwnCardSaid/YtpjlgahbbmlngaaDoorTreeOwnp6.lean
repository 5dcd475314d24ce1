/-
  TreeOwn: no function changes its arguments, and results are new memory. No condition: every input. (gen_wto.py)
-/
import Derived.Test.YtpjlgahbbmlngaaDoorTreeOwnp3
import Derived.Test.YtpjlgahbbmlngaaDoorTreeOwnp4
import Derived.Test.YtpjlgahbbmlngaaDoorTreeOwnp5
import Derived.Test.YtpjlgahbbmlngaaDoorTreeLeavesp35
import Derived.Test.YtpjlgahbbmlngaaDoorTreeLeavesp25
import Derived.Deep.RegionHeld3
import Derived.Deep.DeepCutAuto
namespace Go.Proofs.YtpjlgahbbmlngaaDoor.lawTreeOwn
set_option linter.unusedVariables false
set_option linter.unusedSimpArgs false
open Go.ChangeShapes Go.WideShapes Go.RowKit

theorem keptN' {wr W : World} {b : Nat} {x0 x1 x2 x3 : Value} {t : Nat} (hb : Below wr.heap.size wr W) (h1 : wr.heap[b]? = some (.cells #[x0, x1, x2, x3] t (0, 0))) :
    W.cell? ⟨b, 0, none⟩ = some x0 ∧ W.cell? ⟨b, 1, none⟩ = some x1 ∧ W.cell? ⟨b, 2, none⟩ = some x2 ∧ W.cell? ⟨b, 3, none⟩ = some x3 := by
  have e1 := (hb.block b (Array.getElem?_eq_some_iff.1 h1).1).trans h1
  exact ⟨Lib.cell_of_heap e1 0, Lib.cell_of_heap e1 1, Lib.cell_of_heap e1 2, Lib.cell_of_heap e1 3⟩
/-- what Put leaves in its variables: a node in block b, whose kids can be written -/
def PutSt (B : Nat) (s10 s11 : Value) (wr W : World) : Prop :=
  ∃ (b : Nat) (f : Int) (m : Nd) (A : Option Addr) (c : Nat), s10 = .pointer (some ⟨b, 0, none⟩) ∧ s11 = .int .i64 f ∧ (f = 0 ∨ f = 4) ∧ W.heap[b]? = some (.cells (nodeCells m A c) 26 (0, 0)) ∧ wr.heap.size ≤ b ∧ OpenM (fun k => wr.heap.size ≤ k ∧ k ≠ b) W A m.kids.length ∧ m.kids.length ≤ 10000000 ∧ Below wr.heap.size wr W

theorem put_any {W W' : World} {m : Nd} {e : Ending} (h : PutPost W m e W') (hm : m.kids.length ≤ 10000000) : ∃ (m' : Nd) (A : Option Addr) (c : Nat) (f : Int), e = .returned (.tuple #[.agg #[.int .i64 m'.kind, .int .i64 m'.tok.1, .string m'.tok.2, .slice A m'.kids.length c], .int .i64 f]) ∧ (f = 0 ∨ f = 4) ∧ OpenM (fun k => W.heap.size ≤ k) W' A m'.kids.length ∧ m'.kids.length ≤ 10000000 := by
  unfold PutPost at h
  split at h
  · obtain ⟨A, c, rfl, h1, h2, h3⟩ := h
    exact ⟨m, A, c, 0, rfl, .inl rfl, OpenM.of h2 h3, hm⟩
  · exact ⟨zeroNd, none, 0, 4, h, .inr rfl, fun hl => by simp [zeroNd, Nd.kids] at hl, by simp [zeroNd, Nd.kids]⟩

set_option maxRecDepth 100000 in
set_option maxHeartbeats 8000000 in
theorem walk (n0 : Nd) (v0 : Value) (hr0 : rawN n0) (A1 : Option Addr) (c1 : Nat) (l1 : List Int) (hl1 : l1.length ≤ c1) (hc1 : c1 ≤ maxLen) (w : World) (hT : Tabs w) (hN0 : NodeV w v0 n0) (hE1 : IntsA w A1 l1) :
    Calls Tryd.prog 14 #[v0, .slice A1 l1.length c1] w fun e w' => e = .returned (.bool true) ∧ Below w.heap.size w w' := by
  have hN := hN0
  obtain ⟨A0, c0, rfl, hk0⟩ := hN0
  have hB0 : Below w.heap.size w (w.alloc (.cells (nodeCells n0 A0 c0) 26)) := (Below.refl _ _).alloc (Nat.le_refl _) _
  have hcut := Cut_any n0 _ (w.alloc (.cells (nodeCells n0 A0 c0) 26)) hr0 (hN.below hB0)
  have hz := SmZ.of_cut (most := 600) (by decide) (by decide) n0
  have HT := Lib.hid (show _ ∧ _ ∧ _ ∧ _ from ⟨tabs_alloc (o := .cells (nodeCells n0 A0 c0) 26) hT, hE1.below hB0, hl1, hc1⟩)
  have HSh := Lib.hid (fun W (h : IntsA W A1 l1) => short_any A1 c1 l1 W hl1 hc1 h)
  have hLl : (l1.take 40).length ≤ 40 := by rw [List.length_take]; omega
  generalize hzz : cutM 600 n0 = z at hcut hz
  generalize l1.take 40 = R at HSh hLl
  have hraw : rawN z := rawN_of_sh hz.sh hz.count
  have hcut2 := fun W v (h : NodeV W v z) => Cut_any z v W hraw h
  have Hcut := Lib.hid hcut
  have HZ := Lib.hid (show _ ∧ _ ∧ _ ∧ _ from ⟨hz, hz.size, hz.sum, hLl⟩)
  have HB0 := Lib.hid hB0
  clear hcut hz hT hN hk0 hr0 hB0 hE1 hl1 hc1 hLl hzz hraw
  cases hf : formedB z with
  | false =>
    have h21 := fun W v (t : Tabs W) (h : NodeV W v z) => IsFormed_any z v W HZ.out.2.1 t h
    rw [hf] at h21
    have H21 := Lib.hid h21
    generalize cutM 600 z = zc at hcut2
    have HC2 := Lib.hid hcut2
    clear hf h21 hcut2
    go_enter Tryd.func14, Tryd.ntmps14
    go_wp2_with (go_at_call 15; refine Hcut.out.mono ?_; rintro e w1 ⟨v1, rfl, ⟨A, c, rfl, hcc, hkp⟩, hb1⟩)
    have hBw : Below w.heap.size w w1 := HB0.out.trans (hb1.mono HB0.out.size)
    have KZ := Lib.hid (KeepZ.of (c := c) hcc hkp (HT.out.1.below hb1))
    have E1 := Lib.hid ((HT.out.2.1.below hb1).below (allocB w1 (.cells (nodeCells z A c) 26)))
    have BB := Lib.hid (hBw.alloc (o := .cells (nodeCells z A c) 26) hBw.size)
    clear hBw hb1 hkp hcc
    obtain ⟨wa, hwa⟩ : ∃ x, x = w1.alloc (.cells (nodeCells z A c) 26) := ⟨_, rfl⟩
    obtain ⟨bz, hbz⟩ : ∃ x, x = w1.heap.size := ⟨_, rfl⟩
    rw [← hwa] at KZ E1 BB
    rw [← hbz] at KZ
    rw [show w1.alloc (.cells #[.int .i64 z.kind, .int .i64 z.tok.1, .string z.tok.2, .slice A z.kids.length c] 26) = wa from hwa.symm]
    rw [← hbz]
    clear hwa hbz
    obtain ⟨q0, q1, q2, q3⟩ := cells_of_block KZ.out.box
    go_wp2_with fail
    try clear q0 q1 q2 q3
    try clear hlt5
    refine (HC2.out wa _ KZ.out.node).mono ?_
    rintro e w2 ⟨v9, rfl, ⟨B, d, rfl, hdd, hkb⟩, hb⟩
    have KZ := Lib.hid (KZ.out.below hb)
    have BB := Lib.hid (BB.out.trans (hb.mono BB.out.size))
    have E1 := Lib.hid (E1.out.below hb)
    have KK := Lib.hid (KeepZ.of (c := d) hdd hkb (KZ.out.tabs))
    clear hdd hkb
    obtain ⟨q0, q1, q2, q3⟩ := cells_of_block KZ.out.box
    have hlt5 : bz < w2.heap.size := (Array.getElem?_eq_some_iff.1 KZ.out.box).1
    clear hb
    go_wp2_with fail
    try clear q0 q1 q2 q3
    try clear hlt5
    have hb := allocB w2 (.cells (nodeCells zc B d) 26)
    have KZ := Lib.hid (KZ.out.below hb)
    have BB := Lib.hid (BB.out.trans (hb.mono BB.out.size))
    have E1 := Lib.hid (E1.out.below hb)
    obtain ⟨w2a, hw⟩ : ∃ u, u = w2.alloc (.cells (nodeCells zc B d) 26) := ⟨_, rfl⟩
    obtain ⟨bk, hbk⟩ : ∃ x, x = w2.heap.size := ⟨_, rfl⟩
    rw [← hw] at KZ BB E1 KK
    rw [← hbk] at KK
    try rw [show w2.alloc (.cells #[.int .i64 (zc).kind, .int .i64 (zc).tok.1, .string (zc).tok.2, .slice B (zc).kids.length d] 26) = w2a from hw.symm]
    try rw [← hbk]
    clear hw hbk hb
    obtain ⟨q0, q1, q2, q3⟩ := cells_of_block KZ.out.box
    go_wp2_with fail
    try clear q0 q1 q2 q3
    try clear hlt5
    refine (H21.out w2a _ KZ.out.tabs KZ.out.node).mono ?_
    rintro e w3 ⟨rfl, hb⟩
    have KZ := Lib.hid (KZ.out.below hb)
    have BB := Lib.hid (BB.out.trans (hb.mono BB.out.size))
    clear hb
    go_wp2_with fail
    refine (alive5_any w3 KZ.out.tabs).mono ?_
    rintro e w4 ⟨rfl, hb⟩
    have KZ := Lib.hid (KZ.out.below hb)
    have BB := Lib.hid (BB.out.trans (hb.mono BB.out.size))
    clear hb
    go_wp2_with fail
    go_ret
    exact ⟨rfl, BB.out⟩
  | true =>
    rw [cutM_id HZ.out.1 (formed_deep hf)] at hcut2
    have HC2 := Lib.hid hcut2
    have hparts : partsN z = true := by
      have := hf
      unfold formedB at this
      simp only [Bool.and_eq_true] at this
      exact this.1.1
    have h21 := fun W v (t : Tabs W) (h : NodeV W v z) => IsFormed_any z v W HZ.out.2.1 t h
    rw [hf] at h21
    have H21 := Lib.hid h21
    obtain ⟨x, b, hgo⟩ : ∃ x b, goR z (intL (posN z R)) 0 = some (x, b) := posN_goR R z 0
    have hpl := posN_len R z
    have hpos := fun W v Ar cr (h : NodeP (fun _ => True) W v z) (hi : IntsR W Ar R) => position_any z v R Ar cr W HZ.out.2.1 h (by have := HZ.out.2.2.2; omega) hi
    generalize posN z R = p at hgo hpl hpos
    have hpp : p.length ≤ 40 := Nat.le_trans hpl HZ.out.2.2.2
    have hxc : x.kids.length ≤ 10000000 := by
      have h1 := countN_kids x
      have h2 := len_countL x.kids
      have h3 := HZ.out.1.count
      have h4 := (goR_facts hgo).1
      omega
    have HPos := Lib.hid hpos
    have HF := Lib.hid (show _ ∧ _ ∧ _ ∧ _ from ⟨hf, hparts, hgo, (by simpa [intL] using (by omega : p.length ≤ 1000000000) : (intL p).length ≤ 1000000000)⟩)
    have hpc := putN_count z p sampleNd
    have HPC := Lib.hid hpc
    clear hf hparts h21 hgo hpl hpos hcut2 hpp hpc
    go_enter Tryd.func14, Tryd.ntmps14
    go_wp2_with (go_at_call 15; refine Hcut.out.mono ?_; rintro e w1 ⟨v1, rfl, ⟨A, c, rfl, hcc, hkp⟩, hb1⟩)
    have hBw : Below w.heap.size w w1 := HB0.out.trans (hb1.mono HB0.out.size)
    have KZ := Lib.hid (KeepZ.of (c := c) hcc hkp (HT.out.1.below hb1))
    have E1 := Lib.hid ((HT.out.2.1.below hb1).below (allocB w1 (.cells (nodeCells z A c) 26)))
    have BB := Lib.hid (hBw.alloc (o := .cells (nodeCells z A c) 26) hBw.size)
    clear hBw hb1 hkp hcc
    obtain ⟨wa, hwa⟩ : ∃ x, x = w1.alloc (.cells (nodeCells z A c) 26) := ⟨_, rfl⟩
    obtain ⟨bz, hbz⟩ : ∃ x, x = w1.heap.size := ⟨_, rfl⟩
    rw [← hwa] at KZ E1 BB
    rw [← hbz] at KZ
    rw [show w1.alloc (.cells #[.int .i64 z.kind, .int .i64 z.tok.1, .string z.tok.2, .slice A z.kids.length c] 26) = wa from hwa.symm]
    rw [← hbz]
    clear hwa hbz
    obtain ⟨q0, q1, q2, q3⟩ := cells_of_block KZ.out.box
    go_wp2_with fail
    try clear q0 q1 q2 q3
    try clear hlt5
    refine (HC2.out wa _ KZ.out.node).mono ?_
    rintro e w2 ⟨v9, rfl, ⟨B, d, rfl, hdd, hkb⟩, hb⟩
    have KZ := Lib.hid (KZ.out.below hb)
    have BB := Lib.hid (BB.out.trans (hb.mono BB.out.size))
    have E1 := Lib.hid (E1.out.below hb)
    have KK := Lib.hid (KeepZ.of (c := d) hdd hkb (KZ.out.tabs))
    clear hdd hkb
    obtain ⟨q0, q1, q2, q3⟩ := cells_of_block KZ.out.box
    have hlt5 : bz < w2.heap.size := (Array.getElem?_eq_some_iff.1 KZ.out.box).1
    clear hb
    go_wp2_with fail
    try clear q0 q1 q2 q3
    try clear hlt5
    have hb := allocB w2 (.cells (nodeCells z B d) 26)
    have KZ := Lib.hid (KZ.out.below hb)
    have BB := Lib.hid (BB.out.trans (hb.mono BB.out.size))
    have E1 := Lib.hid (E1.out.below hb)
    obtain ⟨w2a, hw⟩ : ∃ u, u = w2.alloc (.cells (nodeCells z B d) 26) := ⟨_, rfl⟩
    obtain ⟨bk, hbk⟩ : ∃ x, x = w2.heap.size := ⟨_, rfl⟩
    rw [← hw] at KZ BB E1 KK
    rw [← hbk] at KK
    try rw [show w2.alloc (.cells #[.int .i64 (z).kind, .int .i64 (z).tok.1, .string (z).tok.2, .slice B (z).kids.length d] 26) = w2a from hw.symm]
    try rw [← hbk]
    clear hw hbk hb
    obtain ⟨q0, q1, q2, q3⟩ := cells_of_block KZ.out.box
    go_wp2_with fail
    try clear q0 q1 q2 q3
    try clear hlt5
    refine (H21.out w2a _ KZ.out.tabs KZ.out.node).mono ?_
    rintro e w3 ⟨rfl, hb⟩
    have KZ := Lib.hid (KZ.out.below hb)
    have BB := Lib.hid (BB.out.trans (hb.mono BB.out.size))
    have KK := Lib.hid (KK.out.below hb)
    have E1 := Lib.hid (E1.out.below hb)
    clear hb
    go_wp2_with fail
    refine wp_region_held_drew (S := (fun W => W.cell? ⟨bz, 0, none⟩ = some (.int .i64 z.kind) ∧ W.cell? ⟨bz, 1, none⟩ = some (.int .i64 z.tok.1) ∧ W.cell? ⟨bz, 2, none⟩ = some (.string z.tok.2) ∧ W.cell? ⟨bz, 3, none⟩ = some (.slice A z.kids.length c))) (by kernel_rfl) ?_ (fun hHeld => ?_)
    · exact keptN' (Below.drew (Below.refl _ _)) KZ.out.box
    obtain ⟨w4, hw⟩ : ∃ x, x = w3.drew := ⟨_, rfl⟩
    have hb : Below w3.heap.size w3 w4 := by rw [hw]; exact Below.drew (Below.refl _ _)
    rw [← hw] at hHeld
    rw [← hw]
    have KZ := Lib.hid (KZ.out.below hb)
    have BB := Lib.hid (BB.out.trans (hb.mono BB.out.size))
    have KK := Lib.hid (KK.out.below hb)
    have E1 := Lib.hid (E1.out.below hb)
    clear hw hb
    refine wpAnyH_take (i := 0) (oi := ⟨some 22, _, _, _, _, _⟩) (v := ?_) rfl (by kernel_rfl) (by kernel_rfl) (by kernel_rfl) (fun _ _ _ h => h) (Or.inl ⟨by rfl, ?hy⟩) (by assumption) ?_
    case hy => (intro w hSw; (try dsimp only at hSw); go_simp; (try with_reducible rfl))
    try simp only [Act.put, List.setIfInBounds_toArray, List.set_cons_zero, List.set_cons_succ]
    refine wpAnyH_take (i := 1) (oi := ⟨some 23, _, _, _, _, _⟩) (v := ?_) rfl (by kernel_rfl) (by kernel_rfl) (by kernel_rfl) (fun _ _ _ h => h) (Or.inl ⟨by rfl, ?hy⟩) (by assumption) ?_
    case hy => (intro w hSw; (try dsimp only at hSw); go_simp; (try with_reducible rfl))
    try simp only [Act.put, List.setIfInBounds_toArray, List.set_cons_zero, List.set_cons_succ]
    refine wpAnyH_ready (rs := [2]) (by kernel_rfl) (by simp) ?_
    refine AllReadyH.cons (o := ⟨some 24, _, _, _, _, _⟩) rfl (fun K hK => ?_) AllReadyH.nil
    go_simp
    go_at_call 36
    with_reducible refine (HSh.out w4 E1.out).mono ?_
    rintro e w5 ⟨v2, rfl, hrow, hb⟩
    obtain ⟨Ar, cr, rfl, _, hI⟩ := IntsR.of_ownI hrow
    have KZ := Lib.hid (KZ.out.below hb)
    have BB := Lib.hid (BB.out.trans (hb.mono BB.out.size))
    have KK := Lib.hid (KK.out.below hb)
    refine hK.out _ _ ?_ (fun hHeld => ?_)
    · exact keptN' (Below.refl _ _) KZ.out.box
    clear hK hb hrow
    try simp only [Act.put, List.setIfInBounds_toArray, List.set_cons_zero, List.set_cons_succ]
    refine wpAnyH_ready (rs := [3]) (by kernel_rfl) (by simp) ?_
    refine AllReadyH.cons (o := ⟨some 25, _, _, _, _, _⟩) rfl (fun K hK => ?_) AllReadyH.nil
    go_simp
    go_at_call 54
    with_reducible refine (HPos.out w5 _ Ar cr KZ.out.nodeC hI).mono ?_
    rintro e w6 ⟨v6, rfl, hrow, hb⟩
    have KZ := Lib.hid (KZ.out.below hb)
    have BB := Lib.hid (BB.out.trans (hb.mono BB.out.size))
    have KK := Lib.hid (KK.out.below hb)
    refine hK.out _ _ ?_ (fun hHeld => ?_)
    · exact keptN' (Below.refl _ _) KZ.out.box
    clear hK hb hI
    try simp only [Act.put, List.setIfInBounds_toArray, List.set_cons_zero, List.set_cons_succ]
    refine wpAnyH_take (i := 4) (oi := ⟨some 7, _, _, _, _, _⟩) (v := ?_) rfl (by kernel_rfl) (by kernel_rfl) (by kernel_rfl) (fun _ _ _ h => h) (Or.inl ⟨by rfl, ?hy⟩) (by assumption) ?_
    case hy => (intro w hSw; (try dsimp only at hSw); go_simp; (try with_reducible rfl))
    try simp only [Act.put, List.setIfInBounds_toArray, List.set_cons_zero, List.set_cons_succ]
    refine wpAnyH_done (by kernel_rfl) ?_ _
    obtain ⟨Ap, cp, hv, hI⟩ := IntsR.of_own hrow
    have hv2 : v6 = .slice Ap (intL p).length cp := by simpa [intL] using hv
    clear hv
    subst hv2
    have IP := Lib.hid (show IntsR w6 Ap (intL p) from hI)
    clear hrow hI
    obtain ⟨q0, q1, q2, q3⟩ := cells_of_block KZ.out.box
    go_wp2_with fail
    try clear q0 q1 q2 q3
    try clear hlt5
    refine (At_okU z x b _ (intL p) Ap cp w6 HZ.out.2.1 HZ.out.2.2.1 KZ.out.tabs KZ.out.nodeC HF.out.2.2.2 IP.out HF.out.1 HF.out.2.2.1).mono ?_
    rintro e w7 ⟨⟨A2, c2, rfl, hc2, hk2, ho2⟩, hb⟩
    have BA := Lib.hid hb
    have BA0 := Lib.hid hb
    have OX := Lib.hid (OpenM.of hk2 ho2).lt
    have KZ7 := Lib.hid (KZ.out.below hb)
    have IP7 := Lib.hid (IP.out.below hb)
    clear hc2 hk2 ho2 hb
    obtain ⟨q0, q1, q2, q3⟩ := cells_of_block KZ7.out.box
    have hlt5 : bz < w7.heap.size := (Array.getElem?_eq_some_iff.1 KZ7.out.box).1
    go_upto_region 7 with fail
    clear q0 q1 q2 q3 hlt5
    have hb := allocB w7 (.cells #[.int .i64 x.kind, .int .i64 x.tok.1, .string x.tok.2, .slice A2 x.kids.length c2] 26)
    obtain ⟨w7a, hw⟩ : ∃ u, u = w7.alloc (.cells #[.int .i64 x.kind, .int .i64 x.tok.1, .string x.tok.2, .slice A2 x.kids.length c2] 26) := ⟨_, rfl⟩
    have h8 : w7a.heap[w7.heap.size]? = some (.cells #[.int .i64 x.kind, .int .i64 x.tok.1, .string x.tok.2, .slice A2 x.kids.length c2] 26 (0, 0)) := by rw [hw]; exact alloc_at _ _ _ rfl
    rw [← hw] at hb
    rw [← hw]
    obtain ⟨b8, hbb⟩ : ∃ x, x = w7.heap.size := ⟨_, rfl⟩
    rw [← hbb] at h8
    rw [← hbb]
    have KZ7 := Lib.hid (KZ7.out.below hb)
    have IP7 := Lib.hid (IP7.out.below hb)
    have BA := Lib.hid (BA.out.trans (hb.mono BA.out.size))
    have HB7 := Lib.hid (hb)
    have HS8x := Lib.hid (show w7a.heap.size = b8 + 1 by rw [hw, hbb]; simp)
    have N8 := Lib.hid h8
    have L8 := Lib.hid hbb
    clear hw hb hbb h8
    have HS8 := Lib.hid (show w7a.heap.size = b8 + 1 from HS8x.out)
    have G8 := Lib.hid (show w6.heap.size ≤ b8 by rw [L8.out]; exact BA0.out.size)
    have OX8 := Lib.hid (OX.out.kept (w' := w7a) (P' := fun k => w6.heap.size ≤ k ∧ k < b8) (fun k hp hk => HB7.out.block k hk) (fun k hp => ⟨hp.1, by rw [L8.out]; exact hp.2⟩))
    have hput : ∀ W vs, Below w7a.heap.size w7a W → NodeV W vs sampleNd → Calls Tryd.prog 29 #[.agg #[.int .i64 z.kind, .int .i64 z.tok.1, .string z.tok.2, .slice A z.kids.length c], .slice Ap (intL p).length cp, vs] W fun e w' => (∃ (m' : Nd) (A : Option Addr) (c : Nat) (f : Int), e = .returned (.tuple #[.agg #[.int .i64 m'.kind, .int .i64 m'.tok.1, .string m'.tok.2, .slice A m'.kids.length c], .int .i64 f]) ∧ (f = 0 ∨ f = 4) ∧ OpenM (fun k => W.heap.size ≤ k) w' A m'.kids.length ∧ m'.kids.length ≤ 10000000) ∧ Below W.heap.size W w' := fun W vs hW hns => by
      have KW := KZ7.out.below hW
      have h1 := HZ.out.1.count
      have h2 := sam_count
      have h3 := HPC.out
      have h4 := countN_kids (putN z p sampleNd)
      have h5 := len_countL (putN z p sampleNd).kids
      exact (Put_res z x sampleNd p b _ vs Ap cp W (by omega) HZ.out.2.2.1 KW.tabs KW.nodeC hns HF.out.2.2.2 (IP7.out.below hW) HF.out.1 sam_formed HF.out.2.2.1).mono fun e w' ⟨h1, h2⟩ => ⟨put_any h1 (by omega), h2⟩
    have HPut := Lib.hid hput
    clear hput
    go_cut [10, 11] (fun s10 s11 W => PutSt w7a.heap.size s10 s11 w7a W)
    case first =>
      refine wp_region_held_drew (S := (fun W => W.cell? ⟨bz, 0, none⟩ = some (.int .i64 z.kind) ∧ W.cell? ⟨bz, 1, none⟩ = some (.int .i64 z.tok.1) ∧ W.cell? ⟨bz, 2, none⟩ = some (.string z.tok.2) ∧ W.cell? ⟨bz, 3, none⟩ = some (.slice A z.kids.length c))) (by kernel_rfl) ?_ (fun hHeld => ?_)
      · exact keptN' (Below.drew (Below.refl _ _)) KZ7.out.box
      obtain ⟨W0, hw⟩ : ∃ u, u = w7a.drew := ⟨_, rfl⟩
      have hB : Below w7a.heap.size w7a W0 := by rw [hw]; exact Below.drew (Below.refl _ _)
      rw [← hw] at hHeld
      rw [← hw]
      clear hw
      refine wpAnyH_take (i := 0) (oi := ⟨some 33, _, _, _, _, _⟩) (v := ?_) rfl (by kernel_rfl) (by kernel_rfl) (by kernel_rfl) (fun _ _ _ h => h) (Or.inl ⟨by rfl, ?hy⟩) (by assumption) ?_
      case hy => (intro w hSw; (try dsimp only at hSw); go_simp; (try with_reducible rfl))
      try simp only [Act.put, List.setIfInBounds_toArray, List.set_cons_zero, List.set_cons_succ]
      refine wpAnyH_take (i := 1) (oi := ⟨some 34, _, _, _, _, _⟩) (v := ?_) rfl (by kernel_rfl) (by kernel_rfl) (by kernel_rfl) (fun _ _ _ h => h) (Or.inl ⟨by rfl, ?hy⟩) (by assumption) ?_
      case hy => (intro w hSw; (try dsimp only at hSw); go_simp; (try with_reducible rfl))
      try simp only [Act.put, List.setIfInBounds_toArray, List.set_cons_zero, List.set_cons_succ]
      refine wpAnyH_ready (rs := [2, 7]) (by kernel_rfl) (by simp) ?_
      refine AllReadyH.cons (o := ⟨some 35, _, _, _, _, _⟩) rfl (fun K hK => ?_) (AllReadyH.cons (o := ⟨some 10, _, _, _, _, _⟩) rfl (fun K hK => ?_) AllReadyH.nil)
      · go_simp
        go_at_call 30
        with_reducible refine (sample_any W0).mono ?_
        rintro e W1 ⟨⟨vs, rfl, hns⟩, hbC⟩
        have hB := hB.trans (hbC.mono hB.size)
        refine hK.out _ _ ?_ (fun hHeld => ?_)
        · exact keptN' hB KZ7.out.box
        clear hK K hbC
        try simp only [Act.put, List.setIfInBounds_toArray, List.set_cons_zero, List.set_cons_succ]
        refine wpAnyH_ready (rs := [3, 7]) (by kernel_rfl) (by simp) ?_
        refine AllReadyH.cons (o := ⟨some 36, _, _, _, _, _⟩) rfl (fun K hK => ?_) (AllReadyH.cons (o := ⟨some 10, _, _, _, _, _⟩) rfl (fun K hK => ?_) AllReadyH.nil)
        · go_simp
          go_at_call 29
          with_reducible refine (HPut.out W1 vs hB hns).mono ?_
          rintro e W2 ⟨⟨m, A3, c3, f, rfl, hf3, hO3, hm3⟩, hbC⟩
          have hO3 := hO3.lt
          have hsz := hB.size
          have hB := hB.trans (hbC.mono hB.size)
          refine hK.out _ _ ?_ (fun hHeld => ?_)
          · exact keptN' hB KZ7.out.box
          clear hK K hbC
          try simp only [Act.put, List.setIfInBounds_toArray, List.set_cons_zero, List.set_cons_succ]
          refine wpAnyH_take (i := 4) (oi := ⟨some 32, _, _, _, _, _⟩) (v := ?_) rfl (by kernel_rfl) (by kernel_rfl) (by kernel_rfl) (fun _ _ _ h => h) (Or.inl ⟨by rfl, ?hy⟩) (by assumption) ?_
          case hy => (intro w hSw; (try dsimp only at hSw); go_simp; (try with_reducible rfl))
          try simp only [Act.put, List.setIfInBounds_toArray, List.set_cons_zero, List.set_cons_succ]
          refine wpAnyH_take (i := 5) (oi := ⟨some 37, _, _, _, _, _⟩) (v := ?_) rfl (by kernel_rfl) (by kernel_rfl) (by kernel_rfl) (fun _ _ _ h => h) (Or.inl ⟨by rfl, ?hy⟩) (by assumption) ?_
          case hy => (intro w hSw; (try dsimp only at hSw); go_simp; (try with_reducible rfl))
          try simp only [Act.put, List.setIfInBounds_toArray, List.set_cons_zero, List.set_cons_succ]
          refine wpAnyH_take (i := 6) (oi := ⟨some 38, _, _, _, _, _⟩) (v := ?_) rfl (by kernel_rfl) (by kernel_rfl) (by kernel_rfl) (fun _ _ _ h => h) (Or.inl ⟨by rfl, ?hy⟩) (by assumption) ?_
          case hy => (intro w hSw; (try dsimp only at hSw); go_simp; (try with_reducible rfl))
          try simp only [Act.put, List.setIfInBounds_toArray, List.set_cons_zero, List.set_cons_succ]
          refine wpAnyH_ready (rs := [7]) (by kernel_rfl) (by simp) ?_
          refine AllReadyH.cons (o := ⟨some 10, _, _, _, _, _⟩) rfl (fun K hK => ?_) AllReadyH.nil
          go_simp
          have hal : Below W2.heap.size W2 (W2.alloc (.cells #[.int .i64 0, .int .i64 0, .string { data := #[] }, .slice none 0 0] 26)) := allocB _ _
          refine hK.out _ _ ?_ (fun hHeld => ?_)
          · exact keptN' (hB.trans (hal.mono hB.size)) KZ7.out.box
          clear hK K
          try simp only [Act.put, List.setIfInBounds_toArray, List.set_cons_zero, List.set_cons_succ]
          obtain ⟨b10, hc⟩ : ∃ c, c = W2.heap.size := ⟨_, rfl⟩
          obtain ⟨W3, hw⟩ : ∃ x, x = W2.alloc (.cells #[.int .i64 0, .int .i64 0, .string { data := #[] }, .slice none 0 0] 26) := ⟨_, rfl⟩
          rw [← hw] at hal
          have g10 : w7a.heap.size ≤ b10 := by rw [hc]; exact hB.size
          have hO : OpenM (fun k => w7a.heap.size ≤ k ∧ k ≠ b10) W3 A3 m.kids.length := hO3.kept (fun k hp _ => hal.block k hp.2) (fun k hp => ⟨by have := hp.1; omega, by have := hp.2; omega⟩)
          have hB := hB.trans (hal.mono hB.size)
          have h10 : W3.heap[b10]? = some (.cells #[.int .i64 0, .int .i64 0, .string { data := #[] }, .slice none 0 0] 26 (0, 0)) := by rw [hw, hc]; exact heap_alloc_new _ _
          rw [← hw] at hHeld
          rw [← hw]
          rw [← hc]
          clear hw hc hal
          refine wpAnyH_ready (rs := [8]) (by kernel_rfl) (by simp) ?_
          refine AllReadyH.cons (o := ⟨none, _, _, _, _, _⟩) rfl (fun K hK => ?_) AllReadyH.nil
          have q0 := Lib.cell_of_heap h10 0
          have q1 := Lib.cell_of_heap h10 1
          have q2 := Lib.cell_of_heap h10 2
          have q3 := Lib.cell_of_heap h10 3
          have r0 := frozen_block (j := 0) h10
          have r1 := frozen_block (j := 1) h10
          have r2 := frozen_block (j := 2) h10
          have r3 := frozen_block (j := 3) h10
          have hst := set4 (v0 := .int .i64 m.kind) (v1 := .int .i64 m.tok.1) (v2 := .string m.tok.2) (v3 := .slice A3 m.kids.length c3) h10
          have hB2 : Below w7a.heap.size w7a ((((W3.setCell ⟨b10, 0, none⟩ (.int .i64 m.kind)).setCell ⟨b10, 1, none⟩ (.int .i64 m.tok.1)).setCell ⟨b10, 2, none⟩ (.string m.tok.2)).setCell ⟨b10, 3, none⟩ (.slice A3 m.kids.length c3)) := below4 hB g10
          have hO2 : OpenM (fun k => w7a.heap.size ≤ k ∧ k ≠ b10) ((((W3.setCell ⟨b10, 0, none⟩ (.int .i64 m.kind)).setCell ⟨b10, 1, none⟩ (.int .i64 m.tok.1)).setCell ⟨b10, 2, none⟩ (.string m.tok.2)).setCell ⟨b10, 3, none⟩ (.slice A3 m.kids.length c3)) A3 m.kids.length := hO.kept (fun k hp _ => other4 hp.2) (fun _ h => h)
          go_simp
          refine hK.out _ _ ?_ (fun hHeld => ?_)
          · exact keptN' hB2 KZ7.out.box
          clear hK K q0 q1 q2 q3 r0 r1 r2 r3
          try simp only [Act.put, List.setIfInBounds_toArray, List.set_cons_zero, List.set_cons_succ]
          refine wpAnyH_take (i := 9) (oi := ⟨some 11, _, _, _, _, _⟩) (v := ?_) rfl (by kernel_rfl) (by kernel_rfl) (by kernel_rfl) (fun _ _ _ h => h) (Or.inl ⟨by rfl, ?hy⟩) (by assumption) ?_
          case hy => (intro w hSw; (try dsimp only at hSw); go_simp; (try with_reducible rfl))
          try simp only [Act.put, List.setIfInBounds_toArray, List.set_cons_zero, List.set_cons_succ]
          have h10 := hst
          have hB := hB2
          have hO := hO2
          clear hst hB2 hO2
          refine wpAnyH_done (by kernel_rfl) ?_ _
          go_wp2_with fail
          go_meet
          exact ⟨b10, f, m, A3, c3, rfl, rfl, hf3, h10, g10, hO, hm3, hB⟩
        · go_simp
          have hal : Below W1.heap.size W1 (W1.alloc (.cells #[.int .i64 0, .int .i64 0, .string { data := #[] }, .slice none 0 0] 26)) := allocB _ _
          refine hK.out _ _ ?_ (fun hHeld => ?_)
          · exact keptN' (hB.trans (hal.mono hB.size)) KZ7.out.box
          clear hK K
          try simp only [Act.put, List.setIfInBounds_toArray, List.set_cons_zero, List.set_cons_succ]
          obtain ⟨b10, hc⟩ : ∃ c, c = W1.heap.size := ⟨_, rfl⟩
          obtain ⟨W5, hw⟩ : ∃ x, x = W1.alloc (.cells #[.int .i64 0, .int .i64 0, .string { data := #[] }, .slice none 0 0] 26) := ⟨_, rfl⟩
          rw [← hw] at hal
          have g10 : w7a.heap.size ≤ b10 := by rw [hc]; exact hB.size
          have hns := hns.below hal
          have hB := hB.trans (hal.mono hB.size)
          have h10 : W5.heap[b10]? = some (.cells #[.int .i64 0, .int .i64 0, .string { data := #[] }, .slice none 0 0] 26 (0, 0)) := by rw [hw, hc]; exact heap_alloc_new _ _
          rw [← hw] at hHeld
          rw [← hw]
          rw [← hc]
          clear hw hc hal
          refine wpAnyH_ready (rs := [3]) (by kernel_rfl) (by simp) ?_
          refine AllReadyH.cons (o := ⟨some 36, _, _, _, _, _⟩) rfl (fun K hK => ?_) AllReadyH.nil
          go_simp
          go_at_call 29
          with_reducible refine (HPut.out W5 vs hB hns).mono ?_
          rintro e W6 ⟨⟨m, A3, c3, f, rfl, hf3, hO3, hm3⟩, hbC⟩
          have hO3 := hO3.lt
          have l10 := (Array.getElem?_eq_some_iff.1 h10).1
          have h10 := keepB h10 hbC
          have hsz := hB.size
          have hO : OpenM (fun k => w7a.heap.size ≤ k ∧ k ≠ b10) W6 A3 m.kids.length := hO3.kept (fun _ _ _ => rfl) (fun k hp => ⟨by omega, by omega⟩)
          clear l10
          have hB := hB.trans (hbC.mono hB.size)
          refine hK.out _ _ ?_ (fun hHeld => ?_)
          · exact keptN' hB KZ7.out.box
          clear hK K hbC hsz
          try simp only [Act.put, List.setIfInBounds_toArray, List.set_cons_zero, List.set_cons_succ]
          refine wpAnyH_take (i := 4) (oi := ⟨some 32, _, _, _, _, _⟩) (v := ?_) rfl (by kernel_rfl) (by kernel_rfl) (by kernel_rfl) (fun _ _ _ h => h) (Or.inl ⟨by rfl, ?hy⟩) (by assumption) ?_
          case hy => (intro w hSw; (try dsimp only at hSw); go_simp; (try with_reducible rfl))
          try simp only [Act.put, List.setIfInBounds_toArray, List.set_cons_zero, List.set_cons_succ]
          refine wpAnyH_take (i := 5) (oi := ⟨some 37, _, _, _, _, _⟩) (v := ?_) rfl (by kernel_rfl) (by kernel_rfl) (by kernel_rfl) (fun _ _ _ h => h) (Or.inl ⟨by rfl, ?hy⟩) (by assumption) ?_
          case hy => (intro w hSw; (try dsimp only at hSw); go_simp; (try with_reducible rfl))
          try simp only [Act.put, List.setIfInBounds_toArray, List.set_cons_zero, List.set_cons_succ]
          refine wpAnyH_take (i := 6) (oi := ⟨some 38, _, _, _, _, _⟩) (v := ?_) rfl (by kernel_rfl) (by kernel_rfl) (by kernel_rfl) (fun _ _ _ h => h) (Or.inl ⟨by rfl, ?hy⟩) (by assumption) ?_
          case hy => (intro w hSw; (try dsimp only at hSw); go_simp; (try with_reducible rfl))
          try simp only [Act.put, List.setIfInBounds_toArray, List.set_cons_zero, List.set_cons_succ]
          refine wpAnyH_ready (rs := [8]) (by kernel_rfl) (by simp) ?_
          refine AllReadyH.cons (o := ⟨none, _, _, _, _, _⟩) rfl (fun K hK => ?_) AllReadyH.nil
          have q0 := Lib.cell_of_heap h10 0
          have q1 := Lib.cell_of_heap h10 1
          have q2 := Lib.cell_of_heap h10 2
          have q3 := Lib.cell_of_heap h10 3
          have r0 := frozen_block (j := 0) h10
          have r1 := frozen_block (j := 1) h10
          have r2 := frozen_block (j := 2) h10
          have r3 := frozen_block (j := 3) h10
          have hst := set4 (v0 := .int .i64 m.kind) (v1 := .int .i64 m.tok.1) (v2 := .string m.tok.2) (v3 := .slice A3 m.kids.length c3) h10
          have hB2 : Below w7a.heap.size w7a ((((W6.setCell ⟨b10, 0, none⟩ (.int .i64 m.kind)).setCell ⟨b10, 1, none⟩ (.int .i64 m.tok.1)).setCell ⟨b10, 2, none⟩ (.string m.tok.2)).setCell ⟨b10, 3, none⟩ (.slice A3 m.kids.length c3)) := below4 hB g10
          have hO2 : OpenM (fun k => w7a.heap.size ≤ k ∧ k ≠ b10) ((((W6.setCell ⟨b10, 0, none⟩ (.int .i64 m.kind)).setCell ⟨b10, 1, none⟩ (.int .i64 m.tok.1)).setCell ⟨b10, 2, none⟩ (.string m.tok.2)).setCell ⟨b10, 3, none⟩ (.slice A3 m.kids.length c3)) A3 m.kids.length := hO.kept (fun k hp _ => other4 hp.2) (fun _ h => h)
          go_simp
          refine hK.out _ _ ?_ (fun hHeld => ?_)
          · exact keptN' hB2 KZ7.out.box
          clear hK K q0 q1 q2 q3 r0 r1 r2 r3
          try simp only [Act.put, List.setIfInBounds_toArray, List.set_cons_zero, List.set_cons_succ]
          refine wpAnyH_take (i := 9) (oi := ⟨some 11, _, _, _, _, _⟩) (v := ?_) rfl (by kernel_rfl) (by kernel_rfl) (by kernel_rfl) (fun _ _ _ h => h) (Or.inl ⟨by rfl, ?hy⟩) (by assumption) ?_
          case hy => (intro w hSw; (try dsimp only at hSw); go_simp; (try with_reducible rfl))
          try simp only [Act.put, List.setIfInBounds_toArray, List.set_cons_zero, List.set_cons_succ]
          have h10 := hst
          have hB := hB2
          have hO := hO2
          clear hst hB2 hO2
          refine wpAnyH_done (by kernel_rfl) ?_ _
          go_wp2_with fail
          go_meet
          exact ⟨b10, f, m, A3, c3, rfl, rfl, hf3, h10, g10, hO, hm3, hB⟩
      · go_simp
        have hal : Below W0.heap.size W0 (W0.alloc (.cells #[.int .i64 0, .int .i64 0, .string { data := #[] }, .slice none 0 0] 26)) := allocB _ _
        refine hK.out _ _ ?_ (fun hHeld => ?_)
        · exact keptN' (hB.trans (hal.mono hB.size)) KZ7.out.box
        clear hK K
        try simp only [Act.put, List.setIfInBounds_toArray, List.set_cons_zero, List.set_cons_succ]
        obtain ⟨b10, hc⟩ : ∃ c, c = W0.heap.size := ⟨_, rfl⟩
        obtain ⟨W8, hw⟩ : ∃ x, x = W0.alloc (.cells #[.int .i64 0, .int .i64 0, .string { data := #[] }, .slice none 0 0] 26) := ⟨_, rfl⟩
        rw [← hw] at hal
        have g10 : w7a.heap.size ≤ b10 := by rw [hc]; exact hB.size
        have hB := hB.trans (hal.mono hB.size)
        have h10 : W8.heap[b10]? = some (.cells #[.int .i64 0, .int .i64 0, .string { data := #[] }, .slice none 0 0] 26 (0, 0)) := by rw [hw, hc]; exact heap_alloc_new _ _
        rw [← hw] at hHeld
        rw [← hw]
        rw [← hc]
        clear hw hc hal
        refine wpAnyH_ready (rs := [2]) (by kernel_rfl) (by simp) ?_
        refine AllReadyH.cons (o := ⟨some 35, _, _, _, _, _⟩) rfl (fun K hK => ?_) AllReadyH.nil
        go_simp
        go_at_call 30
        with_reducible refine (sample_any W8).mono ?_
        rintro e W9 ⟨⟨vs, rfl, hns⟩, hbC⟩
        have h10 := keepB h10 hbC
        have hB := hB.trans (hbC.mono hB.size)
        refine hK.out _ _ ?_ (fun hHeld => ?_)
        · exact keptN' hB KZ7.out.box
        clear hK K hbC
        try simp only [Act.put, List.setIfInBounds_toArray, List.set_cons_zero, List.set_cons_succ]
        refine wpAnyH_ready (rs := [3]) (by kernel_rfl) (by simp) ?_
        refine AllReadyH.cons (o := ⟨some 36, _, _, _, _, _⟩) rfl (fun K hK => ?_) AllReadyH.nil
        go_simp
        go_at_call 29
        with_reducible refine (HPut.out W9 vs hB hns).mono ?_
        rintro e W10 ⟨⟨m, A3, c3, f, rfl, hf3, hO3, hm3⟩, hbC⟩
        have hO3 := hO3.lt
        have l10 := (Array.getElem?_eq_some_iff.1 h10).1
        have h10 := keepB h10 hbC
        have hsz := hB.size
        have hO : OpenM (fun k => w7a.heap.size ≤ k ∧ k ≠ b10) W10 A3 m.kids.length := hO3.kept (fun _ _ _ => rfl) (fun k hp => ⟨by omega, by omega⟩)
        clear l10
        have hB := hB.trans (hbC.mono hB.size)
        refine hK.out _ _ ?_ (fun hHeld => ?_)
        · exact keptN' hB KZ7.out.box
        clear hK K hbC hsz
        try simp only [Act.put, List.setIfInBounds_toArray, List.set_cons_zero, List.set_cons_succ]
        refine wpAnyH_take (i := 4) (oi := ⟨some 32, _, _, _, _, _⟩) (v := ?_) rfl (by kernel_rfl) (by kernel_rfl) (by kernel_rfl) (fun _ _ _ h => h) (Or.inl ⟨by rfl, ?hy⟩) (by assumption) ?_
        case hy => (intro w hSw; (try dsimp only at hSw); go_simp; (try with_reducible rfl))
        try simp only [Act.put, List.setIfInBounds_toArray, List.set_cons_zero, List.set_cons_succ]
        refine wpAnyH_take (i := 5) (oi := ⟨some 37, _, _, _, _, _⟩) (v := ?_) rfl (by kernel_rfl) (by kernel_rfl) (by kernel_rfl) (fun _ _ _ h => h) (Or.inl ⟨by rfl, ?hy⟩) (by assumption) ?_
        case hy => (intro w hSw; (try dsimp only at hSw); go_simp; (try with_reducible rfl))
        try simp only [Act.put, List.setIfInBounds_toArray, List.set_cons_zero, List.set_cons_succ]
        refine wpAnyH_take (i := 6) (oi := ⟨some 38, _, _, _, _, _⟩) (v := ?_) rfl (by kernel_rfl) (by kernel_rfl) (by kernel_rfl) (fun _ _ _ h => h) (Or.inl ⟨by rfl, ?hy⟩) (by assumption) ?_
        case hy => (intro w hSw; (try dsimp only at hSw); go_simp; (try with_reducible rfl))
        try simp only [Act.put, List.setIfInBounds_toArray, List.set_cons_zero, List.set_cons_succ]
        refine wpAnyH_ready (rs := [8]) (by kernel_rfl) (by simp) ?_
        refine AllReadyH.cons (o := ⟨none, _, _, _, _, _⟩) rfl (fun K hK => ?_) AllReadyH.nil
        have q0 := Lib.cell_of_heap h10 0
        have q1 := Lib.cell_of_heap h10 1
        have q2 := Lib.cell_of_heap h10 2
        have q3 := Lib.cell_of_heap h10 3
        have r0 := frozen_block (j := 0) h10
        have r1 := frozen_block (j := 1) h10
        have r2 := frozen_block (j := 2) h10
        have r3 := frozen_block (j := 3) h10
        have hst := set4 (v0 := .int .i64 m.kind) (v1 := .int .i64 m.tok.1) (v2 := .string m.tok.2) (v3 := .slice A3 m.kids.length c3) h10
        have hB2 : Below w7a.heap.size w7a ((((W10.setCell ⟨b10, 0, none⟩ (.int .i64 m.kind)).setCell ⟨b10, 1, none⟩ (.int .i64 m.tok.1)).setCell ⟨b10, 2, none⟩ (.string m.tok.2)).setCell ⟨b10, 3, none⟩ (.slice A3 m.kids.length c3)) := below4 hB g10
        have hO2 : OpenM (fun k => w7a.heap.size ≤ k ∧ k ≠ b10) ((((W10.setCell ⟨b10, 0, none⟩ (.int .i64 m.kind)).setCell ⟨b10, 1, none⟩ (.int .i64 m.tok.1)).setCell ⟨b10, 2, none⟩ (.string m.tok.2)).setCell ⟨b10, 3, none⟩ (.slice A3 m.kids.length c3)) A3 m.kids.length := hO.kept (fun k hp _ => other4 hp.2) (fun _ h => h)
        go_simp
        refine hK.out _ _ ?_ (fun hHeld => ?_)
        · exact keptN' hB2 KZ7.out.box
        clear hK K q0 q1 q2 q3 r0 r1 r2 r3
        try simp only [Act.put, List.setIfInBounds_toArray, List.set_cons_zero, List.set_cons_succ]
        refine wpAnyH_take (i := 9) (oi := ⟨some 11, _, _, _, _, _⟩) (v := ?_) rfl (by kernel_rfl) (by kernel_rfl) (by kernel_rfl) (fun _ _ _ h => h) (Or.inl ⟨by rfl, ?hy⟩) (by assumption) ?_
        case hy => (intro w hSw; (try dsimp only at hSw); go_simp; (try with_reducible rfl))
        try simp only [Act.put, List.setIfInBounds_toArray, List.set_cons_zero, List.set_cons_succ]
        have h10 := hst
        have hB := hB2
        have hO := hO2
        clear hst hB2 hO2
        refine wpAnyH_done (by kernel_rfl) ?_ _
        go_wp2_with fail
        go_meet
        exact ⟨b10, f, m, A3, c3, rfl, rfl, hf3, h10, g10, hO, hm3, hB⟩
    case rest =>
      obtain ⟨b10, f, m, A3, c3, rfl, rfl, hf3, h10, g10, hO, hm3, hb⟩ := hcut
      have h67 := BA.out
      have g8 : w7a.heap.size = b8 + 1 := HS8.out
      have HLT := Lib.hid (show w6.heap.size ≤ b8 ∧ w7a.heap.size = b8 + 1 ∧ w7a.heap.size ≤ b10 from ⟨G8.out, g8, g10⟩)
      have hBc := h67.trans (hb.mono h67.size)
      have HL := Lib.hid (show _ ∧ _ ∧ _ ∧ _ ∧ _ from ⟨hBc, keepB N8.out hb, h10, OX8.out.kept (fun k hp hk => hb.block k (by have := hp.2; omega)) (fun _ h => h), hO⟩)
      clear h67 hBc h10 g10 hO hb g8
      have q8 := (cells_of_block HL.out.2.1).2.2.2
      have q10 := (cells_of_block HL.out.2.2.1).2.2.2
      rcases hf3 with rfl | rfl
      · go_wp2_with fail
        go_loopw [12] (fun i wr => ∃ k : Nat, k ≤ x.kids.length ∧ i = .int .i64 k ∧ Below w6.heap.size w6 wr ∧ wr.heap[b8]? = some (.cells (nodeCells x A2 c2) 26 (0, 0)) ∧ wr.heap[b10]? = some (.cells (nodeCells m A3 c3) 26 (0, 0)) ∧ OpenM (fun k => w6.heap.size ≤ k ∧ k < b8) wr A2 x.kids.length ∧ OpenM (fun k => w7a.heap.size ≤ k ∧ k ≠ b10) wr A3 m.kids.length) (fun i _ => x.kids.length - (intOf i).toNat)
        case atStart => exact ⟨0, Nat.zero_le _, rfl, HL.out.1, HL.out.2.1, HL.out.2.2.1, HL.out.2.2.2.1, HL.out.2.2.2.2⟩
        case round =>
          obtain ⟨k, hkl, rfl, hB, h8, h10, ho2, ho3⟩ := hrel
          have q8 := (cells_of_block h8).2.2.2
          have hk00 : (0 : Int) ≤ (k : Int) := by omega
          by_cases hlt : k < x.kids.length
          · have hk2 : (k : Int) < (x.kids.length : Int) := by omega
            obtain ⟨bb, oo, cs, t, rfl, hcs, hsz, hp1, hp2⟩ := ho2 (by omega)
            obtain ⟨⟨u0, u1, u2, u3, x0, x1, x2, x3⟩, cs', hcs', hsz'⟩ := open_set (.int .i64 28) (.int .i64 0) (.string { data := #[] }) (.slice none 0 0) hcs hlt hsz
            have hoth : ∀ b, b ≠ bb → ((((wr.setCell ⟨bb, oo + k * 4, none⟩ (.int .i64 28)).setCell ⟨bb, oo + k * 4 + 1, none⟩ (.int .i64 0)).setCell ⟨bb, oo + k * 4 + 2, none⟩ (.string { data := #[] })).setCell ⟨bb, oo + k * 4 + 3, none⟩ (.slice none 0 0)).heap[b]? = wr.heap[b]? := fun b hb => (block_other hb).trans ((block_other hb).trans ((block_other hb).trans (block_other hb)))
            have g8 := HLT.out
            have f0 : wr.frozen? ⟨bb, oo + k * 4, none⟩ = false := frozen_block hcs
            have f1 : wr.frozen? ⟨bb, oo + k * 4 + 1, none⟩ = false := frozen_block hcs
            have f2 : wr.frozen? ⟨bb, oo + k * 4 + 2, none⟩ = false := frozen_block hcs
            have f3 : wr.frozen? ⟨bb, oo + k * 4 + 3, none⟩ = false := frozen_block hcs
            have hBn : Below w6.heap.size w6 ((((wr.setCell ⟨bb, oo + k * 4, none⟩ (.int .i64 28)).setCell ⟨bb, oo + k * 4 + 1, none⟩ (.int .i64 0)).setCell ⟨bb, oo + k * 4 + 2, none⟩ (.string { data := #[] })).setCell ⟨bb, oo + k * 4 + 3, none⟩ (.slice none 0 0)) := (((hB.setCell (p := ⟨bb, oo + k * 4, none⟩) (by show w6.heap.size ≤ bb; omega) _).setCell (p := ⟨bb, oo + k * 4 + 1, none⟩) (by show w6.heap.size ≤ bb; omega) _).setCell (p := ⟨bb, oo + k * 4 + 2, none⟩) (by show w6.heap.size ≤ bb; omega) _).setCell (p := ⟨bb, oo + k * 4 + 3, none⟩) (by show w6.heap.size ≤ bb; omega) _
            have h8n := (hoth b8 (by omega)).trans h8
            have h10n := (hoth b10 (by omega)).trans h10
            have hoA : OpenM (fun k => w6.heap.size ≤ k ∧ k < b8) ((((wr.setCell ⟨bb, oo + k * 4, none⟩ (.int .i64 28)).setCell ⟨bb, oo + k * 4 + 1, none⟩ (.int .i64 0)).setCell ⟨bb, oo + k * 4 + 2, none⟩ (.string { data := #[] })).setCell ⟨bb, oo + k * 4 + 3, none⟩ (.slice none 0 0)) (some ⟨bb, oo, none⟩) x.kids.length := fun _ => ⟨bb, oo, cs', t, rfl, hcs', hsz', hp1, hp2⟩
            have hoB : OpenM (fun k => w7a.heap.size ≤ k ∧ k ≠ b10) ((((wr.setCell ⟨bb, oo + k * 4, none⟩ (.int .i64 28)).setCell ⟨bb, oo + k * 4 + 1, none⟩ (.int .i64 0)).setCell ⟨bb, oo + k * 4 + 2, none⟩ (.string { data := #[] })).setCell ⟨bb, oo + k * 4 + 3, none⟩ (.slice none 0 0)) A3 m.kids.length := ho3.kept (fun b hp _ => hoth b (by omega)) (fun _ h => h)
            have HN := Lib.hid (show _ ∧ _ ∧ _ ∧ _ ∧ _ from ⟨hBn, h8n, h10n, hoA, hoB⟩)
            have e3 : IntKind.i64.wrap ((k : Int) + 1) = ((k + 1 : Nat) : Int) := by rw [IntWalk.i64_in _ (by have := hxc; omega)]; omega
            clear hB h8 h10 ho2 ho3 hcs hsz hcs' hsz' hoth hBn h8n h10n hoA hoB g8
            go_wp2_with fail
            exact ⟨⟨k + 1, by omega, by go_num, HN.out.1, HN.out.2.1, HN.out.2.2.1, HN.out.2.2.2.1, HN.out.2.2.2.2⟩, by simp only [intOf]; omega⟩
          · have hke : k = x.kids.length := by omega
            subst hke
            have hk2 : decide ((x.kids.length : Int) < (x.kids.length : Int)) = false := by simp
            have hk3 : ¬ (x.kids.length : Int) < (x.kids.length : Int) := by omega
            have HL := Lib.hid (show _ ∧ _ ∧ _ ∧ _ ∧ _ from ⟨hB, h8, h10, ho2, ho3⟩)
            clear hB h8 h10 ho2 ho3
            have q10 := (cells_of_block HL.out.2.2.1).2.2.2
            go_wp2_with fail
            try (obtain ⟨wo, hwo⟩ : ∃ wo, wo = wr := ⟨_, rfl⟩; subst hwo)
            go_loopw [13] (fun i wr => ∃ k : Nat, k ≤ m.kids.length ∧ i = .int .i64 k ∧ Below w6.heap.size w6 wr ∧ wr.heap[b8]? = some (.cells (nodeCells x A2 c2) 26 (0, 0)) ∧ wr.heap[b10]? = some (.cells (nodeCells m A3 c3) 26 (0, 0)) ∧ OpenM (fun k => w6.heap.size ≤ k ∧ k < b8) wr A2 x.kids.length ∧ OpenM (fun k => w7a.heap.size ≤ k ∧ k ≠ b10) wr A3 m.kids.length) (fun i _ => m.kids.length - (intOf i).toNat)
            case atStart => exact ⟨0, Nat.zero_le _, rfl, HL.out.1, HL.out.2.1, HL.out.2.2.1, HL.out.2.2.2.1, HL.out.2.2.2.2⟩
            case round =>
              obtain ⟨k, hkl, rfl, hB, h8, h10, ho2, ho3⟩ := hrel
              have q8 := (cells_of_block h10).2.2.2
              have hk00 : (0 : Int) ≤ (k : Int) := by omega
              by_cases hlt : k < m.kids.length
              · have hk2 : (k : Int) < (m.kids.length : Int) := by omega
                obtain ⟨bb, oo, cs, t, rfl, hcs, hsz, hp1, hp2⟩ := ho3 (by omega)
                obtain ⟨⟨u0, u1, u2, u3, x0, x1, x2, x3⟩, cs', hcs', hsz'⟩ := open_set (.int .i64 28) (.int .i64 0) (.string { data := #[] }) (.slice none 0 0) hcs hlt hsz
                have hoth : ∀ b, b ≠ bb → ((((wr.setCell ⟨bb, oo + k * 4, none⟩ (.int .i64 28)).setCell ⟨bb, oo + k * 4 + 1, none⟩ (.int .i64 0)).setCell ⟨bb, oo + k * 4 + 2, none⟩ (.string { data := #[] })).setCell ⟨bb, oo + k * 4 + 3, none⟩ (.slice none 0 0)).heap[b]? = wr.heap[b]? := fun b hb => (block_other hb).trans ((block_other hb).trans ((block_other hb).trans (block_other hb)))
                have g8 := HLT.out
                have f0 : wr.frozen? ⟨bb, oo + k * 4, none⟩ = false := frozen_block hcs
                have f1 : wr.frozen? ⟨bb, oo + k * 4 + 1, none⟩ = false := frozen_block hcs
                have f2 : wr.frozen? ⟨bb, oo + k * 4 + 2, none⟩ = false := frozen_block hcs
                have f3 : wr.frozen? ⟨bb, oo + k * 4 + 3, none⟩ = false := frozen_block hcs
                have hBn : Below w6.heap.size w6 ((((wr.setCell ⟨bb, oo + k * 4, none⟩ (.int .i64 28)).setCell ⟨bb, oo + k * 4 + 1, none⟩ (.int .i64 0)).setCell ⟨bb, oo + k * 4 + 2, none⟩ (.string { data := #[] })).setCell ⟨bb, oo + k * 4 + 3, none⟩ (.slice none 0 0)) := (((hB.setCell (p := ⟨bb, oo + k * 4, none⟩) (by show w6.heap.size ≤ bb; omega) _).setCell (p := ⟨bb, oo + k * 4 + 1, none⟩) (by show w6.heap.size ≤ bb; omega) _).setCell (p := ⟨bb, oo + k * 4 + 2, none⟩) (by show w6.heap.size ≤ bb; omega) _).setCell (p := ⟨bb, oo + k * 4 + 3, none⟩) (by show w6.heap.size ≤ bb; omega) _
                have h8n := (hoth b8 (by omega)).trans h8
                have h10n := (hoth b10 (by omega)).trans h10
                have hoA : OpenM (fun k => w6.heap.size ≤ k ∧ k < b8) ((((wr.setCell ⟨bb, oo + k * 4, none⟩ (.int .i64 28)).setCell ⟨bb, oo + k * 4 + 1, none⟩ (.int .i64 0)).setCell ⟨bb, oo + k * 4 + 2, none⟩ (.string { data := #[] })).setCell ⟨bb, oo + k * 4 + 3, none⟩ (.slice none 0 0)) A2 x.kids.length := ho2.kept (fun b hp _ => hoth b (by omega)) (fun _ h => h)
                have hoB : OpenM (fun k => w7a.heap.size ≤ k ∧ k ≠ b10) ((((wr.setCell ⟨bb, oo + k * 4, none⟩ (.int .i64 28)).setCell ⟨bb, oo + k * 4 + 1, none⟩ (.int .i64 0)).setCell ⟨bb, oo + k * 4 + 2, none⟩ (.string { data := #[] })).setCell ⟨bb, oo + k * 4 + 3, none⟩ (.slice none 0 0)) (some ⟨bb, oo, none⟩) m.kids.length := fun _ => ⟨bb, oo, cs', t, rfl, hcs', hsz', hp1, hp2⟩
                have HN := Lib.hid (show _ ∧ _ ∧ _ ∧ _ ∧ _ from ⟨hBn, h8n, h10n, hoA, hoB⟩)
                have e3 : IntKind.i64.wrap ((k : Int) + 1) = ((k + 1 : Nat) : Int) := by rw [IntWalk.i64_in _ (by have := hm3; omega)]; omega
                clear hB h8 h10 ho2 ho3 hcs hsz hcs' hsz' hoth hBn h8n h10n hoA hoB g8
                go_wp2_with fail
                exact ⟨⟨k + 1, by omega, by go_num, HN.out.1, HN.out.2.1, HN.out.2.2.1, HN.out.2.2.2.1, HN.out.2.2.2.2⟩, by simp only [intOf]; omega⟩
              · have hke : k = m.kids.length := by omega
                subst hke
                have hk2 : decide ((m.kids.length : Int) < (m.kids.length : Int)) = false := by simp
                have hk3 : ¬ (m.kids.length : Int) < (m.kids.length : Int) := by omega
                have HL := Lib.hid (show _ ∧ _ ∧ _ ∧ _ ∧ _ from ⟨hB, h8, h10, ho2, ho3⟩)
                clear hB h8 h10 ho2 ho3
                have KZf := Lib.hid (KZ.out.below HL.out.1)
                have KKf := Lib.hid (KK.out.below HL.out.1)
                have BBf := Lib.hid (BB.out.trans (HL.out.1.mono BB.out.size))
                obtain ⟨q0, q1, q2, q3⟩ := cells_of_block KZf.out.box
                obtain ⟨p0, p1, p2, p3⟩ := cells_of_block KKf.out.box
                go_wp2_with fail
                refine (RSame_self z _ _ wr (Nat.le_trans HZ.out.1.count (by decide)) KZf.out.node KKf.out.node).mono ?_
                rintro e w20 ⟨rfl, hb⟩
                have KZf := Lib.hid (KZf.out.below hb)
                have BBf := Lib.hid (BBf.out.trans (hb.mono BBf.out.size))
                clear hb
                go_wp2_with fail
                refine (alive5_any w20 KZf.out.tabs).mono ?_
                rintro e w21 ⟨rfl, hb⟩
                have BBf := Lib.hid (BBf.out.trans (hb.mono BBf.out.size))
                clear hb
                go_wp2_with fail
                go_ret
                exact ⟨rfl, BBf.out⟩
      · go_wp2_with fail
        go_loopw [12] (fun i wr => ∃ k : Nat, k ≤ x.kids.length ∧ i = .int .i64 k ∧ Below w6.heap.size w6 wr ∧ wr.heap[b8]? = some (.cells (nodeCells x A2 c2) 26 (0, 0)) ∧ wr.heap[b10]? = some (.cells (nodeCells m A3 c3) 26 (0, 0)) ∧ OpenM (fun k => w6.heap.size ≤ k ∧ k < b8) wr A2 x.kids.length ∧ OpenM (fun k => w7a.heap.size ≤ k ∧ k ≠ b10) wr A3 m.kids.length) (fun i _ => x.kids.length - (intOf i).toNat)
        case atStart => exact ⟨0, Nat.zero_le _, rfl, HL.out.1, HL.out.2.1, HL.out.2.2.1, HL.out.2.2.2.1, HL.out.2.2.2.2⟩
        case round =>
          obtain ⟨k, hkl, rfl, hB, h8, h10, ho2, ho3⟩ := hrel
          have q8 := (cells_of_block h8).2.2.2
          have hk00 : (0 : Int) ≤ (k : Int) := by omega
          by_cases hlt : k < x.kids.length
          · have hk2 : (k : Int) < (x.kids.length : Int) := by omega
            obtain ⟨bb, oo, cs, t, rfl, hcs, hsz, hp1, hp2⟩ := ho2 (by omega)
            obtain ⟨⟨u0, u1, u2, u3, x0, x1, x2, x3⟩, cs', hcs', hsz'⟩ := open_set (.int .i64 28) (.int .i64 0) (.string { data := #[] }) (.slice none 0 0) hcs hlt hsz
            have hoth : ∀ b, b ≠ bb → ((((wr.setCell ⟨bb, oo + k * 4, none⟩ (.int .i64 28)).setCell ⟨bb, oo + k * 4 + 1, none⟩ (.int .i64 0)).setCell ⟨bb, oo + k * 4 + 2, none⟩ (.string { data := #[] })).setCell ⟨bb, oo + k * 4 + 3, none⟩ (.slice none 0 0)).heap[b]? = wr.heap[b]? := fun b hb => (block_other hb).trans ((block_other hb).trans ((block_other hb).trans (block_other hb)))
            have g8 := HLT.out
            have f0 : wr.frozen? ⟨bb, oo + k * 4, none⟩ = false := frozen_block hcs
            have f1 : wr.frozen? ⟨bb, oo + k * 4 + 1, none⟩ = false := frozen_block hcs
            have f2 : wr.frozen? ⟨bb, oo + k * 4 + 2, none⟩ = false := frozen_block hcs
            have f3 : wr.frozen? ⟨bb, oo + k * 4 + 3, none⟩ = false := frozen_block hcs
            have hBn : Below w6.heap.size w6 ((((wr.setCell ⟨bb, oo + k * 4, none⟩ (.int .i64 28)).setCell ⟨bb, oo + k * 4 + 1, none⟩ (.int .i64 0)).setCell ⟨bb, oo + k * 4 + 2, none⟩ (.string { data := #[] })).setCell ⟨bb, oo + k * 4 + 3, none⟩ (.slice none 0 0)) := (((hB.setCell (p := ⟨bb, oo + k * 4, none⟩) (by show w6.heap.size ≤ bb; omega) _).setCell (p := ⟨bb, oo + k * 4 + 1, none⟩) (by show w6.heap.size ≤ bb; omega) _).setCell (p := ⟨bb, oo + k * 4 + 2, none⟩) (by show w6.heap.size ≤ bb; omega) _).setCell (p := ⟨bb, oo + k * 4 + 3, none⟩) (by show w6.heap.size ≤ bb; omega) _
            have h8n := (hoth b8 (by omega)).trans h8
            have h10n := (hoth b10 (by omega)).trans h10
            have hoA : OpenM (fun k => w6.heap.size ≤ k ∧ k < b8) ((((wr.setCell ⟨bb, oo + k * 4, none⟩ (.int .i64 28)).setCell ⟨bb, oo + k * 4 + 1, none⟩ (.int .i64 0)).setCell ⟨bb, oo + k * 4 + 2, none⟩ (.string { data := #[] })).setCell ⟨bb, oo + k * 4 + 3, none⟩ (.slice none 0 0)) (some ⟨bb, oo, none⟩) x.kids.length := fun _ => ⟨bb, oo, cs', t, rfl, hcs', hsz', hp1, hp2⟩
            have hoB : OpenM (fun k => w7a.heap.size ≤ k ∧ k ≠ b10) ((((wr.setCell ⟨bb, oo + k * 4, none⟩ (.int .i64 28)).setCell ⟨bb, oo + k * 4 + 1, none⟩ (.int .i64 0)).setCell ⟨bb, oo + k * 4 + 2, none⟩ (.string { data := #[] })).setCell ⟨bb, oo + k * 4 + 3, none⟩ (.slice none 0 0)) A3 m.kids.length := ho3.kept (fun b hp _ => hoth b (by omega)) (fun _ h => h)
            have HN := Lib.hid (show _ ∧ _ ∧ _ ∧ _ ∧ _ from ⟨hBn, h8n, h10n, hoA, hoB⟩)
            have e3 : IntKind.i64.wrap ((k : Int) + 1) = ((k + 1 : Nat) : Int) := by rw [IntWalk.i64_in _ (by have := hxc; omega)]; omega
            clear hB h8 h10 ho2 ho3 hcs hsz hcs' hsz' hoth hBn h8n h10n hoA hoB g8
            go_wp2_with fail
            exact ⟨⟨k + 1, by omega, by go_num, HN.out.1, HN.out.2.1, HN.out.2.2.1, HN.out.2.2.2.1, HN.out.2.2.2.2⟩, by simp only [intOf]; omega⟩
          · have hke : k = x.kids.length := by omega
            subst hke
            have hk2 : decide ((x.kids.length : Int) < (x.kids.length : Int)) = false := by simp
            have hk3 : ¬ (x.kids.length : Int) < (x.kids.length : Int) := by omega
            have HL := Lib.hid (show _ ∧ _ ∧ _ ∧ _ ∧ _ from ⟨hB, h8, h10, ho2, ho3⟩)
            clear hB h8 h10 ho2 ho3
            have KZf := Lib.hid (KZ.out.below HL.out.1)
            have KKf := Lib.hid (KK.out.below HL.out.1)
            have BBf := Lib.hid (BB.out.trans (HL.out.1.mono BB.out.size))
            obtain ⟨q0, q1, q2, q3⟩ := cells_of_block KZf.out.box
            obtain ⟨p0, p1, p2, p3⟩ := cells_of_block KKf.out.box
            go_wp2_with fail
            refine (RSame_self z _ _ wr (Nat.le_trans HZ.out.1.count (by decide)) KZf.out.node KKf.out.node).mono ?_
            rintro e w20 ⟨rfl, hb⟩
            have KZf := Lib.hid (KZf.out.below hb)
            have BBf := Lib.hid (BBf.out.trans (hb.mono BBf.out.size))
            clear hb
            go_wp2_with fail
            refine (alive5_any w20 KZf.out.tabs).mono ?_
            rintro e w21 ⟨rfl, hb⟩
            have BBf := Lib.hid (BBf.out.trans (hb.mono BBf.out.size))
            clear hb
            go_wp2_with fail
            go_ret
            exact ⟨rfl, BBf.out⟩
end Go.Proofs.YtpjlgahbbmlngaaDoor.lawTreeOwn
