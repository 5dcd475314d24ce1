/-
  Trees: the specification's At.
-/
import Derived.Test.YtpjlgahbbmlngaaDoorTreeLeavesp35
import Derived.BigRegion
namespace Go.Proofs.YtpjlgahbbmlngaaDoor
set_option linter.unusedVariables false
set_option linter.unusedSimpArgs false
open Go Go.RowKit

theorem sumF_leaves {n : Nd} (h : partsN n = true) : sumF (fun t => t.2.size) n = sumT (leavesN n) := by
  rw [← sumT_gat, gatN_eq n h]

set_option maxRecDepth 100000 in
set_option maxHeartbeats 2000000 in
theorem RAt_any (n xE : Nd) (bE : Nat) (v : Value) (l : List Int) (Ap : Option Addr) (cp : Nat) (w : World) (hp : partsN n = true) (hC : sizeN n) (hS : sumS n) (hV : NodeP (fun _ => True) w v n) (hl : l.length ≤ 1000000000) (hP : IntsR w Ap l) (hg : goR n l 0 = some (xE, bE)) :
    Calls Tryd.prog 41 #[v, .slice Ap l.length cp] w fun e w' => (∃ A c, e = .returned (.tuple #[.agg #[.int .i64 xE.kind, .int .i64 xE.tok.1, .string xE.tok.2, .slice A xE.kids.length c], .int .i64 (bE : Nat)]) ∧ xE.kids.length ≤ c ∧ KidsP (fun k => k < w.heap.size) w A xE.kids) ∧ Below w.heap.size w w' := by
  obtain ⟨A, c, rfl, hcap, hkp⟩ := hV
  obtain ⟨w0, hw0⟩ : ∃ w0, w0 = (w.alloc (.cells #[.int .i64 n.kind, .int .i64 n.tok.1, .string n.tok.2, .slice A n.kids.length c] 26)).alloc (.cells #[.int .i64 0, .int .i64 0, .string { data := #[] }, .slice none 0 0] 26) := ⟨_, rfl⟩
  have hB0 : Below w.heap.size w w0 := by rw [hw0]; exact ((Below.refl _ _).alloc (Nat.le_refl _) _).alloc (by simp) _
  have hb0 : w0.heap[w.heap.size]? = some (.cells (nodeCells n A c) 26 (0, 0)) := by rw [hw0, alloc_old _ _ _ (by simp)]; exact alloc_at _ _ _ rfl
  have hb1 : w0.heap[w.heap.size + 1]? = some (.cells zeroCells 26 (0, 0)) := by rw [hw0]; exact alloc_at _ _ _ (by simp)
  have hs0 : w0.heap.size = w.heap.size + 2 := by rw [hw0]; simp
  have hkw : KidsP (fun k => k < w.heap.size) w A n.kids := hkp.kept (Nat.le_refl _) (fun _ _ _ => rfl) (fun b _ hb => hb)
  have hst0 : GoSt w n l (sumT (leavesN n)) w.heap.size 0 n A c 0 w0 := ⟨hb0, hcap, hkw, rfl, Nat.le_refl _, by omega, hB0⟩
  have HW := Lib.hid hw0
  have HX := Lib.hid (show _ ∧ _ ∧ _ ∧ _ ∧ _ from ⟨hst0, hP, hb1, hs0, hp⟩)
  have HN := Lib.hid (show _ ∧ _ ∧ _ from ⟨hC, hS, hg⟩)
  clear hw0 hB0 hb0 hb1 hs0 hkp hkw hcap hP hst0 hp hC hS hg
  go_enter Tryd.func41, Tryd.ntmps41
  go_wp2_with fail
  rw [← HW.out]
  go_loopw [6, 7] (fun bg i wr => ∃ (k b : Nat) (x : Nd) (A' : Option Addr) (c' : Nat), k ≤ l.length ∧ i = .int .i64 k ∧ bg = .int .i64 b ∧ partsN x = true ∧ wr.heap[w.heap.size + 1]? = some (.cells zeroCells 26 (0, 0)) ∧ GoSt w n l (sumT (leavesN n)) w.heap.size k x A' c' b wr) (fun _ i _ => l.length - (intOf i).toNat)
  case atStart => exact ⟨0, 0, n, A, c, Nat.zero_le _, rfl, rfl, HX.out.2.2.2.2, HX.out.2.2.1, HX.out.1⟩
  case round =>
    obtain ⟨k, b, x, A', c', hk, rfl, rfl, hpx, hzr, hst⟩ := hrel
    have hz := hst.box
    obtain ⟨q0, q1, q2, q3⟩ := cells_of_block hz
    by_cases hlt : k < l.length
    · have hk0 : (0 : Int) ≤ (k : Int) := by omega
      have hk1 : (k : Int) < (l.length : Int) := by omega
      obtain ⟨bi, rfl, hbi, gi⟩ := HX.out.2.1 (by omega)
      have e1 := gi k _ (List.getElem?_eq_getElem hlt)
      have hdrop : l.drop k = l[k] :: l.drop (k + 1) := List.drop_eq_getElem_cons hlt
      obtain ⟨i, hi⟩ : ∃ i, i = l[k] := ⟨_, rfl⟩
      rw [← hi] at e1 hdrop
      have hgo := HN.out.2.2
      rw [hst.goes, hdrop] at hgo
      have hin : ¬ (i < 0 ∨ (x.kids.length : Int) ≤ i) := fun h => by rw [goR_no h] at hgo; cases hgo
      obtain ⟨j, rfl⟩ : ∃ j : Nat, i = (j : Int) := ⟨i.toNat, by omega⟩
      have hj : j < x.kids.length := by omega
      have hj1 : (j : Int) < (x.kids.length : Int) := by omega
      have hj0 : (0 : Int) ≤ (j : Int) := by omega
      obtain ⟨bk, o, rfl, nk⟩ := hst.kids (by omega)
      have hx0 : x.kids[j]? = some x.kids[j] := List.getElem?_eq_getElem hj
      obtain ⟨y, hy⟩ : ∃ y, y = x.kids[j] := ⟨_, rfl⟩
      rw [← hy] at hx0
      have e3 : IntKind.i64.wrap ((k : Int) + 1) = ((k + 1 : Nat) : Int) := by rw [IntWalk.i64_in _ (by omega)]; omega
      have HNK := Lib.hid nk
      have HX0 := Lib.hid hx0
      have HG := Lib.hid (show _ ∧ _ ∧ _ ∧ _ ∧ _ from ⟨hst, hdrop, hz, hpx, hzr⟩)
      have HE1 := Lib.hid e1
      have hwr := (Array.getElem?_eq_some_iff.1 hzr).1
      clear hy hx0 nk hi hdrop hgo hin hst gi hz hpx hzr q0 q1 q2 q3 e1
      go_wp2_with fail
      obtain ⟨wo, hwo⟩ : ∃ wo, wo = wr := ⟨_, rfl⟩
      subst hwo
      go_loopw [6, 8] (fun bg jj wq => ∃ (jn : Nat), jn ≤ j ∧ jj = .int .i64 jn ∧ bg = .int .i64 ((b + sumT (leavesL (x.kids.take jn)) : Nat) : Int) ∧ Below wo.heap.size wo wq) (fun _ jj _ => j - (intOf jj).toNat)
      case atStart => exact ⟨0, Nat.zero_le _, rfl, by simp [leavesL, sumT], Below.refl _ _⟩
      case round =>
        obtain ⟨jn, hjn, rfl, rfl, hBq⟩ := hrel
        have hBw : Below w.heap.size w wr := HG.out.1.below.trans (hBq.mono (by omega))
        have e1 := (hBw.cell (p := ⟨bi, k, none⟩) hbi).trans HE1.out
        have hzq := (hBq.block w.heap.size (by omega)).trans HG.out.2.2.1
        obtain ⟨q0, q1, q2, q3⟩ := cells_of_block hzq
        have hkl := HG.out.1.count
        have hck := countN_kids x
        have hlk := len_countL x.kids
        have hC := HN.out.1
        unfold sizeN at hC
        by_cases hjl : jn < j
        · have hx1 : x.kids[jn]? = some x.kids[jn] := List.getElem?_eq_getElem (by omega)
          obtain ⟨z, hz⟩ : ∃ z, z = x.kids[jn] := ⟨_, rfl⟩
          rw [← hz] at hx1
          obtain ⟨B1, d1, pz, s1, g0, g1, g2, g3, gc, gk⟩ := HNK.out.get hx1
          have x0 := (hBw.cell (p := ⟨bk, o + jn * 4, none⟩) s1).trans g0
          have x1 := (hBw.cell (p := ⟨bk, o + jn * 4 + 1, none⟩) s1).trans g1
          have x2 := (hBw.cell (p := ⟨bk, o + jn * 4 + 2, none⟩) s1).trans g2
          have x3 := (hBw.cell (p := ⟨bk, o + jn * 4 + 3, none⟩) s1).trans g3
          have hnx := leavesL_next hx1
          have hcut := leavesL_cut x.kids (jn + 1)
          have hkk := leavesN_kids x
          rw [hnx, sumT_append] at hcut
          have hcz := countL_get _ _ _ hx1
          have hS2 := HN.out.2.1
          unfold sumS at hS2
          have hsm2 := HG.out.1.sum
          have hpz := partsL_get (partsN_kids HG.out.2.2.2.1) hx1
          have hwid := RWidth_any (deepN z + 1) z (.agg #[.int .i64 z.kind, .int .i64 z.tok.1, .string z.tok.2, .slice B1 z.kids.length d1]) wr (Nat.lt_succ_self _) (by omega) (by rw [sumF_leaves hpz]; omega) ⟨B1, d1, rfl, (gk.later hBw).kids⟩
          rw [sumF_leaves hpz] at hwid
          have hj2 : (jn : Int) < (j : Int) := by omega
          have hj3 : (0 : Int) ≤ (jn : Int) := by omega
          have hj4 : (jn : Int) < (x.kids.length : Int) := by omega
          have e5 : IntKind.i64.wrap ((jn : Int) + 1) = ((jn + 1 : Nat) : Int) := by rw [IntWalk.i64_in _ (by omega)]; omega
          have e6 : IntKind.i64.wrap (((b + sumT (leavesL (x.kids.take jn)) : Nat) : Int) + ((sumT (leavesN z) : Nat) : Int)) = ((b + sumT (leavesL (x.kids.take (jn + 1))) : Nat) : Int) := by rw [IntWalk.i64_in _ (by omega), hnx, sumT_append]; omega
          have HWid := Lib.hid hwid
          have HBq := Lib.hid hBq
          clear hx1 hz pz g0 g1 g2 g3 gc gk hnx hcut hkk hcz hwid hBw hBq hS2 hsm2 hpz hzq
          generalize b + sumT (leavesL (x.kids.take jn)) = bs at *
          obtain ⟨bt, hbt⟩ : ∃ bt, bt = b + sumT (leavesL (x.kids.take (jn + 1))) := ⟨_, rfl⟩
          rw [← hbt] at e6
          have HBT := Lib.hid hbt
          clear hbt
          generalize sumT (leavesN z) = wz at *
          go_wp2_with fail
          refine HWid.out.mono ?_
          rintro e w5 ⟨rfl, hb5⟩
          have H5 := Lib.hid (HBq.out.trans (hb5.mono HBq.out.size))
          clear hb5
          go_wp2_with fail
          refine ⟨?_, by simp [intOf]; omega⟩
          exact ⟨jn + 1, by omega, by go_num, by rw [HBT.out], H5.out⟩
        · have hje : jn = j := by omega
          subst hje
          have hj2 : ¬ (jn : Int) < (jn : Int) := by omega
          have f0 := frozen_block (j := 0) hzq
          have f1 := frozen_block (j := 1) hzq
          have f2 := frozen_block (j := 2) hzq
          have f3 := frozen_block (j := 3) hzq
          obtain ⟨B1, d1, pz, s1, g0, g1, g2, g3, gc, gk⟩ := HNK.out.get HX0.out
          have x0 := (hBw.cell (p := ⟨bk, o + jn * 4, none⟩) s1).trans g0
          have x1 := (hBw.cell (p := ⟨bk, o + jn * 4 + 1, none⟩) s1).trans g1
          have x2 := (hBw.cell (p := ⟨bk, o + jn * 4 + 2, none⟩) s1).trans g2
          have x3 := (hBw.cell (p := ⟨bk, o + jn * 4 + 3, none⟩) s1).trans g3
          have hzr := (hBq.block (w.heap.size + 1) hwr).trans HG.out.2.2.2.2
          have hpy := partsL_get (partsN_kids HG.out.2.2.2.1) HX0.out
          have HZ := Lib.hid (show _ ∧ _ ∧ _ ∧ _ ∧ _ ∧ _ from ⟨hzq, hBw, gc, gk, hzr, hpy⟩)
          clear pz g0 g1 g2 g3 gc gk hBw hzq hBq hzr hpy
          go_wp2_with fail
          go_region
          all_goals
            go_wp2_with fail
            have hfin := set4 (v0 := .int .i64 y.kind) (v1 := .int .i64 y.tok.1) (v2 := .string y.tok.2) (v3 := .slice B1 y.kids.length d1) HZ.out.1
            have hbel := below4 (b := w.heap.size) (v0 := .int .i64 y.kind) (v1 := .int .i64 y.tok.1) (v2 := .string y.tok.2) (v3 := .slice B1 y.kids.length d1) HZ.out.2.1 (Nat.le_refl _)
            exact ⟨⟨k + 1, b + sumT (leavesL (x.kids.take jn)), y, B1, d1, by omega, by go_num, by simp, HZ.out.2.2.2.2.2, (other4 (Nat.succ_ne_self _)).trans HZ.out.2.2.2.2.1, HG.out.1.next HG.out.2.1 HX0.out hfin HZ.out.2.2.1 HZ.out.2.2.2.1 hbel.drew⟩, by simp [intOf]; omega⟩
    · have hke : k = l.length := by omega
      subst hke
      have hgo := HN.out.2.2
      rw [hst.goes, List.drop_length] at hgo
      simp only [goR, Option.some.injEq, Prod.mk.injEq] at hgo
      obtain ⟨rfl, rfl⟩ := hgo
      have hj2 : ¬ (l.length : Int) < (l.length : Int) := by omega
      have r0 := Lib.cell_of_heap hzr 0
      have r1 := Lib.cell_of_heap hzr 1
      have r2 := Lib.cell_of_heap hzr 2
      have r3 := Lib.cell_of_heap hzr 3
      have f0 := frozen_block (j := 0) hzr
      have f1 := frozen_block (j := 1) hzr
      have f2 := frozen_block (j := 2) hzr
      have f3 := frozen_block (j := 3) hzr
      have HG := Lib.hid (show _ ∧ _ from ⟨hst, hzr⟩)
      clear hst hz hzr
      go_wp2_with fail
      have hz9 := set4 (v0 := .int .i64 x.kind) (v1 := .int .i64 x.tok.1) (v2 := .string x.tok.2) (v3 := .slice A' x.kids.length c') HG.out.2
      have s0 := Lib.cell_of_heap hz9 0
      have s1 := Lib.cell_of_heap hz9 1
      have s2 := Lib.cell_of_heap hz9 2
      have s3 := Lib.cell_of_heap hz9 3
      refine bodyPost_ret (by simp [results, Tryd.f41, go_sem, s0, s1, s2, s3]; try rfl) rfl ?_
      exact ⟨⟨A', c', rfl, HG.out.1.cap, HG.out.1.kids⟩, below4 HG.out.1.below (Nat.le_succ _)⟩
end Go.Proofs.YtpjlgahbbmlngaaDoor
