/-
  Trees: the specification's Find.
-/
import Derived.Test.YtpjlgahbbmlngaaDoorTreeFindsp1
import Derived.Test.YtpjlgahbbmlngaaDoorTreeFindsp2
import Derived.Test.YtpjlgahbbmlngaaDoorTreeLeavesp35
import Derived.Test.YtpjlgahbbmlngaaDoorTreeLeavesp32
import Derived.Deep.LoopGhost
namespace Go.Proofs.YtpjlgahbbmlngaaDoor
set_option linter.unusedVariables false
set_option linter.unusedSimpArgs false
open Go Go.RowKit

theorem findL_mem {off size : Int} {q : List Nat} : ∀ (L : List (List Nat × Nd)) (e : Nat), findL off size e L = some q → ∃ (k : Nat) (x : Nd), L[k]? = some (q, x) ∧ x.kind = 1
  | [], e, h => by simp [findL] at h
  | (p, x) :: L, e, h => by
    simp only [findL] at h
    split at h
    · rename_i hh
      obtain rfl := Option.some.inj h
      simp only [hitF, Bool.and_eq_true, decide_eq_true_eq] at hh
      exact ⟨0, x, rfl, hh.1⟩
    · obtain ⟨k, y, h1, h2⟩ := findL_mem L _ h
      exact ⟨k + 1, y, by simpa using h1, h2⟩
mutual
theorem totN_sumF : ∀ n : Nd, shN n → totN n ≤ 20001 * countN n
  | .mk k t l, h => by
    have := totL_sumF l h.2
    have ht := h.1
    simp only [totN, countN]; omega
theorem totL_sumF : ∀ l : List Nd, shL l → totL l ≤ 20001 * countL l
  | [], _ => by simp [totL]
  | n :: l, h => by
    have h1 := totN_sumF n h.1
    have h2 := totL_sumF l h.2
    simp only [totL, countL]; omega
end
theorem tot_small {z : Nd} (h : SmZ z) : totN z ≤ 1000000000000 := by
  have h1 := totN_sumF z h.sh
  have h2 := h.count
  omega
theorem sumF_len {n : Nd} (h : partsN n = true) : sumF (fun _ => 1) n = (leavesN n).length := by
  rw [sumF_map _ n h, sum_ones]
/-- where the search is -/
structure FdSt (w : World) (B N S M : Nat) (full pre : List Nat) (m : Nat) (x : Nd) (off : Int) (A : Option Addr) (c : Nat) (sv : Value) (wr : World) : Prop where
  box : wr.heap[w.heap.size]? = some (.cells (nodeCells x A c) 26 (0, 0))
  cap : x.kids.length ≤ c
  kids : KidsP (fun k => k < w.heap.size) w A x.kids
  row : wr.ownsRow B 3 1 sv pre.length (intCells pre)
  goes : full = pre ++ rfindN m x off
  deep : deepN x < m
  many : pre.length + m ≤ M
  parts : partsN x = true
  lv : leavesN x ≠ []
  count : countN x ≤ N
  sum : sumT (leavesN x) ≤ S
  o0 : 0 ≤ off
  o1 : off ≤ 10000000000000
  below : Below w.heap.size w wr

set_option maxRecDepth 100000 in
set_option maxHeartbeats 4000000 in
theorem RFind_some (n : Nd) (off : Int) (v : Value) (w : World) (hp : partsN n = true) (hC : sizeN n) (hS : sumS n) (hV : NodeP (fun _ => True) w v n) (hl : leavesN n ≠ []) (h0 : 0 ≤ off) (h1 : off ≤ 10000000000000) :
    Calls Tryd.prog 47 #[v, .int .i64 off] w fun e w' => ∃ v', e = .returned (.tuple #[v', .bool true]) ∧ w'.ownsRow w.heap.size 3 1 v' (rfindN (deepN n + 1) n off).length (intCells (rfindN (deepN n + 1) n off)) ∧ Below w.heap.size w w' := by
  obtain ⟨A, c, rfl, hcap, hkp⟩ := hV
  obtain ⟨w0, hw0⟩ : ∃ w0, w0 = w.alloc (.cells #[.int .i64 n.kind, .int .i64 n.tok.1, .string n.tok.2, .slice A n.kids.length c] 26) := ⟨_, rfl⟩
  have hB0 : Below w.heap.size w w0 := by rw [hw0]; exact (Below.refl _ _).alloc (Nat.le_refl _) _
  have hb0 : w0.heap[w.heap.size]? = some (.cells (nodeCells n A c) 26 (0, 0)) := by rw [hw0]; exact alloc_at _ _ _ rfl
  have hs0 : w0.heap.size = w.heap.size + 1 := by rw [hw0]; simp
  have hkw : KidsP (fun k => k < w.heap.size) w A n.kids := hkp.kept (Nat.le_refl _) (fun _ _ _ => rfl) (fun b _ hb => hb)
  have hlv := RLeaves_any (deepN n + 1) n (.agg #[.int .i64 n.kind, .int .i64 n.tok.1, .string n.tok.2, .slice A n.kids.length c]) w0 (Nat.lt_succ_self _) hC (by have h2 := sumF_ones n; have h := hC; unfold sizeN at h; omega) ⟨A, c, rfl, (hkp.below hB0 (fun _ _ _ => trivial) (P' := fun _ => True)).kids⟩
  rw [sumF_len hp] at hlv
  have hll : ¬ (((leavesN n).length : Nat) : Int) = 0 := by have := List.length_pos_iff.2 hl; omega
  have hll2 : ((((leavesN n).length : Nat) : Int) == 0) = false := by simpa using hll
  have hdn : deepN n < 100000000 := by
    have := atN_small_len n
    unfold sizeN at hC; omega
  obtain ⟨full, hfull⟩ : ∃ full, full = rfindN (deepN n + 1) n off := ⟨_, rfl⟩
  rw [← hfull]
  have hst0 : ∀ W, Below w0.heap.size w0 W → FdSt w w0.heap.size (countN n) (sumT (leavesN n)) (deepN n + 1) full [] (deepN n + 1) n off A c (.slice none 0 0) W := fun W hW =>
    ⟨(hW.block _ (by omega)).trans hb0, hcap, hkw, by simpa [intCells] using World.ownsRow_nil W w0.heap.size 3 1, by simpa using hfull, Nat.lt_succ_self _, by simp, hp, hl, Nat.le_refl _, Nat.le_refl _, h0, h1, hB0.trans (hW.mono hB0.size)⟩
  generalize (leavesN n).length = LL at hlv hll hll2
  have HLv := Lib.hid hlv
  have HW := Lib.hid hw0
  have HX := Lib.hid (show _ ∧ _ ∧ _ ∧ _ ∧ _ from ⟨hst0, hs0, hC, hS, hdn⟩)
  obtain ⟨i0, hi0, hz0, hz1, hz2⟩ := info_parts infoInt
  clear hw0 hB0 hb0 hs0 hkp hkw hcap hst0 hp hC hS hl hfull hlv hdn h0 h1
  go_enter Tryd.func47, Tryd.ntmps47
  go_wp2_with fail
  rw [← HW.out]
  refine HLv.out.mono ?_
  rintro e w1 ⟨rfl, hb1⟩
  have H1 := Lib.hid hb1
  clear hb1
  go_wp2_with fail
  go_loopg [1, 6] (deepN n + 1) (fun g o1 sv0 wr => ∃ (pre : List Nat) (x : Nd) (off' : Int) (A' : Option Addr) (c' : Nat), o1 = .int .i64 off' ∧ FdSt w w0.heap.size (countN n) (sumT (leavesN n)) (deepN n + 1) full pre g x off' A' c' sv0 wr)
  case atStart => exact ⟨[], n, off, A, c, rfl, HX.out.1 w1 H1.out⟩
  case round =>
    obtain ⟨pre, x, of, A', c', rfl, hst⟩ := hrel
    have hz := hst.box
    obtain ⟨q0, q1, q2, q3⟩ := cells_of_block hz
    by_cases hk1 : x.kind = 1
    · have hgo := hst.goes
      have hrf : rfindN gk x of = [] := by cases gk <;> simp [rfindN, hk1]
      rw [hrf, List.append_nil] at hgo
      have hrw := own_le hst.row (show w.heap.size ≤ w0.heap.size by rw [HX.out.2.1]; omega)
      have HE := Lib.hid (show _ ∧ _ ∧ _ from ⟨hgo, hrw, hst.below⟩)
      clear hgo hrw hst hrf hz
      go_wp2_with fail
      go_ret2
      rw [HE.out.1]
      exact ⟨_, rfl, HE.out.2.1, HE.out.2.2⟩
    · have hlk : leavesL x.kids ≠ [] := fun h => by
        have hlv := hst.lv
        cases x with
        | mk k t l =>
          simp only [Nd.kind] at hk1
          simp only [Nd.kids] at h
          simp [leavesN, hk1, h] at hlv
      obtain ⟨bn, y, g1, g2, g3, g4, g5⟩ := best_spec hst.o0 hlk
      have hbl := (List.getElem?_eq_some_iff.1 g2).1
      obtain ⟨m', rfl⟩ : ∃ m', gk = m' + 1 := ⟨gk - 1, by have := hst.deep; omega⟩
      have hrf : rfindN (m' + 1) x of = bn :: rfindN m' y (of - ((sumT (leavesL (x.kids.take bn)) : Nat) : Int)) := by
        simp only [rfindN, if_neg hk1, g1, Int.toNat_natCast, g2]
      obtain ⟨bk, o, rfl, nk⟩ := hst.kids (by omega)
      obtain ⟨aS, cS, rfl⟩ := own_slice hst.row
      have hks := partsN_kids hst.parts
      have hpcw : ∀ (j : Nat) (z : Nd), x.kids[j]? = some z → partsN z = true ∧ countN z ≤ 10000000 ∧ sumT (leavesL (x.kids.take (j + 1))) = sumT (leavesL (x.kids.take j)) + sumT (leavesN z) ∧ sumT (leavesL (x.kids.take (j + 1))) ≤ 1000000000000 := fun j z hj => by
        have e1 := countL_get _ _ _ hj
        have e2 := countN_kids x
        have e3 := hst.count
        have e4 := HX.out.2.2.1
        unfold sizeN at e4
        have e5 := leavesL_cut x.kids (j + 1)
        have e6 := leavesN_kids x
        have e7 := hst.sum
        have e8 := HX.out.2.2.2.1
        unfold sumS at e8
        exact ⟨partsL_get hks hj, by omega, by rw [leavesL_next hj, sumT_append], by omega⟩
      have hkl : x.kids.length ≤ 10000000 := by
        have e2 := countN_kids x
        have e3 := hst.count
        have e4 := HX.out.2.2.1
        have e5 := len_countL x.kids
        unfold sizeN at e4
        omega
      have hsub := w.heap.size
      have hwlt : w.heap.size < wr.heap.size := (Array.getElem?_eq_some_iff.1 hz).1
      have hof0 := hst.o0
      have hof1 := hst.o1
      have HG := Lib.hid (show _ ∧ _ ∧ _ ∧ _ ∧ _ ∧ _ ∧ _ ∧ _ from ⟨hst, hz, nk, hpcw, hrf, g1, g2, g3⟩)
      have HG4 := Lib.hid g4
      have hk2 : (x.kind != 1) = true := by simpa using hk1
      clear hst hz nk hpcw hrf g1 g2 g3 g4 g5 hlk hks hsub
      go_wp2_with fail
      obtain ⟨wo, hwo⟩ : ∃ wo, wo = wr := ⟨_, rfl⟩
      subst hwo
      clear q0 q1 q2 q3
      go_loopw [7, 8, 9] (fun bs at0 i wq => ∃ k : Nat, k ≤ x.kids.length ∧ i = .int .i64 k ∧ bs = .int .i64 (bestP of x.kids k) ∧ at0 = .int .i64 ((sumT (leavesL (x.kids.take k)) : Nat) : Int) ∧ Below wo.heap.size wo wq) (fun _ _ i _ => x.kids.length - (intOf i).toNat)
      case atStart => exact ⟨0, Nat.zero_le _, rfl, rfl, by simp [leavesL, sumT], Below.refl _ _⟩
      case round =>
        obtain ⟨k, hkk, rfl, rfl, rfl, hBq⟩ := hrel
        have hk0 : (0 : Int) ≤ (k : Int) := by omega
        have hzq := (hBq.block w.heap.size hwlt).trans HG.out.2.1
        obtain ⟨q0, q1, q2, q3⟩ := cells_of_block hzq
        by_cases hlt : k < x.kids.length
        · have hk3 : (k : Int) < (x.kids.length : Int) := by omega
          have hx1 : x.kids[k]? = some x.kids[k] := List.getElem?_eq_getElem hlt
          obtain ⟨z, hz⟩ : ∃ z, z = x.kids[k] := ⟨_, rfl⟩
          rw [← hz] at hx1
          obtain ⟨B1, d1, pz, s1, g0, g1, g2, g3, gc, gk⟩ := HG.out.2.2.1.get hx1
          obtain ⟨hpz, hcz, hsz, hs1⟩ := HG.out.2.2.2.1 k z hx1
          have hBw : ∀ W, Below wo.heap.size wo W → Below w.heap.size w W := fun W h => HG.out.1.below.trans (h.mono (by omega))
          have hcell : ∀ W, Below wo.heap.size wo W → (W.cell? ⟨bk, o + k * 4, none⟩ = some (.int .i64 z.kind) ∧ W.cell? ⟨bk, o + k * 4 + 1, none⟩ = some (.int .i64 z.tok.1) ∧ W.cell? ⟨bk, o + k * 4 + 2, none⟩ = some (.string z.tok.2) ∧ W.cell? ⟨bk, o + k * 4 + 3, none⟩ = some (.slice B1 z.kids.length d1)) := fun W h =>
            ⟨((hBw W h).cell (p := ⟨bk, o + k * 4, none⟩) s1).trans g0, ((hBw W h).cell (p := ⟨bk, o + k * 4 + 1, none⟩) s1).trans g1, ((hBw W h).cell (p := ⟨bk, o + k * 4 + 2, none⟩) s1).trans g2, ((hBw W h).cell (p := ⟨bk, o + k * 4 + 3, none⟩) s1).trans g3⟩
          have hnode : ∀ W, Below wo.heap.size wo W → NodeV W (.agg #[.int .i64 z.kind, .int .i64 z.tok.1, .string z.tok.2, .slice B1 z.kids.length d1]) z := fun W h => ⟨B1, d1, rfl, (gk.later (hBw W h)).kids⟩
          have hlen : (leavesN z).length ≤ countN z := leavesN_le z
          have hwid := fun W (h : Below wo.heap.size wo W) => RWidth_any (deepN z + 1) z _ W (Nat.lt_succ_self _) hcz (by rw [sumF_leaves hpz]; omega) (hnode W h)
          have hlea := fun W (h : Below wo.heap.size wo W) => RLeaves_any (deepN z + 1) z _ W (Nat.lt_succ_self _) hcz (by rw [sumF_len hpz]; omega) (hnode W h)
          rw [sumF_leaves hpz] at hwid
          rw [sumF_len hpz] at hlea
          have hbs : bestP of x.kids (k + 1) = if decide (0 < (leavesN z).length) && decide (((sumT (leavesL (x.kids.take k)) : Nat) : Int) ≤ of) then (k : Int) else bestP of x.kids k := by simp only [bestP, hx1]
          obtain ⟨c0, c1, c2, c3⟩ := hcell wr hBq
          have e5 : IntKind.i64.wrap ((k : Int) + 1) = ((k + 1 : Nat) : Int) := by rw [IntWalk.i64_in _ (by omega)]; omega
          have e6 : IntKind.i64.wrap (((sumT (leavesL (x.kids.take k)) : Nat) : Int) + ((sumT (leavesN z) : Nat) : Int)) = ((sumT (leavesL (x.kids.take (k + 1))) : Nat) : Int) := by rw [IntWalk.i64_in _ (by omega), hsz]; omega
          generalize sumT (leavesL (x.kids.take k)) = ak at *
          obtain ⟨ak1, hak1⟩ : ∃ a, a = sumT (leavesL (x.kids.take (k + 1))) := ⟨_, rfl⟩
          rw [← hak1] at hsz hs1 e6
          have HAK := Lib.hid hak1
          clear hak1
          generalize sumT (leavesN z) = wz at *
          generalize (leavesN z).length = lz at *
          generalize bestP of x.kids k = bp at *
          have HWid := Lib.hid (hwid wr hBq)
          have HLea := Lib.hid hlea
          have HBq := Lib.hid hBq
          have HC := Lib.hid hcell
          have HBS := Lib.hid hbs
          clear hwid hlea hBq hcell hnode hbs hz hx1 g0 g1 g2 g3 gc gk pz hsz hs1 hcz hpz hlen hBw hzq
          go_wp2_with fail
          refine HWid.out.mono ?_
          rintro e w5 ⟨rfl, hb5⟩
          have hb5' := HBq.out.trans (hb5.mono HBq.out.size)
          clear q0 q1 q2 q3 c0 c1 c2 c3
          obtain ⟨c0, c1, c2, c3⟩ := HC.out w5 hb5'
          obtain ⟨q0, q1, q2, q3⟩ := cells_of_block ((hb5'.block w.heap.size hwlt).trans HG.out.2.1)
          have H5 := Lib.hid hb5'
          clear hb5 hb5'
          go_wp2_with fail
          refine (HLea.out w5 H5.out).mono ?_
          rintro e w6 ⟨rfl, hb6⟩
          have H6 := Lib.hid (H5.out.trans (hb6.mono H5.out.size))
          clear hb6 q0 q1 q2 q3 c0 c1 c2 c3
          by_cases hl0 : 0 < lz
          · have i1 : (0 : Int) < (lz : Int) := by omega
            by_cases ha : (ak : Int) ≤ of
            · have hbb := HBS.out
              rw [if_pos (by simp [hl0, ha])] at hbb
              have HBB := Lib.hid hbb
              clear hbb
              go_wp2_with fail
              exact ⟨⟨k + 1, by omega, by go_num, by rw [HBB.out], by rw [HAK.out], H6.out⟩, by simp [intOf]; omega⟩
            · have hbb := HBS.out
              rw [if_neg (by simp [ha])] at hbb
              have HBB := Lib.hid hbb
              have i2 : decide ((ak : Int) ≤ of) = false := decide_eq_false ha
              clear hbb
              go_wp2_with fail
              exact ⟨⟨k + 1, by omega, by go_num, by rw [HBB.out], by rw [HAK.out], H6.out⟩, by simp [intOf]; omega⟩
          · have hbb := HBS.out
            rw [if_neg (by simp [hl0])] at hbb
            have HBB := Lib.hid hbb
            have i1 : ¬ (0 : Int) < (lz : Int) := by omega
            have i3 : decide (0 < lz) = false := decide_eq_false hl0
            clear hbb
            go_wp2_with fail
            exact ⟨⟨k + 1, by omega, by go_num, by rw [HBB.out], by rw [HAK.out], H6.out⟩, by simp [intOf]; omega⟩
        · have hke : k = x.kids.length := by omega
          subst hke
          rw [HG.out.2.2.2.2.2.1]
          have hj2 : ¬ (x.kids.length : Int) < (x.kids.length : Int) := by omega
          have hj3 : decide ((x.kids.length : Int) < (x.kids.length : Int)) = false := by simp
          have HBq := Lib.hid hBq
          clear hBq hzq q0 q1 q2 q3
          obtain ⟨q0, q1, q2, q3⟩ := cells_of_block ((HBq.out.block w.heap.size hwlt).trans HG.out.2.1)
          go_wp2_with fail
          clear q0 q1 q2 q3
          obtain ⟨wp, hwp⟩ : ∃ wp, wp = wr := ⟨_, rfl⟩
          subst hwp
          go_loopw [1, 11] (fun o1 i wq => ∃ j : Nat, j ≤ bn ∧ i = .int .i64 j ∧ o1 = .int .i64 (of - ((sumT (leavesL (x.kids.take j)) : Nat) : Int)) ∧ Below wo.heap.size wo wq) (fun _ i _ => bn - (intOf i).toNat)
          case atStart => exact ⟨0, Nat.zero_le _, rfl, by simp [leavesL, sumT], HBq.out⟩
          case round =>
            obtain ⟨j, hjb, rfl, rfl, hBq⟩ := hrel
            have hk0 : (0 : Int) ≤ (j : Int) := by omega
            have hzq := (hBq.block w.heap.size hwlt).trans HG.out.2.1
            obtain ⟨q0, q1, q2, q3⟩ := cells_of_block hzq
            have hBw : Below w.heap.size w wr := HG.out.1.below.trans (hBq.mono (by omega))
            by_cases hlt : j < bn
            · have hk3 : (j : Int) < (bn : Int) := by omega
              have hk4 : (j : Int) < (x.kids.length : Int) := by omega
              have hx1 : x.kids[j]? = some x.kids[j] := List.getElem?_eq_getElem (by omega)
              obtain ⟨z, hz⟩ : ∃ z, z = x.kids[j] := ⟨_, rfl⟩
              rw [← hz] at hx1
              obtain ⟨B1, d1, pz, s1, g0, g1, g2, g3, gc, gk⟩ := HG.out.2.2.1.get hx1
              obtain ⟨hpz, hcz, hsz, hs1⟩ := HG.out.2.2.2.1 j z hx1
              have c0 := (hBw.cell (p := ⟨bk, o + j * 4, none⟩) s1).trans g0
              have c1 := (hBw.cell (p := ⟨bk, o + j * 4 + 1, none⟩) s1).trans g1
              have c2 := (hBw.cell (p := ⟨bk, o + j * 4 + 2, none⟩) s1).trans g2
              have c3 := (hBw.cell (p := ⟨bk, o + j * 4 + 3, none⟩) s1).trans g3
              have hwid := RWidth_any (deepN z + 1) z (.agg #[.int .i64 z.kind, .int .i64 z.tok.1, .string z.tok.2, .slice B1 z.kids.length d1]) wr (Nat.lt_succ_self _) hcz (by rw [sumF_leaves hpz]; omega) ⟨B1, d1, rfl, (gk.later hBw).kids⟩
              rw [sumF_leaves hpz] at hwid
              have e5 : IntKind.i64.wrap ((j : Int) + 1) = ((j + 1 : Nat) : Int) := by rw [IntWalk.i64_in _ (by omega)]; omega
              obtain ⟨ak1, hak1⟩ : ∃ a : Int, a = of - ((sumT (leavesL (x.kids.take (j + 1))) : Nat) : Int) := ⟨_, rfl⟩
              have e6 : IntKind.i64.wrap ((of - ((sumT (leavesL (x.kids.take j)) : Nat) : Int)) - ((sumT (leavesN z) : Nat) : Int)) = ak1 := by rw [IntWalk.i64_in _ (by omega), hak1, hsz]; omega
              have HAK := Lib.hid hak1
              obtain ⟨ak, hak⟩ : ∃ a : Int, a = of - ((sumT (leavesL (x.kids.take j)) : Nat) : Int) := ⟨_, rfl⟩
              rw [← hak] at e6
              rw [← hak]
              clear hak hak1
              generalize sumT (leavesN z) = wz at *
              have HWid := Lib.hid hwid
              have HBq := Lib.hid hBq
              clear hwid hBq hz hx1 g0 g1 g2 g3 gc gk pz hsz hs1 hcz hpz hBw hzq
              go_wp2_with fail
              refine HWid.out.mono ?_
              rintro e w5 ⟨rfl, hb5⟩
              have H5 := Lib.hid (HBq.out.trans (hb5.mono HBq.out.size))
              clear hb5
              go_wp2_with fail
              exact ⟨⟨j + 1, by omega, by go_num, by rw [HAK.out], H5.out⟩, by simp [intOf]; omega⟩
            · have hje : j = bn := by omega
              subst hje
              have hj2 : ¬ (j : Int) < (j : Int) := by omega
              have hj4 : (j : Int) < (x.kids.length : Int) := by omega
              obtain ⟨B1, d1, pz, s1, g0, g1, g2, g3, gc, gk⟩ := HG.out.2.2.1.get HG.out.2.2.2.2.2.2.1
              have c0 := (hBw.cell (p := ⟨bk, o + j * 4, none⟩) s1).trans g0
              have c1 := (hBw.cell (p := ⟨bk, o + j * 4 + 1, none⟩) s1).trans g1
              have c2 := (hBw.cell (p := ⟨bk, o + j * 4 + 2, none⟩) s1).trans g2
              have c3 := (hBw.cell (p := ⟨bk, o + j * 4 + 3, none⟩) s1).trans g3
              have hlt1 := hBq.size
              have hrow0 : wr.ownsRow w0.heap.size 3 1 (.slice aS pre.length cS) pre.length (intCells pre) := own_same HG.out.1.row (fun g e => hBq.block g (HG.out.1.row.lt g e).2)
              have hpm := HG.out.1.many
              have hdn := HX.out.2.2.2.2
              have hrowd := hrow0.alloc (.cells #[.int .i64 (j : Nat)] 3)
              have hnews := World.news_of_block (w := wr.alloc (.cells #[.int .i64 (j : Nat)] 3)) (B := wr.heap.size) (cs := #[.int .i64 (j : Nat)]) (t := 3) (fr := (0, 0)) (alloc_at wr _ _ rfl)
              have h63 : pre.length + 1 ≤ maxLen := by unfold maxLen; omega
              have hby : (pre.length + 1) * 8 ≤ 140737488355328 := by omega
              have hbs : w0.heap.size ≤ (wr.alloc (.cells #[.int .i64 (j : Nat)] 3)).heap.size := by
                have h1 := HX.out.2.1
                have h2 : (wr.alloc (.cells #[.int .i64 (j : Nat)] 3)).heap.size = wr.heap.size + 1 := by simp
                omega
              have HR := Lib.hid (show _ ∧ _ ∧ _ ∧ _ ∧ _ from ⟨hBq, hBw, hzq, gc, gk⟩)
              clear hBq hBw hzq gc gk g0 g1 g2 g3
              go_wp2_with (at_builtin; refine wpList_append_lies _ rfl _ _ 51 rfl w0.heap.size 3 i0 _ 1 8 Tryd.underlying51 hi0 hz0 hz1 hz2 rfl (by decide) _ _ _ rfl hrowd ⟨wr.heap.size, 0, none⟩ 1 1 [.int .i64 (j : Nat)] rfl rfl hnews (by intro u hu; simp at hu; subst hu; rfl) (by decide) h63 hby hbs (wr.heap.size + 1) (by simp) ?_)
              intro g cap w6 hrow6 hgr6 hat6 hlt6
              have hlt9 : ∀ k, (Value.slice aS pre.length cS).ownBlock = some k → w0.heap.size ≤ k ∧ k < wr.heap.size := fun k e => hrow0.lt k e
              have hold : ∀ b, b < wr.heap.size → (Value.slice aS pre.length cS).ownBlock ≠ some b → w6.heap[b]? = wr.heap[b]? := fun b h1 h2 =>
                (hgr6.block b (by simp; omega) (fun e => h2 e.symm)).trans (alloc_old wr _ _ h1)
              have hneB : (Value.slice aS pre.length cS).ownBlock ≠ some w.heap.size := fun e => by have := (hlt9 _ e).1; rw [HX.out.2.1] at this; omega
              have hz6 := (hold w.heap.size (by omega) hneB).trans HR.out.2.2.1
              have hB6 : Below w.heap.size w w6 := by
                refine HR.out.2.1.trans ⟨hgr6.os, hgr6.tape, hgr6.output, ?_, fun b hb => hold b (by omega) (fun e => by have := (hlt9 b e).1; rw [HX.out.2.1] at this; omega)⟩
                have := hgr6.size
                simp at this
                omega
              obtain ⟨r0, r1, r2, r3⟩ := cells_of_block hz6
              have f60 := frozen_block (j := 0) hz6
              have f61 := frozen_block (j := 1) hz6
              have f62 := frozen_block (j := 2) hz6
              have f63 := frozen_block (j := 3) hz6
              have hslt : bk < w.heap.size := pz
              have y0 := (hB6.cell (p := ⟨bk, o + j * 4, none⟩) hslt).trans ((HR.out.2.1.cell (p := ⟨bk, o + j * 4, none⟩) hslt).symm.trans c0)
              have y1 := (hB6.cell (p := ⟨bk, o + j * 4 + 1, none⟩) hslt).trans ((HR.out.2.1.cell (p := ⟨bk, o + j * 4 + 1, none⟩) hslt).symm.trans c1)
              have y2 := (hB6.cell (p := ⟨bk, o + j * 4 + 2, none⟩) hslt).trans ((HR.out.2.1.cell (p := ⟨bk, o + j * 4 + 2, none⟩) hslt).symm.trans c2)
              have y3 := (hB6.cell (p := ⟨bk, o + j * 4 + 3, none⟩) hslt).trans ((HR.out.2.1.cell (p := ⟨bk, o + j * 4 + 3, none⟩) hslt).symm.trans c3)
              have hfin := set4 (v0 := .int .i64 y.kind) (v1 := .int .i64 y.tok.1) (v2 := .string y.tok.2) (v3 := .slice B1 y.kids.length d1) hz6
              have hbel := below4 (b := w.heap.size) (v0 := .int .i64 y.kind) (v1 := .int .i64 y.tok.1) (v2 := .string y.tok.2) (v3 := .slice B1 y.kids.length d1) hB6 (Nat.le_refl _)
              have hgne : g ≠ w.heap.size := by
                have := (hrow6.lt g rfl).1
                rw [HX.out.2.1] at this
                omega
              have hrow7 : (((((w6.setCell ⟨w.heap.size, 0, none⟩ (.int .i64 y.kind)).setCell ⟨w.heap.size, 1, none⟩ (.int .i64 y.tok.1)).setCell ⟨w.heap.size, 2, none⟩ (.string y.tok.2)).setCell ⟨w.heap.size, 3, none⟩ (.slice B1 y.kids.length d1))).ownsRow w0.heap.size 3 1 (.slice (some ⟨g, 0, none⟩) (pre.length + 1) cap) (pre ++ [j]).length (intCells (pre ++ [j])) := by
                rw [show (pre ++ [j]).length = pre.length + 1 by simp, show intCells (pre ++ [j]) = intCells pre ++ [.int .i64 (j : Nat)] by simp [intCells]]
                exact own_same hrow6 (fun b e => other4 (by
                  have e' : g = b := by simpa [Value.ownBlock] using e
                  omega))
              obtain ⟨hpy, hcy, hsy, hs1y⟩ := HG.out.2.2.2.1 j y HG.out.2.2.2.2.2.2.1
              have HF := Lib.hid (show _ ∧ _ ∧ _ from ⟨hrow7, hfin, hbel⟩)
              clear hrow7 hfin hbel hgne hneB hold hlt9 hz6 hB6 hrow6 hgr6 hat6 hlt6 hrowd hnews h63 hby hbs
              go_wp2_with fail
              go_roundg m'
              case measure => exact Nat.lt_succ_self _
              case rel =>
                refine ⟨pre ++ [j], y, of - ((sumT (leavesL (x.kids.take j)) : Nat) : Int), B1, d1, rfl, ?_⟩
                have hst := HG.out.1
                have k1 := countL_get _ _ _ HG.out.2.2.2.2.2.2.1
                have k2 := countN_kids x
                have k3 := hst.count
                have k4 := hst.sum
                have k5 := leavesN_kids x
                have k6 := leavesL_cut x.kids (j + 1)
                have k7 := deepL_at HG.out.2.2.2.2.2.2.1
                have k8 := kids_deep x
                have k9 := hst.deep
                have k10 := HG4.out
                exact ⟨HF.out.2.1, HR.out.2.2.2.1, HR.out.2.2.2.2, HF.out.1, by rw [hst.goes, HG.out.2.2.2.2.1]; simp, by omega, by have := hst.many; simp; omega, hpy, HG.out.2.2.2.2.2.2.2, by omega, by omega, by omega, by omega, HF.out.2.2⟩

set_option maxRecDepth 100000 in
set_option maxHeartbeats 2000000 in
theorem RFind_none (n : Nd) (off : Int) (v : Value) (w : World) (hp : partsN n = true) (hC : sizeN n) (hV : NodeV w v n) (hl : leavesN n = []) :
    Calls Tryd.prog 47 #[v, .int .i64 off] w fun e w' => e = .returned (.tuple #[.slice none 0 0, .bool false]) ∧ Below w.heap.size w w' := by
  obtain ⟨A, c, rfl, hk⟩ := hV
  obtain ⟨w0, hw0⟩ : ∃ w0, w0 = w.alloc (.cells #[.int .i64 n.kind, .int .i64 n.tok.1, .string n.tok.2, .slice A n.kids.length c] 26) := ⟨_, rfl⟩
  have hB0 : Below w.heap.size w w0 := by rw [hw0]; exact (Below.refl _ _).alloc (Nat.le_refl _) _
  have hlv := RLeaves_any (deepN n + 1) n (.agg #[.int .i64 n.kind, .int .i64 n.tok.1, .string n.tok.2, .slice A n.kids.length c]) w0 (Nat.lt_succ_self _) hC (by have h2 := sumF_ones n; have h := hC; unfold sizeN at h; omega) ⟨A, c, rfl, hk.below hB0⟩
  rw [sumF_len hp, hl] at hlv
  have HLv := Lib.hid hlv
  have HW := Lib.hid hw0
  have HB := Lib.hid hB0
  clear hlv hw0 hB0 hk hp hC hl
  go_enter Tryd.func47, Tryd.ntmps47
  go_wp2_with fail
  rw [← HW.out]
  refine HLv.out.mono ?_
  rintro e w1 ⟨rfl, hb1⟩
  have HB1 := Lib.hid (HB.out.trans (hb1.mono HB.out.size))
  clear hb1
  go_wp2_with fail
  go_ret2
  exact ⟨rfl, HB1.out⟩
end Go.Proofs.YtpjlgahbbmlngaaDoor
