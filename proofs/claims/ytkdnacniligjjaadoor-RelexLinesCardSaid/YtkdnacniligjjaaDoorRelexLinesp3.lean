/-
  relex: the specification's Line.
-/
import Derived.Test.YtkdnacniligjjaaDoorRelexLinesp1
import Derived.Test.YtkdnacniligjjaaDoorRelexLinesp2
import Derived.Test.YtkdnacniligjjaaDoorRelexCommonsp30
namespace Go.Proofs.YtkdnacniligjjaaDoor
set_option linter.unusedVariables false
set_option linter.unusedSimpArgs false
open Go.RowKit

/-- a row of bools -/
def rowB (n : Nat) (g : Nat → Bool) : List Value := (List.range n).map fun k => Value.bool (g k)
theorem rowB_length (n : Nat) (g : Nat → Bool) : (rowB n g).length = n := by simp [rowB]
theorem rowB_get {n : Nat} {g : Nat → Bool} {k : Nat} (h : k < n) : (rowB n g)[k]? = some (Value.bool (g k)) := by
  unfold rowB
  rw [List.getElem?_map, List.getElem?_range h]
  rfl
theorem rowB_congr {n : Nat} {g h : Nat → Bool} (hx : ∀ x, x < n → g x = h x) : rowB n g = rowB n h := by
  unfold rowB
  exact List.map_congr_left fun x hm => by rw [hx x (List.mem_range.1 hm)]
theorem rowB_rep (n : Nat) : List.replicate n (Value.bool false) = rowB n (fun _ => false) := by
  apply List.ext_getElem?
  intro i
  by_cases h : i < n
  · rw [rowB_get h]; simp [h]
  · rw [List.getElem?_eq_none (by simp; omega), List.getElem?_eq_none (by rw [rowB_length]; omega)]
theorem rowB_set {n : Nat} {g : Nat → Bool} {k : Nat} : (rowB n g).set k (Value.bool true) = rowB n (fun x => g x || decide (x = k)) := by
  apply List.ext_getElem?
  intro i
  by_cases h : i < n
  · rw [rowB_get h, List.getElem?_set]
    by_cases hk : k = i
    · subst hk
      simp [rowB_length, h]
    · rw [if_neg hk, rowB_get h]
      simp [show ¬ i = k from fun e => hk e.symm]
  · rw [List.getElem?_eq_none (by rw [List.length_set, rowB_length]; omega), List.getElem?_eq_none (by rw [rowB_length]; omega)]
theorem covP_take {y : ByteArray} {P : List (Int × Int)} {k : Nat} (h : k < P.length) (x : Nat) : covP y (P.take (k + 1)) x = (covP y (P.take k) x || (decide (lnF y P[k].1.toNat ≤ x) && decide (x < lnT y P[k].2.toNat))) := by
  unfold covP
  rw [List.take_succ_eq_append_getElem h, List.any_append]
  simp
theorem infoBool : (Tryd.prog.info? 4).map (fun i => (i.zero, i.size, i.bytes)) = some (some (.bool false), 1, 1) := by kernel_rfl
theorem spans_at (t : ByteArray) (l : List Ed) {n : Nat} (h : rising (n : Nat) 0 (invertL t 0 l) = true) {k : Nat} (hk : k < (placedL 0 l).length) : ∃ a b : Nat, (placedL 0 l)[k] = ((a : Int), (b : Int)) ∧ a ≤ b ∧ b ≤ n := by
  have hl : k < l.length := by rw [placedL_length] at hk; exact hk
  have hi : k < (invertL t 0 l).length := by rw [invertL_length]; exact hl
  have hr := rising_get h hi
  rw [invertL_get t 0 l k hl hi] at hr
  simp only at hr
  rw [placedL_get 0 l k hl hk]
  refine ⟨(l[k].f + (0 + sumG (l.take k))).toNat, (l[k].f + (0 + sumG (l.take k)) + l[k].s.size).toNat, ?_, by omega, by omega⟩
  simp only [Prod.mk.injEq]
  omega

set_option maxRecDepth 100000 in
set_option maxHeartbeats 8000000 in
theorem RLine_any (s : ByteArray) (c : Nat) (A : Option Addr) (es : List Ed) (w : World) (hs : s.size ≤ 20000) (hck : checkE s.size es = 0) (hes : Small es) (hE : EdsV w A es) :
    Calls Tryd.prog 37 #[.string s, .slice A es.length c] w fun e w' => e = .returned (.int .i64 (lineF (applyB s es) (invertL s 0 es)).1) ∧ Below w.heap.size w w' := by
  obtain ⟨i0, hi0, hz0, hz1, hz2⟩ := info_parts infoBool
  rw [line_count s es hck]
  obtain ⟨k1, k2, k3, k4⟩ := checkE_ok hck
  have hys : (applyB s es).size ≤ 20000 := by have := applyB_size k3; omega
  have hri := (checkE_ok (back_all s es hck).1).2.2.1
  have hap := rApply_any s c A es w hes (by omega) k3 hE
  have hpl := fun W (hW : EdsV W A es) => rPlaces_own s.size c A es W hes (by omega) k3 hW
  have hat := fun k (hk : k < (placedL 0 es).length) => spans_at s es hri hk
  have hlen := placedL_length 0 es
  generalize applyB s es = y at *
  generalize placedL 0 es = P at *
  rw [← hlen] at hpl hap k2 ⊢
  have Hap := Lib.hid hap
  have Hpl := Lib.hid hpl
  have Hat := Lib.hid hat
  have HE := Lib.hid hE

  clear hap hpl hat hE hri k3 k1 k4 hck hlen
  obtain ⟨n, hn⟩ : ∃ n, n = y.size := ⟨_, rfl⟩
  have HNY := Lib.hid hn
  go_enter Tryd.func37, Tryd.ntmps37
  go_wp2_with fail
  refine Hap.out.mono ?_
  rintro e w1 ⟨rfl, hb1⟩
  go_wp2_with fail
  refine (Hpl.out w1 (HE.out.below hb1)).mono ?_
  rintro e w2 ⟨v2, rfl, ho2, hb2⟩
  obtain ⟨ao, cap, rfl, hao⟩ := own_shape ho2
  have HB2 := Lib.hid (hb1.trans (hb2.mono hb1.size))
  have Ho2 := Lib.hid ho2
  have Hao := Lib.hid hao
  clear hb1 hb2 ho2 hao
  go_wp2_with (at_make; refine wpList_make_full _ rfl _ _ 94 rfl w.heap.size 4 i0 _ 1 Tryd.underlying94 hi0 hz0 hz1 _ _ _ _ y.size rfl rfl rfl rfl (by rw [hz2]; omega) (by unfold maxLen; omega) HB2.out.size ?_)
  intro w3 hown3 hgrow3
  have hb3 := HB2.out.grown hgrow3 HB2.out.size (fun k hk => by cases hk)
  have hown3' : w3.ownsRow w.heap.size 4 1 (.slice (some ⟨w2.heap.size, 0, none⟩) y.size y.size) y.size (rowB y.size (covP y (P.take 0))) := by
    have e : (madeCells #[Value.bool false] y.size).toList = rowB y.size (covP y (P.take 0)) := by
      refine (toList_madeCells_one _ _).trans ((rowB_rep _).trans (rowB_congr fun x _ => ?_))
      simp [covP]
    rw [← e]
    exact hown3
  have hsp3 := Ho2.out.kept hgrow3 (Classical.em _)
  have HO3 := Lib.hid hown3'
  have HS3 := Lib.hid hsp3
  have HB3 := Lib.hid hb3
  clear hown3 hown3' hgrow3 hsp3 hb3
  go_wp2_with fail
  go_loopw [8, 9, 10, 11] (fun i _ _ _ wr => ∃ (k : Nat), k ≤ P.length ∧ i = .int .i64 k ∧ wr.ownsRow w.heap.size 4 1 (.slice (some ⟨w2.heap.size, 0, none⟩) y.size y.size) y.size (rowB y.size (covP y (P.take k))) ∧ wr.ownsRow w1.heap.size 84 2 (.slice ao P.length cap) P.length (spCells P) ∧ Below w.heap.size w wr) (fun i _ _ _ _ => P.length - (intOf i).toNat)
  case atStart => exact ⟨0, Nat.zero_le _, rfl, HO3.out, HS3.out, HB3.out⟩
  case round =>
    obtain ⟨k, hk, rfl, hown, hsp, hB⟩ := hrel
    by_cases hlt : k < P.length
    · obtain ⟨a, b, hab, h1, h2⟩ := Hat.out k hlt
      obtain ⟨g, rfl, hg1, hg2⟩ := Hao.out (by omega)
      obtain ⟨c1, c2⟩ := sp_get hsp hlt
      rw [hab] at c1 c2
      obtain ⟨F, hF⟩ : ∃ F, lnF y a = F := ⟨_, rfl⟩
      obtain ⟨T, hT⟩ : ∃ T, lnT y b = T := ⟨_, rfl⟩
      have hcov : ∀ x, covP y (P.take (k + 1)) x = (covP y (P.take k) x || (decide (F ≤ x) && decide (x < T))) := fun x => by
        rw [covP_take (y := y) hlt x, hab]
        simp only [Int.toNat_natCast, hF, hT]
      simp only [Int.toNat_natCast] at c1 c2
      have hF1 := (lnF_spec (s := y) (f := a) (by omega)).2
      have hF2 : ∀ q, q < a → at10 y q → q + 1 ≤ lnF y a := fun q h3 h4 => lnF_max (by omega) h3 h4
      have hT1 := lnT_spec h2
      have hT2 : ∀ q, b ≤ q → at10 y q → lnT y b ≤ q + 1 := fun q h3 h4 => lnT_min h3 h4
      rw [hF] at hF1 hF2
      rw [hT] at hT1 hT2
      clear hF hT
      obtain ⟨hFa, hF3⟩ := hF1
      obtain ⟨hTb, hTn, hT3⟩ := hT1
      have hFT : F ≤ T := by omega
      have Hown := Lib.hid hown
      have Hsp := Lib.hid hsp
      have HB := Lib.hid hB
      have HF2 := Lib.hid hF2
      have HF3 := Lib.hid hF3
      have HT2 := Lib.hid hT2
      have HT3 := Lib.hid hT3
      have Hcov := Lib.hid hcov
      clear hown hsp hB hF2 hF3 hT2 hT3 hcov hab
      go_wp2_with fail
      go_quiet (fail)
      obtain ⟨w4, hw4⟩ : ∃ w4, w4 = wr.drewN nq := ⟨_, rfl⟩
      have Hown4 := Lib.hid (show w4.ownsRow w.heap.size 4 1 (.slice (some ⟨w2.heap.size, 0, none⟩) y.size y.size) y.size (rowB y.size (covP y (P.take k))) by rw [hw4]; exact Hown.out)
      have Hsp4 := Lib.hid (show w4.ownsRow w1.heap.size 84 2 (.slice (some ⟨g, 0, none⟩) P.length cap) P.length (spCells P) by rw [hw4]; exact Hsp.out)
      have HB4 := Lib.hid (show Below w.heap.size w w4 by rw [hw4]; exact below_drewN HB.out _)
      rw [← hw4]
      clear hw4 c1 c2
      go_wp2_with fail
      go_loopw [9] (fun f wr => ∃ (j : Nat), f = .int .i64 j ∧ F ≤ j ∧ j ≤ a ∧ wr.ownsRow w.heap.size 4 1 (.slice (some ⟨w2.heap.size, 0, none⟩) y.size y.size) y.size (rowB y.size (covP y (P.take k))) ∧ wr.ownsRow w1.heap.size 84 2 (.slice (some ⟨g, 0, none⟩) P.length cap) P.length (spCells P) ∧ Below w.heap.size w wr) (fun f _ => (intOf f).toNat)
      case atStart => exact ⟨a, rfl, hFa, Nat.le_refl _, Hown4.out, Hsp4.out, HB4.out⟩
      case round =>
        obtain ⟨j, rfl, hj1, hj2, hown, hsp, hB⟩ := hrel
        have Hown := Lib.hid hown
        have Hsp := Lib.hid hsp
        have HB := Lib.hid hB
        clear hown hsp hB
        rcases Nat.eq_zero_or_pos j with h0 | h0
        · subst h0
          obtain rfl : F = 0 := by omega
          have q0 : decide ((0 : Int) < ((0 : Nat) : Int)) = false := by simp
          go_wp2_with fail
          go_loopw [10] (fun i wr => ∃ (m : Nat), i = .int .i64 m ∧ b ≤ m ∧ m ≤ T ∧ (m < T ∨ T = y.size) ∧ wr.ownsRow w.heap.size 4 1 (.slice (some ⟨w2.heap.size, 0, none⟩) y.size y.size) y.size (rowB y.size (covP y (P.take k))) ∧ wr.ownsRow w1.heap.size 84 2 (.slice (some ⟨g, 0, none⟩) P.length cap) P.length (spCells P) ∧ Below w.heap.size w wr) (fun i _ => y.size - (intOf i).toNat)
          case atStart => exact ⟨b, rfl, Nat.le_refl _, hTb, by rcases HT3.out with h | ⟨q, h, h3, _⟩ <;> omega, Hown.out, Hsp.out, HB.out⟩
          case round =>
            obtain ⟨m, rfl, hm1, hm2, hm3, hown, hsp, hB⟩ := hrel
            have Hown := Lib.hid hown
            have Hsp := Lib.hid hsp
            have HB := Lib.hid hB
            clear hown hsp hB
            by_cases hmn : m < y.size
            · have r0 : decide (m < y.size) = true := by simpa using hmn
              have r1 : (m : Int) < (y.size : Int) := by omega
              rcases byte10 hmn with ⟨q2, h10⟩ | q2
              · have hTm : T = m + 1 := by have := HT2.out m hm1 h10; omega
                have rn : ((((y[m]'hmn).toNat : Int)) != 10) = false := by rw [bne, q2]; rfl
                clear h10 q2
                go_wp2_with fail
                go_loopw [11] (fun i wr => ∃ (v : Nat), i = .int .i64 v ∧ 0 ≤ v ∧ v ≤ T ∧ wr.ownsRow w.heap.size 4 1 (.slice (some ⟨w2.heap.size, 0, none⟩) y.size y.size) y.size (rowB y.size (fun x => covP y (P.take k) x || (decide (0 ≤ x) && decide (x < v)))) ∧ wr.ownsRow w1.heap.size 84 2 (.slice (some ⟨g, 0, none⟩) P.length cap) P.length (spCells P) ∧ Below w.heap.size w wr) (fun i _ => y.size - (intOf i).toNat)
                case atStart =>
                  refine ⟨0, by first | rfl | go_num, Nat.le_refl _, by have := hFT; omega, ?_, Hsp.out, HB.out⟩
                  rw [← rowB_congr (g := covP y (P.take k)) (fun x _ => by
                    have : (decide (0 ≤ x) && decide (x < 0)) = false := by
                      rcases Nat.lt_or_ge x (0) with h | h
                      · simp; try omega
                      · simp; try omega
                    rw [this, Bool.or_false])]
                  exact Hown.out
                case round =>
                  obtain ⟨z, rfl, hz1, hz2, hown, hsp, hB⟩ := hrel
                  by_cases hzT : z < T
                  · have hzm : (z : Int) ≤ (m : Int) := by omega
                    have hzn : (z : Int) < (y.size : Int) := by omega
                    have p1 : decide ((z : Int) ≤ (m : Int)) = true := by simpa using hzm
                    have p2 : decide (z < y.size) = true := by simp; omega
                    have hzl : z < y.size := by omega
                    have f1 : wr.frozen? ⟨w2.heap.size, z, none⟩ = false := hown.frozenAt _
                    have d1 : wr.cell? ⟨w2.heap.size, z, none⟩ = some ((rowB y.size (fun x => covP y (P.take k) x || (decide (0 ≤ x) && decide (x < z))))[z]'(by rw [rowB_length]; omega)) := by rw [hown.cellAt _ (by omega)]; exact List.getElem?_eq_getElem _
                    have st := hown.stored z (.bool true)
                    have hne : (Value.slice (some ⟨g, 0, none⟩) P.length cap).ownBlock ≠ some w2.heap.size := by simp [Value.ownBlock]; omega
                    have sp2 := hsp.kept st.2 (.inr hne)
                    have hB2 := hB.setCell (p := ⟨w2.heap.size, z, none⟩) HB2.out.size (.bool true)
                    rw [rowB_set] at st
                    have st1 := st.1
                    rw [rowB_congr (h := fun x => covP y (P.take k) x || (decide (0 ≤ x) && decide (x < z + 1))) (fun x _ => by
                      rw [Bool.or_assoc]
                      congr 1
                      by_cases hx : x = z
                      · subst hx
                        simp [hz1]
                      · have e1 : decide (x < z + 1) = decide (x < z) := by
                          by_cases h : x < z
                          · simp [h, show x < z + 1 by omega]
                          · simp [h, show ¬ x < z + 1 by omega]
                        rw [e1]
                        simp [hx])] at st1
                    have ST1 := Lib.hid st1
                    have SP2 := Lib.hid sp2
                    have HBB := Lib.hid hB2
                    have hzs : w2.heap.size < wr.heap.size := (hown.lt _ rfl).2
                    clear hown hsp hB st st1 sp2 hB2 hne
                    go_wp2_with fail
                    refine ⟨⟨z + 1, by go_num, by omega, by omega, ST1.out, SP2.out, HBB.out⟩, by simp [intOf]; omega⟩
                  · obtain rfl : z = T := by omega
                    rw [rowB_congr (h := covP y (P.take (k + 1))) (fun x _ => (Hcov.out x).symm)] at hown
                    have Hown := Lib.hid hown
                    have Hsp := Lib.hid hsp
                    have HB := Lib.hid hB
                    clear hown hsp hB
                    have p1 : decide ((z : Int) ≤ (m : Int)) = false := by simp; omega
                    go_wp2_with fail
                    exact ⟨⟨k + 1, by omega, by go_num, Hown.out, Hsp.out, HB.out⟩, by simp [intOf]; omega⟩

              · have rn : ((((y[m]'hmn).toNat : Int)) != 10) = true := by rw [bne, q2]; rfl
                have hmm : m + 1 ≤ T ∧ (m + 1 < T ∨ T = y.size) := by
                  rcases HT3.out with h | ⟨q, h, h3, h4⟩
                  · omega
                  · refine ⟨by omega, ?_⟩
                    by_cases hqm : q = m
                    · exfalso
                      subst hqm
                      unfold at10 at h4
                      rw [List.getElem?_eq_getElem (by rw [byt_length]; exact hmn)] at h4
                      have h5 : y[q]'hmn = 10 := Option.some.inj h4
                      rw [h5] at q2
                      exact absurd q2 (by decide)
                    · omega
                clear q2
                go_wp2_with fail
                exact ⟨⟨m + 1, by go_num, by omega, hmm.1, hmm.2, Hown.out, Hsp.out, HB.out⟩, by simp [intOf]; omega⟩
            · have r0 : decide (m < y.size) = false := by simpa using hmn
              have r1 : ¬ (m : Int) < (y.size : Int) := by omega
              have hTm : T = y.size := by omega
              go_wp2_with fail
              go_loopw [11] (fun i wr => ∃ (v : Nat), i = .int .i64 v ∧ 0 ≤ v ∧ v ≤ T ∧ wr.ownsRow w.heap.size 4 1 (.slice (some ⟨w2.heap.size, 0, none⟩) y.size y.size) y.size (rowB y.size (fun x => covP y (P.take k) x || (decide (0 ≤ x) && decide (x < v)))) ∧ wr.ownsRow w1.heap.size 84 2 (.slice (some ⟨g, 0, none⟩) P.length cap) P.length (spCells P) ∧ Below w.heap.size w wr) (fun i _ => y.size - (intOf i).toNat)
              case atStart =>
                refine ⟨0, by first | rfl | go_num, Nat.le_refl _, by have := hFT; omega, ?_, Hsp.out, HB.out⟩
                rw [← rowB_congr (g := covP y (P.take k)) (fun x _ => by
                  have : (decide (0 ≤ x) && decide (x < 0)) = false := by
                    rcases Nat.lt_or_ge x (0) with h | h
                    · simp; try omega
                    · simp; try omega
                  rw [this, Bool.or_false])]
                exact Hown.out
              case round =>
                obtain ⟨z, rfl, hz1, hz2, hown, hsp, hB⟩ := hrel
                by_cases hzT : z < T
                · have hzm : (z : Int) ≤ (m : Int) := by omega
                  have hzn : (z : Int) < (y.size : Int) := by omega
                  have p1 : decide ((z : Int) ≤ (m : Int)) = true := by simpa using hzm
                  have p2 : decide (z < y.size) = true := by simp; omega
                  have hzl : z < y.size := by omega
                  have f1 : wr.frozen? ⟨w2.heap.size, z, none⟩ = false := hown.frozenAt _
                  have d1 : wr.cell? ⟨w2.heap.size, z, none⟩ = some ((rowB y.size (fun x => covP y (P.take k) x || (decide (0 ≤ x) && decide (x < z))))[z]'(by rw [rowB_length]; omega)) := by rw [hown.cellAt _ (by omega)]; exact List.getElem?_eq_getElem _
                  have st := hown.stored z (.bool true)
                  have hne : (Value.slice (some ⟨g, 0, none⟩) P.length cap).ownBlock ≠ some w2.heap.size := by simp [Value.ownBlock]; omega
                  have sp2 := hsp.kept st.2 (.inr hne)
                  have hB2 := hB.setCell (p := ⟨w2.heap.size, z, none⟩) HB2.out.size (.bool true)
                  rw [rowB_set] at st
                  have st1 := st.1
                  rw [rowB_congr (h := fun x => covP y (P.take k) x || (decide (0 ≤ x) && decide (x < z + 1))) (fun x _ => by
                    rw [Bool.or_assoc]
                    congr 1
                    by_cases hx : x = z
                    · subst hx
                      simp [hz1]
                    · have e1 : decide (x < z + 1) = decide (x < z) := by
                        by_cases h : x < z
                        · simp [h, show x < z + 1 by omega]
                        · simp [h, show ¬ x < z + 1 by omega]
                      rw [e1]
                      simp [hx])] at st1
                  have ST1 := Lib.hid st1
                  have SP2 := Lib.hid sp2
                  have HBB := Lib.hid hB2
                  have hzs : w2.heap.size < wr.heap.size := (hown.lt _ rfl).2
                  clear hown hsp hB st st1 sp2 hB2 hne
                  go_wp2_with fail
                  refine ⟨⟨z + 1, by go_num, by omega, by omega, ST1.out, SP2.out, HBB.out⟩, by simp [intOf]; omega⟩
                · obtain rfl : z = T := by omega
                  rw [rowB_congr (h := covP y (P.take (k + 1))) (fun x _ => (Hcov.out x).symm)] at hown
                  have Hown := Lib.hid hown
                  have Hsp := Lib.hid hsp
                  have HB := Lib.hid hB
                  clear hown hsp hB
                  have p1 : decide ((z : Int) ≤ (m : Int)) = true := by simp; omega
                  have p2 : decide (z < y.size) = false := by simp; omega
                  have p3 : ¬ (z : Int) < (y.size : Int) := by omega
                  go_wp2_with fail
                  exact ⟨⟨k + 1, by omega, by go_num, Hown.out, Hsp.out, HB.out⟩, by simp [intOf]; omega⟩

        · obtain ⟨j, rfl⟩ : ∃ i, j = i + 1 := ⟨j - 1, by omega⟩
          have q0 : decide ((0 : Int) < ((j + 1 : Nat) : Int)) = true := decide_eq_true (by omega)
          have hjy : j < y.size := by omega
          have hjm : ((j + 1 : Nat) : Int) - 1 = (j : Int) := by omega
          rcases byte10 hjy with ⟨q2, h10⟩ | q2
          · obtain rfl : F = j + 1 := by have := HF2.out j (by omega) h10; omega
            have qn : ((((y[j]'hjy).toNat : Int)) != 10) = false := by rw [bne, q2]; rfl
            clear h10 q2
            go_wp2_with fail
            go_loopw [10] (fun i wr => ∃ (m : Nat), i = .int .i64 m ∧ b ≤ m ∧ m ≤ T ∧ (m < T ∨ T = y.size) ∧ wr.ownsRow w.heap.size 4 1 (.slice (some ⟨w2.heap.size, 0, none⟩) y.size y.size) y.size (rowB y.size (covP y (P.take k))) ∧ wr.ownsRow w1.heap.size 84 2 (.slice (some ⟨g, 0, none⟩) P.length cap) P.length (spCells P) ∧ Below w.heap.size w wr) (fun i _ => y.size - (intOf i).toNat)
            case atStart => exact ⟨b, rfl, Nat.le_refl _, hTb, by rcases HT3.out with h | ⟨q, h, h3, _⟩ <;> omega, Hown.out, Hsp.out, HB.out⟩
            case round =>
              obtain ⟨m, rfl, hm1, hm2, hm3, hown, hsp, hB⟩ := hrel
              have Hown := Lib.hid hown
              have Hsp := Lib.hid hsp
              have HB := Lib.hid hB
              clear hown hsp hB
              by_cases hmn : m < y.size
              · have r0 : decide (m < y.size) = true := by simpa using hmn
                have r1 : (m : Int) < (y.size : Int) := by omega
                rcases byte10 hmn with ⟨q2, h10⟩ | q2
                · have hTm : T = m + 1 := by have := HT2.out m hm1 h10; omega
                  have rn : ((((y[m]'hmn).toNat : Int)) != 10) = false := by rw [bne, q2]; rfl
                  clear h10 q2
                  go_wp2_with fail
                  go_loopw [11] (fun i wr => ∃ (v : Nat), i = .int .i64 v ∧ (j + 1) ≤ v ∧ v ≤ T ∧ wr.ownsRow w.heap.size 4 1 (.slice (some ⟨w2.heap.size, 0, none⟩) y.size y.size) y.size (rowB y.size (fun x => covP y (P.take k) x || (decide ((j + 1) ≤ x) && decide (x < v)))) ∧ wr.ownsRow w1.heap.size 84 2 (.slice (some ⟨g, 0, none⟩) P.length cap) P.length (spCells P) ∧ Below w.heap.size w wr) (fun i _ => y.size - (intOf i).toNat)
                  case atStart =>
                    refine ⟨(j + 1), by first | rfl | go_num, Nat.le_refl _, by have := hFT; omega, ?_, Hsp.out, HB.out⟩
                    rw [← rowB_congr (g := covP y (P.take k)) (fun x _ => by
                      have : (decide ((j + 1) ≤ x) && decide (x < (j + 1))) = false := by
                        rcases Nat.lt_or_ge x ((j + 1)) with h | h
                        · simp; try omega
                        · simp; try omega
                      rw [this, Bool.or_false])]
                    exact Hown.out
                  case round =>
                    obtain ⟨z, rfl, hz1, hz2, hown, hsp, hB⟩ := hrel
                    by_cases hzT : z < T
                    · have hzm : (z : Int) ≤ (m : Int) := by omega
                      have hzn : (z : Int) < (y.size : Int) := by omega
                      have p1 : decide ((z : Int) ≤ (m : Int)) = true := by simpa using hzm
                      have p2 : decide (z < y.size) = true := by simp; omega
                      have hzl : z < y.size := by omega
                      have f1 : wr.frozen? ⟨w2.heap.size, z, none⟩ = false := hown.frozenAt _
                      have d1 : wr.cell? ⟨w2.heap.size, z, none⟩ = some ((rowB y.size (fun x => covP y (P.take k) x || (decide ((j + 1) ≤ x) && decide (x < z))))[z]'(by rw [rowB_length]; omega)) := by rw [hown.cellAt _ (by omega)]; exact List.getElem?_eq_getElem _
                      have st := hown.stored z (.bool true)
                      have hne : (Value.slice (some ⟨g, 0, none⟩) P.length cap).ownBlock ≠ some w2.heap.size := by simp [Value.ownBlock]; omega
                      have sp2 := hsp.kept st.2 (.inr hne)
                      have hB2 := hB.setCell (p := ⟨w2.heap.size, z, none⟩) HB2.out.size (.bool true)
                      rw [rowB_set] at st
                      have st1 := st.1
                      rw [rowB_congr (h := fun x => covP y (P.take k) x || (decide ((j + 1) ≤ x) && decide (x < z + 1))) (fun x _ => by
                        rw [Bool.or_assoc]
                        congr 1
                        by_cases hx : x = z
                        · subst hx
                          simp [hz1]
                        · have e1 : decide (x < z + 1) = decide (x < z) := by
                            by_cases h : x < z
                            · simp [h, show x < z + 1 by omega]
                            · simp [h, show ¬ x < z + 1 by omega]
                          rw [e1]
                          simp [hx])] at st1
                      have ST1 := Lib.hid st1
                      have SP2 := Lib.hid sp2
                      have HBB := Lib.hid hB2
                      have hzs : w2.heap.size < wr.heap.size := (hown.lt _ rfl).2
                      clear hown hsp hB st st1 sp2 hB2 hne
                      go_wp2_with fail
                      refine ⟨⟨z + 1, by go_num, by omega, by omega, ST1.out, SP2.out, HBB.out⟩, by simp [intOf]; omega⟩
                    · obtain rfl : z = T := by omega
                      rw [rowB_congr (h := covP y (P.take (k + 1))) (fun x _ => (Hcov.out x).symm)] at hown
                      have Hown := Lib.hid hown
                      have Hsp := Lib.hid hsp
                      have HB := Lib.hid hB
                      clear hown hsp hB
                      have p1 : decide ((z : Int) ≤ (m : Int)) = false := by simp; omega
                      go_wp2_with fail
                      exact ⟨⟨k + 1, by omega, by go_num, Hown.out, Hsp.out, HB.out⟩, by simp [intOf]; omega⟩

                · have rn : ((((y[m]'hmn).toNat : Int)) != 10) = true := by rw [bne, q2]; rfl
                  have hmm : m + 1 ≤ T ∧ (m + 1 < T ∨ T = y.size) := by
                    rcases HT3.out with h | ⟨q, h, h3, h4⟩
                    · omega
                    · refine ⟨by omega, ?_⟩
                      by_cases hqm : q = m
                      · exfalso
                        subst hqm
                        unfold at10 at h4
                        rw [List.getElem?_eq_getElem (by rw [byt_length]; exact hmn)] at h4
                        have h5 : y[q]'hmn = 10 := Option.some.inj h4
                        rw [h5] at q2
                        exact absurd q2 (by decide)
                      · omega
                  clear q2
                  go_wp2_with fail
                  exact ⟨⟨m + 1, by go_num, by omega, hmm.1, hmm.2, Hown.out, Hsp.out, HB.out⟩, by simp [intOf]; omega⟩
              · have r0 : decide (m < y.size) = false := by simpa using hmn
                have r1 : ¬ (m : Int) < (y.size : Int) := by omega
                have hTm : T = y.size := by omega
                go_wp2_with fail
                go_loopw [11] (fun i wr => ∃ (v : Nat), i = .int .i64 v ∧ (j + 1) ≤ v ∧ v ≤ T ∧ wr.ownsRow w.heap.size 4 1 (.slice (some ⟨w2.heap.size, 0, none⟩) y.size y.size) y.size (rowB y.size (fun x => covP y (P.take k) x || (decide ((j + 1) ≤ x) && decide (x < v)))) ∧ wr.ownsRow w1.heap.size 84 2 (.slice (some ⟨g, 0, none⟩) P.length cap) P.length (spCells P) ∧ Below w.heap.size w wr) (fun i _ => y.size - (intOf i).toNat)
                case atStart =>
                  refine ⟨(j + 1), by first | rfl | go_num, Nat.le_refl _, by have := hFT; omega, ?_, Hsp.out, HB.out⟩
                  rw [← rowB_congr (g := covP y (P.take k)) (fun x _ => by
                    have : (decide ((j + 1) ≤ x) && decide (x < (j + 1))) = false := by
                      rcases Nat.lt_or_ge x ((j + 1)) with h | h
                      · simp; try omega
                      · simp; try omega
                    rw [this, Bool.or_false])]
                  exact Hown.out
                case round =>
                  obtain ⟨z, rfl, hz1, hz2, hown, hsp, hB⟩ := hrel
                  by_cases hzT : z < T
                  · have hzm : (z : Int) ≤ (m : Int) := by omega
                    have hzn : (z : Int) < (y.size : Int) := by omega
                    have p1 : decide ((z : Int) ≤ (m : Int)) = true := by simpa using hzm
                    have p2 : decide (z < y.size) = true := by simp; omega
                    have hzl : z < y.size := by omega
                    have f1 : wr.frozen? ⟨w2.heap.size, z, none⟩ = false := hown.frozenAt _
                    have d1 : wr.cell? ⟨w2.heap.size, z, none⟩ = some ((rowB y.size (fun x => covP y (P.take k) x || (decide ((j + 1) ≤ x) && decide (x < z))))[z]'(by rw [rowB_length]; omega)) := by rw [hown.cellAt _ (by omega)]; exact List.getElem?_eq_getElem _
                    have st := hown.stored z (.bool true)
                    have hne : (Value.slice (some ⟨g, 0, none⟩) P.length cap).ownBlock ≠ some w2.heap.size := by simp [Value.ownBlock]; omega
                    have sp2 := hsp.kept st.2 (.inr hne)
                    have hB2 := hB.setCell (p := ⟨w2.heap.size, z, none⟩) HB2.out.size (.bool true)
                    rw [rowB_set] at st
                    have st1 := st.1
                    rw [rowB_congr (h := fun x => covP y (P.take k) x || (decide ((j + 1) ≤ x) && decide (x < z + 1))) (fun x _ => by
                      rw [Bool.or_assoc]
                      congr 1
                      by_cases hx : x = z
                      · subst hx
                        simp [hz1]
                      · have e1 : decide (x < z + 1) = decide (x < z) := by
                          by_cases h : x < z
                          · simp [h, show x < z + 1 by omega]
                          · simp [h, show ¬ x < z + 1 by omega]
                        rw [e1]
                        simp [hx])] at st1
                    have ST1 := Lib.hid st1
                    have SP2 := Lib.hid sp2
                    have HBB := Lib.hid hB2
                    have hzs : w2.heap.size < wr.heap.size := (hown.lt _ rfl).2
                    clear hown hsp hB st st1 sp2 hB2 hne
                    go_wp2_with fail
                    refine ⟨⟨z + 1, by go_num, by omega, by omega, ST1.out, SP2.out, HBB.out⟩, by simp [intOf]; omega⟩
                  · obtain rfl : z = T := by omega
                    rw [rowB_congr (h := covP y (P.take (k + 1))) (fun x _ => (Hcov.out x).symm)] at hown
                    have Hown := Lib.hid hown
                    have Hsp := Lib.hid hsp
                    have HB := Lib.hid hB
                    clear hown hsp hB
                    have p1 : decide ((z : Int) ≤ (m : Int)) = true := by simp; omega
                    have p2 : decide (z < y.size) = false := by simp; omega
                    have p3 : ¬ (z : Int) < (y.size : Int) := by omega
                    go_wp2_with fail
                    exact ⟨⟨k + 1, by omega, by go_num, Hown.out, Hsp.out, HB.out⟩, by simp [intOf]; omega⟩

          · have qn : ((((y[j]'hjy).toNat : Int)) != 10) = true := by rw [bne, q2]; rfl
            have hFj : F ≤ j := by
              rcases HF3.out with h | ⟨q, h, h3⟩
              · omega
              · rcases Nat.lt_or_ge j F with h4 | h4
                · exfalso
                  have hqj : q = j := by omega
                  subst hqj
                  unfold at10 at h3
                  rw [List.getElem?_eq_getElem (by rw [byt_length]; exact hjy)] at h3
                  have h5 : y[q]'hjy = 10 := Option.some.inj h3
                  rw [h5] at q2
                  exact absurd q2 (by decide)
                · exact h4
            clear q2
            go_wp2_with fail
            refine ⟨⟨j, by go_num, hFj, by omega, Hown.out, Hsp.out, HB.out⟩, by simp [intOf]; try omega⟩
    · have hke : k = P.length := by omega
      subst hke
      rw [List.take_length] at hown
      have Hown := Lib.hid hown
      have HB := Lib.hid hB
      clear hown hsp hB
      go_wp2_with fail
      go_loopw [12, 13] (fun m i wr => ∃ (j : Nat), j ≤ y.size ∧ i = .int .i64 j ∧ m = .int .i64 (cntB (covP y P) j : Nat) ∧ wr.ownsRow w.heap.size 4 1 (.slice (some ⟨w2.heap.size, 0, none⟩) y.size y.size) y.size (rowB y.size (covP y P)) ∧ Below w.heap.size w wr) (fun _ i _ => y.size - (intOf i).toNat)
      case atStart => exact ⟨0, Nat.zero_le _, rfl, rfl, Hown.out, HB.out⟩
      case round =>
        obtain ⟨j, hj, rfl, rfl, hown, hB⟩ := hrel
        have hcl := cntB_le (covP y P) j
        by_cases hlt2 : j < y.size
        · have d1 : wr.cell? ⟨w2.heap.size, j, none⟩ = some (.bool (covP y P j)) := by rw [hown.cellAt j (by omega)]; exact rowB_get hlt2
          have hst : cntB (covP y P) (j + 1) = cntB (covP y P) j + if covP y P j = true then 1 else 0 := rfl
          have HST := Lib.hid hst
          have Hown := Lib.hid hown
          have HB := Lib.hid hB
          clear hst hown hB
          cases hcv : covP y P j
          · rw [hcv] at d1
            have HST2 : Hid (cntB (covP y P) (j + 1) = cntB (covP y P) j) := Lib.hid (by rw [HST.out, hcv]; simp)
            clear HST hcv
            generalize cntB (covP y P) j = cn at *
            go_wp2_with fail
            refine ⟨⟨j + 1, by omega, by go_num, by rw [HST2.out], Hown.out, HB.out⟩, by simp [intOf]; omega⟩
          · rw [hcv] at d1
            have HST2 : Hid (cntB (covP y P) (j + 1) = cntB (covP y P) j + 1) := Lib.hid (by rw [HST.out, hcv]; simp)
            clear HST hcv
            generalize cntB (covP y P) j = cn at *
            go_wp2_with fail
            refine ⟨⟨j + 1, by omega, by go_num, by rw [HST2.out]; go_num, Hown.out, HB.out⟩, by simp [intOf]; omega⟩
        · have hje : j = y.size := by omega
          subst hje
          go_wp2_with fail
          go_ret
          exact ⟨rfl, hB⟩
end Go.Proofs.YtkdnacniligjjaaDoor
