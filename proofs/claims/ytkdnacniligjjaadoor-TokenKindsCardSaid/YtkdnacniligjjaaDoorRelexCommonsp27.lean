/-
  The contract of the specification's IsToken.; relex: Common: how many tokens two lists have in common at both ends.
-/
import Derived.Test.YtkdnacniligjjaaDoorRelexCommonsp26
import Derived.Test.YtkdnacniligjjaaDoorRelexCommonsp7
import Derived.BigQuiet
import Derived.Deep.QuietTactic
import Derived.Test.YtkdnacniligjjaaDoorRelexCommonsp23
namespace Go.Proofs.YtkdnacniligjjaaDoor
set_option linter.unusedVariables false
set_option linter.unusedSimpArgs false
open Go.RowKit

theorem run_eql_tok (a b : Tok) (w : World) :
    (binOp .eql 24 (.agg #[.int .i64 a.1, .string a.2]) (.agg #[.int .i64 b.1, .string b.2])).run Tryd.prog w = .ok (.bool (decide (a = b))) w := by
  simp [go_sem]
  by_cases h1 : a.1 = b.1
  · by_cases h3 : a.2 = b.2
    · have h4 : a.2.toList = b.2.toList := by rw [h3]
      have h5 : a = b := Prod.ext h1 h3
      rw [if_pos h1, if_pos h4]; simp [h5]
    · have h4 : ¬ a.2.toList = b.2.toList := fun h => h3 (strs_inj h)
      have h5 : ¬ a = b := fun h => h3 (by rw [h])
      rw [if_pos h1, if_neg h4]; simp [h5]
  · have h5 : ¬ a = b := fun h => h1 (by rw [h])
    rw [if_neg h1]; simp [h5]
/-- the first token's kind and text -/
def firstT (s : ByteArray) : Tok := ((firstP s).1, s.extract 0 (firstP s).2)
theorem isTok_first {s : ByteArray} (k : Int) (hz : 0 < s.size) (h2 : s.size ≤ 20000) : isTok (k, s) = decide (firstT s = (k, s)) := by
  unfold isTok lexesB
  rw [decide_eq_true (p := (k, s).2.size ≤ 20000) h2, Bool.true_and, decide_eq_decide]
  constructor
  · intro h
    simp only at h
    rw [lexL_step hz] at h
    exact (List.cons.inj h).1
  · intro h
    have h1 : (firstP s).1 = k := congrArg Prod.fst h
    have h3 : s.extract 0 (firstP s).2 = s := congrArg Prod.snd h
    have hle := firstP_le s hz
    have h4 := congrArg ByteArray.size h3
    rw [ByteArray.size_extract] at h4
    exact lexL_one hz (Prod.ext h1 (by simp only; omega))
theorem keptT2 {w w' : World} {b : Nat} {v0 v1 : Value} (hb : Below w.heap.size w w') (hlt : b < w.heap.size) (h0 : w.cell? ⟨b, 0, none⟩ = some v0) (h1 : w.cell? ⟨b, 1, none⟩ = some v1) :
    Below w.heap.size w w' ∧ w'.cell? ⟨b, 0, none⟩ = some v0 ∧ w'.cell? ⟨b, 1, none⟩ = some v1 := ⟨hb, (hb.cell (p := ⟨b, 0, none⟩) hlt).trans h0, (hb.cell (p := ⟨b, 1, none⟩) hlt).trans h1⟩
theorem below_callR {B : Nat} {a Y w1 : World} (h : Below B a Y) (hB : B ≤ a.heap.size) (hb : Below Y.heap.size Y w1) : Below B a w1 := h.trans (hb.mono (Nat.le_trans hB h.size))

set_option maxRecDepth 100000 in
set_option maxHeartbeats 2000000 in
theorem RIsTok_any (k : Int) (s : ByteArray) (w : World) (hs : s.size ≤ 60000) :
    Calls Tryd.prog 14 #[.agg #[.int .i64 k, .string s]] w fun e w' => e = .returned (.bool (isTok (k, s))) ∧ Below w.heap.size w w' := by
  obtain ⟨w0, hw0⟩ : ∃ w0, w0 = w.alloc (.cells #[.int .i64 k, .string s] 24) := ⟨_, rfl⟩
  have hB0 : Below w.heap.size w w0 := by rw [hw0]; exact (Below.refl _ _).alloc (Nat.le_refl _) _
  have hb0 : w0.heap[w.heap.size]? = some (.cells #[.int .i64 k, .string s] 24 (0, 0)) := by rw [hw0]; exact heap_alloc_new w _
  have m0 : w0.cell? ⟨w.heap.size, 0, none⟩ = some (.int .i64 k) := Lib.cell_of_heap hb0 0
  have m1 : w0.cell? ⟨w.heap.size, 1, none⟩ = some (.string s) := Lib.cell_of_heap hb0 1
  have hlt0 : w.heap.size < w0.heap.size := lt_of_cell m0
  have HB0 := Lib.hid hB0
  have HW0 := Lib.hid hw0
  clear hw0 hb0 hB0
  rcases Nat.eq_zero_or_pos s.size with h0 | h0
  · have hr : Hid (isTok (k, s) = false) := Lib.hid (by
      unfold isTok lexesB
      rw [lexL_nil (s := (k, s).2) h0, decide_eq_false (p := ([] : List Tok) = [(k, s)]) (by simp), Bool.and_false])
    have q : decide ((0 : Int) < (s.size : Int)) = false := decide_eq_false (by omega)
    have q2 : decide (0 < s.size) = false := decide_eq_false (by omega)
    have q3 : ¬ 0 < s.size := by omega
    clear h0
    go_enter Tryd.func14, Tryd.ntmps14
    go_wp2_with fail
    rw [← HW0.out]
    go_quiet (fail)
    go_wp2_with fail
    go_ret
    exact ⟨ret_b hr.out.symm, below_drewT HB0.out _⟩
  · have q : decide ((0 : Int) < (s.size : Int)) = true := by simp; omega
    have q2 : decide (0 < s.size) = true := by simp; omega
    by_cases h20 : s.size ≤ 20000
    · have q4 : decide ((s.size : Int) ≤ 20000) = true := by simp; omega
      have hnx : ∀ W, Calls Tryd.prog 44 #[.string s, .int .i64 0] W fun e w' => e = .returned (.agg #[.int .i64 (firstT s).1, .string (firstT s).2]) ∧ Below W.heap.size W w' := fun W => by
        have := Next_any s 0 W hs h0
        unfold nextR at this
        rw [all_head] at this
        exact this
      have hif := isTok_first k h0 h20
      have hrun : ∀ W, (binOp .eql 24 (.agg #[.int .i64 (firstT s).1, .string (firstT s).2]) (.agg #[.int .i64 k, .string s])).run Tryd.prog W = .ok (.bool (isTok (k, s))) W := fun W => by
        rw [hif]; exact run_eql_tok (firstT s) (k, s) W
      generalize firstT s = ft at hnx hrun
      obtain ⟨fk, fx⟩ := ft
      generalize isTok (k, s) = res at hrun
      have Hnx := Lib.hid hnx
      clear hnx hif
      go_enter Tryd.func14, Tryd.ntmps14
      go_wp2_with fail
      rw [← HW0.out]
      go_region_held3 (fun W => Below w0.heap.size w0 W ∧ W.cell? ⟨w.heap.size, 0, none⟩ = some (.int .i64 k) ∧ W.cell? ⟨w.heap.size, 1, none⟩ = some (.string s))
        (exact keptT2 (by repeat (first | with_reducible exact Below.refl _ _ | with_reducible assumption | with_reducible refine Below.drew ?_ | with_reducible refine below_drewT ?_ _ | with_reducible refine below_callR ?_ (Nat.le_refl _) hbN)) hlt0 m0 m1)
        ((go_at_call 44
          with_reducible refine (Hnx.out _).mono ?_
          rintro e wN ⟨rfl, hbN⟩))
      all_goals
        have hbw : Below w0.heap.size w0 wN := by repeat (first | with_reducible exact Below.refl _ _ | with_reducible assumption | with_reducible refine Below.drew ?_ | with_reducible refine below_drewT ?_ _ | with_reducible refine below_callR ?_ (Nat.le_refl _) hbN)
        have hBw := HB0.out.trans (hbw.mono HB0.out.size)
        go_wp2_with fail
        go_ret
        refine ⟨rfl, ?_⟩
        first
        | exact hBw
        | exact hBw.drew
        | exact below_drewT hBw _
    · have hr : Hid (isTok (k, s) = false) := Lib.hid (by
        unfold isTok lexesB
        rw [decide_eq_false (p := (k, s).2.size ≤ 20000) h20, Bool.false_and])
      have q4 : decide ((s.size : Int) ≤ 20000) = false := by simp; omega
      have q5 : ¬ (s.size : Int) ≤ 20000 := by omega
      clear h20
      go_enter Tryd.func14, Tryd.ntmps14
      go_wp2_with fail
      rw [← HW0.out]
      go_quiet (fail)
      go_wp2_with fail
      go_ret
      exact ⟨ret_b hr.out.symm, below_drewT HB0.out _⟩
end Go.Proofs.YtkdnacniligjjaaDoor

namespace Go.Proofs.YtkdnacniligjjaaDoor
set_option linter.unusedVariables false
set_option linter.unusedSimpArgs false
open Go.RowKit

def tpre : List Tok → List Tok → Nat
  | a :: x, b :: y => if a = b then tpre x y + 1 else 0
  | _, _ => 0
theorem tpre_step {x y : List Tok} {k : Nat} (hx : k < x.length) (hy : k < y.length) (h : x[k] = y[k]) : tpre (x.drop k) (y.drop k) = tpre (x.drop (k + 1)) (y.drop (k + 1)) + 1 := by
  rw [List.drop_eq_getElem_cons hx, List.drop_eq_getElem_cons hy]
  simp [tpre, h]
theorem tpre_stop {x y : List Tok} {k : Nat} (hx : k < x.length) (hy : k < y.length) (h : x[k] ≠ y[k]) : tpre (x.drop k) (y.drop k) = 0 := by
  rw [List.drop_eq_getElem_cons hx, List.drop_eq_getElem_cons hy]
  simp [tpre, h]
theorem tpre_end {x y : List Tok} {k : Nat} (h : x.length ≤ k ∨ y.length ≤ k) : tpre (x.drop k) (y.drop k) = 0 := by
  rcases h with h | h
  · rw [List.drop_of_length_le h]; simp [tpre]
  · rw [List.drop_of_length_le h]; cases x.drop k <;> simp [tpre]
theorem drop_rev_get (l : List Tok) (f q : Nat) (h : q < (l.drop f).reverse.length) (h2 : l.length - 1 - q < l.length) : (l.drop f).reverse[q] = l[l.length - 1 - q] := by
  rw [List.length_reverse, List.length_drop] at h
  rw [List.getElem_reverse, List.getElem_drop]
  have : f + ((l.drop f).length - 1 - q) = l.length - 1 - q := by rw [List.length_drop]; omega
  exact getElem_congr_idx this
/-- how many tokens two lists have in common at the beginning, and of the others at the end -/
def comF (a b : List Tok) : Nat := tpre a b
def comT (a b : List Tok) : Nat := tpre (a.drop (tpre a b)).reverse (b.drop (tpre a b)).reverse
theorem ret_iii {a b c d : Nat} {k : Int} (h1 : a = c) (h2 : b = d) : Ending.returned (.tuple #[.int .i64 ((a : Nat) : Int), .int .i64 ((b : Nat) : Int), .int .i64 k]) = .returned (.tuple #[.int .i64 ((c : Nat) : Int), .int .i64 ((d : Nat) : Int), .int .i64 k]) := by rw [h1, h2]

set_option maxRecDepth 100000 in
set_option maxHeartbeats 4000000 in
theorem Common_ok (c1 c2 : Nat) (A1 A2 : Option Addr) (l1 l2 : List Tok) (w : World) (h1 : l1.length ≤ 20000) (h2 : l2.length ≤ 20000) (hE1 : TksV w A1 l1) (hE2 : TksV w A2 l2) :
    Calls Tryd.prog 34 #[.slice A1 l1.length c1, .slice A2 l2.length c2] w fun e w' => e = .returned (.tuple #[.int .i64 ((comF l1 l2 : Nat) : Int), .int .i64 ((comT l1 l2 : Nat) : Int), .int .i64 0]) ∧ ∃ n, w' = w.drewN n := by
  have q1 : decide ((20000 : Int) < (l1.length : Int)) = false := by simp; omega
  have q2 : decide ((20000 : Int) < (l2.length : Int)) = false := by simp; omega
  have HE1 := Lib.hid hE1
  have HE2 := Lib.hid hE2
  have HL := Lib.hid (show l1.length ≤ 20000 ∧ l2.length ≤ 20000 from ⟨h1, h2⟩)
  clear hE1 hE2 h1 h2
  go_enter Tryd.func34, Tryd.ntmps34
  go_wp2_with fail
  have hmin : min (l1.length : Int) (l2.length : Int) = (min l1.length l2.length : Nat) := by omega
  rw [hmin]
  clear hmin
  generalize hM : min l1.length l2.length = M at *
  have HM := Lib.hid hM
  clear hM
  go_loopw [8] (fun i wr => ∃ (k : Nat), k ≤ M ∧ i = .int .i64 k ∧ tpre l1 l2 = k + tpre (l1.drop k) (l2.drop k) ∧ ∃ n, wr = w.drewN n) (fun i _ => M - (intOf i).toNat)
  case atStart => exact ⟨0, by omega, rfl, by simp, 0, rfl⟩
  case round =>
    obtain ⟨k, hk, rfl, he, n, rfl⟩ := hrel
    have hm := HM.out
    have hl := HL.out
    by_cases hlt : k < M
    · have k0 : (0 : Int) ≤ (k : Int) := by omega
      have k1 : (k : Int) < (M : Int) := by omega
      have kb : (k : Int) + 1 ≤ 20001 := by omega
      have g1 : k < l1.length := by omega
      have g2 : k < l2.length := by omega
      have k2 : (k : Int) < (l1.length : Int) := by omega
      have k3 : (k : Int) < (l2.length : Int) := by omega
      obtain ⟨b, off, hA1, hb, c11, c12⟩ := HE1.out.get g1
      obtain ⟨b2, off2, hA2, hb2, c21, c22⟩ := HE2.out.get g2
      subst hA1 hA2
      by_cases heq : l1[k] = l2[k]
      · have He : Hid (tpre l1 l2 = k + 1 + tpre (l1.drop (k + 1)) (l2.drop (k + 1))) := Lib.hid (by rw [he, tpre_step g1 g2 heq]; omega)
        have hrun : ∀ w', (binOp .eql 24 (.agg #[.int .i64 l1[k].1, .string l1[k].2]) (.agg #[.int .i64 l2[k].1, .string l2[k].2])).run Tryd.prog w' = .ok (.bool true) w' := fun w' => by
          rw [run_eql_tok]; simp [heq]
        clear heq he hm hl
        go_wp2_with fail
        go_quiet (fail)
        go_wp2_with fail
        exact ⟨⟨k + 1, by omega, by go_num, He.out, _, rfl⟩, by simp only [intOf]; omega⟩
      · have HF : Hid (tpre l1 l2 = k) := Lib.hid (by rw [he, tpre_stop g1 g2 heq]; omega)
        have hrun : ∀ w', (binOp .eql 24 (.agg #[.int .i64 l1[k].1, .string l1[k].2]) (.agg #[.int .i64 l2[k].1, .string l2[k].2])).run Tryd.prog w' = .ok (.bool false) w' := fun w' => by
          rw [run_eql_tok]; simp [heq]
        clear heq he hm hl
        go_wp2_with fail
        go_quiet (fail)
        go_wp2_with fail
        clear hrun c11 c12 c21 c22 k0 k1 k2 k3 hb hb2
        obtain ⟨f, hf⟩ : ∃ f, f = k := ⟨_, rfl⟩
        subst hf
        have hfM : f ≤ M := by omega
        go_loopw [9] (fun j wr => ∃ (q : Nat), q ≤ M - f ∧ j = .int .i64 q ∧ tpre (l1.drop f).reverse (l2.drop f).reverse = q + tpre ((l1.drop f).reverse.drop q) ((l2.drop f).reverse.drop q) ∧ ∃ n, wr = w.drewN n) (fun j _ => M - f - (intOf j).toNat)
        case atStart =>
          first
          | exact ⟨0, Nat.zero_le _, rfl, by simp, _, rfl⟩
          | exact ⟨0, Nat.zero_le _, rfl, by simp, _, World.drewN_drewN ..⟩
        case round =>
          obtain ⟨q, hq, rfl, he2, n2, rfl⟩ := hrel
          have hm := HM.out
          by_cases hlt2 : q < M - f
          · have hq0 : (0 : Int) ≤ (q : Int) := by omega
            have hl := HL.out
            have hq1 : (q : Int) < ((M - f : Nat) : Int) := by omega
            have qb : (q : Int) + 1 ≤ 20001 := by omega
            have n1 : l1.length - 1 - q < l1.length := by omega
            have n3 : l2.length - 1 - q < l2.length := by omega
            have g1 : q < (l1.drop f).reverse.length := by rw [List.length_reverse, List.length_drop]; omega
            have g2 : q < (l2.drop f).reverse.length := by rw [List.length_reverse, List.length_drop]; omega
            have r1 := drop_rev_get l1 f q g1 n1
            have r2 := drop_rev_get l2 f q g2 n3
            obtain ⟨b, off, hA1, hb, c11, c12⟩ := HE1.out.get n1
            obtain ⟨b2, off2, hA2, hb2, c21, c22⟩ := HE2.out.get n3
            have z1 : IntKind.i64.wrap ((M : Int) - (f : Int)) = ((M - f : Nat) : Int) := by rw [IntWalk.i64_in _ (by omega)]; omega
            have z2 : IntKind.i64.wrap ((l1.length : Int) - 1) = ((l1.length - 1 : Nat) : Int) := by rw [IntWalk.i64_in _ (by omega)]; omega
            have z3 : IntKind.i64.wrap ((l2.length : Int) - 1) = ((l2.length - 1 : Nat) : Int) := by rw [IntWalk.i64_in _ (by omega)]; omega
            have z4 : IntKind.i64.wrap (((l1.length - 1 : Nat) : Int) - (q : Int)) = ((l1.length - 1 - q : Nat) : Int) := by rw [IntWalk.i64_in _ (by omega)]; omega
            have z5 : IntKind.i64.wrap (((l2.length - 1 : Nat) : Int) - (q : Int)) = ((l2.length - 1 - q : Nat) : Int) := by rw [IntWalk.i64_in _ (by omega)]; omega
            have z6 : ((l1.length - 1 - q : Nat) : Int) < (l1.length : Int) := by omega
            have z7 : ((l2.length - 1 - q : Nat) : Int) < (l2.length : Int) := by omega
            first
            | subst hA1
            | (injection hA1 with hA1; injection hA1 with e1 e2; subst e1 e2)
            first
            | subst hA2
            | (injection hA2 with hA2; injection hA2 with e1 e2; subst e1 e2)
            by_cases heq : l1[l1.length - 1 - q] = l2[l2.length - 1 - q]
            · have He : Hid (tpre (l1.drop f).reverse (l2.drop f).reverse = q + 1 + tpre ((l1.drop f).reverse.drop (q + 1)) ((l2.drop f).reverse.drop (q + 1))) := Lib.hid (by rw [he2, tpre_step g1 g2 (by rw [r1, r2]; exact heq)]; omega)
              have hrun : ∀ w', (binOp .eql 24 (.agg #[.int .i64 l1[l1.length - 1 - q].1, .string l1[l1.length - 1 - q].2]) (.agg #[.int .i64 l2[l2.length - 1 - q].1, .string l2[l2.length - 1 - q].2])).run Tryd.prog w' = .ok (.bool true) w' := fun w' => by
                rw [run_eql_tok]; simp [heq]
              clear heq he2 r1 r2 hm hl
              go_wp2_with fail
              go_quiet (fail)
              go_wp2_with fail
              first
              | exact ⟨⟨q + 1, by omega, by go_num, He.out, _, rfl⟩, by simp only [intOf]; omega⟩
              | exact ⟨⟨q + 1, by omega, by go_num, He.out, _, World.drewN_drewN ..⟩, by simp only [intOf]; omega⟩
            · have He : Hid (tpre (l1.drop f).reverse (l2.drop f).reverse = q) := Lib.hid (by rw [he2, tpre_stop g1 g2 (by rw [r1, r2]; exact heq)]; omega)
              have hrun : ∀ w', (binOp .eql 24 (.agg #[.int .i64 l1[l1.length - 1 - q].1, .string l1[l1.length - 1 - q].2]) (.agg #[.int .i64 l2[l2.length - 1 - q].1, .string l2[l2.length - 1 - q].2])).run Tryd.prog w' = .ok (.bool false) w' := fun w' => by
                rw [run_eql_tok]; simp [heq]
              clear heq he2 r1 r2 hm hl
              go_wp2_with fail
              go_quiet (fail)
              go_wp2_with fail
              go_ret3
              first
              | exact ⟨ret_iii HF.out.symm (by unfold comT; rw [HF.out, He.out]), _, rfl⟩
              | exact ⟨ret_iii HF.out.symm (by unfold comT; rw [HF.out, He.out]), _, World.drewN_drewN ..⟩
          · have hl := HL.out
            have hq1 : ¬ (q : Int) < ((M - f : Nat) : Int) := by omega
            have hq2 : decide ((q : Int) < ((M - f : Nat) : Int)) = false := decide_eq_false hq1
            have He : Hid (tpre (l1.drop f).reverse (l2.drop f).reverse = q) := Lib.hid (by rw [he2, tpre_end (by rw [List.length_reverse, List.length_reverse, List.length_drop, List.length_drop]; omega)]; omega)
            have z1 : IntKind.i64.wrap ((M : Int) - (f : Int)) = ((M - f : Nat) : Int) := by rw [IntWalk.i64_in _ (by omega)]; omega
            clear he2 hm hl
            go_wp2_with fail
            go_quiet (fail)
            go_wp2_with fail
            go_ret3
            first
            | exact ⟨ret_iii HF.out.symm (by unfold comT; rw [HF.out, He.out]), _, rfl⟩
            | exact ⟨ret_iii HF.out.symm (by unfold comT; rw [HF.out, He.out]), _, World.drewN_drewN ..⟩
    · have k4 : decide ((k : Int) < (M : Int)) = false := decide_eq_false (by omega)
      have HF : Hid (tpre l1 l2 = k) := Lib.hid (by rw [he, tpre_end (by omega)]; omega)
      clear he hm hl
      go_wp2_with fail
      go_quiet (fail)
      go_wp2_with fail
      clear k4
      obtain ⟨f, hf⟩ : ∃ f, f = k := ⟨_, rfl⟩
      subst hf
      have hfM : f ≤ M := by omega
      go_loopw [9] (fun j wr => ∃ (q : Nat), q ≤ M - f ∧ j = .int .i64 q ∧ tpre (l1.drop f).reverse (l2.drop f).reverse = q + tpre ((l1.drop f).reverse.drop q) ((l2.drop f).reverse.drop q) ∧ ∃ n, wr = w.drewN n) (fun j _ => M - f - (intOf j).toNat)
      case atStart =>
        first
        | exact ⟨0, Nat.zero_le _, rfl, by simp, _, rfl⟩
        | exact ⟨0, Nat.zero_le _, rfl, by simp, _, World.drewN_drewN ..⟩
      case round =>
        obtain ⟨q, hq, rfl, he2, n2, rfl⟩ := hrel
        have hm := HM.out
        by_cases hlt2 : q < M - f
        · have hq0 : (0 : Int) ≤ (q : Int) := by omega
          have hl := HL.out
          have hq1 : (q : Int) < ((M - f : Nat) : Int) := by omega
          have qb : (q : Int) + 1 ≤ 20001 := by omega
          have n1 : l1.length - 1 - q < l1.length := by omega
          have n3 : l2.length - 1 - q < l2.length := by omega
          have g1 : q < (l1.drop f).reverse.length := by rw [List.length_reverse, List.length_drop]; omega
          have g2 : q < (l2.drop f).reverse.length := by rw [List.length_reverse, List.length_drop]; omega
          have r1 := drop_rev_get l1 f q g1 n1
          have r2 := drop_rev_get l2 f q g2 n3
          obtain ⟨b, off, hA1, hb, c11, c12⟩ := HE1.out.get n1
          obtain ⟨b2, off2, hA2, hb2, c21, c22⟩ := HE2.out.get n3
          have z1 : IntKind.i64.wrap ((M : Int) - (f : Int)) = ((M - f : Nat) : Int) := by rw [IntWalk.i64_in _ (by omega)]; omega
          have z2 : IntKind.i64.wrap ((l1.length : Int) - 1) = ((l1.length - 1 : Nat) : Int) := by rw [IntWalk.i64_in _ (by omega)]; omega
          have z3 : IntKind.i64.wrap ((l2.length : Int) - 1) = ((l2.length - 1 : Nat) : Int) := by rw [IntWalk.i64_in _ (by omega)]; omega
          have z4 : IntKind.i64.wrap (((l1.length - 1 : Nat) : Int) - (q : Int)) = ((l1.length - 1 - q : Nat) : Int) := by rw [IntWalk.i64_in _ (by omega)]; omega
          have z5 : IntKind.i64.wrap (((l2.length - 1 : Nat) : Int) - (q : Int)) = ((l2.length - 1 - q : Nat) : Int) := by rw [IntWalk.i64_in _ (by omega)]; omega
          have z6 : ((l1.length - 1 - q : Nat) : Int) < (l1.length : Int) := by omega
          have z7 : ((l2.length - 1 - q : Nat) : Int) < (l2.length : Int) := by omega
          first
          | subst hA1
          | (injection hA1 with hA1; injection hA1 with e1 e2; subst e1 e2)
          first
          | subst hA2
          | (injection hA2 with hA2; injection hA2 with e1 e2; subst e1 e2)
          by_cases heq : l1[l1.length - 1 - q] = l2[l2.length - 1 - q]
          · have He : Hid (tpre (l1.drop f).reverse (l2.drop f).reverse = q + 1 + tpre ((l1.drop f).reverse.drop (q + 1)) ((l2.drop f).reverse.drop (q + 1))) := Lib.hid (by rw [he2, tpre_step g1 g2 (by rw [r1, r2]; exact heq)]; omega)
            have hrun : ∀ w', (binOp .eql 24 (.agg #[.int .i64 l1[l1.length - 1 - q].1, .string l1[l1.length - 1 - q].2]) (.agg #[.int .i64 l2[l2.length - 1 - q].1, .string l2[l2.length - 1 - q].2])).run Tryd.prog w' = .ok (.bool true) w' := fun w' => by
              rw [run_eql_tok]; simp [heq]
            clear heq he2 r1 r2 hm hl
            go_wp2_with fail
            go_quiet (fail)
            go_wp2_with fail
            first
            | exact ⟨⟨q + 1, by omega, by go_num, He.out, _, rfl⟩, by simp only [intOf]; omega⟩
            | exact ⟨⟨q + 1, by omega, by go_num, He.out, _, World.drewN_drewN ..⟩, by simp only [intOf]; omega⟩
          · have He : Hid (tpre (l1.drop f).reverse (l2.drop f).reverse = q) := Lib.hid (by rw [he2, tpre_stop g1 g2 (by rw [r1, r2]; exact heq)]; omega)
            have hrun : ∀ w', (binOp .eql 24 (.agg #[.int .i64 l1[l1.length - 1 - q].1, .string l1[l1.length - 1 - q].2]) (.agg #[.int .i64 l2[l2.length - 1 - q].1, .string l2[l2.length - 1 - q].2])).run Tryd.prog w' = .ok (.bool false) w' := fun w' => by
              rw [run_eql_tok]; simp [heq]
            clear heq he2 r1 r2 hm hl
            go_wp2_with fail
            go_quiet (fail)
            go_wp2_with fail
            go_ret3
            first
            | exact ⟨ret_iii HF.out.symm (by unfold comT; rw [HF.out, He.out]), _, rfl⟩
            | exact ⟨ret_iii HF.out.symm (by unfold comT; rw [HF.out, He.out]), _, World.drewN_drewN ..⟩
        · have hl := HL.out
          have hq1 : ¬ (q : Int) < ((M - f : Nat) : Int) := by omega
          have hq2 : decide ((q : Int) < ((M - f : Nat) : Int)) = false := decide_eq_false hq1
          have He : Hid (tpre (l1.drop f).reverse (l2.drop f).reverse = q) := Lib.hid (by rw [he2, tpre_end (by rw [List.length_reverse, List.length_reverse, List.length_drop, List.length_drop]; omega)]; omega)
          have z1 : IntKind.i64.wrap ((M : Int) - (f : Int)) = ((M - f : Nat) : Int) := by rw [IntWalk.i64_in _ (by omega)]; omega
          clear he2 hm hl
          go_wp2_with fail
          go_quiet (fail)
          go_wp2_with fail
          go_ret3
          first
          | exact ⟨ret_iii HF.out.symm (by unfold comT; rw [HF.out, He.out]), _, rfl⟩
          | exact ⟨ret_iii HF.out.symm (by unfold comT; rw [HF.out, He.out]), _, World.drewN_drewN ..⟩
end Go.Proofs.YtkdnacniligjjaaDoor
