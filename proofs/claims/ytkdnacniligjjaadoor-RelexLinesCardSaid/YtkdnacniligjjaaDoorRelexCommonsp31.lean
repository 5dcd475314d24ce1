/-
  relex: the specification's Common.
-/
import Derived.Test.YtkdnacniligjjaaDoorRelexCommonsp27
namespace Go.Proofs.YtkdnacniligjjaaDoor
set_option linter.unusedVariables false
set_option linter.unusedSimpArgs false
open Go.RowKit

theorem ret_ii {a b c d : Nat} (h1 : a = c) (h2 : b = d) : Ending.returned (.tuple #[.int .i64 ((a : Nat) : Int), .int .i64 ((b : Nat) : Int)]) = .returned (.tuple #[.int .i64 ((c : Nat) : Int), .int .i64 ((d : Nat) : Int)]) := by rw [h1, h2]
set_option maxRecDepth 100000 in
set_option maxHeartbeats 4000000 in
theorem RCommon_any (c1 c2 : Nat) (A1 A2 : Option Addr) (l1 l2 : List Tok) (w : World) (h1 : l1.length ≤ 60000) (h2 : l2.length ≤ 60000) (hE1 : TksV w A1 l1) (hE2 : TksV w A2 l2) :
    Calls Tryd.prog 35 #[.slice A1 l1.length c1, .slice A2 l2.length c2] w fun e w' => e = .returned (.tuple #[.int .i64 ((comF l1 l2 : Nat) : Int), .int .i64 ((comT l1 l2 : Nat) : Int)]) ∧ ∃ n, w' = w.drewN n := by
  have HE1 := Lib.hid hE1
  have HE2 := Lib.hid hE2
  have HL := Lib.hid (show l1.length ≤ 60000 ∧ l2.length ≤ 60000 from ⟨h1, h2⟩)
  clear hE1 hE2 h1 h2
  go_enter Tryd.func35, Tryd.ntmps35
  go_wp2_with fail
  obtain ⟨M, hM⟩ : ∃ M, min l1.length l2.length = M := ⟨_, rfl⟩
  have HM := Lib.hid hM
  clear hM
  go_loopw [6] (fun i wr => ∃ (k : Nat), k ≤ M ∧ i = .int .i64 k ∧ tpre l1 l2 = k + tpre (l1.drop k) (l2.drop k) ∧ ∃ n, wr = w.drewN n) (fun i _ => M - (intOf i).toNat)
  case atStart => exact ⟨0, by omega, rfl, by simp, 0, rfl⟩
  case round =>
    obtain ⟨k, hk, rfl, he, n, rfl⟩ := hrel
    have hm := HM.out
    have hl := HL.out
    by_cases hlt : k < M
    · have k0 : (0 : Int) ≤ (k : Int) := by omega
      have k1 : (k : Int) < (M : Int) := by omega
      have d1 : decide (k < l1.length) = true := decide_eq_true (by omega)
      have d2 : decide (k < l2.length) = true := decide_eq_true (by omega)
      have kb : (k : Int) + 1 ≤ 60001 := by omega
      have g1 : k < l1.length := by omega
      have g2 : k < l2.length := by omega
      have k2 : (k : Int) < (l1.length : Int) := by omega
      have k3 : (k : Int) < (l2.length : Int) := by omega
      obtain ⟨b, off, hA1, hb, c11, c12⟩ := HE1.out.get g1
      obtain ⟨b2, off2, hA2, hb2, c21, c22⟩ := HE2.out.get g2
      subst hA1 hA2
      by_cases heq : l1[k] = l2[k]
      · have He : Hid (tpre l1 l2 = k + 1 + tpre (l1.drop (k + 1)) (l2.drop (k + 1))) := Lib.hid (by rw [he, tpre_step g1 g2 heq]; omega)
        have hrun : ∀ w', (binOp .eql 24 (.agg #[.int .i64 l1[k].1, .string l1[k].2]) (.agg #[.int .i64 l2[k].1, .string l2[k].2])).run Tryd.prog w' = .ok (.bool true) w' := fun w' => by
          rw [run_eql_tok]; simp [heq]
        clear heq he hm hl
        go_wp2_with fail
        go_quiet (fail)
        go_wp2_with fail
        exact ⟨⟨k + 1, by omega, by go_num, He.out, _, rfl⟩, by simp only [intOf]; omega⟩
      · have HF : Hid (tpre l1 l2 = k) := Lib.hid (by rw [he, tpre_stop g1 g2 heq]; omega)
        have hrun : ∀ w', (binOp .eql 24 (.agg #[.int .i64 l1[k].1, .string l1[k].2]) (.agg #[.int .i64 l2[k].1, .string l2[k].2])).run Tryd.prog w' = .ok (.bool false) w' := fun w' => by
          rw [run_eql_tok]; simp [heq]
        clear heq he hm hl
        go_wp2_with fail
        go_quiet (fail)
        go_wp2_with fail
        clear hrun d1 d2 c11 c12 c21 c22 k0 k1 k2 k3 hb hb2
        obtain ⟨f, hf⟩ : ∃ f, f = k := ⟨_, rfl⟩
        subst hf
        have hfM : f ≤ M := by omega
        go_loopw [7] (fun j wr => ∃ (q : Nat), q ≤ M - f ∧ j = .int .i64 q ∧ tpre (l1.drop f).reverse (l2.drop f).reverse = q + tpre ((l1.drop f).reverse.drop q) ((l2.drop f).reverse.drop q) ∧ ∃ n, wr = w.drewN n) (fun j _ => M - f - (intOf j).toNat)
        case atStart =>
          first
          | exact ⟨0, Nat.zero_le _, rfl, by simp, _, rfl⟩
          | exact ⟨0, Nat.zero_le _, rfl, by simp, _, World.drewN_drewN ..⟩
        case round =>
          obtain ⟨q, hq, rfl, he2, n2, rfl⟩ := hrel
          have hm := HM.out
          by_cases hlt2 : q < M - f
          · have hq0 : (0 : Int) ≤ (q : Int) := by omega
            have hl := HL.out
            have hq1 : (q : Int) < ((M - f : Nat) : Int) := by omega
            have qb : (q : Int) + 1 ≤ 60001 := by omega
            have n1 : l1.length - 1 - q < l1.length := by omega
            have n3 : l2.length - 1 - q < l2.length := by omega
            have g1 : q < (l1.drop f).reverse.length := by rw [List.length_reverse, List.length_drop]; omega
            have g2 : q < (l2.drop f).reverse.length := by rw [List.length_reverse, List.length_drop]; omega
            have r1 := drop_rev_get l1 f q g1 n1
            have r2 := drop_rev_get l2 f q g2 n3
            obtain ⟨b, off, hA1, hb, c11, c12⟩ := HE1.out.get n1
            obtain ⟨b2, off2, hA2, hb2, c21, c22⟩ := HE2.out.get n3
            have y1 : IntKind.i64.wrap ((l1.length : Int) - (f : Int)) = ((l1.length - f : Nat) : Int) := by rw [IntWalk.i64_in _ (by omega)]; omega
            have y2 : IntKind.i64.wrap ((l2.length : Int) - (f : Int)) = ((l2.length - f : Nat) : Int) := by rw [IntWalk.i64_in _ (by omega)]; omega
            have y3 : (q : Int) < ((l1.length - f : Nat) : Int) := by omega
            have y4 : (q : Int) < ((l2.length - f : Nat) : Int) := by omega
            have y5 : decide (q < l2.length - f) = true := decide_eq_true (by omega)
            have y6 : decide (q < l1.length - f) = true := decide_eq_true (by omega)
            have z2 : IntKind.i64.wrap ((l1.length : Int) - 1) = ((l1.length - 1 : Nat) : Int) := by rw [IntWalk.i64_in _ (by omega)]; omega
            have z3 : IntKind.i64.wrap ((l2.length : Int) - 1) = ((l2.length - 1 : Nat) : Int) := by rw [IntWalk.i64_in _ (by omega)]; omega
            have z4 : IntKind.i64.wrap (((l1.length - 1 : Nat) : Int) - (q : Int)) = ((l1.length - 1 - q : Nat) : Int) := by rw [IntWalk.i64_in _ (by omega)]; omega
            have z5 : IntKind.i64.wrap (((l2.length - 1 : Nat) : Int) - (q : Int)) = ((l2.length - 1 - q : Nat) : Int) := by rw [IntWalk.i64_in _ (by omega)]; omega
            have z6 : ((l1.length - 1 - q : Nat) : Int) < (l1.length : Int) := by omega
            have z7 : ((l2.length - 1 - q : Nat) : Int) < (l2.length : Int) := by omega
            first
            | subst hA1
            | (injection hA1 with hA1; injection hA1 with e1 e2; subst e1 e2)
            first
            | subst hA2
            | (injection hA2 with hA2; injection hA2 with e1 e2; subst e1 e2)
            by_cases heq : l1[l1.length - 1 - q] = l2[l2.length - 1 - q]
            · have He : Hid (tpre (l1.drop f).reverse (l2.drop f).reverse = q + 1 + tpre ((l1.drop f).reverse.drop (q + 1)) ((l2.drop f).reverse.drop (q + 1))) := Lib.hid (by rw [he2, tpre_step g1 g2 (by rw [r1, r2]; exact heq)]; omega)
              have hrun : ∀ w', (binOp .eql 24 (.agg #[.int .i64 l1[l1.length - 1 - q].1, .string l1[l1.length - 1 - q].2]) (.agg #[.int .i64 l2[l2.length - 1 - q].1, .string l2[l2.length - 1 - q].2])).run Tryd.prog w' = .ok (.bool true) w' := fun w' => by
                rw [run_eql_tok]; simp [heq]
              clear heq he2 r1 r2 hm hl
              go_wp2_with fail
              go_quiet (fail)
              go_wp2_with fail
              first
              | exact ⟨⟨q + 1, by omega, by go_num, He.out, _, rfl⟩, by simp only [intOf]; omega⟩
              | exact ⟨⟨q + 1, by omega, by go_num, He.out, _, World.drewN_drewN ..⟩, by simp only [intOf]; omega⟩
            · have He : Hid (tpre (l1.drop f).reverse (l2.drop f).reverse = q) := Lib.hid (by rw [he2, tpre_stop g1 g2 (by rw [r1, r2]; exact heq)]; omega)
              have hrun : ∀ w', (binOp .eql 24 (.agg #[.int .i64 l1[l1.length - 1 - q].1, .string l1[l1.length - 1 - q].2]) (.agg #[.int .i64 l2[l2.length - 1 - q].1, .string l2[l2.length - 1 - q].2])).run Tryd.prog w' = .ok (.bool false) w' := fun w' => by
                rw [run_eql_tok]; simp [heq]
              clear heq he2 r1 r2 hm hl
              go_wp2_with fail
              go_quiet (fail)
              go_wp2_with fail
              go_ret2
              first
              | exact ⟨ret_ii HF.out.symm (by unfold comT; rw [HF.out, He.out]), _, rfl⟩
              | exact ⟨ret_ii HF.out.symm (by unfold comT; rw [HF.out, He.out]), _, World.drewN_drewN ..⟩
          · have hl := HL.out
            have He : Hid (tpre (l1.drop f).reverse (l2.drop f).reverse = q) := Lib.hid (by rw [he2, tpre_end (by rw [List.length_reverse, List.length_reverse, List.length_drop, List.length_drop]; omega)]; omega)
            have y1 : IntKind.i64.wrap ((l1.length : Int) - (f : Int)) = ((l1.length - f : Nat) : Int) := by rw [IntWalk.i64_in _ (by omega)]; omega
            have y2 : IntKind.i64.wrap ((l2.length : Int) - (f : Int)) = ((l2.length - f : Nat) : Int) := by rw [IntWalk.i64_in _ (by omega)]; omega
            by_cases hx : q < l1.length - f
            · have y3 : (q : Int) < ((l1.length - f : Nat) : Int) := by omega
              have y4 : decide ((q : Int) < ((l2.length - f : Nat) : Int)) = false := decide_eq_false (by omega)
              have y5 : decide (q < l2.length - f) = false := decide_eq_false (by omega)
              have y6 : decide (q < l1.length - f) = true := decide_eq_true (by omega)
              clear he2 hm hl hx
              go_wp2_with fail
              go_quiet (fail)
              go_wp2_with fail
              go_ret2
              first
              | exact ⟨ret_ii HF.out.symm (by unfold comT; rw [HF.out, He.out]), _, rfl⟩
              | exact ⟨ret_ii HF.out.symm (by unfold comT; rw [HF.out, He.out]), _, World.drewN_drewN ..⟩
            · have y3 : decide ((q : Int) < ((l1.length - f : Nat) : Int)) = false := decide_eq_false (by omega)
              have y5 : decide (q < l1.length - f) = false := decide_eq_false (by omega)
              clear he2 hm hl hx
              go_wp2_with fail
              go_quiet (fail)
              go_wp2_with fail
              go_ret2
              first
              | exact ⟨ret_ii HF.out.symm (by unfold comT; rw [HF.out, He.out]), _, rfl⟩
              | exact ⟨ret_ii HF.out.symm (by unfold comT; rw [HF.out, He.out]), _, World.drewN_drewN ..⟩
    · have HF : Hid (tpre l1 l2 = k) := Lib.hid (by rw [he, tpre_end (by omega)]; omega)
      by_cases hx : k < l1.length
      · have y3 : (k : Int) < (l1.length : Int) := by omega
        have y4 : decide ((k : Int) < (l2.length : Int)) = false := decide_eq_false (by omega)
        have y6 : decide (k < l1.length) = true := decide_eq_true (by omega)
        have y5 : decide (k < l2.length) = false := decide_eq_false (by omega)
        clear he hm hl hx
        go_wp2_with fail
        go_quiet (fail)
        go_wp2_with fail
        clear y3 y4 y5 y6
        obtain ⟨f, hf⟩ : ∃ f, f = k := ⟨_, rfl⟩
        subst hf
        have hfM : f ≤ M := by omega
        go_loopw [7] (fun j wr => ∃ (q : Nat), q ≤ M - f ∧ j = .int .i64 q ∧ tpre (l1.drop f).reverse (l2.drop f).reverse = q + tpre ((l1.drop f).reverse.drop q) ((l2.drop f).reverse.drop q) ∧ ∃ n, wr = w.drewN n) (fun j _ => M - f - (intOf j).toNat)
        case atStart =>
          first
          | exact ⟨0, Nat.zero_le _, rfl, by simp, _, rfl⟩
          | exact ⟨0, Nat.zero_le _, rfl, by simp, _, World.drewN_drewN ..⟩
        case round =>
          obtain ⟨q, hq, rfl, he2, n2, rfl⟩ := hrel
          have hm := HM.out
          by_cases hlt2 : q < M - f
          · have hq0 : (0 : Int) ≤ (q : Int) := by omega
            have hl := HL.out
            have hq1 : (q : Int) < ((M - f : Nat) : Int) := by omega
            have qb : (q : Int) + 1 ≤ 60001 := by omega
            have n1 : l1.length - 1 - q < l1.length := by omega
            have n3 : l2.length - 1 - q < l2.length := by omega
            have g1 : q < (l1.drop f).reverse.length := by rw [List.length_reverse, List.length_drop]; omega
            have g2 : q < (l2.drop f).reverse.length := by rw [List.length_reverse, List.length_drop]; omega
            have r1 := drop_rev_get l1 f q g1 n1
            have r2 := drop_rev_get l2 f q g2 n3
            obtain ⟨b, off, hA1, hb, c11, c12⟩ := HE1.out.get n1
            obtain ⟨b2, off2, hA2, hb2, c21, c22⟩ := HE2.out.get n3
            have y1 : IntKind.i64.wrap ((l1.length : Int) - (f : Int)) = ((l1.length - f : Nat) : Int) := by rw [IntWalk.i64_in _ (by omega)]; omega
            have y2 : IntKind.i64.wrap ((l2.length : Int) - (f : Int)) = ((l2.length - f : Nat) : Int) := by rw [IntWalk.i64_in _ (by omega)]; omega
            have y3 : (q : Int) < ((l1.length - f : Nat) : Int) := by omega
            have y4 : (q : Int) < ((l2.length - f : Nat) : Int) := by omega
            have y5 : decide (q < l2.length - f) = true := decide_eq_true (by omega)
            have y6 : decide (q < l1.length - f) = true := decide_eq_true (by omega)
            have z2 : IntKind.i64.wrap ((l1.length : Int) - 1) = ((l1.length - 1 : Nat) : Int) := by rw [IntWalk.i64_in _ (by omega)]; omega
            have z3 : IntKind.i64.wrap ((l2.length : Int) - 1) = ((l2.length - 1 : Nat) : Int) := by rw [IntWalk.i64_in _ (by omega)]; omega
            have z4 : IntKind.i64.wrap (((l1.length - 1 : Nat) : Int) - (q : Int)) = ((l1.length - 1 - q : Nat) : Int) := by rw [IntWalk.i64_in _ (by omega)]; omega
            have z5 : IntKind.i64.wrap (((l2.length - 1 : Nat) : Int) - (q : Int)) = ((l2.length - 1 - q : Nat) : Int) := by rw [IntWalk.i64_in _ (by omega)]; omega
            have z6 : ((l1.length - 1 - q : Nat) : Int) < (l1.length : Int) := by omega
            have z7 : ((l2.length - 1 - q : Nat) : Int) < (l2.length : Int) := by omega
            first
            | subst hA1
            | (injection hA1 with hA1; injection hA1 with e1 e2; subst e1 e2)
            first
            | subst hA2
            | (injection hA2 with hA2; injection hA2 with e1 e2; subst e1 e2)
            by_cases heq : l1[l1.length - 1 - q] = l2[l2.length - 1 - q]
            · have He : Hid (tpre (l1.drop f).reverse (l2.drop f).reverse = q + 1 + tpre ((l1.drop f).reverse.drop (q + 1)) ((l2.drop f).reverse.drop (q + 1))) := Lib.hid (by rw [he2, tpre_step g1 g2 (by rw [r1, r2]; exact heq)]; omega)
              have hrun : ∀ w', (binOp .eql 24 (.agg #[.int .i64 l1[l1.length - 1 - q].1, .string l1[l1.length - 1 - q].2]) (.agg #[.int .i64 l2[l2.length - 1 - q].1, .string l2[l2.length - 1 - q].2])).run Tryd.prog w' = .ok (.bool true) w' := fun w' => by
                rw [run_eql_tok]; simp [heq]
              clear heq he2 r1 r2 hm hl
              go_wp2_with fail
              go_quiet (fail)
              go_wp2_with fail
              first
              | exact ⟨⟨q + 1, by omega, by go_num, He.out, _, rfl⟩, by simp only [intOf]; omega⟩
              | exact ⟨⟨q + 1, by omega, by go_num, He.out, _, World.drewN_drewN ..⟩, by simp only [intOf]; omega⟩
            · have He : Hid (tpre (l1.drop f).reverse (l2.drop f).reverse = q) := Lib.hid (by rw [he2, tpre_stop g1 g2 (by rw [r1, r2]; exact heq)]; omega)
              have hrun : ∀ w', (binOp .eql 24 (.agg #[.int .i64 l1[l1.length - 1 - q].1, .string l1[l1.length - 1 - q].2]) (.agg #[.int .i64 l2[l2.length - 1 - q].1, .string l2[l2.length - 1 - q].2])).run Tryd.prog w' = .ok (.bool false) w' := fun w' => by
                rw [run_eql_tok]; simp [heq]
              clear heq he2 r1 r2 hm hl
              go_wp2_with fail
              go_quiet (fail)
              go_wp2_with fail
              go_ret2
              first
              | exact ⟨ret_ii HF.out.symm (by unfold comT; rw [HF.out, He.out]), _, rfl⟩
              | exact ⟨ret_ii HF.out.symm (by unfold comT; rw [HF.out, He.out]), _, World.drewN_drewN ..⟩
          · have hl := HL.out
            have He : Hid (tpre (l1.drop f).reverse (l2.drop f).reverse = q) := Lib.hid (by rw [he2, tpre_end (by rw [List.length_reverse, List.length_reverse, List.length_drop, List.length_drop]; omega)]; omega)
            have y1 : IntKind.i64.wrap ((l1.length : Int) - (f : Int)) = ((l1.length - f : Nat) : Int) := by rw [IntWalk.i64_in _ (by omega)]; omega
            have y2 : IntKind.i64.wrap ((l2.length : Int) - (f : Int)) = ((l2.length - f : Nat) : Int) := by rw [IntWalk.i64_in _ (by omega)]; omega
            by_cases hx : q < l1.length - f
            · have y3 : (q : Int) < ((l1.length - f : Nat) : Int) := by omega
              have y4 : decide ((q : Int) < ((l2.length - f : Nat) : Int)) = false := decide_eq_false (by omega)
              have y5 : decide (q < l2.length - f) = false := decide_eq_false (by omega)
              have y6 : decide (q < l1.length - f) = true := decide_eq_true (by omega)
              clear he2 hm hl hx
              go_wp2_with fail
              go_quiet (fail)
              go_wp2_with fail
              go_ret2
              first
              | exact ⟨ret_ii HF.out.symm (by unfold comT; rw [HF.out, He.out]), _, rfl⟩
              | exact ⟨ret_ii HF.out.symm (by unfold comT; rw [HF.out, He.out]), _, World.drewN_drewN ..⟩
            · have y3 : decide ((q : Int) < ((l1.length - f : Nat) : Int)) = false := decide_eq_false (by omega)
              have y5 : decide (q < l1.length - f) = false := decide_eq_false (by omega)
              clear he2 hm hl hx
              go_wp2_with fail
              go_quiet (fail)
              go_wp2_with fail
              go_ret2
              first
              | exact ⟨ret_ii HF.out.symm (by unfold comT; rw [HF.out, He.out]), _, rfl⟩
              | exact ⟨ret_ii HF.out.symm (by unfold comT; rw [HF.out, He.out]), _, World.drewN_drewN ..⟩
      · have y3 : decide ((k : Int) < (l1.length : Int)) = false := decide_eq_false (by omega)
        have y5 : decide (k < l1.length) = false := decide_eq_false (by omega)
        clear he hm hl hx
        go_wp2_with fail
        go_quiet (fail)
        go_wp2_with fail
        clear y3 y5
        obtain ⟨f, hf⟩ : ∃ f, f = k := ⟨_, rfl⟩
        subst hf
        have hfM : f ≤ M := by omega
        go_loopw [7] (fun j wr => ∃ (q : Nat), q ≤ M - f ∧ j = .int .i64 q ∧ tpre (l1.drop f).reverse (l2.drop f).reverse = q + tpre ((l1.drop f).reverse.drop q) ((l2.drop f).reverse.drop q) ∧ ∃ n, wr = w.drewN n) (fun j _ => M - f - (intOf j).toNat)
        case atStart =>
          first
          | exact ⟨0, Nat.zero_le _, rfl, by simp, _, rfl⟩
          | exact ⟨0, Nat.zero_le _, rfl, by simp, _, World.drewN_drewN ..⟩
        case round =>
          obtain ⟨q, hq, rfl, he2, n2, rfl⟩ := hrel
          have hm := HM.out
          by_cases hlt2 : q < M - f
          · have hq0 : (0 : Int) ≤ (q : Int) := by omega
            have hl := HL.out
            have hq1 : (q : Int) < ((M - f : Nat) : Int) := by omega
            have qb : (q : Int) + 1 ≤ 60001 := by omega
            have n1 : l1.length - 1 - q < l1.length := by omega
            have n3 : l2.length - 1 - q < l2.length := by omega
            have g1 : q < (l1.drop f).reverse.length := by rw [List.length_reverse, List.length_drop]; omega
            have g2 : q < (l2.drop f).reverse.length := by rw [List.length_reverse, List.length_drop]; omega
            have r1 := drop_rev_get l1 f q g1 n1
            have r2 := drop_rev_get l2 f q g2 n3
            obtain ⟨b, off, hA1, hb, c11, c12⟩ := HE1.out.get n1
            obtain ⟨b2, off2, hA2, hb2, c21, c22⟩ := HE2.out.get n3
            have y1 : IntKind.i64.wrap ((l1.length : Int) - (f : Int)) = ((l1.length - f : Nat) : Int) := by rw [IntWalk.i64_in _ (by omega)]; omega
            have y2 : IntKind.i64.wrap ((l2.length : Int) - (f : Int)) = ((l2.length - f : Nat) : Int) := by rw [IntWalk.i64_in _ (by omega)]; omega
            have y3 : (q : Int) < ((l1.length - f : Nat) : Int) := by omega
            have y4 : (q : Int) < ((l2.length - f : Nat) : Int) := by omega
            have y5 : decide (q < l2.length - f) = true := decide_eq_true (by omega)
            have y6 : decide (q < l1.length - f) = true := decide_eq_true (by omega)
            have z2 : IntKind.i64.wrap ((l1.length : Int) - 1) = ((l1.length - 1 : Nat) : Int) := by rw [IntWalk.i64_in _ (by omega)]; omega
            have z3 : IntKind.i64.wrap ((l2.length : Int) - 1) = ((l2.length - 1 : Nat) : Int) := by rw [IntWalk.i64_in _ (by omega)]; omega
            have z4 : IntKind.i64.wrap (((l1.length - 1 : Nat) : Int) - (q : Int)) = ((l1.length - 1 - q : Nat) : Int) := by rw [IntWalk.i64_in _ (by omega)]; omega
            have z5 : IntKind.i64.wrap (((l2.length - 1 : Nat) : Int) - (q : Int)) = ((l2.length - 1 - q : Nat) : Int) := by rw [IntWalk.i64_in _ (by omega)]; omega
            have z6 : ((l1.length - 1 - q : Nat) : Int) < (l1.length : Int) := by omega
            have z7 : ((l2.length - 1 - q : Nat) : Int) < (l2.length : Int) := by omega
            first
            | subst hA1
            | (injection hA1 with hA1; injection hA1 with e1 e2; subst e1 e2)
            first
            | subst hA2
            | (injection hA2 with hA2; injection hA2 with e1 e2; subst e1 e2)
            by_cases heq : l1[l1.length - 1 - q] = l2[l2.length - 1 - q]
            · have He : Hid (tpre (l1.drop f).reverse (l2.drop f).reverse = q + 1 + tpre ((l1.drop f).reverse.drop (q + 1)) ((l2.drop f).reverse.drop (q + 1))) := Lib.hid (by rw [he2, tpre_step g1 g2 (by rw [r1, r2]; exact heq)]; omega)
              have hrun : ∀ w', (binOp .eql 24 (.agg #[.int .i64 l1[l1.length - 1 - q].1, .string l1[l1.length - 1 - q].2]) (.agg #[.int .i64 l2[l2.length - 1 - q].1, .string l2[l2.length - 1 - q].2])).run Tryd.prog w' = .ok (.bool true) w' := fun w' => by
                rw [run_eql_tok]; simp [heq]
              clear heq he2 r1 r2 hm hl
              go_wp2_with fail
              go_quiet (fail)
              go_wp2_with fail
              first
              | exact ⟨⟨q + 1, by omega, by go_num, He.out, _, rfl⟩, by simp only [intOf]; omega⟩
              | exact ⟨⟨q + 1, by omega, by go_num, He.out, _, World.drewN_drewN ..⟩, by simp only [intOf]; omega⟩
            · have He : Hid (tpre (l1.drop f).reverse (l2.drop f).reverse = q) := Lib.hid (by rw [he2, tpre_stop g1 g2 (by rw [r1, r2]; exact heq)]; omega)
              have hrun : ∀ w', (binOp .eql 24 (.agg #[.int .i64 l1[l1.length - 1 - q].1, .string l1[l1.length - 1 - q].2]) (.agg #[.int .i64 l2[l2.length - 1 - q].1, .string l2[l2.length - 1 - q].2])).run Tryd.prog w' = .ok (.bool false) w' := fun w' => by
                rw [run_eql_tok]; simp [heq]
              clear heq he2 r1 r2 hm hl
              go_wp2_with fail
              go_quiet (fail)
              go_wp2_with fail
              go_ret2
              first
              | exact ⟨ret_ii HF.out.symm (by unfold comT; rw [HF.out, He.out]), _, rfl⟩
              | exact ⟨ret_ii HF.out.symm (by unfold comT; rw [HF.out, He.out]), _, World.drewN_drewN ..⟩
          · have hl := HL.out
            have He : Hid (tpre (l1.drop f).reverse (l2.drop f).reverse = q) := Lib.hid (by rw [he2, tpre_end (by rw [List.length_reverse, List.length_reverse, List.length_drop, List.length_drop]; omega)]; omega)
            have y1 : IntKind.i64.wrap ((l1.length : Int) - (f : Int)) = ((l1.length - f : Nat) : Int) := by rw [IntWalk.i64_in _ (by omega)]; omega
            have y2 : IntKind.i64.wrap ((l2.length : Int) - (f : Int)) = ((l2.length - f : Nat) : Int) := by rw [IntWalk.i64_in _ (by omega)]; omega
            by_cases hx : q < l1.length - f
            · have y3 : (q : Int) < ((l1.length - f : Nat) : Int) := by omega
              have y4 : decide ((q : Int) < ((l2.length - f : Nat) : Int)) = false := decide_eq_false (by omega)
              have y5 : decide (q < l2.length - f) = false := decide_eq_false (by omega)
              have y6 : decide (q < l1.length - f) = true := decide_eq_true (by omega)
              clear he2 hm hl hx
              go_wp2_with fail
              go_quiet (fail)
              go_wp2_with fail
              go_ret2
              first
              | exact ⟨ret_ii HF.out.symm (by unfold comT; rw [HF.out, He.out]), _, rfl⟩
              | exact ⟨ret_ii HF.out.symm (by unfold comT; rw [HF.out, He.out]), _, World.drewN_drewN ..⟩
            · have y3 : decide ((q : Int) < ((l1.length - f : Nat) : Int)) = false := decide_eq_false (by omega)
              have y5 : decide (q < l1.length - f) = false := decide_eq_false (by omega)
              clear he2 hm hl hx
              go_wp2_with fail
              go_quiet (fail)
              go_wp2_with fail
              go_ret2
              first
              | exact ⟨ret_ii HF.out.symm (by unfold comT; rw [HF.out, He.out]), _, rfl⟩
              | exact ⟨ret_ii HF.out.symm (by unfold comT; rw [HF.out, He.out]), _, World.drewN_drewN ..⟩
end Go.Proofs.YtkdnacniligjjaaDoor
