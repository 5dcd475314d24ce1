/-
  The contract of the specification's IsToken.; Trees: isPart.
-/
import Derived.Test.YtpjlgahbbmlngaaDoorTreeLeavesp12
import Derived.Test.YtpjlgahbbmlngaaDoorTreeLeavesp5
import Derived.BigQuiet
import Derived.Deep.QuietTactic
namespace Go.Proofs.YtpjlgahbbmlngaaDoor
set_option linter.unusedVariables false
set_option linter.unusedSimpArgs false
open Go.RowKit

theorem run_eql_tok (a b : Tok) (w : World) :
    (binOp .eql 23 (.agg #[.int .i64 a.1, .string a.2]) (.agg #[.int .i64 b.1, .string b.2])).run Tryd.prog w = .ok (.bool (decide (a = b))) w := by
  simp [go_sem]
  by_cases h1 : a.1 = b.1
  · by_cases h3 : a.2 = b.2
    · have h4 : a.2.toList = b.2.toList := by rw [h3]
      have h5 : a = b := Prod.ext h1 h3
      rw [if_pos h1, if_pos h4]; simp [h5]
    · have h4 : ¬ a.2.toList = b.2.toList := fun h => h3 (strs_inj h)
      have h5 : ¬ a = b := fun h => h3 (by rw [h])
      rw [if_pos h1, if_neg h4]; simp [h5]
  · have h5 : ¬ a = b := fun h => h1 (by rw [h])
    rw [if_neg h1]; simp [h5]
/-- the first token's kind and text -/
def firstT (s : ByteArray) : Tok := ((firstP s).1, s.extract 0 (firstP s).2)
theorem isTok_first {s : ByteArray} (k : Int) (hz : 0 < s.size) (h2 : s.size ≤ 20000) : isTok (k, s) = decide (firstT s = (k, s)) := by
  unfold isTok lexesB
  rw [decide_eq_true (p := (k, s).2.size ≤ 20000) h2, Bool.true_and, decide_eq_decide]
  constructor
  · intro h
    simp only at h
    rw [lexL_step hz] at h
    exact (List.cons.inj h).1
  · intro h
    have h1 : (firstP s).1 = k := congrArg Prod.fst h
    have h3 : s.extract 0 (firstP s).2 = s := congrArg Prod.snd h
    have hle := firstP_le s hz
    have h4 := congrArg ByteArray.size h3
    rw [ByteArray.size_extract] at h4
    exact lexL_one hz (Prod.ext h1 (by simp only; omega))
theorem keptT2 {w w' : World} {b : Nat} {v0 v1 : Value} (hb : Below w.heap.size w w') (hlt : b < w.heap.size) (h0 : w.cell? ⟨b, 0, none⟩ = some v0) (h1 : w.cell? ⟨b, 1, none⟩ = some v1) :
    Below w.heap.size w w' ∧ w'.cell? ⟨b, 0, none⟩ = some v0 ∧ w'.cell? ⟨b, 1, none⟩ = some v1 := ⟨hb, (hb.cell (p := ⟨b, 0, none⟩) hlt).trans h0, (hb.cell (p := ⟨b, 1, none⟩) hlt).trans h1⟩
theorem below_callR {B : Nat} {a Y w1 : World} (h : Below B a Y) (hB : B ≤ a.heap.size) (hb : Below Y.heap.size Y w1) : Below B a w1 := h.trans (hb.mono (Nat.le_trans hB h.size))

set_option maxRecDepth 100000 in
set_option maxHeartbeats 2000000 in
theorem RIsTok_any (k : Int) (s : ByteArray) (w : World) (hs : s.size ≤ 60000) :
    Calls Tryd.prog 80 #[.agg #[.int .i64 k, .string s]] w fun e w' => e = .returned (.bool (isTok (k, s))) ∧ Below w.heap.size w w' := by
  obtain ⟨w0, hw0⟩ : ∃ w0, w0 = w.alloc (.cells #[.int .i64 k, .string s] 23) := ⟨_, rfl⟩
  have hB0 : Below w.heap.size w w0 := by rw [hw0]; exact (Below.refl _ _).alloc (Nat.le_refl _) _
  have hb0 : w0.heap[w.heap.size]? = some (.cells #[.int .i64 k, .string s] 23 (0, 0)) := by rw [hw0]; exact heap_alloc_new w _
  have m0 : w0.cell? ⟨w.heap.size, 0, none⟩ = some (.int .i64 k) := Lib.cell_of_heap hb0 0
  have m1 : w0.cell? ⟨w.heap.size, 1, none⟩ = some (.string s) := Lib.cell_of_heap hb0 1
  have hlt0 : w.heap.size < w0.heap.size := lt_of_cell m0
  have HB0 := Lib.hid hB0
  have HW0 := Lib.hid hw0
  clear hw0 hb0 hB0
  rcases Nat.eq_zero_or_pos s.size with h0 | h0
  · have hr : Hid (isTok (k, s) = false) := Lib.hid (by
      unfold isTok lexesB
      rw [lexL_nil (s := (k, s).2) h0, decide_eq_false (p := ([] : List Tok) = [(k, s)]) (by simp), Bool.and_false])
    have q : decide ((0 : Int) < (s.size : Int)) = false := decide_eq_false (by omega)
    have q2 : decide (0 < s.size) = false := decide_eq_false (by omega)
    have q3 : ¬ 0 < s.size := by omega
    clear h0
    go_enter Tryd.func80, Tryd.ntmps80
    go_wp2_with fail
    rw [← HW0.out]
    go_quiet (fail)
    go_wp2_with fail
    go_ret
    exact ⟨ret_b hr.out.symm, below_drewT HB0.out _⟩
  · have q : decide ((0 : Int) < (s.size : Int)) = true := by simp; omega
    have q2 : decide (0 < s.size) = true := by simp; omega
    by_cases h20 : s.size ≤ 20000
    · have q4 : decide ((s.size : Int) ≤ 20000) = true := by simp; omega
      have hnx : ∀ W, Calls Tryd.prog 67 #[.string s, .int .i64 0] W fun e w' => e = .returned (.agg #[.int .i64 (firstT s).1, .string (firstT s).2]) ∧ Below W.heap.size W w' := fun W => by
        have := Next_any s 0 W hs h0
        unfold nextR at this
        rw [all_head] at this
        exact this
      have hif := isTok_first k h0 h20
      have hrun : ∀ W, (binOp .eql 23 (.agg #[.int .i64 (firstT s).1, .string (firstT s).2]) (.agg #[.int .i64 k, .string s])).run Tryd.prog W = .ok (.bool (isTok (k, s))) W := fun W => by
        rw [hif]; exact run_eql_tok (firstT s) (k, s) W
      generalize firstT s = ft at hnx hrun
      obtain ⟨fk, fx⟩ := ft
      generalize isTok (k, s) = res at hrun
      have Hnx := Lib.hid hnx
      clear hnx hif
      go_enter Tryd.func80, Tryd.ntmps80
      go_wp2_with fail
      rw [← HW0.out]
      go_region_held3 (fun W => Below w0.heap.size w0 W ∧ W.cell? ⟨w.heap.size, 0, none⟩ = some (.int .i64 k) ∧ W.cell? ⟨w.heap.size, 1, none⟩ = some (.string s))
        (exact keptT2 (by repeat (first | with_reducible exact Below.refl _ _ | with_reducible assumption | with_reducible refine Below.drew ?_ | with_reducible refine below_drewT ?_ _ | with_reducible refine below_callR ?_ (Nat.le_refl _) hbN)) hlt0 m0 m1)
        ((go_at_call 67
          with_reducible refine (Hnx.out _).mono ?_
          rintro e wN ⟨rfl, hbN⟩))
      all_goals
        have hbw : Below w0.heap.size w0 wN := by repeat (first | with_reducible exact Below.refl _ _ | with_reducible assumption | with_reducible refine Below.drew ?_ | with_reducible refine below_drewT ?_ _ | with_reducible refine below_callR ?_ (Nat.le_refl _) hbN)
        have hBw := HB0.out.trans (hbw.mono HB0.out.size)
        go_wp2_with fail
        go_ret
        refine ⟨rfl, ?_⟩
        first
        | exact hBw
        | exact hBw.drew
        | exact below_drewT hBw _
    · have hr : Hid (isTok (k, s) = false) := Lib.hid (by
        unfold isTok lexesB
        rw [decide_eq_false (p := (k, s).2.size ≤ 20000) h20, Bool.false_and])
      have q4 : decide ((s.size : Int) ≤ 20000) = false := by simp; omega
      have q5 : ¬ (s.size : Int) ≤ 20000 := by omega
      clear h20
      go_enter Tryd.func80, Tryd.ntmps80
      go_wp2_with fail
      rw [← HW0.out]
      go_quiet (fail)
      go_wp2_with fail
      go_ret
      exact ⟨ret_b hr.out.symm, below_drewT HB0.out _⟩
end Go.Proofs.YtpjlgahbbmlngaaDoor

namespace Go.Proofs.YtpjlgahbbmlngaaDoor
set_option linter.unusedVariables false
set_option linter.unusedSimpArgs false
open Go.RowKit

def partR (k : Int) (t : Tok) (n : Nat) : Bool :=
  if k = 1 then decide (n = 0) && isTok t
  else if k = 28 ∧ 0 < n then false
  else decide (2 ≤ k) && (decide (k ≤ 28) && decide (t = (0, ByteArray.empty)))

set_option maxRecDepth 100000 in
set_option maxHeartbeats 1000000 in
theorem isPart_any (k tk : Int) (tx : ByteArray) (A : Option Addr) (n c : Nat) (w : World) (hT : Tabs w) :
    Calls Tryd.prog 63 #[.agg #[.int .i64 k, .int .i64 tk, .string tx, .slice A n c]] w fun e w' => e = .returned (.bool (partR k (tk, tx) n)) ∧ Below w.heap.size w w' := by
  have hB0 : Below w.heap.size w (w.alloc (.cells #[.int .i64 k, .int .i64 tk, .string tx, .slice A n c] 26)) := (Below.refl _ _).alloc (Nat.le_refl _) _
  have hTk := IsToken_any tk tx _ (hT.below hB0)
  have hrun : ∀ W, (binOp .eql 23 (.agg #[.int .i64 tk, .string tx]) (.agg #[.int .i64 0, .string ByteArray.empty])).run Tryd.prog W = .ok (.bool (decide ((tk, tx) = ((0, ByteArray.empty) : Tok)))) W := fun W => run_eql_tok (tk, tx) (0, ByteArray.empty) W
  have hr : partR k (tk, tx) n = if k = 1 then decide (n = 0) && isTok (tk, tx) else if k = 28 ∧ 0 < n then false else decide (2 ≤ k) && (decide (k ≤ 28) && decide ((tk, tx) = ((0, ByteArray.empty) : Tok))) := rfl
  have HB := Lib.hid hB0
  have HTk := Lib.hid hTk
  clear hB0 hTk hT
  clear hrun
  by_cases h1 : k = 1
  · subst h1
    rw [if_pos rfl] at hr
    rcases Nat.eq_zero_or_pos n with hn | hn
    · subst hn
      have HR : Hid (partR 1 (tk, tx) 0 = isTok (tk, tx)) := Lib.hid (by rw [hr]; simp)
      clear hr
      go_enter Tryd.func63, Tryd.ntmps63
      go_wp2_with fail
      refine HTk.out.mono ?_
      rintro e w2 ⟨rfl, hb2⟩
      go_wp2_with fail
      go_ret
      exact ⟨ret_b HR.out.symm, HB.out.trans (hb2.mono HB.out.size)⟩
    · have HR : Hid (partR 1 (tk, tx) n = false) := Lib.hid (by rw [hr, decide_eq_false (by omega)]; rfl)
      have q0 : ((n : Int) == 0) = false := beq_false_of_ne (by omega)
      clear hr
      go_enter Tryd.func63, Tryd.ntmps63
      go_wp2_with fail
      go_ret
      exact ⟨ret_b HR.out.symm, HB.out⟩
  · rw [if_neg h1] at hr
    have q1 : (k == 1) = false := beq_false_of_ne h1
    by_cases h2 : k = 28 ∧ 0 < n
    · rw [if_pos h2] at hr
      obtain ⟨rfl, hn⟩ := h2
      have HR := Lib.hid hr
      have q0 : decide ((0 : Int) < (n : Int)) = true := by simp; omega
      have q0n : decide (0 < n) = true := by simp; omega
      clear hr
      go_enter Tryd.func63, Tryd.ntmps63
      go_wp2_with fail
      go_ret
      exact ⟨ret_b HR.out.symm, HB.out⟩
    · rw [if_neg h2] at hr
      have HR := Lib.hid hr
      clear hr
      cases h28 : (k == 28)
      all_goals
        first
        | (have hne : k ≠ 28 := by simpa using h28)
        | (have hn0 : n = 0 := by
             have : k = 28 := by simpa using h28
             rcases Nat.eq_zero_or_pos n with h | h
             · exact h
             · exact absurd ⟨this, h⟩ h2
           subst hn0)
        clear h2
        cases ha : decide ((2 : Int) ≤ k)
        · rw [ha] at HR
          go_enter Tryd.func63, Tryd.ntmps63
          go_wp2_with fail
          go_ret
          exact ⟨ret_b (HR.out.trans rfl).symm, HB.out⟩
        · cases hc : decide (k ≤ (28 : Int))
          · rw [ha, hc] at HR
            go_enter Tryd.func63, Tryd.ntmps63
            go_wp2_with fail
            go_ret
            exact ⟨ret_b (HR.out.trans rfl).symm, HB.out⟩
          · rw [ha, hc] at HR
            by_cases hk0 : tk = 0
            · subst hk0
              by_cases hx0 : tx = ByteArray.empty
              · subst hx0
                have HR2 : Hid (partR k ((0 : Int), ByteArray.empty) _ = true) := Lib.hid (HR.out.trans (by simp))
                have e1 : ByteArray.empty.toList = [] := by decide +kernel
                have e2 : (ByteArray.empty.toList == ([] : List UInt8)) = true := by decide +kernel
                go_enter Tryd.func63, Tryd.ntmps63
                go_wp2_with fail
                go_ret
                exact ⟨ret_b HR2.out.symm, HB.out⟩
              · have HR2 : Hid (partR k ((0 : Int), tx) _ = false) := Lib.hid (HR.out.trans (by simp [hx0]))
                have e1 : ¬ tx.toList = [] := fun h => hx0 (strs_inj (h.trans (by decide +kernel)))
                have e2 : (tx.toList == ([] : List UInt8)) = false := by simpa using e1
                go_enter Tryd.func63, Tryd.ntmps63
                go_wp2_with fail
                go_ret
                exact ⟨ret_b HR2.out.symm, HB.out⟩
            · have HR2 : Hid (partR k (tk, tx) _ = false) := Lib.hid (HR.out.trans (by simp [hk0]))
              have e1 : (tk == 0) = false := beq_false_of_ne hk0
              go_enter Tryd.func63, Tryd.ntmps63
              go_wp2_with fail
              go_ret
              exact ⟨ret_b HR2.out.symm, HB.out⟩
end Go.Proofs.YtpjlgahbbmlngaaDoor
