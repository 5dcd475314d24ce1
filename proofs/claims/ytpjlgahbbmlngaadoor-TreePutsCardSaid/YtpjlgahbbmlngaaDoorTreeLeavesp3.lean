/-
  Contracts of HasPrefix, isWord, signSize.
-/
import Derived.Test.YtpjlgahbbmlngaaDoorTreeLeavesp2
namespace Go.Proofs.YtpjlgahbbmlngaaDoor
set_option linter.unusedVariables false
set_option linter.unusedSimpArgs false
open Go.RowKit

theorem strs_inj {a b : ByteArray} (h : a.toList = b.toList) : a = b := by
  rw [ByteArray.toList_eq, ByteArray.toList_eq] at h
  apply ByteArray.ext
  exact Array.toList_inj.1 h
/-- the two tables stand in memory -/
def Tabs (w : World) : Prop := (∀ k, k < 12 → w.cell? ⟨2, k, none⟩ = some (.string (wordsB[k]?.getD ByteArray.empty))) ∧ (∀ k, k < 22 → w.cell? ⟨1, k, none⟩ = some (.string (signsB[k]?.getD ByteArray.empty)))

theorem ret_b {a b : Bool} (h : a = b) : Ending.returned (.bool a) = .returned (.bool b) := by rw [h]

set_option maxRecDepth 100000 in
theorem preIn_any (s p : ByteArray) (w : World) :
    Calls Tryd.prog 137 #[.string s, .string p] w fun e w' => e = .returned (.bool (preB s p)) ∧ w' = w := by
  unfold preB
  by_cases h1 : p.size ≤ s.size
  · have q1 : decide ((p.size : Int) ≤ (s.size : Int)) = true := by simp; omega
    rw [decide_eq_true h1, Bool.true_and]
    by_cases h2 : s.extract 0 p.size = p
    · have h3 : ((s.extract 0 p.size).toList == p.toList) = true := by rw [h2]; exact beq_self_eq_true _
      rw [decide_eq_true h2]
      clear h2
      go_enter Tryd.func137, Tryd.ntmps137
      go_wp2_with fail
      go_ret
      exact ⟨rfl, rfl⟩
    · have h3 : ((s.extract 0 p.size).toList == p.toList) = false := beq_eq_false_iff_ne.2 fun h => h2 (strs_inj h)
      rw [decide_eq_false h2]
      clear h2
      go_enter Tryd.func137, Tryd.ntmps137
      go_wp2_with fail
      go_ret
      exact ⟨rfl, rfl⟩
  · have q1 : decide ((p.size : Int) ≤ (s.size : Int)) = false := by simp; omega
    rw [decide_eq_false h1, Bool.false_and]
    go_enter Tryd.func137, Tryd.ntmps137
    go_wp2_with fail
    go_ret
    exact ⟨rfl, rfl⟩
theorem pre_any (s p : ByteArray) (w : World) :
    Calls Tryd.prog 130 #[.string s, .string p] w fun e w' => e = .returned (.bool (preB s p)) ∧ w' = w := by
  go_enter Tryd.func130, Tryd.ntmps130
  go_wp2_with fail
  refine (preIn_any s p w).mono ?_
  rintro e w1 ⟨rfl, rfl⟩
  go_wp2_with fail
  go_ret
  exact ⟨rfl, rfl⟩

theorem lt_of_cell {w : World} {a : Addr} {v : Value} (h : w.cell? a = some v) : a.block < w.heap.size := by
  rcases Nat.lt_or_ge a.block w.heap.size with h' | h'
  · exact h'
  · simp [World.cell?, Array.getElem?_eq_none h'] at h
theorem Tabs.below {w w' : World} (h : Tabs w) (hb : Below w.heap.size w w') : Tabs w' :=
  ⟨fun k hk => (hb.cell (lt_of_cell (h.1 k hk))).trans (h.1 k hk), fun k hk => (hb.cell (lt_of_cell (h.2 k hk))).trans (h.2 k hk)⟩

set_option maxRecDepth 100000 in
theorem signSize_any (s : ByteArray) (w : World) (hT : Tabs w) :
    Calls Tryd.prog 123 #[.string s] w fun e w' => e = .returned (.int .i64 (signN s : Nat)) ∧ w' = w := by
  have HT := Lib.hid hT
  clear hT
  go_enter Tryd.func123, Tryd.ntmps123
  go_wp2_with fail
  go_loopw [3] (fun i wr => ∃ (k : Nat) (x : Int), k ≤ 22 ∧ x = (k : Int) - 1 ∧ i = .int .i64 x ∧ signN s = signTo s k ∧ wr = w) (fun i _ => (intOf i + 1).toNat)
  case atStart => exact ⟨22, 21, by omega, rfl, rfl, rfl, rfl⟩
  case round =>
    obtain ⟨k, x, hk, hx, rfl, he, rfl⟩ := hrel
    rcases k with _ | j
    · obtain rfl : x = -1 := by omega
      have He : Hid (signN s = 0) := Lib.hid he
      clear he hx hk
      go_wp2_with fail
      go_ret
      exact ⟨ret_i He.out.symm, rfl⟩
    · obtain rfl : x = (j : Int) := by omega
      have hc := HT.out.2 j (by omega)
      obtain ⟨sg, hsg⟩ : ∃ sg, sg = signsB[j]?.getD ByteArray.empty := ⟨_, rfl⟩
      rw [← hsg] at hc
      have Hsg := Lib.hid hsg
      have hj1 : (0 : Int) ≤ (j : Int) := by omega
      have hj2 : (j : Int) < 22 := by omega
      have sj : IntKind.i64.wrap ((j : Int) - 1) = (j : Int) - 1 := IntWalk.i64_in _ (by omega)
      clear hsg hx
      cases hq : preB s sg
      · have He : Hid (signN s = signTo s j) := Lib.hid (by rw [he]; simp only [signTo]; rw [← Hsg.out, if_neg (by simp [hq])])
        clear he
        go_wp2_with fail
        refine (pre_any s sg _).mono ?_
        rw [hq]
        rintro e w1 ⟨rfl, rfl⟩
        go_wp2_with fail
        exact ⟨⟨j, _, by omega, rfl, by go_num, He.out, by first | rfl | trivial⟩, by simp [intOf]⟩
      · have He : Hid (signN s = sg.size) := Lib.hid (by rw [he]; simp only [signTo]; rw [← Hsg.out, if_pos hq])
        clear he
        go_wp2_with fail
        refine (pre_any s sg _).mono ?_
        rw [hq]
        rintro e w1 ⟨rfl, rfl⟩
        go_wp2_with fail
        go_ret
        exact ⟨ret_i He.out.symm, rfl⟩

theorem words_z : Tryd.prog.types[9]?.map (·.size) = some 1 := by kernel_rfl
theorem idx_words (cs : Array Value) (j : Nat) (v : Value) (W : World) (hj : j < 12) (h : cs[j]? = some v) : (Instr.index 165 (.agg cs) (.int .i64 (j : Int))).run Tryd.prog W = .ok v W := by
  simp [Instr.index, asIntOf, run_underlying Tryd.underlying165, go_sem]
  rw [if_pos hj, h]
  simp

set_option maxRecDepth 100000 in
set_option maxHeartbeats 1000000 in
theorem isWord_any (s : ByteArray) (w : World) (hT : Tabs w) :
    Calls Tryd.prog 133 #[.string s] w fun e w' => e = .returned (.bool (wordB s)) ∧ w' = w := by
  have c0 := hT.1 0 (by omega)
  obtain ⟨x0, e0⟩ : ∃ x, x = wordsB[0]?.getD ByteArray.empty := ⟨_, rfl⟩
  rw [← e0] at c0
  have E0 := Lib.hid e0
  clear e0
  have c1 := hT.1 1 (by omega)
  obtain ⟨x1, e1⟩ : ∃ x, x = wordsB[1]?.getD ByteArray.empty := ⟨_, rfl⟩
  rw [← e1] at c1
  have E1 := Lib.hid e1
  clear e1
  have c2 := hT.1 2 (by omega)
  obtain ⟨x2, e2⟩ : ∃ x, x = wordsB[2]?.getD ByteArray.empty := ⟨_, rfl⟩
  rw [← e2] at c2
  have E2 := Lib.hid e2
  clear e2
  have c3 := hT.1 3 (by omega)
  obtain ⟨x3, e3⟩ : ∃ x, x = wordsB[3]?.getD ByteArray.empty := ⟨_, rfl⟩
  rw [← e3] at c3
  have E3 := Lib.hid e3
  clear e3
  have c4 := hT.1 4 (by omega)
  obtain ⟨x4, e4⟩ : ∃ x, x = wordsB[4]?.getD ByteArray.empty := ⟨_, rfl⟩
  rw [← e4] at c4
  have E4 := Lib.hid e4
  clear e4
  have c5 := hT.1 5 (by omega)
  obtain ⟨x5, e5⟩ : ∃ x, x = wordsB[5]?.getD ByteArray.empty := ⟨_, rfl⟩
  rw [← e5] at c5
  have E5 := Lib.hid e5
  clear e5
  have c6 := hT.1 6 (by omega)
  obtain ⟨x6, e6⟩ : ∃ x, x = wordsB[6]?.getD ByteArray.empty := ⟨_, rfl⟩
  rw [← e6] at c6
  have E6 := Lib.hid e6
  clear e6
  have c7 := hT.1 7 (by omega)
  obtain ⟨x7, e7⟩ : ∃ x, x = wordsB[7]?.getD ByteArray.empty := ⟨_, rfl⟩
  rw [← e7] at c7
  have E7 := Lib.hid e7
  clear e7
  have c8 := hT.1 8 (by omega)
  obtain ⟨x8, e8⟩ : ∃ x, x = wordsB[8]?.getD ByteArray.empty := ⟨_, rfl⟩
  rw [← e8] at c8
  have E8 := Lib.hid e8
  clear e8
  have c9 := hT.1 9 (by omega)
  obtain ⟨x9, e9⟩ : ∃ x, x = wordsB[9]?.getD ByteArray.empty := ⟨_, rfl⟩
  rw [← e9] at c9
  have E9 := Lib.hid e9
  clear e9
  have c10 := hT.1 10 (by omega)
  obtain ⟨x10, e10⟩ : ∃ x, x = wordsB[10]?.getD ByteArray.empty := ⟨_, rfl⟩
  rw [← e10] at c10
  have E10 := Lib.hid e10
  clear e10
  have c11 := hT.1 11 (by omega)
  obtain ⟨x11, e11⟩ : ∃ x, x = wordsB[11]?.getD ByteArray.empty := ⟨_, rfl⟩
  rw [← e11] at c11
  have E11 := Lib.hid e11
  clear e11
  clear hT
  have hi0 : ∀ W, (Instr.index 165 (.agg #[.string x0, .string x1, .string x2, .string x3, .string x4, .string x5, .string x6, .string x7, .string x8, .string x9, .string x10, .string x11]) (.int .i64 0)).run Tryd.prog W = .ok (.string x0) W := fun W => idx_words _ 0 _ W (by decide) rfl
  have hi1 : ∀ W, (Instr.index 165 (.agg #[.string x0, .string x1, .string x2, .string x3, .string x4, .string x5, .string x6, .string x7, .string x8, .string x9, .string x10, .string x11]) (.int .i64 1)).run Tryd.prog W = .ok (.string x1) W := fun W => idx_words _ 1 _ W (by decide) rfl
  have hi2 : ∀ W, (Instr.index 165 (.agg #[.string x0, .string x1, .string x2, .string x3, .string x4, .string x5, .string x6, .string x7, .string x8, .string x9, .string x10, .string x11]) (.int .i64 2)).run Tryd.prog W = .ok (.string x2) W := fun W => idx_words _ 2 _ W (by decide) rfl
  have hi3 : ∀ W, (Instr.index 165 (.agg #[.string x0, .string x1, .string x2, .string x3, .string x4, .string x5, .string x6, .string x7, .string x8, .string x9, .string x10, .string x11]) (.int .i64 3)).run Tryd.prog W = .ok (.string x3) W := fun W => idx_words _ 3 _ W (by decide) rfl
  have hi4 : ∀ W, (Instr.index 165 (.agg #[.string x0, .string x1, .string x2, .string x3, .string x4, .string x5, .string x6, .string x7, .string x8, .string x9, .string x10, .string x11]) (.int .i64 4)).run Tryd.prog W = .ok (.string x4) W := fun W => idx_words _ 4 _ W (by decide) rfl
  have hi5 : ∀ W, (Instr.index 165 (.agg #[.string x0, .string x1, .string x2, .string x3, .string x4, .string x5, .string x6, .string x7, .string x8, .string x9, .string x10, .string x11]) (.int .i64 5)).run Tryd.prog W = .ok (.string x5) W := fun W => idx_words _ 5 _ W (by decide) rfl
  have hi6 : ∀ W, (Instr.index 165 (.agg #[.string x0, .string x1, .string x2, .string x3, .string x4, .string x5, .string x6, .string x7, .string x8, .string x9, .string x10, .string x11]) (.int .i64 6)).run Tryd.prog W = .ok (.string x6) W := fun W => idx_words _ 6 _ W (by decide) rfl
  have hi7 : ∀ W, (Instr.index 165 (.agg #[.string x0, .string x1, .string x2, .string x3, .string x4, .string x5, .string x6, .string x7, .string x8, .string x9, .string x10, .string x11]) (.int .i64 7)).run Tryd.prog W = .ok (.string x7) W := fun W => idx_words _ 7 _ W (by decide) rfl
  have hi8 : ∀ W, (Instr.index 165 (.agg #[.string x0, .string x1, .string x2, .string x3, .string x4, .string x5, .string x6, .string x7, .string x8, .string x9, .string x10, .string x11]) (.int .i64 8)).run Tryd.prog W = .ok (.string x8) W := fun W => idx_words _ 8 _ W (by decide) rfl
  have hi9 : ∀ W, (Instr.index 165 (.agg #[.string x0, .string x1, .string x2, .string x3, .string x4, .string x5, .string x6, .string x7, .string x8, .string x9, .string x10, .string x11]) (.int .i64 9)).run Tryd.prog W = .ok (.string x9) W := fun W => idx_words _ 9 _ W (by decide) rfl
  have hi10 : ∀ W, (Instr.index 165 (.agg #[.string x0, .string x1, .string x2, .string x3, .string x4, .string x5, .string x6, .string x7, .string x8, .string x9, .string x10, .string x11]) (.int .i64 10)).run Tryd.prog W = .ok (.string x10) W := fun W => idx_words _ 10 _ W (by decide) rfl
  have hi11 : ∀ W, (Instr.index 165 (.agg #[.string x0, .string x1, .string x2, .string x3, .string x4, .string x5, .string x6, .string x7, .string x8, .string x9, .string x10, .string x11]) (.int .i64 11)).run Tryd.prog W = .ok (.string x11) W := fun W => idx_words _ 11 _ W (by decide) rfl

  go_enter Tryd.func133, Tryd.ntmps133
  go_wp2_with fail
  go_loopw [4, 6] (fun _ i wr => ∃ k : Nat, k ≤ 12 ∧ i = .int .i64 k ∧ wordTo s k = false ∧ wr = w) (fun _ i _ => 12 - (intOf i).toNat)
  case atStart => exact ⟨0, by omega, rfl, rfl, rfl⟩
  case round =>
    obtain ⟨k, hk, rfl, he, rfl⟩ := hrel
    have hcs : k = 0 ∨ k = 1 ∨ k = 2 ∨ k = 3 ∨ k = 4 ∨ k = 5 ∨ k = 6 ∨ k = 7 ∨ k = 8 ∨ k = 9 ∨ k = 10 ∨ k = 11 ∨ k = 12 := by omega
    rcases hcs with rfl | rfl | rfl | rfl | rfl | rfl | rfl | rfl | rfl | rfl | rfl | rfl | rfl
    · by_cases hq : s = x0
      · have h3 : (s.toList == x0.toList) = true := by rw [hq]; exact beq_self_eq_true _
        have He : Hid (wordB s = true) := Lib.hid (wordTo_mono (k := 0 + 1) (by simp only [wordTo]; rw [← E0.out, decide_eq_true hq, Bool.or_true]) (by omega))
        clear he hq
        go_wp2_with fail
        go_ret
        exact ⟨ret_b He.out.symm, rfl⟩
      · have h3 : (s.toList == x0.toList) = false := beq_eq_false_iff_ne.2 fun h => hq (strs_inj h)
        have He : Hid (wordTo s (0 + 1) = false) := Lib.hid (by show (wordTo s 0 || decide (s = wordsB[0]?.getD ByteArray.empty)) = false; rw [he, ← E0.out, decide_eq_false hq]; rfl)
        clear he hq
        go_wp2_with fail
        exact ⟨⟨0 + 1, by omega, by go_num, He.out, by first | rfl | trivial⟩, by simp [intOf]⟩
    · by_cases hq : s = x1
      · have h3 : (s.toList == x1.toList) = true := by rw [hq]; exact beq_self_eq_true _
        have He : Hid (wordB s = true) := Lib.hid (wordTo_mono (k := 1 + 1) (by simp only [wordTo]; rw [← E1.out, decide_eq_true hq, Bool.or_true]) (by omega))
        clear he hq
        go_wp2_with fail
        go_ret
        exact ⟨ret_b He.out.symm, rfl⟩
      · have h3 : (s.toList == x1.toList) = false := beq_eq_false_iff_ne.2 fun h => hq (strs_inj h)
        have He : Hid (wordTo s (1 + 1) = false) := Lib.hid (by show (wordTo s 1 || decide (s = wordsB[1]?.getD ByteArray.empty)) = false; rw [he, ← E1.out, decide_eq_false hq]; rfl)
        clear he hq
        go_wp2_with fail
        exact ⟨⟨1 + 1, by omega, by go_num, He.out, by first | rfl | trivial⟩, by simp [intOf]⟩
    · by_cases hq : s = x2
      · have h3 : (s.toList == x2.toList) = true := by rw [hq]; exact beq_self_eq_true _
        have He : Hid (wordB s = true) := Lib.hid (wordTo_mono (k := 2 + 1) (by simp only [wordTo]; rw [← E2.out, decide_eq_true hq, Bool.or_true]) (by omega))
        clear he hq
        go_wp2_with fail
        go_ret
        exact ⟨ret_b He.out.symm, rfl⟩
      · have h3 : (s.toList == x2.toList) = false := beq_eq_false_iff_ne.2 fun h => hq (strs_inj h)
        have He : Hid (wordTo s (2 + 1) = false) := Lib.hid (by show (wordTo s 2 || decide (s = wordsB[2]?.getD ByteArray.empty)) = false; rw [he, ← E2.out, decide_eq_false hq]; rfl)
        clear he hq
        go_wp2_with fail
        exact ⟨⟨2 + 1, by omega, by go_num, He.out, by first | rfl | trivial⟩, by simp [intOf]⟩
    · by_cases hq : s = x3
      · have h3 : (s.toList == x3.toList) = true := by rw [hq]; exact beq_self_eq_true _
        have He : Hid (wordB s = true) := Lib.hid (wordTo_mono (k := 3 + 1) (by simp only [wordTo]; rw [← E3.out, decide_eq_true hq, Bool.or_true]) (by omega))
        clear he hq
        go_wp2_with fail
        go_ret
        exact ⟨ret_b He.out.symm, rfl⟩
      · have h3 : (s.toList == x3.toList) = false := beq_eq_false_iff_ne.2 fun h => hq (strs_inj h)
        have He : Hid (wordTo s (3 + 1) = false) := Lib.hid (by show (wordTo s 3 || decide (s = wordsB[3]?.getD ByteArray.empty)) = false; rw [he, ← E3.out, decide_eq_false hq]; rfl)
        clear he hq
        go_wp2_with fail
        exact ⟨⟨3 + 1, by omega, by go_num, He.out, by first | rfl | trivial⟩, by simp [intOf]⟩
    · by_cases hq : s = x4
      · have h3 : (s.toList == x4.toList) = true := by rw [hq]; exact beq_self_eq_true _
        have He : Hid (wordB s = true) := Lib.hid (wordTo_mono (k := 4 + 1) (by simp only [wordTo]; rw [← E4.out, decide_eq_true hq, Bool.or_true]) (by omega))
        clear he hq
        go_wp2_with fail
        go_ret
        exact ⟨ret_b He.out.symm, rfl⟩
      · have h3 : (s.toList == x4.toList) = false := beq_eq_false_iff_ne.2 fun h => hq (strs_inj h)
        have He : Hid (wordTo s (4 + 1) = false) := Lib.hid (by show (wordTo s 4 || decide (s = wordsB[4]?.getD ByteArray.empty)) = false; rw [he, ← E4.out, decide_eq_false hq]; rfl)
        clear he hq
        go_wp2_with fail
        exact ⟨⟨4 + 1, by omega, by go_num, He.out, by first | rfl | trivial⟩, by simp [intOf]⟩
    · by_cases hq : s = x5
      · have h3 : (s.toList == x5.toList) = true := by rw [hq]; exact beq_self_eq_true _
        have He : Hid (wordB s = true) := Lib.hid (wordTo_mono (k := 5 + 1) (by simp only [wordTo]; rw [← E5.out, decide_eq_true hq, Bool.or_true]) (by omega))
        clear he hq
        go_wp2_with fail
        go_ret
        exact ⟨ret_b He.out.symm, rfl⟩
      · have h3 : (s.toList == x5.toList) = false := beq_eq_false_iff_ne.2 fun h => hq (strs_inj h)
        have He : Hid (wordTo s (5 + 1) = false) := Lib.hid (by show (wordTo s 5 || decide (s = wordsB[5]?.getD ByteArray.empty)) = false; rw [he, ← E5.out, decide_eq_false hq]; rfl)
        clear he hq
        go_wp2_with fail
        exact ⟨⟨5 + 1, by omega, by go_num, He.out, by first | rfl | trivial⟩, by simp [intOf]⟩
    · by_cases hq : s = x6
      · have h3 : (s.toList == x6.toList) = true := by rw [hq]; exact beq_self_eq_true _
        have He : Hid (wordB s = true) := Lib.hid (wordTo_mono (k := 6 + 1) (by simp only [wordTo]; rw [← E6.out, decide_eq_true hq, Bool.or_true]) (by omega))
        clear he hq
        go_wp2_with fail
        go_ret
        exact ⟨ret_b He.out.symm, rfl⟩
      · have h3 : (s.toList == x6.toList) = false := beq_eq_false_iff_ne.2 fun h => hq (strs_inj h)
        have He : Hid (wordTo s (6 + 1) = false) := Lib.hid (by show (wordTo s 6 || decide (s = wordsB[6]?.getD ByteArray.empty)) = false; rw [he, ← E6.out, decide_eq_false hq]; rfl)
        clear he hq
        go_wp2_with fail
        exact ⟨⟨6 + 1, by omega, by go_num, He.out, by first | rfl | trivial⟩, by simp [intOf]⟩
    · by_cases hq : s = x7
      · have h3 : (s.toList == x7.toList) = true := by rw [hq]; exact beq_self_eq_true _
        have He : Hid (wordB s = true) := Lib.hid (wordTo_mono (k := 7 + 1) (by simp only [wordTo]; rw [← E7.out, decide_eq_true hq, Bool.or_true]) (by omega))
        clear he hq
        go_wp2_with fail
        go_ret
        exact ⟨ret_b He.out.symm, rfl⟩
      · have h3 : (s.toList == x7.toList) = false := beq_eq_false_iff_ne.2 fun h => hq (strs_inj h)
        have He : Hid (wordTo s (7 + 1) = false) := Lib.hid (by show (wordTo s 7 || decide (s = wordsB[7]?.getD ByteArray.empty)) = false; rw [he, ← E7.out, decide_eq_false hq]; rfl)
        clear he hq
        go_wp2_with fail
        exact ⟨⟨7 + 1, by omega, by go_num, He.out, by first | rfl | trivial⟩, by simp [intOf]⟩
    · by_cases hq : s = x8
      · have h3 : (s.toList == x8.toList) = true := by rw [hq]; exact beq_self_eq_true _
        have He : Hid (wordB s = true) := Lib.hid (wordTo_mono (k := 8 + 1) (by simp only [wordTo]; rw [← E8.out, decide_eq_true hq, Bool.or_true]) (by omega))
        clear he hq
        go_wp2_with fail
        go_ret
        exact ⟨ret_b He.out.symm, rfl⟩
      · have h3 : (s.toList == x8.toList) = false := beq_eq_false_iff_ne.2 fun h => hq (strs_inj h)
        have He : Hid (wordTo s (8 + 1) = false) := Lib.hid (by show (wordTo s 8 || decide (s = wordsB[8]?.getD ByteArray.empty)) = false; rw [he, ← E8.out, decide_eq_false hq]; rfl)
        clear he hq
        go_wp2_with fail
        exact ⟨⟨8 + 1, by omega, by go_num, He.out, by first | rfl | trivial⟩, by simp [intOf]⟩
    · by_cases hq : s = x9
      · have h3 : (s.toList == x9.toList) = true := by rw [hq]; exact beq_self_eq_true _
        have He : Hid (wordB s = true) := Lib.hid (wordTo_mono (k := 9 + 1) (by simp only [wordTo]; rw [← E9.out, decide_eq_true hq, Bool.or_true]) (by omega))
        clear he hq
        go_wp2_with fail
        go_ret
        exact ⟨ret_b He.out.symm, rfl⟩
      · have h3 : (s.toList == x9.toList) = false := beq_eq_false_iff_ne.2 fun h => hq (strs_inj h)
        have He : Hid (wordTo s (9 + 1) = false) := Lib.hid (by show (wordTo s 9 || decide (s = wordsB[9]?.getD ByteArray.empty)) = false; rw [he, ← E9.out, decide_eq_false hq]; rfl)
        clear he hq
        go_wp2_with fail
        exact ⟨⟨9 + 1, by omega, by go_num, He.out, by first | rfl | trivial⟩, by simp [intOf]⟩
    · by_cases hq : s = x10
      · have h3 : (s.toList == x10.toList) = true := by rw [hq]; exact beq_self_eq_true _
        have He : Hid (wordB s = true) := Lib.hid (wordTo_mono (k := 10 + 1) (by simp only [wordTo]; rw [← E10.out, decide_eq_true hq, Bool.or_true]) (by omega))
        clear he hq
        go_wp2_with fail
        go_ret
        exact ⟨ret_b He.out.symm, rfl⟩
      · have h3 : (s.toList == x10.toList) = false := beq_eq_false_iff_ne.2 fun h => hq (strs_inj h)
        have He : Hid (wordTo s (10 + 1) = false) := Lib.hid (by show (wordTo s 10 || decide (s = wordsB[10]?.getD ByteArray.empty)) = false; rw [he, ← E10.out, decide_eq_false hq]; rfl)
        clear he hq
        go_wp2_with fail
        exact ⟨⟨10 + 1, by omega, by go_num, He.out, by first | rfl | trivial⟩, by simp [intOf]⟩
    · by_cases hq : s = x11
      · have h3 : (s.toList == x11.toList) = true := by rw [hq]; exact beq_self_eq_true _
        have He : Hid (wordB s = true) := Lib.hid (wordTo_mono (k := 11 + 1) (by simp only [wordTo]; rw [← E11.out, decide_eq_true hq, Bool.or_true]) (by omega))
        clear he hq
        go_wp2_with fail
        go_ret
        exact ⟨ret_b He.out.symm, rfl⟩
      · have h3 : (s.toList == x11.toList) = false := beq_eq_false_iff_ne.2 fun h => hq (strs_inj h)
        have He : Hid (wordTo s (11 + 1) = false) := Lib.hid (by show (wordTo s 11 || decide (s = wordsB[11]?.getD ByteArray.empty)) = false; rw [he, ← E11.out, decide_eq_false hq]; rfl)
        clear he hq
        go_wp2_with fail
        exact ⟨⟨11 + 1, by omega, by go_num, He.out, by first | rfl | trivial⟩, by simp [intOf]⟩
    · have He : Hid (wordB s = false) := Lib.hid he
      clear he
      go_wp2_with fail
      go_ret
      exact ⟨ret_b He.out.symm, rfl⟩
end Go.Proofs.YtpjlgahbbmlngaaDoor
