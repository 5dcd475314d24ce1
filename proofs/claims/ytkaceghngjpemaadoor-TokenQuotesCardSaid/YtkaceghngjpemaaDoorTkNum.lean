/-
  Number of token and of the specification: the number of digits, and whether it is one of 64 bits.
-/
import Derived.Test.YtkaceghngjpemaaDoorTkAlive
import Derived.Test.YtkaceghngjpemaaDoorTkLaid
import Derived.Test.YtkaceghngjpemaaDoorTkSelf
import Derived.Test.YtkaceghngjpemaaDoorTkQu
import Derived.Lib.ParseIntBCases
namespace Go.Proofs.YtkaceghngjpemaaDoor
set_option linter.unusedVariables false
set_option linter.unusedSimpArgs false
open Go.RowKit

/-- the number of digits, if it is one of 64 bits -/
def numR : Nat → List UInt8 → Option Nat
  | acc, [] => some acc
  | acc, c :: r => if (9223372036854775807 - (c.toNat - 48)) / 10 < acc then none else numR (10 * acc + (c.toNat - 48)) r
theorem digit_range {c : UInt8} (h : digitB c = true) : 48 ≤ c.toNat ∧ c.toNat ≤ 57 := by
  unfold digitB at h
  simp only [Bool.and_eq_true, decide_eq_true_eq] at h
  omega
theorem parse_big : ∀ (l : List UInt8) (acc : Nat), (∀ c ∈ l, digitB c = true) → 9223372036854775808 ≤ acc → Lib.signlessC 9223372036854775808 (Lib.parseUintM 18446744073709551615 acc l) = .range
  | [], acc, _, h => by
    simp only [Lib.parseUintM, Lib.signlessC]
    rw [if_pos h]
  | c :: r, acc, hd, h => by
    have hc := digit_range (hd c (by simp))
    simp only [Lib.parseUintM]
    rw [if_pos hc]
    split
    · rfl
    · split
      · rfl
      · exact parse_big r _ (fun x hx => hd x (by simp [hx])) (by omega)
theorem parse_num : ∀ (l : List UInt8) (acc : Nat), (∀ c ∈ l, digitB c = true) → acc ≤ 9223372036854775807 → Lib.signlessC 9223372036854775808 (Lib.parseUintM 18446744073709551615 acc l) = match numR acc l with
    | some v => .ok (v : Int)
    | none => .range
  | [], acc, _, h => by
    simp only [Lib.parseUintM, Lib.signlessC, numR]
    rw [if_neg (by omega)]
  | c :: r, acc, hd, h => by
    have hc := digit_range (hd c (by simp))
    simp only [Lib.parseUintM, numR]
    rw [if_pos hc]
    by_cases hb : (9223372036854775807 - (c.toNat - 48)) / 10 < acc
    · rw [if_pos hb]
      split
      · rfl
      · split
        · rfl
        · exact parse_big r _ (fun x hx => hd x (by simp [hx])) (by omega)
    · rw [if_neg hb, if_neg (by omega), if_neg (by omega), show acc * 10 + (c.toNat - 48) = 10 * acc + (c.toNat - 48) by omega]
      exact parse_num r _ (fun x hx => hd x (by simp [hx])) (by omega)
theorem numR_le : ∀ (l : List UInt8) (acc v : Nat), acc ≤ 9223372036854775807 → (∀ c ∈ l, digitB c = true) → numR acc l = some v → v ≤ 9223372036854775807
  | [], acc, v, h, _, hv => by simp only [numR] at hv; injection hv with hv; omega
  | c :: r, acc, v, h, hd, hv => by
    have hc := digit_range (hd c (by simp))
    simp only [numR] at hv
    split at hv
    · cases hv
    · exact numR_le r _ v (by omega) (fun x hx => hd x (by simp [hx])) hv
theorem tok5 {s : ByteArray} (h : isTok (5, s) = true) : 0 < s.size ∧ s.size ≤ 20000 ∧ ∀ c ∈ byt s, digitB c = true := by
  have hf := tok_first h
  have h1 := h
  unfold isTok lexesB at h1
  simp only [Bool.and_eq_true, decide_eq_true_eq] at h1
  have hz : 0 < s.size := by
    rcases Nat.eq_zero_or_pos s.size with h0 | h0
    · rw [lexL_nil h0] at h1; cases h1.2
    · exact h0
  have hb := (firstP_kinds s).2.2 hf
  have h2 := h1.2
  rw [lexL_step hz] at h2
  have h3 : s.extract 0 (firstP s).2 = s := by
    have := congrArg (fun l => l.head?.map (·.2)) h2
    simpa using this
  have hle := firstP_le s hz
  have h4 := congrArg ByteArray.size h3
  rw [ByteArray.size_extract] at h4
  refine ⟨hz, h1.1, run_full ?_⟩
  rw [firstP5 hb] at h4 hle
  simp only at h4 hle
  rw [byt_length]; omega
theorem parse_tok {s : ByteArray} (h : isTok (5, s) = true) : Lib.parseIntB 64 s.data.toList = match numR 0 (byt s) with
    | some v => .ok (v : Int)
    | none => .range := by
  obtain ⟨hz, _, hd⟩ := tok5 h
  cases hb : byt s with
  | nil => have := byt_length s; rw [hb] at this; simp at this; omega
  | cons c r =>
    rw [hb] at hd
    have hc := digit_range (hd c (by simp))
    have e : s.data.toList = c :: r := hb
    rw [e, Lib.parseIntB_plain 64 c r (by omega) (by omega)]
    have := parse_num (c :: r) 0 hd (by omega)
    rw [← this]
    unfold Lib.parseUintB
    rw [if_neg (by simp)]

/-- the sentinel of strconv stands in memory -/
def ErrV (w : World) : Prop := ∃ ev, w.cell? ⟨3, 0, none⟩ = some ev ∧ (ev = .nilIface ∨ ∃ te pe, ev = .iface te pe)
theorem ErrV.below {w w' : World} (h : ErrV w) (hb : Below w.heap.size w w') : ErrV w' := by
  obtain ⟨ev, h1, h2⟩ := h
  exact ⟨ev, (hb.cell (lt_of_cell h1)).trans h1, h2⟩

/-- what Number returns -/
def numT (k : Int) (s : ByteArray) : Int × Bool × Int := if k = 5 ∧ isTok (5, s) = true then (match numR 0 (byt s) with
    | some v => ((v : Int), true, 0)
    | none => (0, false, 0)) else (0, false, 4)
theorem ret_n {p : Int × Bool × Int} {a : Int} {b : Bool} {c : Int} (h : p = (a, b, c)) : Ending.returned (.tuple #[.int .i64 a, .bool b, .int .i64 c]) = .returned (.tuple #[.int .i64 p.1, .bool p.2.1, .int .i64 p.2.2]) := by rw [h]

set_option maxRecDepth 100000 in
set_option maxHeartbeats 1000000 in
theorem Number_any (k : Int) (s : ByteArray) (w : World) (hT : Tabs w) (hV : ErrV w) :
    Calls Tryd.prog 45 #[.agg #[.int .i64 k, .string s]] w fun e w' => e = .returned (.tuple #[.int .i64 (numT k s).1, .bool (numT k s).2.1, .int .i64 (numT k s).2.2]) ∧ Below w.heap.size w w' := by
  have hw0 : Below w.heap.size w (w.alloc (.cells #[.int .i64 k, .string s] 44)) := (Below.refl _ _).alloc (Nat.le_refl _) _
  have hbx : (w.alloc (.cells #[.int .i64 k, .string s] 44)).heap[w.heap.size]? = some (.cells #[.int .i64 k, .string s] 44 (0, 0)) := heap_alloc_new w _
  by_cases hk : k = 5
  · subst hk
    cases hq : isTok (5, s)
    · have hr : Hid (numT 5 s = (0, false, 4)) := Lib.hid (by unfold numT; rw [if_neg (by rw [hq]; simp)])
      have htk := IsToken_any 5 s _ (hT.below hw0)
      rw [hq] at htk
      have Htk := Lib.hid htk
      have HW0 := Lib.hid hw0
      clear htk hT hw0 hbx hV
      go_enter Tryd.func45, Tryd.ntmps45
      go_wp2_with fail
      refine Htk.out.mono ?_
      rintro e w1 ⟨rfl, hb1⟩
      go_wp2_with fail
      go_ret3
      exact ⟨ret_n hr.out, HW0.out.trans (hb1.mono HW0.out.size)⟩
    · obtain ⟨hz, h20, _⟩ := tok5 hq
      have hp := parse_tok hq
      cases hn : numR 0 (byt s) with
      | some v =>
        rw [hn] at hp
        have hr : Hid (numT 5 s = ((v : Int), true, 0)) := Lib.hid (by unfold numT; rw [if_pos ⟨rfl, hq⟩, hn])
        refine (Number_ok s (v : Int) w hT h20 hq hp).mono fun e w' ⟨he, hb⟩ => ⟨?_, hb⟩
        rw [he]; exact ret_n hr.out
      | none =>
        rw [hn] at hp
        have hr : Hid (numT 5 s = (0, false, 0)) := Lib.hid (by unfold numT; rw [if_pos ⟨rfl, hq⟩, hn])
        have htk := IsToken_any 5 s _ (hT.below hw0)
        rw [hq] at htk
        have Htk := Lib.hid htk
        have HW0 := Lib.hid hw0
        have Hbx := Lib.hid hbx
        have HV := Lib.hid (hV.below hw0)
        have HP := Lib.hid hp
        clear htk hT hw0 hbx hV hp
        go_enter Tryd.func45, Tryd.ntmps45
        go_wp2_with fail
        refine Htk.out.mono ?_
        rintro e w1 ⟨rfl, hb1⟩
        have hB1 := HW0.out.trans (hb1.mono HW0.out.size)
        have hc1 : w1.cell? ⟨w.heap.size, 1, none⟩ = some (.string s) := Lib.cell_of_heap ((hb1.block _ (by simp)).trans Hbx.out) 1
        obtain ⟨ev, hev1, hev2⟩ := HV.out.below hb1
        have Hev := Lib.hid hev1
        clear hev1
        go_wp2_with fail
        refine (Tryd.strconv_ParseInt_10_at64_range s (by omega) HP.out ev w1 Hev.out hev2).mono ?_
        rintro e w2 ⟨NN, rfl, _, _, hb2⟩
        go_wp2_with fail
        go_ret3
        exact ⟨ret_n hr.out, hB1.trans (hb2.mono hB1.size)⟩
  · have q : ((k : Int) != 5) = true := by simpa using hk
    have hr : Hid (numT k s = (0, false, 4)) := Lib.hid (by unfold numT; rw [if_neg (fun h => hk h.1)])
    have HW0 := Lib.hid hw0
    clear hT hw0 hbx hk hV
    go_enter Tryd.func45, Tryd.ntmps45
    go_wp2_with fail
    go_ret3
    exact ⟨ret_n hr.out, HW0.out⟩

theorem numR_step {l : List UInt8} {k acc : Nat} (h : k < l.length) : numR acc (l.drop k) = if (9223372036854775807 - (l[k].toNat - 48)) / 10 < acc then none else numR (10 * acc + (l[k].toNat - 48)) (l.drop (k + 1)) := by
  rw [List.drop_eq_getElem_cons h]; rfl
/-- what the specification's Number returns -/
def numB (s : ByteArray) : Int × Bool := match numR 0 (byt s) with
  | some v => ((v : Int), true)
  | none => (0, false)
theorem ret_ib {p : Int × Bool} {a : Int} {b : Bool} (h : p = (a, b)) : Ending.returned (.tuple #[.int .i64 a, .bool b]) = .returned (.tuple #[.int .i64 p.1, .bool p.2]) := by rw [h]

set_option maxRecDepth 100000 in
set_option maxHeartbeats 1000000 in
theorem RNumber_any (s : ByteArray) (w : World) (hs : s.size ≤ 60000) (hd : ∀ c ∈ byt s, digitB c = true) :
    Calls Tryd.prog 48 #[.string s] w fun e w' => e = .returned (.tuple #[.int .i64 (numB s).1, .bool (numB s).2]) ∧ w' = w := by
  have HD := Lib.hid hd
  clear hd
  go_enter Tryd.func48, Tryd.ntmps48
  go_wp2_with fail
  go_loopw [4, 5, 6] (fun n i _ wr => ∃ (k acc : Nat), k ≤ s.size ∧ i = .int .i64 k ∧ n = .int .i64 acc ∧ acc ≤ 9223372036854775807 ∧ numR 0 (byt s) = numR acc ((byt s).drop k) ∧ wr = w) (fun _ i _ _ => s.size - (intOf i).toNat)
  case atStart => exact ⟨0, 0, Nat.zero_le _, rfl, rfl, by omega, rfl, rfl⟩
  case round =>
    obtain ⟨k, acc, hk, rfl, rfl, hacc, he, rfl⟩ := hrel
    have hk0 : (0 : Int) ≤ (k : Int) := by omega
    by_cases hlt : k < s.size
    · have g1 : k < (byt s).length := by rw [byt_length]; exact hlt
      have hks : (k : Int) < (s.size : Int) := by omega
      have hdg := digit_range (HD.out (byt s)[k] (List.getElem_mem g1))
      rw [numR_step g1] at he
      rw [byt_get s k hlt g1] at hdg
      obtain ⟨d, hdd⟩ : ∃ d, d = (s[k]'hlt).toNat - 48 := ⟨_, rfl⟩
      have he2 : numR 0 (byt s) = if (9223372036854775807 - d) / 10 < acc then none else numR (10 * acc + d) ((byt s).drop (k + 1)) := by rw [hdd]; exact he
      have hd9 : d ≤ 9 := by omega
      have hdi : ((s[k]'hlt).toNat : Int) - 48 = (d : Int) := by omega
      have hdb : (48 : Int) ≤ ((s[k]'hlt).toNat : Int) := by omega
      clear hdg hdd he
      by_cases hb : (9223372036854775807 - d) / 10 < acc
      · rw [if_pos hb] at he2
        have hr : Hid (numB s = (0, false)) := Lib.hid (by unfold numB; rw [he2])
        have qb : decide ((9223372036854775807 - (d : Int)) / 10 < (acc : Int)) = true := by rw [decide_eq_true_eq]; omega
        have qb2 : (9223372036854775807 - (d : Int)) / 10 < (acc : Int) := by omega
        clear he2 hb
        go_wp2_with fail
        go_ret2
        exact ⟨ret_ib hr.out, rfl⟩
      · rw [if_neg hb] at he2
        have qb : decide ((9223372036854775807 - (d : Int)) / 10 < (acc : Int)) = false := by rw [decide_eq_false_iff_not]; omega
        have qb2 : ¬ (9223372036854775807 - (d : Int)) / 10 < (acc : Int) := by omega
        have hn1 : 10 * acc + d ≤ 9223372036854775807 := by omega
        have He := Lib.hid he2
        clear he2 hb
        go_wp2_with fail
        exact ⟨⟨k + 1, 10 * acc + d, by omega, by go_num, by go_num, hn1, He.out, by first | rfl | trivial⟩, by simp [intOf]; omega⟩
    · have q : decide ((k : Int) < (s.size : Int)) = false := by simp; omega
      rw [List.drop_eq_nil_of_le (by rw [byt_length]; omega)] at he
      have hr : Hid (numB s = ((acc : Int), true)) := Lib.hid (by unfold numB; rw [he]; rfl)
      clear he
      go_wp2_with fail
      go_ret2
      exact ⟨ret_ib hr.out, rfl⟩
end Go.Proofs.YtkaceghngjpemaaDoor
