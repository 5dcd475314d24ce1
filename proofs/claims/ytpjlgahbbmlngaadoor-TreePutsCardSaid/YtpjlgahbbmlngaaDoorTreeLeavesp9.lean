/-
  Plain mathematics of the specification of layer 3: its tests are those of the program.; A slice of strings in memory; the specification's lists of words and signs, and its has.; Contracts of the specification's tests of bytes, of its lists of words and signs, of has, remark, line.; The contract of the specification's sign.
-/
import Derived.Test.YtpjlgahbbmlngaaDoorTreeLeavesp8
import Derived.Test.YtpjlgahbbmlngaaDoorTreeLeavesp5
import Derived.Deep.RegionHeld3
import Derived.Deep.RegionLaw
import Derived.BigRegion
import Derived.BigQuiet
import Derived.Deep.QuietTactic
namespace Go.Proofs.YtpjlgahbbmlngaaDoor
set_option linter.unusedVariables false
set_option linter.unusedSimpArgs false

def letterB (b : UInt8) : Bool := decide (97 ≤ (b.toNat : Int)) && decide ((b.toNat : Int) ≤ 122) || (decide (65 ≤ (b.toNat : Int)) && decide ((b.toNat : Int) ≤ 90) || (b.toNat : Int) == 95)
theorem part_letter (b : UInt8) : partB b = (letterB b || digitB b) := by
  unfold partB letterB greatB
  cases decide (97 ≤ (b.toNat : Int)) <;> cases decide ((b.toNat : Int) ≤ 122) <;> cases decide (65 ≤ (b.toNat : Int)) <;> cases decide ((b.toNat : Int) ≤ 90) <;> cases ((b.toNat : Int) == 95) <;> cases digitB b <;> rfl
theorem letter_digit {b : UInt8} (h : letterB b = true) : digitB b = false := by
  unfold letterB at h; unfold digitB
  simp only [Bool.or_eq_true, Bool.and_eq_true, decide_eq_true_eq, beq_iff_eq] at h
  simp only [Bool.and_eq_false_iff, decide_eq_false_iff_not]
  omega

theorem ext_of {s : ByteArray} {m : Nat} (l : List UInt8) : s.extract 0 m = mkB l ↔ (byt s).take m = l := by
  constructor
  · intro h
    have := congrArg byt h
    rw [byt_take] at this
    rw [this]; exact mkB_toList l
  · intro h
    apply bytj
    rw [byt_take, h]; exact (mkB_toList l).symm
theorem ext_ext (t : ByteArray) (k m : Nat) : (t.extract k t.size).extract 0 m = t.extract k (k + m) := by
  apply bytj
  rw [byt_take, byt_drop]
  show _ = sub t k (k + m)
  rw [sub_eq, Nat.add_sub_cancel_left]; rfl
theorem ext_ext' (t : ByteArray) {k e : Nat} (h : k ≤ e) : t.extract k e = (t.extract k t.size).extract 0 (e - k) := by
  rw [ext_ext, Nat.add_sub_cancel' h]

theorem pre_one {s : ByteArray} (x : UInt8) (hz : 0 < s.size) : preB s (mkB [x]) = decide (b0 s = x) := by
  unfold preB b0
  rw [mkB_size]
  obtain ⟨b, l, hb⟩ : ∃ b l, byt s = b :: l := by
    have := byt_length s
    cases h : byt s with
    | nil => rw [h] at this; simp at this; omega
    | cons b l => exact ⟨b, l, rfl⟩
  rw [show decide ((([x] : List UInt8)).length ≤ s.size) = true by simp; omega, Bool.true_and]
  congr 1
  rw [eq_iff_iff, show ([x] : List UInt8).length = 1 from rfl, ext_of, hb]
  simp
theorem pre_two {s : ByteArray} (x y : UInt8) (hz : 0 < s.size) : preB s (mkB [x, y]) = (decide (2 ≤ s.size) && decide (b0 s = x) && decide (b1 s = y)) := by
  unfold preB b0 b1
  rw [mkB_size]
  by_cases h2 : 2 ≤ s.size
  · obtain ⟨b, c, l, hb⟩ : ∃ b c l, byt s = b :: c :: l := by
      have := byt_length s
      match h : byt s with
      | [] => rw [h] at this; simp at this; omega
      | [b] => rw [h] at this; simp at this; omega
      | b :: c :: l => exact ⟨b, c, l, rfl⟩
    rw [show decide ((([x, y] : List UInt8)).length ≤ s.size) = true by simp; omega, Bool.true_and, decide_eq_true h2, Bool.true_and, ← Bool.decide_and]
    congr 1
    rw [eq_iff_iff, show ([x, y] : List UInt8).length = 2 from rfl, ext_of, hb]
    simp
  · rw [show decide ((([x, y] : List UInt8)).length ≤ s.size) = false by simp; omega, decide_eq_false h2]
    rfl

/-- is a text in a list? -/
def hasB (l : List ByteArray) (s : ByteArray) : Bool := l.any fun x => decide (s = x)
/-- the size of the sign at the beginning, by the specification -/
def signAt (s : ByteArray) : Nat := if 2 ≤ s.size ∧ hasB signsB (s.extract 0 2) = true then 2 else if hasB signsB (s.extract 0 1) = true then 1 else 0

theorem one_mem {s : ByteArray} (hz : 0 < s.size) : hasB signsB (s.extract 0 1) = (decide (b0 s = 33) || decide (b0 s = 40) || decide (b0 s = 41) || decide (b0 s = 42) || decide (b0 s = 43) || decide (b0 s = 44) || decide (b0 s = 45) || decide (b0 s = 46) || decide (b0 s = 58) || decide (b0 s = 59) || decide (b0 s = 60) || decide (b0 s = 61) || decide (b0 s = 91) || decide (b0 s = 93) || decide (b0 s = 123) || decide (b0 s = 124) || decide (b0 s = 125)) := by
  obtain ⟨b, l, hb⟩ : ∃ b l, byt s = b :: l := by
    have := byt_length s
    cases h : byt s with
    | nil => rw [h] at this; simp at this; omega
    | cons b l => exact ⟨b, l, rfl⟩
  unfold hasB signsB b0
  rw [hb]
  rw [Bool.eq_iff_iff]
  simp only [decide_eq_true_eq, List.any_cons, List.any_nil, Bool.false_eq_true, ext_of, hb, Bool.or_eq_true, or_false, List.take_succ_cons, List.take_zero, List.getD_cons_zero, List.cons.injEq, and_true, reduceCtorEq, and_false, false_or, or_assoc]
theorem two_mem {s : ByteArray} (h2 : 2 ≤ s.size) : hasB signsB (s.extract 0 2) = (decide (b0 s = 38 ∧ b1 s = 38) || decide (b0 s = 45 ∧ b1 s = 62) || decide (b0 s = 61 ∧ b1 s = 61) || decide (b0 s = 61 ∧ b1 s = 62) || decide (b0 s = 124 ∧ b1 s = 124)) := by
  obtain ⟨b, c, l, hb⟩ : ∃ b c l, byt s = b :: c :: l := by
    have := byt_length s
    match h : byt s with
    | [] => rw [h] at this; simp at this; omega
    | [b] => rw [h] at this; simp at this; omega
    | b :: c :: l => exact ⟨b, c, l, rfl⟩
  unfold hasB signsB b0 b1
  rw [hb]
  rw [Bool.eq_iff_iff]
  simp only [decide_eq_true_eq, List.any_cons, List.any_nil, Bool.false_eq_true, ext_of, hb, Bool.or_eq_true, or_false, List.take_succ_cons, List.take_zero, List.getD_cons_zero, List.getD_cons_succ, List.cons.injEq, and_true, reduceCtorEq, and_false, false_or, or_assoc]

theorem signN_eq {s : ByteArray} (hz : 0 < s.size) : signN s = if preB s (mkB [125]) then 1 else if preB s (mkB [124, 124]) then 2 else if preB s (mkB [124]) then 1 else if preB s (mkB [123]) then 1 else if preB s (mkB [93]) then 1 else if preB s (mkB [91]) then 1 else if preB s (mkB [61, 62]) then 2 else if preB s (mkB [61, 61]) then 2 else if preB s (mkB [61]) then 1 else if preB s (mkB [60]) then 1 else if preB s (mkB [59]) then 1 else if preB s (mkB [58]) then 1 else if preB s (mkB [46]) then 1 else if preB s (mkB [45, 62]) then 2 else if preB s (mkB [45]) then 1 else if preB s (mkB [44]) then 1 else if preB s (mkB [43]) then 1 else if preB s (mkB [42]) then 1 else if preB s (mkB [41]) then 1 else if preB s (mkB [40]) then 1 else if preB s (mkB [38, 38]) then 2 else if preB s (mkB [33]) then 1 else 0 := rfl

set_option maxRecDepth 100000 in
theorem sign_bytes : ∀ n, n < 256 → ∀ z c38 c61 c62 c124 : Bool,
    (if (z && (decide (UInt8.ofNat n = 38) && c38 || (decide (UInt8.ofNat n = 45) && c62 || (decide (UInt8.ofNat n = 61) && c61 || (decide (UInt8.ofNat n = 61) && c62 || decide (UInt8.ofNat n = 124) && c124))))) = true then 2 else if (decide (UInt8.ofNat n = 33) || decide (UInt8.ofNat n = 40) || decide (UInt8.ofNat n = 41) || decide (UInt8.ofNat n = 42) || decide (UInt8.ofNat n = 43) || decide (UInt8.ofNat n = 44) || decide (UInt8.ofNat n = 45) || decide (UInt8.ofNat n = 46) || decide (UInt8.ofNat n = 58) || decide (UInt8.ofNat n = 59) || decide (UInt8.ofNat n = 60) || decide (UInt8.ofNat n = 61) || decide (UInt8.ofNat n = 91) || decide (UInt8.ofNat n = 93) || decide (UInt8.ofNat n = 123) || decide (UInt8.ofNat n = 124) || decide (UInt8.ofNat n = 125)) = true then 1 else 0)
    = (if decide (UInt8.ofNat n = 125) = true then 1 else if (z && decide (UInt8.ofNat n = 124) && c124) = true then 2 else if decide (UInt8.ofNat n = 124) = true then 1 else if decide (UInt8.ofNat n = 123) = true then 1 else if decide (UInt8.ofNat n = 93) = true then 1 else if decide (UInt8.ofNat n = 91) = true then 1 else if (z && decide (UInt8.ofNat n = 61) && c62) = true then 2 else if (z && decide (UInt8.ofNat n = 61) && c61) = true then 2 else if decide (UInt8.ofNat n = 61) = true then 1 else if decide (UInt8.ofNat n = 60) = true then 1 else if decide (UInt8.ofNat n = 59) = true then 1 else if decide (UInt8.ofNat n = 58) = true then 1 else if decide (UInt8.ofNat n = 46) = true then 1 else if (z && decide (UInt8.ofNat n = 45) && c62) = true then 2 else if decide (UInt8.ofNat n = 45) = true then 1 else if decide (UInt8.ofNat n = 44) = true then 1 else if decide (UInt8.ofNat n = 43) = true then 1 else if decide (UInt8.ofNat n = 42) = true then 1 else if decide (UInt8.ofNat n = 41) = true then 1 else if decide (UInt8.ofNat n = 40) = true then 1 else if (z && decide (UInt8.ofNat n = 38) && c38) = true then 2 else if decide (UInt8.ofNat n = 33) = true then 1 else 0) := by
  decide +kernel
theorem signAt_eq {s : ByteArray} (hz : 0 < s.size) : signAt s = signN s := by
  have h := sign_bytes (b0 s).toNat (b0 s).toNat_lt (decide (2 ≤ s.size)) (decide (b1 s = 38)) (decide (b1 s = 61)) (decide (b1 s = 62)) (decide (b1 s = 124))
  rw [UInt8.ofNat_toNat] at h
  rw [signN_eq hz]
  simp only [pre_one _ hz, pre_two _ _ hz]
  rw [← h]
  unfold signAt
  rw [one_mem hz]
  by_cases h2 : 2 ≤ s.size
  · rw [two_mem h2, decide_eq_true h2]
    simp only [h2, true_and, Bool.true_and, Bool.decide_and, Bool.or_assoc]
  · rw [decide_eq_false h2]
    simp only [h2, false_and, if_false, Bool.false_and, Bool.false_eq_true]

theorem hasB_take {l : List ByteArray} {s : ByteArray} {k : Nat} (hk : k < l.length) : hasB (l.take (k + 1)) s = (hasB (l.take k) s || decide (s = l[k])) := by
  unfold hasB
  rw [List.take_succ_eq_append_getElem hk, List.any_append, List.any_cons, List.any_nil, Bool.or_false]
theorem wordTo_take (s : ByteArray) : ∀ k, k ≤ 12 → wordTo s k = hasB (wordsB.take k) s
  | 0, _ => rfl
  | k + 1, h => by
    have hk : k < wordsB.length := by rw [wordsB_length]; omega
    simp only [wordTo]
    rw [hasB_take hk, wordTo_take s k (by omega), List.getElem?_eq_getElem hk, Option.getD_some]
theorem wordTo_mem (s : ByteArray) : wordB s = hasB wordsB s := wordTo_take s 12 (Nat.le_refl _)

/-- does a token that is no TkBad begin here, or a quotation mark? -/
def beginsB (s : ByteArray) : Bool := blankB (b0 s) || letterB (b0 s) || digitB (b0 s) || ((b0 s).toNat : Int) == 34 || preB s slashes || decide (0 < signN s)
theorem begins_eq (s : ByteArray) : beginsB s = decide (beginK s ≠ 8) := by
  unfold beginsB beginK
  rw [part_letter]
  cases blankB (b0 s) <;> cases letterB (b0 s) <;> cases digitB (b0 s) <;> cases (((b0 s).toNat : Int) == 34) <;> cases preB s slashes <;> by_cases h : 0 < signN s <;> simp [h]
end Go.Proofs.YtpjlgahbbmlngaaDoor

namespace Go.Proofs.YtpjlgahbbmlngaaDoor
set_option linter.unusedVariables false
set_option linter.unusedSimpArgs false
open Go.RowKit

def StrsV (w : World) (b : Nat) (l : List ByteArray) : Prop := b < w.heap.size ∧ ∀ i s, l[i]? = some s → w.cell? ⟨b, i, none⟩ = some (.string s)
theorem StrsV.below {w w' : World} {b : Nat} {l : List ByteArray} (h : StrsV w b l) (hb : Below w.heap.size w w') : StrsV w' b l :=
  ⟨Nat.lt_of_lt_of_le h.1 hb.size, fun i s hi => (hb.cell h.1).trans (h.2 i s hi)⟩
theorem StrsV.drewN {w : World} {b : Nat} {l : List ByteArray} (h : StrsV w b l) (n : Nat) : StrsV (w.drewN n) b l := ⟨h.1, h.2⟩
theorem StrsV.drew {w : World} {b : Nat} {l : List ByteArray} (h : StrsV w b l) : StrsV w.drew b l := ⟨h.1, h.2⟩
theorem StrsV.block {w : World} {b : Nat} {cs : Array Value} {l : List ByteArray} {t : TypeId} {fr : Nat × Nat} (h : w.heap[b]? = some (.cells cs t fr)) (hcs : cs.toList = l.map .string) : StrsV w b l := by
  refine ⟨?_, fun i s hi => ?_⟩
  · rcases Nat.lt_or_ge b w.heap.size with hlt | hge
    · exact hlt
    · rw [Array.getElem?_eq_none hge] at h; cases h
  · have : w.cell? ⟨b, i, none⟩ = cs.toList[i]? := by rw [Array.getElem?_toList]; simp [World.cell?, h]
    rw [this, hcs, List.getElem?_map, hi]; rfl
end Go.Proofs.YtpjlgahbbmlngaaDoor

namespace Go.Proofs.YtpjlgahbbmlngaaDoor
set_option linter.unusedVariables false
set_option linter.unusedSimpArgs false
open Go.RowKit

set_option maxRecDepth 100000 in
theorem RBlank_any (b : UInt8) (w : World) :
    Calls Tryd.prog 86 #[.int .u8 (b.toNat : Int)] w fun e w' => e = .returned (.bool (blankB b)) ∧ w' = w := by
  unfold blankB
  cases h1 : ((b.toNat : Int) == 32)
  · cases h2 : ((b.toNat : Int) == 9)
    · cases h3 : ((b.toNat : Int) == 10)
      · cases h4 : ((b.toNat : Int) == 13)
        all_goals
          go_enter Tryd.func86, Tryd.ntmps86
          go_wp2_with fail
          go_ret
          exact ⟨rfl, rfl⟩
      · go_enter Tryd.func86, Tryd.ntmps86
        go_wp2_with fail
        go_ret
        exact ⟨rfl, rfl⟩
    · go_enter Tryd.func86, Tryd.ntmps86
      go_wp2_with fail
      go_ret
      exact ⟨rfl, rfl⟩
  · go_enter Tryd.func86, Tryd.ntmps86
    go_wp2_with fail
    go_ret
    exact ⟨rfl, rfl⟩
set_option maxRecDepth 100000 in
theorem RDigit_any (b : UInt8) (w : World) :
    Calls Tryd.prog 90 #[.int .u8 (b.toNat : Int)] w fun e w' => e = .returned (.bool (digitB b)) ∧ w' = w := by
  unfold digitB
  cases h1 : decide (48 ≤ (b.toNat : Int))
  · go_enter Tryd.func90, Tryd.ntmps90
    go_wp2_with fail
    go_ret
    exact ⟨rfl, rfl⟩
  · cases h2 : decide ((b.toNat : Int) ≤ 57)
    all_goals
      go_enter Tryd.func90, Tryd.ntmps90
      go_wp2_with fail
      go_ret
      exact ⟨rfl, rfl⟩
set_option maxRecDepth 100000 in
theorem RLetter_any (b : UInt8) (w : World) :
    Calls Tryd.prog 89 #[.int .u8 (b.toNat : Int)] w fun e w' => e = .returned (.bool (letterB b)) ∧ w' = w := by
  unfold letterB
  cases h1 : decide (97 ≤ (b.toNat : Int)) <;> cases h2 : decide ((b.toNat : Int) ≤ 122) <;> cases h3 : decide (65 ≤ (b.toNat : Int)) <;> cases h4 : decide ((b.toNat : Int) ≤ 90) <;> cases h5 : ((b.toNat : Int) == 95)
  all_goals
    go_enter Tryd.func89, Tryd.ntmps89
    go_wp2_with fail
    go_ret
    exact ⟨rfl, rfl⟩

theorem RSigns_any (w : World) :
    Calls Tryd.prog 106 #[] w fun e w' => e = .returned (.slice (some ⟨w.heap.size, 0, none⟩) 22 22) ∧ StrsV w' w.heap.size signsB ∧ Below w.heap.size w w' := by
  go_enter Tryd.func106, Tryd.ntmps106
  go_wp2_with fail
  go_ret
  exact ⟨rfl, StrsV.block (heap_alloc_new w _) rfl, (Below.refl _ _).alloc (Nat.le_refl _) _⟩
theorem RWords_any (w : World) :
    Calls Tryd.prog 92 #[] w fun e w' => e = .returned (.slice (some ⟨w.heap.size, 0, none⟩) 12 12) ∧ StrsV w' w.heap.size wordsB ∧ Below w.heap.size w w' := by
  go_enter Tryd.func92, Tryd.ntmps92
  go_wp2_with fail
  go_ret
  exact ⟨rfl, StrsV.block (heap_alloc_new w _) rfl, (Below.refl _ _).alloc (Nat.le_refl _) _⟩

set_option maxRecDepth 100000 in
theorem has_any (b n c : Nat) (l : List ByteArray) (s : ByteArray) (w : World) (hn : n = l.length) (hl : l.length ≤ 1000) (hS : StrsV w b l) :
    Calls Tryd.prog 91 #[.slice (some ⟨b, 0, none⟩) n c, .string s] w fun e w' => e = .returned (.bool (hasB l s)) ∧ w' = w := by
  subst hn
  have HS := Lib.hid hS
  clear hS
  go_enter Tryd.func91, Tryd.ntmps91
  go_wp2_with fail
  go_loopw [5] (fun i wr => ∃ k : Nat, k ≤ l.length ∧ i = .int .i64 k ∧ hasB l s = (hasB (l.take k) s || hasB (l.drop k) s) ∧ hasB (l.take k) s = false ∧ wr = w) (fun i _ => l.length - (intOf i).toNat)
  case atStart => exact ⟨0, Nat.zero_le _, rfl, by simp [hasB], rfl, rfl⟩
  case round =>
    obtain ⟨k, hk, rfl, he, hf, rfl⟩ := hrel
    by_cases hlt : k < l.length
    · have hc := HS.out.2 k l[k] (List.getElem?_eq_getElem hlt)
      have ht := hasB_take (s := s) hlt
      have hall : hasB l s = (hasB (l.take (k + 1)) s || hasB (l.drop (k + 1)) s) := by
        unfold hasB; rw [← List.any_append, List.take_append_drop]
      rw [hf, Bool.false_or] at ht
      obtain ⟨x, hx⟩ : ∃ x, x = l[k] := ⟨_, rfl⟩
      rw [← hx] at hc ht
      have hk1 : (0 : Int) ≤ (k : Int) := by omega
      have hk2 : (k : Int) < (l.length : Int) := by omega
      by_cases hq : s = x
      · have h3 : (x.toList == s.toList) = true := by rw [hq]; exact beq_self_eq_true _
        have He : Hid (hasB l s = true) := Lib.hid (by rw [hall, ht, decide_eq_true hq]; rfl)
        clear he hf hq ht hall hx
        go_wp2_with fail
        go_ret
        exact ⟨ret_b He.out.symm, rfl⟩
      · have h3 : (x.toList == s.toList) = false := beq_eq_false_iff_ne.2 fun h => hq (strs_inj h).symm
        have He : Hid (hasB l s = (hasB (l.take (k + 1)) s || hasB (l.drop (k + 1)) s)) := Lib.hid hall
        have Hf : Hid (hasB (l.take (k + 1)) s = false) := Lib.hid (by rw [ht, decide_eq_false hq])
        clear he hf hq ht hall hx
        go_wp2_with fail
        exact ⟨⟨k + 1, by omega, by go_num, He.out, Hf.out, by first | rfl | trivial⟩, by simp [intOf]; omega⟩
    · have He : Hid (hasB l s = false) := Lib.hid (by rw [he, hf, List.drop_eq_nil_of_le (by omega)]; rfl)
      clear he hf
      go_wp2_with fail
      go_ret
      exact ⟨ret_b He.out.symm, rfl⟩

set_option maxRecDepth 100000 in
theorem remark_any (t : ByteArray) (k : Nat) (w : World) (ht : t.size ≤ 60000) (hk : k < t.size) :
    Calls Tryd.prog 87 #[.string t, .int .i64 (k : Int)] w fun e w' => e = .returned (.bool (preB (t.extract k t.size) slashes)) ∧ w' = w := by
  have hz := tail_size t k
  have hb0 := b0_tail hk
  have hp := pre_two (s := t.extract k t.size) 47 47 (by omega)
  have hsl : mkB [47, 47] = slashes := rfl
  rw [hsl] at hp
  have hk0 : (0 : Int) ≤ (k : Int) := by omega
  have hk9 : (k : Int) < (t.size : Int) := by omega
  by_cases h1 : k + 1 < t.size
  · have h1' : (k : Int) + 1 < (t.size : Int) := by omega
    have hb1 : b1 (t.extract k t.size) = t[k + 1]'h1 := by
      unfold b1
      rw [byt_drop, List.getD_eq_getElem?_getD, List.getElem?_drop, List.getElem?_eq_getElem (by rw [byt_length]; exact h1)]; rfl
    rw [hb0, hb1, decide_eq_true (show 2 ≤ (t.extract k t.size).size by omega), Bool.true_and] at hp
    cases q1 : (((t[k]'hk).toNat : Int) == 47)
    · have hr : Hid (preB (t.extract k t.size) slashes = false) := Lib.hid (by
        rw [hp, decide_eq_false (fun h => by rw [h] at q1; simp at q1)]; rfl)
      clear hp hb0 hb1 hsl
      go_enter Tryd.func87, Tryd.ntmps87
      go_wp2_with fail
      go_ret
      exact ⟨ret_b hr.out.symm, rfl⟩
    · have e1 : t[k]'hk = 47 := (u8x _ 47 (by decide)).1 q1
      cases q2 : (((t[k + 1]'h1).toNat : Int) == 47)
      · have hr : Hid (preB (t.extract k t.size) slashes = false) := Lib.hid (by
          rw [hp, decide_eq_false (p := t[k + 1]'h1 = 47) (fun h => by rw [h] at q2; simp at q2), Bool.and_false])
        clear hp hb0 hb1 hsl e1
        go_enter Tryd.func87, Tryd.ntmps87
        go_wp2_with fail
        go_ret
        exact ⟨ret_b hr.out.symm, rfl⟩
      · have e2 : t[k + 1]'h1 = 47 := (u8x _ 47 (by decide)).1 q2
        have hr : Hid (preB (t.extract k t.size) slashes = true) := Lib.hid (by
          rw [hp, decide_eq_true e1, decide_eq_true e2]; rfl)
        clear hp hb0 hb1 hsl e1 e2
        go_enter Tryd.func87, Tryd.ntmps87
        go_wp2_with fail
        go_ret
        exact ⟨ret_b hr.out.symm, rfl⟩
  · have h1' : ¬ (k : Int) + 1 < (t.size : Int) := by omega
    have q : decide ((k : Int) + 1 < (t.size : Int)) = false := by simp; omega
    have hr : Hid (preB (t.extract k t.size) slashes = false) := Lib.hid (by
      rw [hp, decide_eq_false (p := 2 ≤ (t.extract k t.size).size) (by omega)]; rfl)
    clear hp hb0 hsl
    go_enter Tryd.func87, Tryd.ntmps87
    go_wp2_with fail
    go_ret
    exact ⟨ret_b hr.out.symm, rfl⟩

theorem byt_tail_drop (t : ByteArray) (k j : Nat) : (byt (t.extract k t.size)).drop j = (byt t).drop (k + j) := by rw [byt_drop, List.drop_drop]
set_option maxRecDepth 100000 in
theorem line_any (t : ByteArray) (k : Nat) (w : World) (ht : t.size ≤ 60000) (hk : k ≤ t.size) :
    Calls Tryd.prog 88 #[.string t, .int .i64 (k : Int)] w fun e w' => e = .returned (.int .i64 ((k + runL lineB (byt (t.extract k t.size)) : Nat) : Int)) ∧ w' = w := by
  go_enter Tryd.func88, Tryd.ntmps88
  go_wp2_with fail
  go_loopw [1] (fun i wr => ∃ j : Nat, j ≤ t.size ∧ i = .int .i64 j ∧ k + runL lineB (byt (t.extract k t.size)) = j + runL lineB ((byt t).drop j) ∧ wr = w) (fun i _ => t.size - (intOf i).toNat)
  case atStart => exact ⟨k, hk, rfl, by rw [byt_drop], rfl⟩
  case round =>
    obtain ⟨j, hj, rfl, he, rfl⟩ := hrel
    have hj0 : (0 : Int) ≤ (j : Int) := by omega
    by_cases hlt : j < t.size
    · have g1 : j < (byt t).length := by rw [byt_length]; exact hlt
      have hj2 : (j : Int) < (t.size : Int) := by omega
      cases hq : lineB (t[j]'hlt)
      · have He : Hid (k + runL lineB (byt (t.extract k t.size)) = j) := Lib.hid (by rw [he, runL_stop g1 hq]; rfl)
        have q2 : (((t[j]'hlt).toNat : Int) != 10) = false := hq
        clear he hq
        go_wp2_with fail
        go_ret
        exact ⟨ret_i He.out.symm, rfl⟩
      · have He : Hid (k + runL lineB (byt (t.extract k t.size)) = j + 1 + runL lineB ((byt t).drop (j + 1))) := Lib.hid (by rw [he, runL_step g1 hq]; omega)
        have q2 : (((t[j]'hlt).toNat : Int) != 10) = true := hq
        clear he hq
        go_wp2_with fail
        exact ⟨⟨j + 1, by omega, by go_num, He.out, by first | rfl | trivial⟩, by simp [intOf]; omega⟩
    · have He : Hid (k + runL lineB (byt (t.extract k t.size)) = j) := Lib.hid (by rw [he, runL_end (by rw [byt_length]; omega)]; rfl)
      have q3 : decide ((j : Int) < (t.size : Int)) = false := by simp; omega
      clear he
      go_wp2_with fail
      go_ret
      exact ⟨ret_i He.out.symm, rfl⟩
end Go.Proofs.YtpjlgahbbmlngaaDoor

namespace Go.Proofs.YtpjlgahbbmlngaaDoor
set_option linter.unusedVariables false
set_option linter.unusedSimpArgs false
open Go.RowKit

set_option maxRecDepth 100000 in
set_option maxHeartbeats 1000000 in
theorem sign_any (t : ByteArray) (k : Nat) (w : World) (ht : t.size ≤ 60000) (hk : k < t.size) :
    Calls Tryd.prog 94 #[.string t, .int .i64 (k : Int)] w fun e w' => e = .returned (.int .i64 ((signN (t.extract k t.size) : Nat) : Int)) ∧ Below w.heap.size w w' := by
  have hz := tail_size t k
  rw [← signAt_eq (by omega)]
  have hx2 := ext_ext t k 2
  have hx1 := ext_ext t k 1
  have hk0 : (0 : Int) ≤ (k : Int) := by omega
  have hk9 : (k : Int) < (t.size : Int) := by omega
  have hk1 : k + 1 ≤ t.size := by omega
  have sk1 : IntKind.i64.wrap ((k : Int) + 1) = (k : Int) + 1 := IntWalk.i64_in _ (by omega)
  have sk2 : IntKind.i64.wrap ((k : Int) + 2) = (k : Int) + 2 := IntWalk.i64_in _ (by omega)
  have sn1 : ((k : Int) + 1).toNat = k + 1 := by omega
  have sn2 : ((k : Int) + 2).toNat = k + 2 := by omega
  have sb1 : (0 : Int) ≤ (k : Int) + 1 := by omega
  have sb2 : (0 : Int) ≤ (k : Int) + 2 := by omega
  have sc1 : (k : Int) ≤ (k : Int) + 1 := by omega
  have sc2 : (k : Int) ≤ (k : Int) + 2 := by omega
  have sd1 : (k : Int) + 1 ≤ (t.size : Int) := by omega
  by_cases h1 : k + 1 < t.size
  · have h1' : (k : Int) + 1 < (t.size : Int) := by omega
    have h2 : k + 2 ≤ t.size := by omega
    have q : decide ((k : Int) + 1 < (t.size : Int)) = true := by simp; omega
    have sd2 : (k : Int) + 2 ≤ (t.size : Int) := by omega
    cases q2 : hasB signsB (t.extract k (k + 2))
    · have hs1 : signAt (t.extract k t.size) = if hasB signsB (t.extract k (k + 1)) = true then 1 else 0 := by
        unfold signAt
        rw [hx2, q2, if_neg (by simp), hx1]
      cases q3 : hasB signsB (t.extract k (k + 1))
      all_goals
        rw [q3] at hs1
        have hr := Lib.hid hs1
        clear hs1 hx1 hx2
        go_enter Tryd.func94, Tryd.ntmps94
        go_wp2_with fail
        go_region_held3 (fun _ => True) (trivial) ((first
          | (go_simp
             go_at_call 106
             refine (RSigns_any _).mono ?_
             rintro e wS ⟨rfl, hS, hbS⟩)
          | (go_simp
             go_at_call 91
             refine (has_any _ 22 22 signsB _ _ (by rfl) (by decide) (by first | exact hS | exact StrsV.drew hS | exact StrsV.drewN hS _)).mono ?_
             rintro e wH ⟨rfl, rfl⟩)))
        all_goals
          have hB1 : Below w.heap.size w wH := by
            first
            | exact (Below.drew (Below.refl _ _)).trans hbS
            | exact ((Below.drew (Below.refl _ _)).trans hbS).drew
          have HB1 := Lib.hid hB1
          clear hbS hB1 hS
          go_wp2_with fail
          go_region_held3 (fun _ => True) (trivial) ((first
            | (go_simp
               go_at_call 106
               refine (RSigns_any _).mono ?_
               rintro e wS2 ⟨rfl, hS2, hbS2⟩)
            | (go_simp
               go_at_call 91
               refine (has_any _ 22 22 signsB _ _ (by rfl) (by decide) (by first | exact hS2 | exact StrsV.drew hS2 | exact StrsV.drewN hS2 _)).mono ?_
               rintro e wH2 ⟨rfl, rfl⟩)))
          all_goals
            have hB2 : Below wH.heap.size wH wH2 := by
              first
              | exact hbS2
              | exact (Below.drew (Below.refl _ _)).trans hbS2
              | exact (below_drewT (Below.refl _ _) _).trans hbS2
            have HB2 := Lib.hid (HB1.out.trans (hB2.mono HB1.out.size))
            clear hbS2 hB2 hS2
            go_wp2_with fail
            go_ret
            refine ⟨ret_i hr.out.symm, ?_⟩
            first
            | exact HB2.out
            | exact HB2.out.drew
            | exact below_drewT HB2.out _
    · have hr : Hid (signAt (t.extract k t.size) = 2) := Lib.hid (by
        unfold signAt
        rw [hx2, q2, if_pos ⟨by omega, rfl⟩])
      clear hx1 hx2
      go_enter Tryd.func94, Tryd.ntmps94
      go_wp2_with fail
      go_region_held3 (fun _ => True) (trivial) ((first
        | (go_simp
           go_at_call 106
           refine (RSigns_any _).mono ?_
           rintro e wS ⟨rfl, hS, hbS⟩)
        | (go_simp
           go_at_call 91
           refine (has_any _ 22 22 signsB _ _ (by rfl) (by decide) (by first | exact hS | exact StrsV.drew hS | exact StrsV.drewN hS _)).mono ?_
           rintro e wH ⟨rfl, rfl⟩)))
      all_goals
        have hB1 : Below w.heap.size w wH := by
          first
          | exact (Below.drew (Below.refl _ _)).trans hbS
          | exact ((Below.drew (Below.refl _ _)).trans hbS).drew
        have HB1 := Lib.hid hB1
        clear hbS hB1 hS
        go_wp2_with fail
        go_ret
        refine ⟨ret_i hr.out.symm, ?_⟩
        first
        | exact HB1.out
        | exact HB1.out.drew
        | exact below_drewT HB1.out _
  · have h1' : ¬ (k : Int) + 1 < (t.size : Int) := by omega
    have q : decide ((k : Int) + 1 < (t.size : Int)) = false := by simp; omega
    have hs1 : signAt (t.extract k t.size) = if hasB signsB (t.extract k (k + 1)) = true then 1 else 0 := by
      unfold signAt
      rw [if_neg (by omega), hx1]
    cases q3 : hasB signsB (t.extract k (k + 1))
    all_goals
      rw [q3] at hs1
      have hr := Lib.hid hs1
      clear hs1 hx1 hx2
      go_enter Tryd.func94, Tryd.ntmps94
      go_wp2_with fail
      go_quiet (fail)
      go_wp2_with fail
      go_region_held3 (fun _ => True) (trivial) ((first
        | (go_simp
           go_at_call 106
           refine (RSigns_any _).mono ?_
           rintro e wS ⟨rfl, hS, hbS⟩)
        | (go_simp
           go_at_call 91
           refine (has_any _ 22 22 signsB _ _ (by rfl) (by decide) (by first | exact hS | exact StrsV.drew hS | exact StrsV.drewN hS _)).mono ?_
           rintro e wH ⟨rfl, rfl⟩)))
      all_goals
        have hB1 : Below w.heap.size w wH := by
          first
          | exact (below_drewT (Below.refl _ _) _).trans hbS
          | exact (Below.drew (below_drewT (Below.refl _ _) _)).trans hbS
        have HB1 := Lib.hid hB1
        clear hbS hB1 hS
        go_wp2_with fail
        go_ret
        refine ⟨ret_i hr.out.symm, ?_⟩
        first
        | exact HB1.out
        | exact HB1.out.drew
        | exact below_drewT HB1.out _
end Go.Proofs.YtpjlgahbbmlngaaDoor
