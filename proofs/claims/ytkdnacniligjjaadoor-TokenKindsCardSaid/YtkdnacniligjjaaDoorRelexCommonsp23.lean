/-
  relex: Relex where it fails.; Plain mathematics of the specification of layer 3: its tests are those of the program.; A slice of strings in memory; the specification's lists of words and signs, and its has.
-/
import Derived.Test.YtkdnacniligjjaaDoorRelexCommonsp22
import Derived.Lib.SliceRun
import Derived.Test.YtkdnacniligjjaaDoorRelexCommonsp3
import Derived.Test.YtkdnacniligjjaaDoorRelexCommonsp7
namespace Go.Proofs.YtkdnacniligjjaaDoor
set_option linter.unusedVariables false
set_option linter.unusedSimpArgs false
open Go.RowKit

set_option maxRecDepth 100000 in
set_option maxHeartbeats 1000000 in
theorem Relex_no (c ce : Nat) (A Ae : Option Addr) (l : List Tok) (es : List Ed) (w : World) (hl : l.length ≤ 60000) (hsz : ∀ p ∈ l, p.2.size ≤ 60000) (hes : Small es) (hT : Tabs w) (hE : TksV w A l) (hEe : EdsV w Ae es) (hno : (applyT l es).2.2 ≠ 0) :
    Calls Tryd.prog 25 #[.slice A l.length c, .slice Ae es.length ce] w fun e w' => e = .returned (.tuple #[.slice none 0 0, .int .i64 0, .int .i64 0, .int .i64 (applyT l es).2.2]) ∧ Below w.heap.size w w' := by
  have hAp := apply_any c ce A Ae l es w hl hsz hes hT hE hEe
  generalize applyT l es = r at hAp hno
  obtain ⟨x, y, k⟩ := r
  simp only at hAp hno
  have HAp := Lib.hid hAp
  have q1 : (k == 0) = false := by simp [hno]
  clear hAp hE hEe hT hsz hes
  go_enter Tryd.func25, Tryd.ntmps25
  go_wp2_with fail
  refine HAp.out.mono ?_
  rintro e w1 ⟨rfl, hb1⟩
  go_wp2_with fail
  refine bodyPost_ret (by simp [results, Tryd.results25, go_sem]; try rfl) rfl ?_
  refine ⟨rfl, ?_⟩
  first | exact hb1 | exact hb1.drew

set_option maxRecDepth 100000 in
set_option maxHeartbeats 1000000 in
theorem Clone_toks (c : Nat) (A : Option Addr) (l : List Tok) (w : World) (hl : l.length ≤ 60000) (hA : A = none → l = [] ∧ c = 0) (hE : TksV w A l) :
    Calls Tryd.prog 50 #[.slice A l.length c] w fun e w' => ∃ v, e = .returned v ∧ w'.ownsRow w.heap.size 24 2 v l.length (tkCells l) ∧ Below w.heap.size w w' := by
  obtain ⟨i0, hi0, hz0, hz1, hz2⟩ := info_parts infoTok
  have q23 : ∀ (w : World) (a : Option Addr) (n c n' c' : Nat), (binOp .eql 22 (.slice a n c) (.slice none n' c')).run Tryd.prog w = .ok (.bool a.isNone) w := fun w a n c n' c' => Lib.run_eql_slice_nil w _ _ a n c n' c' Tryd.underlying22
  cases A with
  | none =>
    obtain ⟨rfl, rfl⟩ := hA rfl
    go_enter Tryd.func50, Tryd.ntmps50
    go_wp2_with fail
    go_ret
    exact ⟨_, rfl, World.ownsRow_nil _ _ _ _, Below.refl _ _⟩
  | some ad =>
    have hown6 := World.ownsRow_lit (base := w.heap.size) (e := 24) (size := 2) w #[] 0 (Nat.le_refl _) (by decide) (by simp)
    have hb6 : Below w.heap.size w (w.alloc (.cells #[] 24)) := (Below.refl _ _).alloc (Nat.le_refl _) _
    have HE6 := Lib.hid (hE.below hb6)
    have HB6 := Lib.hid hb6
    have HO6 := Lib.hid hown6
    have HL := Lib.hid hl
    clear hown6 hb6 hE hA hl
    go_enter Tryd.func50, Tryd.ntmps50
    go_wp2_with (at_builtin; refine wpList_append_toks _ rfl _ _ 22 rfl w.heap.size 24 i0 _ 24 Tryd.underlying22 hi0 hz0 hz1 hz2 rfl _ 0 [] rfl HO6.out (some ad) c l rfl (fun h => by cases h) HE6.out ?ra1 ?ra2 ?ra3 ?_)
    case ra1 => have := HL.out; unfold maxLen; omega
    case ra2 => have := HL.out; omega
    try (case ra3 => exact HB6.out.size)
    intro v7 w7 hown7 hgrow7
    have hb7 : Below w.heap.size w w7 := HB6.out.grown hgrow7 HB6.out.size (fun g hg => (HO6.out.lt g hg).1)
    have HO7 := Lib.hid hown7
    have HB7 := Lib.hid hb7
    clear hown7 hgrow7 hb7
    go_wp2_with fail
    go_ret
    exact ⟨_, rfl, HO7.out, HB7.out⟩

set_option maxRecDepth 100000 in
set_option maxHeartbeats 1000000 in
theorem Relex_none (c ce : Nat) (A Ae : Option Addr) (s : ByteArray) (w : World) (hs : s.size ≤ 20000) (hT : Tabs w) (hA : A = none → lexL s = [] ∧ c = 0) (hE : TksV w A (lexL s)) :
    Calls Tryd.prog 25 #[.slice A (lexL s).length c, .slice Ae 0 ce] w fun e w' => ∃ v, e = .returned (.tuple #[v, .int .i64 (((lexL s).length : Nat) : Int), .int .i64 0, .int .i64 0]) ∧ w'.ownsRow w.heap.size 24 2 v (lexL s).length (tkCells (lexL s)) ∧ Below w.heap.size w w' := by
  have hlc : (lexL s).length ≤ s.size := lexL_length s.size s (Nat.le_refl _)
  have hck : checkE s.size [] = 0 := checkE_of (by omega) (by simp) rfl (by simp [sumG]; omega)
  have hap : applyT (lexL s) [] = (s, applyB s [], 0) := by
    unfold applyT applyR
    rw [textR_lex hs]
    simp [hck]
  have hAp := apply_any c ce A Ae (lexL s) [] w (by omega) (fun p hp => by have := lexL_smallR s.size s (Nat.le_refl _) p hp; omega) ⟨by simp, fun e he => by cases he⟩ hT hE (fun h => absurd h (by simp))
  rw [hap] at hAp
  simp only [List.length_nil] at hAp
  have hCl := fun W (hW : TksV W A (lexL s)) => Clone_toks c A (lexL s) W (by omega) hA hW
  generalize lexL s = L at *
  generalize applyB s [] = Y at *
  have HAp := Lib.hid hAp
  have HCl := Lib.hid hCl
  have HE := Lib.hid hE
  clear hAp hCl hE hap hT hA hck
  go_enter Tryd.func25, Tryd.ntmps25
  go_wp2_with fail
  refine HAp.out.mono ?_
  rintro e w1 ⟨rfl, hb1⟩
  go_wp2_with fail
  refine (HCl.out w1 (HE.out.below hb1)).mono ?_
  rintro e w2 ⟨v, rfl, hown, hb2⟩
  have hown2 := own_base hown (show w.heap.size ≤ w1.heap.size from hb1.size)
  have hb3 := hb1.trans (hb2.mono hb1.size)
  go_wp2_with fail
  refine bodyPost_ret (by simp [results, Tryd.results25, go_sem]; try rfl) rfl ?_
  exact ⟨v, rfl, hown2, hb3⟩
end Go.Proofs.YtkdnacniligjjaaDoor

namespace Go.Proofs.YtkdnacniligjjaaDoor
set_option linter.unusedVariables false
set_option linter.unusedSimpArgs false

def letterB (b : UInt8) : Bool := decide (97 ≤ (b.toNat : Int)) && decide ((b.toNat : Int) ≤ 122) || (decide (65 ≤ (b.toNat : Int)) && decide ((b.toNat : Int) ≤ 90) || (b.toNat : Int) == 95)
theorem part_letter (b : UInt8) : partB b = (letterB b || digitB b) := by
  unfold partB letterB greatB
  cases decide (97 ≤ (b.toNat : Int)) <;> cases decide ((b.toNat : Int) ≤ 122) <;> cases decide (65 ≤ (b.toNat : Int)) <;> cases decide ((b.toNat : Int) ≤ 90) <;> cases ((b.toNat : Int) == 95) <;> cases digitB b <;> rfl
theorem letter_digit {b : UInt8} (h : letterB b = true) : digitB b = false := by
  unfold letterB at h; unfold digitB
  simp only [Bool.or_eq_true, Bool.and_eq_true, decide_eq_true_eq, beq_iff_eq] at h
  simp only [Bool.and_eq_false_iff, decide_eq_false_iff_not]
  omega

theorem ext_of {s : ByteArray} {m : Nat} (l : List UInt8) : s.extract 0 m = mkB l ↔ (byt s).take m = l := by
  constructor
  · intro h
    have := congrArg byt h
    rw [byt_take] at this
    rw [this]; exact mkB_toList l
  · intro h
    apply bytj
    rw [byt_take, h]; exact (mkB_toList l).symm
theorem ext_ext (t : ByteArray) (k m : Nat) : (t.extract k t.size).extract 0 m = t.extract k (k + m) := by
  apply bytj
  rw [byt_take, byt_drop]
  show _ = sub t k (k + m)
  rw [sub_eq, Nat.add_sub_cancel_left]; rfl
theorem ext_ext' (t : ByteArray) {k e : Nat} (h : k ≤ e) : t.extract k e = (t.extract k t.size).extract 0 (e - k) := by
  rw [ext_ext, Nat.add_sub_cancel' h]

theorem pre_one {s : ByteArray} (x : UInt8) (hz : 0 < s.size) : preB s (mkB [x]) = decide (b0 s = x) := by
  unfold preB b0
  rw [mkB_size]
  obtain ⟨b, l, hb⟩ : ∃ b l, byt s = b :: l := by
    have := byt_length s
    cases h : byt s with
    | nil => rw [h] at this; simp at this; omega
    | cons b l => exact ⟨b, l, rfl⟩
  rw [show decide ((([x] : List UInt8)).length ≤ s.size) = true by simp; omega, Bool.true_and]
  congr 1
  rw [eq_iff_iff, show ([x] : List UInt8).length = 1 from rfl, ext_of, hb]
  simp
theorem pre_two {s : ByteArray} (x y : UInt8) (hz : 0 < s.size) : preB s (mkB [x, y]) = (decide (2 ≤ s.size) && decide (b0 s = x) && decide (b1 s = y)) := by
  unfold preB b0 b1
  rw [mkB_size]
  by_cases h2 : 2 ≤ s.size
  · obtain ⟨b, c, l, hb⟩ : ∃ b c l, byt s = b :: c :: l := by
      have := byt_length s
      match h : byt s with
      | [] => rw [h] at this; simp at this; omega
      | [b] => rw [h] at this; simp at this; omega
      | b :: c :: l => exact ⟨b, c, l, rfl⟩
    rw [show decide ((([x, y] : List UInt8)).length ≤ s.size) = true by simp; omega, Bool.true_and, decide_eq_true h2, Bool.true_and, ← Bool.decide_and]
    congr 1
    rw [eq_iff_iff, show ([x, y] : List UInt8).length = 2 from rfl, ext_of, hb]
    simp
  · rw [show decide ((([x, y] : List UInt8)).length ≤ s.size) = false by simp; omega, decide_eq_false h2]
    rfl

/-- is a text in a list? -/
def hasB (l : List ByteArray) (s : ByteArray) : Bool := l.any fun x => decide (s = x)
/-- the size of the sign at the beginning, by the specification -/
def signAt (s : ByteArray) : Nat := if 2 ≤ s.size ∧ hasB signsB (s.extract 0 2) = true then 2 else if hasB signsB (s.extract 0 1) = true then 1 else 0

theorem one_mem {s : ByteArray} (hz : 0 < s.size) : hasB signsB (s.extract 0 1) = (decide (b0 s = 33) || decide (b0 s = 40) || decide (b0 s = 41) || decide (b0 s = 42) || decide (b0 s = 43) || decide (b0 s = 44) || decide (b0 s = 45) || decide (b0 s = 46) || decide (b0 s = 58) || decide (b0 s = 59) || decide (b0 s = 60) || decide (b0 s = 61) || decide (b0 s = 91) || decide (b0 s = 93) || decide (b0 s = 123) || decide (b0 s = 124) || decide (b0 s = 125)) := by
  obtain ⟨b, l, hb⟩ : ∃ b l, byt s = b :: l := by
    have := byt_length s
    cases h : byt s with
    | nil => rw [h] at this; simp at this; omega
    | cons b l => exact ⟨b, l, rfl⟩
  unfold hasB signsB b0
  rw [hb]
  rw [Bool.eq_iff_iff]
  simp only [decide_eq_true_eq, List.any_cons, List.any_nil, Bool.false_eq_true, ext_of, hb, Bool.or_eq_true, or_false, List.take_succ_cons, List.take_zero, List.getD_cons_zero, List.cons.injEq, and_true, reduceCtorEq, and_false, false_or, or_assoc]
theorem two_mem {s : ByteArray} (h2 : 2 ≤ s.size) : hasB signsB (s.extract 0 2) = (decide (b0 s = 38 ∧ b1 s = 38) || decide (b0 s = 45 ∧ b1 s = 62) || decide (b0 s = 61 ∧ b1 s = 61) || decide (b0 s = 61 ∧ b1 s = 62) || decide (b0 s = 124 ∧ b1 s = 124)) := by
  obtain ⟨b, c, l, hb⟩ : ∃ b c l, byt s = b :: c :: l := by
    have := byt_length s
    match h : byt s with
    | [] => rw [h] at this; simp at this; omega
    | [b] => rw [h] at this; simp at this; omega
    | b :: c :: l => exact ⟨b, c, l, rfl⟩
  unfold hasB signsB b0 b1
  rw [hb]
  rw [Bool.eq_iff_iff]
  simp only [decide_eq_true_eq, List.any_cons, List.any_nil, Bool.false_eq_true, ext_of, hb, Bool.or_eq_true, or_false, List.take_succ_cons, List.take_zero, List.getD_cons_zero, List.getD_cons_succ, List.cons.injEq, and_true, reduceCtorEq, and_false, false_or, or_assoc]

theorem signN_eq {s : ByteArray} (hz : 0 < s.size) : signN s = if preB s (mkB [125]) then 1 else if preB s (mkB [124, 124]) then 2 else if preB s (mkB [124]) then 1 else if preB s (mkB [123]) then 1 else if preB s (mkB [93]) then 1 else if preB s (mkB [91]) then 1 else if preB s (mkB [61, 62]) then 2 else if preB s (mkB [61, 61]) then 2 else if preB s (mkB [61]) then 1 else if preB s (mkB [60]) then 1 else if preB s (mkB [59]) then 1 else if preB s (mkB [58]) then 1 else if preB s (mkB [46]) then 1 else if preB s (mkB [45, 62]) then 2 else if preB s (mkB [45]) then 1 else if preB s (mkB [44]) then 1 else if preB s (mkB [43]) then 1 else if preB s (mkB [42]) then 1 else if preB s (mkB [41]) then 1 else if preB s (mkB [40]) then 1 else if preB s (mkB [38, 38]) then 2 else if preB s (mkB [33]) then 1 else 0 := rfl

set_option maxRecDepth 100000 in
theorem sign_bytes : ∀ n, n < 256 → ∀ z c38 c61 c62 c124 : Bool,
    (if (z && (decide (UInt8.ofNat n = 38) && c38 || (decide (UInt8.ofNat n = 45) && c62 || (decide (UInt8.ofNat n = 61) && c61 || (decide (UInt8.ofNat n = 61) && c62 || decide (UInt8.ofNat n = 124) && c124))))) = true then 2 else if (decide (UInt8.ofNat n = 33) || decide (UInt8.ofNat n = 40) || decide (UInt8.ofNat n = 41) || decide (UInt8.ofNat n = 42) || decide (UInt8.ofNat n = 43) || decide (UInt8.ofNat n = 44) || decide (UInt8.ofNat n = 45) || decide (UInt8.ofNat n = 46) || decide (UInt8.ofNat n = 58) || decide (UInt8.ofNat n = 59) || decide (UInt8.ofNat n = 60) || decide (UInt8.ofNat n = 61) || decide (UInt8.ofNat n = 91) || decide (UInt8.ofNat n = 93) || decide (UInt8.ofNat n = 123) || decide (UInt8.ofNat n = 124) || decide (UInt8.ofNat n = 125)) = true then 1 else 0)
    = (if decide (UInt8.ofNat n = 125) = true then 1 else if (z && decide (UInt8.ofNat n = 124) && c124) = true then 2 else if decide (UInt8.ofNat n = 124) = true then 1 else if decide (UInt8.ofNat n = 123) = true then 1 else if decide (UInt8.ofNat n = 93) = true then 1 else if decide (UInt8.ofNat n = 91) = true then 1 else if (z && decide (UInt8.ofNat n = 61) && c62) = true then 2 else if (z && decide (UInt8.ofNat n = 61) && c61) = true then 2 else if decide (UInt8.ofNat n = 61) = true then 1 else if decide (UInt8.ofNat n = 60) = true then 1 else if decide (UInt8.ofNat n = 59) = true then 1 else if decide (UInt8.ofNat n = 58) = true then 1 else if decide (UInt8.ofNat n = 46) = true then 1 else if (z && decide (UInt8.ofNat n = 45) && c62) = true then 2 else if decide (UInt8.ofNat n = 45) = true then 1 else if decide (UInt8.ofNat n = 44) = true then 1 else if decide (UInt8.ofNat n = 43) = true then 1 else if decide (UInt8.ofNat n = 42) = true then 1 else if decide (UInt8.ofNat n = 41) = true then 1 else if decide (UInt8.ofNat n = 40) = true then 1 else if (z && decide (UInt8.ofNat n = 38) && c38) = true then 2 else if decide (UInt8.ofNat n = 33) = true then 1 else 0) := by
  decide +kernel
theorem signAt_eq {s : ByteArray} (hz : 0 < s.size) : signAt s = signN s := by
  have h := sign_bytes (b0 s).toNat (b0 s).toNat_lt (decide (2 ≤ s.size)) (decide (b1 s = 38)) (decide (b1 s = 61)) (decide (b1 s = 62)) (decide (b1 s = 124))
  rw [UInt8.ofNat_toNat] at h
  rw [signN_eq hz]
  simp only [pre_one _ hz, pre_two _ _ hz]
  rw [← h]
  unfold signAt
  rw [one_mem hz]
  by_cases h2 : 2 ≤ s.size
  · rw [two_mem h2, decide_eq_true h2]
    simp only [h2, true_and, Bool.true_and, Bool.decide_and, Bool.or_assoc]
  · rw [decide_eq_false h2]
    simp only [h2, false_and, if_false, Bool.false_and, Bool.false_eq_true]

theorem hasB_take {l : List ByteArray} {s : ByteArray} {k : Nat} (hk : k < l.length) : hasB (l.take (k + 1)) s = (hasB (l.take k) s || decide (s = l[k])) := by
  unfold hasB
  rw [List.take_succ_eq_append_getElem hk, List.any_append, List.any_cons, List.any_nil, Bool.or_false]
theorem wordTo_take (s : ByteArray) : ∀ k, k ≤ 12 → wordTo s k = hasB (wordsB.take k) s
  | 0, _ => rfl
  | k + 1, h => by
    have hk : k < wordsB.length := by rw [wordsB_length]; omega
    simp only [wordTo]
    rw [hasB_take hk, wordTo_take s k (by omega), List.getElem?_eq_getElem hk, Option.getD_some]
theorem wordTo_mem (s : ByteArray) : wordB s = hasB wordsB s := wordTo_take s 12 (Nat.le_refl _)

/-- does a token that is no TkBad begin here, or a quotation mark? -/
def beginsB (s : ByteArray) : Bool := blankB (b0 s) || letterB (b0 s) || digitB (b0 s) || ((b0 s).toNat : Int) == 34 || preB s slashes || decide (0 < signN s)
theorem begins_eq (s : ByteArray) : beginsB s = decide (beginK s ≠ 8) := by
  unfold beginsB beginK
  rw [part_letter]
  cases blankB (b0 s) <;> cases letterB (b0 s) <;> cases digitB (b0 s) <;> cases (((b0 s).toNat : Int) == 34) <;> cases preB s slashes <;> by_cases h : 0 < signN s <;> simp [h]
end Go.Proofs.YtkdnacniligjjaaDoor

namespace Go.Proofs.YtkdnacniligjjaaDoor
set_option linter.unusedVariables false
set_option linter.unusedSimpArgs false
open Go.RowKit

def StrsV (w : World) (b : Nat) (l : List ByteArray) : Prop := b < w.heap.size ∧ ∀ i s, l[i]? = some s → w.cell? ⟨b, i, none⟩ = some (.string s)
theorem StrsV.below {w w' : World} {b : Nat} {l : List ByteArray} (h : StrsV w b l) (hb : Below w.heap.size w w') : StrsV w' b l :=
  ⟨Nat.lt_of_lt_of_le h.1 hb.size, fun i s hi => (hb.cell h.1).trans (h.2 i s hi)⟩
theorem StrsV.drewN {w : World} {b : Nat} {l : List ByteArray} (h : StrsV w b l) (n : Nat) : StrsV (w.drewN n) b l := ⟨h.1, h.2⟩
theorem StrsV.drew {w : World} {b : Nat} {l : List ByteArray} (h : StrsV w b l) : StrsV w.drew b l := ⟨h.1, h.2⟩
theorem StrsV.block {w : World} {b : Nat} {cs : Array Value} {l : List ByteArray} {t : TypeId} {fr : Nat × Nat} (h : w.heap[b]? = some (.cells cs t fr)) (hcs : cs.toList = l.map .string) : StrsV w b l := by
  refine ⟨?_, fun i s hi => ?_⟩
  · rcases Nat.lt_or_ge b w.heap.size with hlt | hge
    · exact hlt
    · rw [Array.getElem?_eq_none hge] at h; cases h
  · have : w.cell? ⟨b, i, none⟩ = cs.toList[i]? := by rw [Array.getElem?_toList]; simp [World.cell?, h]
    rw [this, hcs, List.getElem?_map, hi]; rfl
end Go.Proofs.YtkdnacniligjjaaDoor
