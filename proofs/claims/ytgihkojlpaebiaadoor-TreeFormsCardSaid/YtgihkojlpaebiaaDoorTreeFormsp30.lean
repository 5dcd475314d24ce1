/-
  The contract of the specification's Text of layer 3.; Trees: Width, and the specification's Text.; A text's first bytes (the specification's Short as a plain function).; Trees: the specification's cut as a plain function, and what is small of what it gives.; The contract of the specification's One.
-/
import Derived.Test.YtgihkojlpaebiaaDoorTreeFormsp13
import Derived.Test.YtgihkojlpaebiaaDoorTreeFormsp29
import Derived.Test.YtgihkojlpaebiaaDoorTreeFormsp18
import Derived.Test.YtgihkojlpaebiaaDoorTreeFormsp5
import Derived.Deep.RegionHeld3
import Derived.OwnWalk
import Derived.Laws.IdiomStrings
import Derived.Laws.BytesArg
import Derived.Deep.MidRow
import Derived.Test.YtgihkojlpaebiaaDoorTreeFormsp21
import Derived.Test.YtgihkojlpaebiaaDoorTreeFormsp2
import Derived.Test.YtgihkojlpaebiaaDoorTreeFormsp28
import Derived.Lib.Builder
import Derived.BigRegion
import Derived.Handy
namespace Go.Proofs.YtgihkojlpaebiaaDoor
set_option linter.unusedVariables false
set_option linter.unusedSimpArgs false
open Go.RowKit

theorem ret_s {a b : ByteArray} (h : a = b) : Ending.returned (.string a) = .returned (.string b) := by rw [h]
/-- a row of bytes of the call's own reads as a string -/
theorem convert_own {w : World} {base n : Nat} {v : Value} {l : List UInt8} (h : w.ownsRow base 5 1 v n (Lib.byteCells l)) (hn : n = l.length) :
    (convert 90 9 v).run Tryd.prog w = .ok (.string (mkB l)) w := by
  subst hn
  rcases h.2 with ⟨h1, h2⟩ | ⟨g, cap, cur, h1, hb, hg, hn, hc, hs, ht⟩
  · have : l = [] := List.eq_nil_of_length_eq_zero h2
    subst this
    rw [h1]
    exact run_convert_bytes_nil (w := w) 90 5 Tryd.underlying90 Tryd.underlying5 0 0 9 Tryd.underlying9
  · rw [h1]
    refine run_convert_bytes_back w 90 9 5 ⟨g, 0, none⟩ cap l Tryd.underlying90 Tryd.underlying5 Tryd.underlying9 fun j hj => ?_
    have hcell : w.cell? ⟨g, j, none⟩ = (Lib.byteCells l)[j]? := by
      rw [← ht, List.getElem?_take_of_lt (by omega)]
      simp [World.cell?, hg]
    rw [Addr.add_mid, Nat.zero_add, hcell]
    simp [Lib.byteCells, hj]
theorem infoByteR : (Tryd.prog.info? 5).map (fun i => (i.zero, i.size, i.bytes)) = some (some (.int .u8 0), 1, 1) := by kernel_rfl
theorem byteCells_append (a b : List UInt8) : Lib.byteCells (a ++ b) = Lib.byteCells a ++ Lib.byteCells b := by simp [Lib.byteCells]

set_option maxRecDepth 100000 in
set_option maxHeartbeats 1000000 in
theorem RText_any (c : Nat) (A : Option Addr) (l : List Tok) (w : World) (hl : l.length ≤ 1000000000) (hcl : (catL l).length ≤ 1000000000) (hE : TksV w A l) :
    Calls Tryd.prog 64 #[.slice A l.length c] w fun e w' => e = .returned (.string (mkB (catL l))) ∧ Below w.heap.size w w' := by
  obtain ⟨i0, hi0, hz0, hz1, hz2⟩ := info_parts infoByteR
  have HE := Lib.hid hE
  have htl := catL_take_le l
  have HTL := Lib.hid htl
  clear hE htl
  go_enter Tryd.func64, Tryd.ntmps64
  go_wp2_with fail
  go_loopw [3, 4] (fun n i wr => ∃ (k m : Nat), k ≤ l.length ∧ i = .int .i64 k ∧ n = .int .i64 m ∧ m = (catL (l.take k)).length ∧ wr = w) (fun _ i _ => l.length - (intOf i).toNat)
  case atStart => exact ⟨0, 0, Nat.zero_le _, rfl, rfl, rfl, rfl⟩
  case round =>
    obtain ⟨k, m, hk, rfl, rfl, hm, hw⟩ := hrel
    obtain rfl := hw.symm
    have hk1 : (0 : Int) ≤ (k : Int) := by omega
    have hml := HTL.out k
    rw [← hm] at hml
    by_cases hlt : k < l.length
    · obtain ⟨b, off, rfl, hbb, m0, m1⟩ := HE.out.get hlt
      have hct := catL_take hlt
      have hct2 := congrArg List.length hct
      have htl2 := HTL.out (k + 1)
      rw [List.length_append, byt_length, ← hm] at hct2
      rw [hct2] at htl2
      obtain ⟨⟨kd, x⟩, hx⟩ : ∃ p, p = l[k] := ⟨_, rfl⟩
      rw [← hx] at m0 m1 hct2 htl2
      simp only at m0 m1 hct2 htl2
      have hk2 : (k : Int) < (l.length : Int) := by omega
      have sm : IntKind.i64.wrap ((m : Int) + (x.size : Int)) = ((m + x.size : Nat) : Int) := by rw [IntWalk.i64_in _ (by omega)]; omega
      have Hct := Lib.hid hct2
      clear hct hct2 hx hm
      go_wp2_with fail
      exact ⟨⟨k + 1, m + x.size, by omega, by go_num, by go_num, Hct.out.symm, by first | rfl | trivial⟩, by simp only [intOf]; omega⟩
    · have hke : k = l.length := by omega
      subst hke
      rw [List.take_length] at hm
      have hk2 : decide ((l.length : Int) < (l.length : Int)) = false := by simp
      have HM := Lib.hid hm
      have hm6 : m ≤ 1000000000 := by omega
      clear hm
      go_wp2_with (refine wpList_make_own _ rfl _ _ 90 rfl w.heap.size 5 i0 _ 1 Tryd.underlying90 hi0 hz0 hz1 .i64 .i64 _ m rfl rfl rfl ?c1 ?c2 ?c3 ?_)
      case c1 => first | omega | (rw [hz2]; omega)
      try (case c2 => first | omega | (unfold maxLen; omega))
      try (case c3 => exact Nat.le_refl _)
      intro w2 hown2 hgrow2
      have hB2 : Below w.heap.size w w2 := (Below.refl _ _).grown hgrow2 (Nat.le_refl _) (fun g hg => by simp at hg)
      have Hown2 := Lib.hid hown2
      have HB2 := Lib.hid hB2
      clear hown2 hB2 hgrow2
      go_wp2_with fail
      go_loopw [5, 6] (fun v i w3 => ∃ (k : Nat) (pre : List UInt8) (v0 : Value), v0 = v ∧ k ≤ l.length ∧ i = .int .i64 k ∧ pre = catL (l.take k) ∧ w3.ownsRow w.heap.size 5 1 v0 pre.length (Lib.byteCells pre) ∧ Below w.heap.size w w3) (fun _ i _ => l.length - (intOf i).toNat)
      case atStart => exact ⟨0, [], _, rfl, Nat.zero_le _, rfl, rfl, Hown2.out, HB2.out⟩
      case round =>
        obtain ⟨k, pre, v, rfl, hk, rfl, he, hown, hB⟩ := hrel
        have hk1 : (0 : Int) ≤ (k : Int) := by omega
        have hpl := HTL.out k
        rw [← he] at hpl
        by_cases hlt : k < l.length
        · obtain ⟨b, off, rfl, hbb, m0, m1⟩ := (HE.out.below hB).get hlt
          have hct := catL_take hlt
          have htl2 := HTL.out (k + 1)
          rw [hct, List.length_append, byt_length, ← he] at htl2
          rw [← he] at hct
          obtain ⟨⟨kd, x⟩, hx⟩ : ∃ p, p = l[k] := ⟨_, rfl⟩
          rw [← hx] at m0 m1 hct htl2
          simp only at m0 m1 hct htl2
          have hk3 : (k : Int) < (l.length : Int) := by omega
          have Hct := Lib.hid hct
          have hs3 := hB.size
          clear hct hx he
          go_wp2_with (at_builtin; (refine Lib.wpList_append_own_string _ rfl _ _ 90 9 rfl w.heap.size 5 i0 Tryd.underlying90 Tryd.underlying9 hi0 hz0 hz1 hz2 _ _ _ rfl hown x rfl ?d3 ?d4 ?d5 ?_))
          case d3 => unfold maxLen; omega
          case d4 => omega
          case d5 => omega
          intro v' w4 hown4 hgrow4 _
          have hB4 := hB.grown hgrow4 (by omega) (fun g hg => (hown.lt g hg).1)
          have hown5 : w4.ownsRow w.heap.size 5 1 v' (pre ++ byt x).length (Lib.byteCells (pre ++ byt x)) := by
            rw [byteCells_append, List.length_append, byt_length]; exact hown4
          have Hown5 := Lib.hid hown5
          have HB4 := Lib.hid hB4
          clear hown hown4 hown5 hgrow4 hB hB4
          go_wp2_with fail
          exact ⟨⟨k + 1, pre ++ byt x, _, rfl, by omega, by go_num, Hct.out.symm, Hown5.out, HB4.out⟩, by simp only [intOf]; omega⟩
        · have hke : k = l.length := by omega
          subst hke
          rw [List.take_length] at he
          have hk3 : decide ((l.length : Int) < (l.length : Int)) = false := by simp
          have hcv := convert_own hown rfl
          have Hr := Lib.hid he
          have HBf := Lib.hid hB
          clear he hown hB
          go_wp2_with fail
          go_ret
          exact ⟨ret_s (by rw [Hr.out]), HBf.out⟩
end Go.Proofs.YtgihkojlpaebiaaDoor

namespace Go.Proofs.YtgihkojlpaebiaaDoor
set_option linter.unusedVariables false
set_option linter.unusedSimpArgs false
open Go Go.RowKit

set_option maxRecDepth 100000 in
set_option maxHeartbeats 2000000 in
theorem Width_any (n : Nd) (v : Value) (w : World) (hC : sizeN n) (hS : sumS n) (hT : Tabs w) (hV : NodeV w v n) :
    Calls Tryd.prog 18 #[v] w fun e w' => e = .returned (if formedB n then .tuple #[.int .i64 (sumT (leavesN n) : Nat), .int .i64 0] else .tuple #[.int .i64 0, .int .i64 4]) ∧ Below w.heap.size w w' := by
  have hV0 := hV
  obtain ⟨A, c, rfl, hk⟩ := hV
  have hIF := IsFormed_any n _ (w.alloc (.cells (nodeCells n A c) 26)) hC (hT.below ((Below.refl _ _).alloc (Nat.le_refl _) _)) (hV0.alloc _)
  have hBa : Below w.heap.size w (w.alloc (.cells (nodeCells n A c) 26)) := (Below.refl _ _).alloc (Nat.le_refl _) _
  have HB := Lib.hid (show _ ∧ _ ∧ _ ∧ _ from ⟨hBa, hV0, hC, hS⟩)
  clear hBa hT hV0 hk hC hS
  cases hf : formedB n with
  | false =>
    rw [hf] at hIF
    clear hf
    have HIF := Lib.hid hIF
    clear hIF
    go_enter Tryd.func18, Tryd.ntmps18
    go_wp2_with (go_at_call 21; refine HIF.out.mono ?_; rintro e w1 ⟨rfl, hb1⟩)
    refine bodyPost_ret (by simp [results, Tryd.f18, go_sem]; try rfl) rfl ?_
    exact ⟨rfl, HB.out.1.trans (hb1.mono HB.out.1.size)⟩
  | true =>
    rw [hf] at hIF
    clear hf
    have HIF := Lib.hid hIF
    clear hIF
    go_enter Tryd.func18, Tryd.ntmps18
    go_wp2_with (first
      | (go_at_call 21; refine HIF.out.mono ?_; rintro e w1 ⟨rfl, hb1⟩; obtain ⟨e0, e1, e2, e3⟩ := cells_of_block (cells_later hb1))
      | (go_at_call 60; refine (width_any n _ w1 HB.out.2.2.1 HB.out.2.2.2 (HB.out.2.1.below (HB.out.1.trans (hb1.mono HB.out.1.size)))).mono ?_; rintro e w2 ⟨rfl, hb2⟩))
    refine bodyPost_ret (by simp [results, Tryd.f18, go_sem]; try rfl) rfl ?_
    have hB1 := HB.out.1.trans (hb1.mono HB.out.1.size)
    exact ⟨rfl, hB1.trans (hb2.mono hB1.size)⟩

theorem catL_sum : ∀ l : List Tok, (catL l).length = sumT l
  | [] => rfl
  | t :: l => by
    have := catL_sum l
    simp only [catL, List.flatMap_cons, List.length_append, sumT] at this ⊢
    rw [this, byt_length]
theorem textN_cat (n : Nd) : textN n = mkB (catL (leavesN n)) := rfl

set_option maxRecDepth 100000 in
set_option maxHeartbeats 2000000 in
theorem RTextOf_any (n : Nd) (v : Value) (w : World) (hn : countN n ≤ 10000000) (hs : sumT (gatN n) ≤ 1000000000) (hV : NodeV w v n) :
    Calls Tryd.prog 24 #[v] w fun e w' => e = .returned (.string (mkB (catL (gatN n)))) ∧ Below w.heap.size w w' := by
  have hV0 := hV
  obtain ⟨A, c, rfl, hk⟩ := hV
  have hB0 : Below w.heap.size w (w.alloc (.cells (nodeCells n A c) 26)) := (Below.refl _ _).alloc (Nat.le_refl _) _
  have hL := RLeavesOf_any n _ (w.alloc (.cells (nodeCells n A c) 26)) hn (hV0.below hB0)
  have hle := gatN_le n
  have HL := Lib.hid (show _ ∧ _ from ⟨hL, hB0⟩)
  have HN := Lib.hid (show (gatN n).length ≤ 1000000000 ∧ (catL (gatN n)).length ≤ 1000000000 from ⟨by omega, by rw [catL_sum]; exact hs⟩)
  clear hL hB0 hk hV0 hle hs hn
  generalize gatN n = T at *
  go_enter Tryd.func24, Tryd.ntmps24
  go_wp2_with (first
    | (go_at_call 27; refine HL.out.1.mono ?_; rintro e w1 ⟨sv, rfl, hr, hb1⟩; obtain ⟨A1, c1, rfl, hE, _⟩ := TksV.of_own hr)
    | (go_at_call 64; refine (RText_any c1 A1 T w1 HN.out.1 HN.out.2 hE).mono ?_; rintro e w2 ⟨rfl, hb2⟩))
  go_ret
  have hB1 := HL.out.2.trans (hb1.mono HL.out.2.size)
  exact ⟨rfl, hB1.trans (hb2.mono hB1.size)⟩

set_option maxRecDepth 100000 in
theorem tokens_any (c1 c2 : Nat) (A1 A2 : Option Addr) (l1 l2 : List Tok) (w : World) (hl : l1.length ≤ 100000) (hE1 : TksV w A1 l1) (hE2 : TksV w A2 l2) :
    Calls Tryd.prog 26 #[.slice A1 l1.length c1, .slice A2 l2.length c2] w fun e w' => e = .returned (.bool (decide (l1 = l2))) ∧ Below w.heap.size w w' := by
  have HS := Lib.hid (RSame_any c1 c2 A1 A2 l1 l2 w hl hE1 hE2)
  clear hl hE1 hE2
  generalize decide (l1 = l2) = q at HS ⊢
  go_enter Tryd.func26, Tryd.ntmps26
  go_wp2_with fail
  refine HS.out.mono ?_
  rintro e w1 ⟨rfl, hb1⟩
  go_wp2_with fail
  go_ret
  exact ⟨rfl, hb1⟩
end Go.Proofs.YtgihkojlpaebiaaDoor

namespace Go.Proofs.YtgihkojlpaebiaaDoor
set_option linter.unusedVariables false
set_option linter.unusedSimpArgs false
def shortT (t : ByteArray) : ByteArray := t.extract 0 (min t.size 20001)
theorem shortT_size (t : ByteArray) : (shortT t).size = min t.size 20001 := by unfold shortT; rw [ByteArray.size_extract]; omega
end Go.Proofs.YtgihkojlpaebiaaDoor

namespace Go.Proofs.YtgihkojlpaebiaaDoor
set_option linter.unusedVariables false
set_option linter.unusedSimpArgs false
open Go Go.RowKit

-- what an argument can be
mutual
def rawN : Nd → Prop
  | .mk _ t l => t.2.size ≤ maxLen ∧ l.length ≤ maxLen ∧ rawL l
def rawL : List Nd → Prop
  | [] => True
  | n :: l => rawN n ∧ rawL l
end
theorem rawL_of : ∀ {l : List Nd}, (∀ n ∈ l, rawN n) → rawL l
  | [], _ => trivial
  | n :: l, h => ⟨h n (.head _), rawL_of fun x hx => h x (.tail _ hx)⟩
theorem rawL_at : ∀ {l : List Nd} {k : Nat} {x : Nd}, rawL l → l[k]? = some x → rawN x
  | y :: l, 0, x, hs, h => by obtain rfl := Option.some.inj h; exact hs.1
  | y :: l, k + 1, x, hs, h => rawL_at (l := l) (k := k) hs.2 (by simpa using h)
-- a copy of at most 'left' leaves and nodes, and how many may still come
mutual
def cutN : Nd → Nat → Nat → Nd × Nat
  | .mk k t l, left, d => if d ≤ 1002 then (.mk k (t.1, shortT t.2) (cutL l (left - 1) (d + 1)).1, (cutL l (left - 1) (d + 1)).2) else (.mk k (t.1, shortT t.2) [], left - 1)
def cutL : List Nd → Nat → Nat → List Nd × Nat
  | [], r, _ => ([], r)
  | n :: l, r, d => if r = 0 then ([], 0) else ((cutN n r d).1 :: (cutL l (cutN n r d).2 d).1, (cutL l (cutN n r d).2 d).2)
end
def cutNd (n : Nd) : Nd := (cutN n 600 0).1
theorem cutL_zero : ∀ (l : List Nd) (d : Nat), cutL l 0 d = ([], 0)
  | [], _ => rfl
  | n :: l, d => by simp [cutL]
mutual
theorem cutN_count : ∀ (n : Nd) (left d : Nat), 1 ≤ left → countN (cutN n left d).1 + (cutN n left d).2 ≤ left
  | .mk k t l, left, d, h => by
    have := cutL_count l (left - 1) (d + 1)
    simp only [cutN]
    split
    · simp only [countN]; omega
    · simp only [countN, countL]; omega
theorem cutL_count : ∀ (l : List Nd) (r d : Nat), countL (cutL l r d).1 + (cutL l r d).2 ≤ r
  | [], r, d => by simp [cutL, countL]
  | n :: l, r, d => by
    simp only [cutL]
    split
    · simp [countL]
    · have h1 := cutN_count n r d (by omega)
      have h2 := cutL_count l (cutN n r d).2 d
      simp only [countL]; omega
end
theorem shortT_le (s : ByteArray) : (shortT s).size ≤ 20001 := by rw [shortT_size]; omega
-- no token of it is longer than a token's first bytes
mutual
def shN : Nd → Prop
  | .mk _ t l => t.2.size ≤ 20001 ∧ shL l
def shL : List Nd → Prop
  | [] => True
  | n :: l => shN n ∧ shL l
end
mutual
theorem cutN_sh : ∀ (n : Nd) (left d : Nat), shN (cutN n left d).1
  | .mk k t l, left, d => by
    simp only [cutN]
    split
    · exact ⟨shortT_le _, cutL_sh l _ _⟩
    · exact ⟨shortT_le _, trivial⟩
theorem cutL_sh : ∀ (l : List Nd) (r d : Nat), shL (cutL l r d).1
  | [], r, d => trivial
  | n :: l, r, d => by
    simp only [cutL]
    split
    · trivial
    · exact ⟨cutN_sh n r d, cutL_sh l _ d⟩
end
mutual
theorem shN_sm : ∀ {n : Nd}, shN n → smT n
  | .mk _ t l, h => ⟨by have := h.1; omega, shL_sm h.2⟩
theorem shL_sm : ∀ {l : List Nd}, shL l → smTL l
  | [], _ => trivial
  | n :: l, h => ⟨shN_sm h.1, shL_sm h.2⟩
end
mutual
theorem shN_sum : ∀ {n : Nd}, shN n → sumT (leavesN n) ≤ 20001 * countN n
  | .mk k t l, h => by
    have := shL_sum h.2
    have ht := h.1
    simp only [leavesN, countN]
    rw [sumT_append]
    split
    · simp only [sumT]; omega
    · simp only [sumT]; omega
theorem shL_sum : ∀ {l : List Nd}, shL l → sumT (leavesL l) ≤ 20001 * countL l
  | [], _ => by simp [leavesL, sumT]
  | n :: l, h => by
    have h1 := shN_sum h.1
    have h2 := shL_sum h.2
    simp only [leavesL, countL]
    rw [sumT_append]
    omega
end
mutual
theorem shN_sumF : ∀ {n : Nd}, shN n → sumF (fun t => t.2.size) n ≤ 20001 * countN n
  | .mk k t l, h => by
    have := shL_sumF h.2
    have ht := h.1
    simp only [sumF, countN]
    split <;> omega
theorem shL_sumF : ∀ {l : List Nd}, shL l → sumFL (fun t => t.2.size) l ≤ 20001 * countL l
  | [], _ => by simp [sumFL]
  | n :: l, h => by
    have h1 := shN_sumF h.1
    have h2 := shL_sumF h.2
    simp only [sumFL, countL]
    omega
end
mutual
theorem sumF_ones : ∀ (n : Nd), sumF (fun _ => 1) n ≤ countN n
  | .mk k t l => by
    have := sumFL_ones l
    simp only [sumF, countN]
    split <;> omega
theorem sumFL_ones : ∀ (l : List Nd), sumFL (fun _ => 1) l ≤ countL l
  | [] => by simp [sumFL]
  | n :: l => by
    have h1 := sumF_ones n
    have h2 := sumFL_ones l
    simp only [sumFL, countL]
    omega
end
end Go.Proofs.YtgihkojlpaebiaaDoor

namespace Go.Proofs.YtgihkojlpaebiaaDoor
set_option linter.unusedVariables false
set_option linter.unusedSimpArgs false
open Go.RowKit

set_option maxRecDepth 100000 in
set_option maxHeartbeats 1000000 in
theorem One_any (k : Int) (s : ByteArray) (w : World) (hs : s.size ≤ maxLen) :
    Calls Tryd.prog 101 #[.agg #[.int .i64 k, .string s]] w fun e w' => e = .returned (.agg #[.int .i64 k, .string (shortT s)]) ∧ Below w.heap.size w w' := by
  unfold maxLen at hs
  have hsh : shortT s = s.extract 0 (min s.size 20001) := rfl
  have hm : min (s.size : Int) 20001 = ((min s.size 20001 : Nat) : Int) := by omega
  have hle : min s.size 20001 ≤ s.size := Nat.min_le_left _ _
  rcases Nat.lt_or_ge 20001 s.size with h | h
  · have hmm : min s.size 20001 = 20001 := by omega
    rw [hmm] at hsh hm hle
    have Hsh := Lib.hid hsh
    have h1 : (20001 : Int) < (s.size : Int) := by omega
    have h2 : (20001 : Int) ≤ (s.size : Int) := by omega
    clear hsh hmm
    go_enter Tryd.func101, Tryd.ntmps101
    go_wp2_with fail
    obtain ⟨w2, hw2⟩ : ∃ w2, w2 = (w.alloc (.cells #[.int .i64 k, .string s] 23)).alloc (.cells #[.int .i64 0, .string { data := #[] }] 23) := ⟨_, rfl⟩
    have hB : Below w.heap.size w w2 := by rw [hw2]; exact ((Below.refl _ _).alloc (Nat.le_refl _) _).alloc (by simp) _
    have h1 : w2.heap[w.heap.size]? = some (.cells #[.int .i64 k, .string s] 23 (0, 0)) := by
      rw [hw2]
      exact (Below.heap_alloc _ _ _ (by simp)).trans (heap_alloc_new w _)
    have h2 : w2.heap[w.heap.size + 1]? = some (.cells #[.int .i64 0, .string { data := #[] }] 23 (0, 0)) := by
      rw [hw2]
      have h := heap_alloc_new (w.alloc (.cells #[.int .i64 k, .string s] 23)) (.cells #[.int .i64 0, .string { data := #[] }] 23)
      rw [show (w.alloc (.cells #[.int .i64 k, .string s] 23)).heap.size = w.heap.size + 1 by simp] at h
      exact h
    rw [← hw2]
    have m0 : w2.cell? ⟨w.heap.size, 0, none⟩ = some (.int .i64 k) := Lib.cell_of_heap h1 0
    have m1 : w2.cell? ⟨w.heap.size, 1, none⟩ = some (.string s) := Lib.cell_of_heap h1 1
    have n0 : w2.cell? ⟨w.heap.size + 1, 0, none⟩ = some (.int .i64 0) := Lib.cell_of_heap h2 0
    have n1 : w2.cell? ⟨w.heap.size + 1, 1, none⟩ = some (.string { data := #[] }) := Lib.cell_of_heap h2 1
    have f0 : w2.frozen? ⟨w.heap.size + 1, 0, none⟩ = false := by simp [World.frozen?, h2]
    have f1 : w2.frozen? ⟨w.heap.size + 1, 1, none⟩ = false := by simp [World.frozen?, h2]
    have HB := Lib.hid hB
    have H2 := Lib.hid h2
    clear hw2 h1 h2 hB
    go_region
    all_goals
      go_wp2_with fail
      obtain ⟨w3, hw3⟩ : ∃ w3, w3 = ((w2.setCell ⟨w.heap.size + 1, 0, none⟩ (.int .i64 k)).setCell ⟨w.heap.size + 1, 1, none⟩ (.string (s.extract 0 20001))).drew := ⟨_, rfl⟩
      rw [← hw3]
      have hB3 : Below w.heap.size w w3 := by
        rw [hw3]
        exact ((HB.out.setCell (p := ⟨w.heap.size + 1, 0, none⟩) (by simp) _).setCell (p := ⟨w.heap.size + 1, 1, none⟩) (by simp) _).drew
      have h3 : w3.heap[w.heap.size + 1]? = some (.cells #[.int .i64 k, .string (s.extract 0 20001)] 23 (0, 0)) := by
        rw [hw3]
        change ((w2.setCell ⟨w.heap.size + 1, 0, none⟩ (.int .i64 k)).setCell ⟨w.heap.size + 1, 1, none⟩ (.string (s.extract 0 20001))).heap[w.heap.size + 1]? = _
        unfold World.setCell
        simp only [Array.getElem?_modify, H2.out]
        simp
      have p0 : w3.cell? ⟨w.heap.size + 1, 0, none⟩ = some (.int .i64 k) := Lib.cell_of_heap h3 0
      have p1 : w3.cell? ⟨w.heap.size + 1, 1, none⟩ = some (.string (s.extract 0 20001)) := Lib.cell_of_heap h3 1
      clear hw3 h3
      refine bodyPost_ret (by simp [results, Tryd.results101, go_sem, p0, p1]; try rfl) rfl ?_
      exact ⟨by rw [Hsh.out], hB3⟩
  · have hmm : min s.size 20001 = s.size := by omega
    rw [hmm] at hsh hm hle
    rw [all_head] at hsh
    have Hsh := Lib.hid hsh
    have h1 : ¬ (20001 : Int) < (s.size : Int) := by omega
    have h2 : (s.size : Int) ≤ 20001 := by omega
    clear hsh hmm
    go_enter Tryd.func101, Tryd.ntmps101
    go_wp2_with fail
    obtain ⟨w2, hw2⟩ : ∃ w2, w2 = (w.alloc (.cells #[.int .i64 k, .string s] 23)).alloc (.cells #[.int .i64 0, .string { data := #[] }] 23) := ⟨_, rfl⟩
    have hB : Below w.heap.size w w2 := by rw [hw2]; exact ((Below.refl _ _).alloc (Nat.le_refl _) _).alloc (by simp) _
    have h1 : w2.heap[w.heap.size]? = some (.cells #[.int .i64 k, .string s] 23 (0, 0)) := by
      rw [hw2]
      exact (Below.heap_alloc _ _ _ (by simp)).trans (heap_alloc_new w _)
    have h2 : w2.heap[w.heap.size + 1]? = some (.cells #[.int .i64 0, .string { data := #[] }] 23 (0, 0)) := by
      rw [hw2]
      have h := heap_alloc_new (w.alloc (.cells #[.int .i64 k, .string s] 23)) (.cells #[.int .i64 0, .string { data := #[] }] 23)
      rw [show (w.alloc (.cells #[.int .i64 k, .string s] 23)).heap.size = w.heap.size + 1 by simp] at h
      exact h
    rw [← hw2]
    have m0 : w2.cell? ⟨w.heap.size, 0, none⟩ = some (.int .i64 k) := Lib.cell_of_heap h1 0
    have m1 : w2.cell? ⟨w.heap.size, 1, none⟩ = some (.string s) := Lib.cell_of_heap h1 1
    have n0 : w2.cell? ⟨w.heap.size + 1, 0, none⟩ = some (.int .i64 0) := Lib.cell_of_heap h2 0
    have n1 : w2.cell? ⟨w.heap.size + 1, 1, none⟩ = some (.string { data := #[] }) := Lib.cell_of_heap h2 1
    have f0 : w2.frozen? ⟨w.heap.size + 1, 0, none⟩ = false := by simp [World.frozen?, h2]
    have f1 : w2.frozen? ⟨w.heap.size + 1, 1, none⟩ = false := by simp [World.frozen?, h2]
    have HB := Lib.hid hB
    have H2 := Lib.hid h2
    clear hw2 h1 h2 hB
    go_region
    all_goals
      go_wp2_with fail
      obtain ⟨w3, hw3⟩ : ∃ w3, w3 = ((w2.setCell ⟨w.heap.size + 1, 0, none⟩ (.int .i64 k)).setCell ⟨w.heap.size + 1, 1, none⟩ (.string (s))).drew := ⟨_, rfl⟩
      rw [← hw3]
      have hB3 : Below w.heap.size w w3 := by
        rw [hw3]
        exact ((HB.out.setCell (p := ⟨w.heap.size + 1, 0, none⟩) (by simp) _).setCell (p := ⟨w.heap.size + 1, 1, none⟩) (by simp) _).drew
      have h3 : w3.heap[w.heap.size + 1]? = some (.cells #[.int .i64 k, .string (s)] 23 (0, 0)) := by
        rw [hw3]
        change ((w2.setCell ⟨w.heap.size + 1, 0, none⟩ (.int .i64 k)).setCell ⟨w.heap.size + 1, 1, none⟩ (.string (s))).heap[w.heap.size + 1]? = _
        unfold World.setCell
        simp only [Array.getElem?_modify, H2.out]
        simp
      have p0 : w3.cell? ⟨w.heap.size + 1, 0, none⟩ = some (.int .i64 k) := Lib.cell_of_heap h3 0
      have p1 : w3.cell? ⟨w.heap.size + 1, 1, none⟩ = some (.string (s)) := Lib.cell_of_heap h3 1
      clear hw3 h3
      refine bodyPost_ret (by simp [results, Tryd.results101, go_sem, p0, p1]; try rfl) rfl ?_
      exact ⟨by rw [Hsh.out], hB3⟩
end Go.Proofs.YtgihkojlpaebiaaDoor
