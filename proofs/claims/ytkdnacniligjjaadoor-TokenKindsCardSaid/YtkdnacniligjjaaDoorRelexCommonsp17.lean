/-
  relex: the tokens that an edit meets (at, met), and a part's span (bytes).; relex: the tokens of the lines that an edit meets.
-/
import Derived.Test.YtkdnacniligjjaaDoorRelexCommonsp16
namespace Go.Proofs.YtkdnacniligjjaaDoor
set_option linter.unusedVariables false
set_option linter.unusedSimpArgs false
open Go.RowKit

theorem begL_rise (L : List Tok) : ∀ i j (hi : i < (begL L).length) (hj : j < (begL L).length), i ≤ j → (begL L)[i] ≤ (begL L)[j] := fun i j hi hj h => by
  rw [begL_get, begL_get]; exact posB_le h
theorem srch_le : ∀ (bs : List Nat) (x : Int), srch bs x ≤ bs.length
  | [], _ => Nat.le_refl _
  | b :: l, x => by
    simp only [srch]
    split
    · exact Nat.zero_le _
    · have := srch_le l x; simp; omega
theorem ret_z {a b : Int} (h : a = b) : Ending.returned (.int .i64 a) = .returned (.int .i64 b) := by rw [h]

set_option maxRecDepth 100000 in
set_option maxHeartbeats 1000000 in
theorem at_any (s : ByteArray) (c : Nat) (A : Option Addr) (bs : List Nat) (o : Int) (w : World) (ho : -1 ≤ o) (ho2 : o ≤ 100000) (hl : bs.length ≤ 100000) (hs : ∀ i j (hi : i < bs.length) (hj : j < bs.length), i ≤ j → bs[i] ≤ bs[j]) (hE : IntsV w A bs) :
    Calls Tryd.prog 107 #[.agg #[.string s, .slice A bs.length c], .int .i64 o] w fun e w' => e = .returned (.int .i64 ((srch bs (o + 1) : Nat) - 1 : Int)) ∧ Below w.heap.size w w' := by
  have hw0 : Below w.heap.size w (w.alloc (.cells #[.string s, .slice A bs.length c] 76)) := (Below.refl _ _).alloc (Nat.le_refl _) _
  have hsr := Search_any c A bs (o + 1) _ hl hs (hE.below hw0)
  have hsl := srch_le bs (o + 1)
  generalize srch bs (o + 1) = n at hsr hsl
  have Hsr := Lib.hid hsr
  have HW0 := Lib.hid hw0
  have so : IntKind.i64.wrap (o + 1) = o + 1 := IntWalk.i64_in _ (by omega)
  have so2 : o + 1 ≤ 100001 := by omega
  have sn : IntKind.i64.wrap ((n : Int) - 1) = (n : Int) - 1 := IntWalk.i64_in _ (by omega)
  clear hsr hw0 hE hs
  go_enter Tryd.func107, Tryd.ntmps107
  go_wp2_with fail
  refine Hsr.out.mono ?_
  rintro e w1 ⟨f, rfl, rfl⟩
  go_wp2_with fail
  go_ret
  exact ⟨rfl, HW0.out⟩

set_option maxRecDepth 100000 in
set_option maxHeartbeats 1000000 in
theorem bytes_any (s : ByteArray) (c : Nat) (A : Option Addr) (bs : List Nat) (a b : Nat) (w : World) (hl : bs.length ≤ 100000) (ha : a < bs.length) (hb : b < bs.length) (hE : IntsV w A bs) :
    Calls Tryd.prog 55 #[.agg #[.string s, .slice A bs.length c], .agg #[.int .i64 (a : Int), .int .i64 (b : Int)]] w fun e w' => e = .returned (.agg #[.int .i64 ((bs[a] : Nat) : Int), .int .i64 ((bs[b] : Nat) : Int)]) ∧ Below w.heap.size w w' := by
  obtain ⟨w0, hw0⟩ : ∃ w0, w0 = ((w.alloc (.cells #[.string s, .slice A bs.length c] 76)).alloc (.cells #[.int .i64 (a : Int), .int .i64 (b : Int)] 81)).alloc (.cells #[.int .i64 0, .int .i64 0] 84) := ⟨_, rfl⟩
  have hB0 : Below w.heap.size w w0 := by rw [hw0]; exact (((Below.refl _ _).alloc (Nat.le_refl _) _).alloc (by simp) _).alloc (by simp; omega) _
  have h1 : w0.heap[w.heap.size]? = some (.cells #[.string s, .slice A bs.length c] 76 (0, 0)) := by
    rw [hw0]; exact (Below.heap_alloc _ _ _ (by simp; omega)).trans ((Below.heap_alloc _ _ _ (by simp)).trans (heap_alloc_new w _))
  have h2 : w0.heap[w.heap.size + 1]? = some (.cells #[.int .i64 (a : Int), .int .i64 (b : Int)] 81 (0, 0)) := by
    rw [hw0]; exact (Below.heap_alloc _ _ _ (by simp)).trans (heap_alloc2T w _ _)
  have h3 : w0.heap[w.heap.size + 2]? = some (.cells #[.int .i64 0, .int .i64 0] 84 (0, 0)) := by
    rw [hw0]
    have h := heap_alloc_new ((w.alloc (.cells #[.string s, .slice A bs.length c] 76)).alloc (.cells #[.int .i64 (a : Int), .int .i64 (b : Int)] 81)) (.cells #[.int .i64 0, .int .i64 0] 84)
    rw [show ((w.alloc (.cells #[.string s, .slice A bs.length c] 76)).alloc (.cells #[.int .i64 (a : Int), .int .i64 (b : Int)] 81)).heap.size = w.heap.size + 2 by simp] at h
    exact h
  have m0 : w0.cell? ⟨w.heap.size, 0, none⟩ = some (.string s) := Lib.cell_of_heap h1 0
  have m1 : w0.cell? ⟨w.heap.size, 1, none⟩ = some (.slice A bs.length c) := Lib.cell_of_heap h1 1
  have m2 : w0.cell? ⟨w.heap.size + 1, 0, none⟩ = some (.int .i64 (a : Int)) := Lib.cell_of_heap h2 0
  have m3 : w0.cell? ⟨w.heap.size + 1, 1, none⟩ = some (.int .i64 (b : Int)) := Lib.cell_of_heap h2 1
  have n0 : w0.cell? ⟨w.heap.size + 2, 0, none⟩ = some (.int .i64 0) := Lib.cell_of_heap h3 0
  have n1 : w0.cell? ⟨w.heap.size + 2, 1, none⟩ = some (.int .i64 0) := Lib.cell_of_heap h3 1
  have f0 : w0.frozen? ⟨w.heap.size + 2, 0, none⟩ = false := by simp [World.frozen?, h3]
  have f1 : w0.frozen? ⟨w.heap.size + 2, 1, none⟩ = false := by simp [World.frozen?, h3]
  obtain ⟨g, rfl, hg, hget⟩ := hE (by omega)
  have ca := (hB0.cell (p := ⟨g, a, none⟩) hg).trans (hget a _ (List.getElem?_eq_getElem ha))
  have cb := (hB0.cell (p := ⟨g, b, none⟩) hg).trans (hget b _ (List.getElem?_eq_getElem hb))
  have hg2 : w.heap.size + 2 ≠ g := by omega
  have hg3 : w.heap.size + 1 + 1 ≠ g := by omega
  have hg4 : w.heap.size + 1 + 1 ≠ w.heap.size := by omega
  have hg5 : w.heap.size + 1 + 1 ≠ w.heap.size + 1 := by omega
  obtain ⟨xa, hxa⟩ : ∃ xa, xa = bs[a] := ⟨_, rfl⟩
  obtain ⟨xb, hxb⟩ : ∃ xb, xb = bs[b] := ⟨_, rfl⟩
  rw [← hxa] at ca
  rw [← hxb] at cb
  rw [← hxa, ← hxb]
  have ha0 : (0 : Int) ≤ (a : Int) := by omega
  have ha1 : (a : Int) < (bs.length : Int) := by omega
  have hb0 : (0 : Int) ≤ (b : Int) := by omega
  have hb1 : (b : Int) < (bs.length : Int) := by omega
  have HB0 := Lib.hid hB0
  have H3 := Lib.hid h3
  have HW0 := Lib.hid hw0
  clear hw0 h1 h2 h3 hB0 hget hxa hxb hE
  go_enter Tryd.func55, Tryd.ntmps55
  go_wp2_with fail
  rw [← HW0.out]
  go_region_held3 (fun W => W.cell? ⟨w.heap.size, 0, none⟩ = some (.string s) ∧ W.cell? ⟨w.heap.size, 1, none⟩ = some (.slice (some ⟨g, 0, none⟩) bs.length c) ∧ W.cell? ⟨w.heap.size + 1, 0, none⟩ = some (.int .i64 (a : Int)) ∧ W.cell? ⟨w.heap.size + 1, 1, none⟩ = some (.int .i64 (b : Int)) ∧ W.cell? ⟨g, a, none⟩ = some (.int .i64 (xa : Int)) ∧ W.cell? ⟨g, b, none⟩ = some (.int .i64 (xb : Int))) (first | exact ⟨m0, m1, m2, m3, ca, cb⟩ | go_keep) (fail)
  all_goals
    go_wp2_with fail
    obtain ⟨hB3, p0, p1⟩ := fin2 (w1 := w0) (.int .i64 (xa : Int)) (.int .i64 (xb : Int)) HB0.out (show w.heap.size ≤ w.heap.size + 1 + 1 by omega) H3.out
    obtain ⟨w3, hw3⟩ : ∃ w3, w3 = ((w0.setCell ⟨w.heap.size + 1 + 1, 0, none⟩ (.int .i64 (xa : Int))).setCell ⟨w.heap.size + 1 + 1, 1, none⟩ (.int .i64 (xb : Int))) := ⟨_, rfl⟩
    rw [← hw3]
    rw [← hw3] at hB3 p0 p1
    have d0 : w3.drew.cell? ⟨w.heap.size + 1 + 1, 0, none⟩ = some (.int .i64 (xa : Int)) := p0
    have d1 : w3.drew.cell? ⟨w.heap.size + 1 + 1, 1, none⟩ = some (.int .i64 (xb : Int)) := p1
    clear hw3
    refine bodyPost_ret (by simp [results, Tryd.results55, go_sem, p0, p1, d0, d1]; try rfl) rfl ?_
    refine ⟨rfl, ?_⟩
    first
    | exact hB3
    | exact hB3.drew
end Go.Proofs.YtkdnacniligjjaaDoor

namespace Go.Proofs.YtkdnacniligjjaaDoor
set_option linter.unusedVariables false
set_option linter.unusedSimpArgs false
open Go.RowKit

/-- the tokens of the lines that a span meets: from the one before the other -/
def metF (s : ByteArray) (bs : List Nat) (f : Nat) : Nat := srch bs (lnF s f : Nat) - 1
def metT (s : ByteArray) (bs : List Nat) (t : Nat) : Nat := srch bs (lnT s t : Nat)
theorem below_callX {B : Nat} {a Y w1 : World} (h : Below B a Y) (hB : B ≤ a.heap.size) (hb : Below Y.heap.size Y w1) : Below B a w1 := h.trans (hb.mono (Nat.le_trans hB h.size))
theorem ret_pt {a b : Int} {c d : Nat} (h1 : a = (c : Int)) (h2 : b = (d : Int)) : Ending.returned (.agg #[.int .i64 a, .int .i64 b]) = .returned (.agg #[.int .i64 ((c : Nat) : Int), .int .i64 ((d : Nat) : Int)]) := by rw [h1, h2]

set_option maxRecDepth 100000 in
set_option maxHeartbeats 2000000 in
theorem met_any (s : ByteArray) (c : Nat) (A : Option Addr) (bs : List Nat) (f t : Nat) (x : ByteArray) (w : World) (hs : s.size ≤ 60000) (hft : f ≤ t) (ht : t ≤ s.size) (hl : bs.length ≤ 100000) (hr : ∀ i j (hi : i < bs.length) (hj : j < bs.length), i ≤ j → bs[i] ≤ bs[j]) (hE : IntsV w A bs) :
    Calls Tryd.prog 84 #[.agg #[.string s, .slice A bs.length c], .agg #[.int .i64 (f : Int), .int .i64 (t : Int), .string x]] w fun e w' => e = .returned (.agg #[.int .i64 ((metF s bs f : Nat) : Int), .int .i64 ((metT s bs t : Nat) : Int)]) ∧ Below w.heap.size w w' := by
  obtain ⟨w0, hw0⟩ : ∃ w0, w0 = ((w.alloc (.cells #[.string s, .slice A bs.length c] 76)).alloc (.cells #[.int .i64 (f : Int), .int .i64 (t : Int), .string x] 47)).alloc (.cells #[.int .i64 0, .int .i64 0] 81) := ⟨_, rfl⟩
  have hB0 : Below w.heap.size w w0 := by rw [hw0]; exact (((Below.refl _ _).alloc (Nat.le_refl _) _).alloc (by simp) _).alloc (by simp; omega) _
  have h1 : w0.heap[w.heap.size]? = some (.cells #[.string s, .slice A bs.length c] 76 (0, 0)) := by
    rw [hw0]; exact (Below.heap_alloc _ _ _ (by simp; omega)).trans ((Below.heap_alloc _ _ _ (by simp)).trans (heap_alloc_new w _))
  have h2 : w0.heap[w.heap.size + 1]? = some (.cells #[.int .i64 (f : Int), .int .i64 (t : Int), .string x] 47 (0, 0)) := by
    rw [hw0]; exact (Below.heap_alloc _ _ _ (by simp)).trans (heap_alloc2T w _ _)
  have h3 : w0.heap[w.heap.size + 1 + 1]? = some (.cells #[.int .i64 0, .int .i64 0] 81 (0, 0)) := by
    rw [hw0]
    have h := heap_alloc_new ((w.alloc (.cells #[.string s, .slice A bs.length c] 76)).alloc (.cells #[.int .i64 (f : Int), .int .i64 (t : Int), .string x] 47)) (.cells #[.int .i64 0, .int .i64 0] 81)
    rw [show ((w.alloc (.cells #[.string s, .slice A bs.length c] 76)).alloc (.cells #[.int .i64 (f : Int), .int .i64 (t : Int), .string x] 47)).heap.size = w.heap.size + 1 + 1 by simp] at h
    exact h
  have hsz0 : w.heap.size + 1 + 1 < w0.heap.size := by rw [hw0]; simp
  have m0 : w0.cell? ⟨w.heap.size, 0, none⟩ = some (.string s) := Lib.cell_of_heap h1 0
  have m2 : w0.cell? ⟨w.heap.size + 1, 0, none⟩ = some (.int .i64 (f : Int)) := Lib.cell_of_heap h2 0
  have m3 : w0.cell? ⟨w.heap.size + 1, 1, none⟩ = some (.int .i64 (t : Int)) := Lib.cell_of_heap h2 1
  have hln := fun W => linesOf_any s f t W hs hft ht
  have hlf := lnF_spec (s := s) (f := f) (by omega)
  have hlt := lnT_spec ht
  have hmF : metF s bs f = srch bs (lnF s f : Nat) - 1 := rfl
  have hmT : metT s bs t = srch bs (lnT s t : Nat) := rfl
  have e1 := hlf.2.1
  have e2 := hlt.2.1
  generalize lnF s f = lf at hln hmF e1
  generalize lnT s t = lt at hln hmT e2
  have HLn := Lib.hid hln
  have HB0 := Lib.hid hB0
  have H1 := Lib.hid h1
  have H3 := Lib.hid h3
  have HW0 := Lib.hid hw0
  have HE := Lib.hid hE
  have HR := Lib.hid hr
  have hsl1 := srch_le bs (lf : Nat)
  have hsl2 := srch_le bs (lt : Nat)
  obtain ⟨sa, hsa⟩ : ∃ n, n = srch bs (lf : Nat) := ⟨_, rfl⟩
  obtain ⟨sb, hsb⟩ : ∃ n, n = srch bs (lt : Nat) := ⟨_, rfl⟩
  rw [← hsa] at hmF hsl1
  rw [← hsb] at hmT hsl2
  have HMF := Lib.hid hmF
  have HMT := Lib.hid hmT
  have HA : ∀ W, IntsV W A bs → Calls Tryd.prog 107 #[.agg #[.string s, .slice A bs.length c], .int .i64 ((lf : Int) - 1)] W fun e w' => e = .returned (.int .i64 ((sa : Int) - 1)) ∧ Below W.heap.size W w' := fun W h => by
    have := at_any s c A bs ((lf : Int) - 1) W (by omega) (by omega) hl HR.out h
    rw [show (lf : Int) - 1 + 1 = (lf : Int) by omega, ← hsa] at this
    exact this
  have HBt : ∀ W, IntsV W A bs → Calls Tryd.prog 107 #[.agg #[.string s, .slice A bs.length c], .int .i64 ((lt : Int) - 1)] W fun e w' => e = .returned (.int .i64 ((sb : Int) - 1)) ∧ Below W.heap.size W w' := fun W h => by
    have := at_any s c A bs ((lt : Int) - 1) W (by omega) (by omega) hl HR.out h
    rw [show (lt : Int) - 1 + 1 = (lt : Int) by omega, ← hsb] at this
    exact this
  have HAa := Lib.hid HA
  have HBb := Lib.hid HBt
  have s1 : IntKind.i64.wrap ((lf : Int) - 1) = (lf : Int) - 1 := IntWalk.i64_in _ (by omega)
  have s2 : IntKind.i64.wrap ((lt : Int) - 1) = (lt : Int) - 1 := IntWalk.i64_in _ (by omega)
  have s3 : IntKind.i64.wrap ((sb : Int) - 1 + 1) = (sb : Int) := by rw [IntWalk.i64_in _ (by omega)]; omega
  have s4 : IntKind.i64.wrap (sb : Int) = (sb : Int) := IntWalk.i64_in _ (by omega)
  clear hw0 h1 h2 h3 hB0 hE hr hln hlf hlt hmF hmT hsa hsb HA HBt
  go_enter Tryd.func84, Tryd.ntmps84
  go_wp2_with fail
  rw [← HW0.out]
  refine (HLn.out w0).mono ?_
  rintro e w2 ⟨rfl, hb2⟩
  obtain ⟨w3, hw3⟩ : ∃ w3, w3 = w2.alloc (.cells #[.int .i64 (lf : Int), .int .i64 (lt : Int)] 84) := ⟨_, rfl⟩
  have hb3 : Below w0.heap.size w0 w3 := by rw [hw3]; exact hb2.alloc hb2.size _
  have h5 : w3.heap[w2.heap.size]? = some (.cells #[.int .i64 (lf : Int), .int .i64 (lt : Int)] 84 (0, 0)) := by rw [hw3]; exact heap_alloc_new w2 _
  have h1' := (hb3.block w.heap.size (by omega)).trans H1.out
  have h3' := (hb3.block (w.heap.size + 1 + 1) hsz0).trans H3.out
  have q0 : w3.cell? ⟨w.heap.size, 0, none⟩ = some (.string s) := Lib.cell_of_heap h1' 0
  have q1 : w3.cell? ⟨w.heap.size, 1, none⟩ = some (.slice A bs.length c) := Lib.cell_of_heap h1' 1
  have p0 : w3.cell? ⟨w2.heap.size, 0, none⟩ = some (.int .i64 (lf : Int)) := Lib.cell_of_heap h5 0
  have p1 : w3.cell? ⟨w2.heap.size, 1, none⟩ = some (.int .i64 (lt : Int)) := Lib.cell_of_heap h5 1
  have hsz2 : w0.heap.size ≤ w2.heap.size := hb2.size
  have hsz3 : w2.heap.size < w3.heap.size := by rw [hw3]; simp
  have HI3 := Lib.hid ((HE.out.below HB0.out).below hb3)
  have HB3 := Lib.hid (HB0.out.trans (hb3.mono HB0.out.size))
  have H3' := Lib.hid h3'
  have HW3 := Lib.hid hw3
  have hsw3 : w.heap.size < w3.heap.size := by omega
  have hsr3 : w.heap.size + 1 + 1 < w3.heap.size := by omega
  have ne1 : w.heap.size + 1 + 1 ≠ w.heap.size := by omega
  have ne2 : w.heap.size + 1 + 1 ≠ w2.heap.size := by omega
  clear hw3 h5 h1' h3' hb3 hb2
  go_wp2_with fail
  rw [← HW3.out]
  go_region_held3 (fun W => W.cell? ⟨w.heap.size, 0, none⟩ = some (.string s) ∧ W.cell? ⟨w.heap.size, 1, none⟩ = some (.slice A bs.length c) ∧ W.cell? ⟨w2.heap.size, 0, none⟩ = some (.int .i64 (lf : Int)) ∧ W.cell? ⟨w2.heap.size, 1, none⟩ = some (.int .i64 (lt : Int)))
    (first | exact ⟨q0, q1, p0, p1⟩ | exact ⟨qA0, qA1, pA0, pA1⟩ | exact ⟨qB0, qB1, pB0, pB1⟩ | go_keep)
    ((first
    | (go_at_call 107
       with_reducible refine (HAa.out _ ?_).mono ?_
       · exact HI3.out.below (by repeat (first | with_reducible exact Below.refl _ _ | with_reducible refine Below.drew ?_ | with_reducible refine below_drewT ?_ _))
       rintro e wA ⟨rfl, hbA⟩
       have hbA3 : Below w3.heap.size w3 wA := by repeat (first | with_reducible exact Below.refl _ _ | with_reducible refine Below.drew ?_ | with_reducible refine below_drewT ?_ _ | with_reducible refine below_callX ?_ (Nat.le_refl _) hbA)
       have hAr := (hbA3.block (w.heap.size + 1 + 1) hsr3).trans H3'.out
       have nA0 : wA.cell? ⟨w.heap.size + 1 + 1, 0, none⟩ = some (.int .i64 0) := Lib.cell_of_heap hAr 0
       have nA1 : wA.cell? ⟨w.heap.size + 1 + 1, 1, none⟩ = some (.int .i64 0) := Lib.cell_of_heap hAr 1
       have fA0 : wA.frozen? ⟨w.heap.size + 1 + 1, 0, none⟩ = false := by simp [World.frozen?, hAr]
       have fA1 : wA.frozen? ⟨w.heap.size + 1 + 1, 1, none⟩ = false := by simp [World.frozen?, hAr]
       have qA0 := (hbA3.cell (p := ⟨w.heap.size, 0, none⟩) hsw3).trans q0
       have qA1 := (hbA3.cell (p := ⟨w.heap.size, 1, none⟩) hsw3).trans q1
       have pA0 := (hbA3.cell (p := ⟨w2.heap.size, 0, none⟩) hsz3).trans p0
       have pA1 := (hbA3.cell (p := ⟨w2.heap.size, 1, none⟩) hsz3).trans p1
       clear hbA hAr)
    | (go_at_call 107
       with_reducible refine (HBb.out _ ?_).mono ?_
       · exact (HI3.out.below hbA3).below (by repeat (first | with_reducible exact Below.refl _ _ | with_reducible refine Below.drew ?_ | with_reducible refine below_drewT ?_ _))
       rintro e wB ⟨rfl, hbB⟩
       have hbB3 : Below w3.heap.size w3 wB := by repeat (first | with_reducible exact hbA3 | with_reducible refine Below.drew ?_ | with_reducible refine below_drewT ?_ _ | with_reducible refine below_callX ?_ (Nat.le_refl _) hbB)
       have hBr := (hbB3.block (w.heap.size + 1 + 1) hsr3).trans H3'.out
       have nB0 : wB.cell? ⟨w.heap.size + 1 + 1, 0, none⟩ = some (.int .i64 0) := Lib.cell_of_heap hBr 0
       have nB1 : wB.cell? ⟨w.heap.size + 1 + 1, 1, none⟩ = some (.int .i64 0) := Lib.cell_of_heap hBr 1
       have fB0 : wB.frozen? ⟨w.heap.size + 1 + 1, 0, none⟩ = false := by simp [World.frozen?, hBr]
       have fB1 : wB.frozen? ⟨w.heap.size + 1 + 1, 1, none⟩ = false := by simp [World.frozen?, hBr]
       have qB0 := (hbB3.cell (p := ⟨w.heap.size, 0, none⟩) hsw3).trans q0
       have qB1 := (hbB3.cell (p := ⟨w.heap.size, 1, none⟩) hsw3).trans q1
       have pB0 := (hbB3.cell (p := ⟨w2.heap.size, 0, none⟩) hsz3).trans p0
       have pB1 := (hbB3.cell (p := ⟨w2.heap.size, 1, none⟩) hsz3).trans p1
       have HBR := Lib.hid hBr
       clear hbB hBr)))
  all_goals
    have hBw := HB3.out.trans (hbB3.mono HB3.out.size)
    obtain ⟨hB4, r0, r1⟩ := fin2 (w1 := wB) (.int .i64 (max ((sa : Int) - 1) 0)) (.int .i64 (sb : Int)) hBw (show w.heap.size ≤ w.heap.size + 1 + 1 by omega) HBR.out
    go_wp2_with fail
    obtain ⟨w4, hw4⟩ : ∃ w4, w4 = (wB.setCell ⟨w.heap.size + 1 + 1, 0, none⟩ (.int .i64 (max ((sa : Int) - 1) 0))).setCell ⟨w.heap.size + 1 + 1, 1, none⟩ (.int .i64 (sb : Int)) := ⟨_, rfl⟩
    rw [← hw4]
    rw [← hw4] at hB4 r0 r1
    have d0 : w4.drew.cell? ⟨w.heap.size + 1 + 1, 0, none⟩ = some (.int .i64 (max ((sa : Int) - 1) 0)) := r0
    have d1 : w4.drew.cell? ⟨w.heap.size + 1 + 1, 1, none⟩ = some (.int .i64 (sb : Int)) := r1
    clear hw4
    refine bodyPost_ret (by simp [results, Tryd.results84, go_sem, r0, r1, d0, d1]; try rfl) rfl ?_
    refine ⟨ret_pt (by rw [HMF.out]; omega) (by rw [HMT.out]), ?_⟩
    first
    | exact hB4
    | exact hB4.drew
end Go.Proofs.YtkdnacniligjjaaDoor
