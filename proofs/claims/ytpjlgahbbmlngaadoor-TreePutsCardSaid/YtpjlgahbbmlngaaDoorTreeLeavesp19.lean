/-
  Trees: Find.
-/
import Derived.Test.YtpjlgahbbmlngaaDoorTreeLeavesp18
import Derived.Test.YtpjlgahbbmlngaaDoorTreeLeavesp16
import Derived.Test.YtpjlgahbbmlngaaDoorTreeLeavesp7
namespace Go.Proofs.YtpjlgahbbmlngaaDoor
set_option linter.unusedVariables false
set_option linter.unusedSimpArgs false
open Go Go.RowKit

attribute [local go_sem] Oper.semAt_some

/-- how many bytes the tokens of nodes have -/
def endW : List (List Nat × Nd) → Nat
  | [] => 0
  | x :: l => x.2.tok.2.size + endW l
theorem endW_append : ∀ a b, endW (a ++ b) = endW a + endW b
  | [], b => by simp [endW]
  | x :: a, b => by simp only [List.cons_append, endW, endW_append a b]; omega
theorem endW_take {l : List (List Nat × Nd)} {k : Nat} {x : List Nat × Nd} (h : l[k]? = some x) : endW (l.take (k + 1)) = endW (l.take k) + x.2.tok.2.size := by
  rw [take_snoc h, endW_append]; simp [endW]
theorem endW_le (l : List (List Nat × Nd)) (k : Nat) : endW (l.take k) ≤ endW l := by
  conv => rhs; rw [← List.take_append_drop k l, endW_append]
  omega
/-- is it the leaf? -/
def hitF (off size : Int) (e : Nat) (x : Nd) : Bool := decide (x.kind = 1) && (decide (off < (e : Int)) || decide ((e : Int) = size))
def findL (off size : Int) (e : Nat) : List (List Nat × Nd) → Option (List Nat)
  | [] => none
  | x :: l => if hitF off size (e + x.2.tok.2.size) x.2 then some x.1 else findL off size (e + x.2.tok.2.size) l
theorem findL_step {off size : Int} {l : List (List Nat × Nd)} {k : Nat} {p : List Nat} {x : Nd} (h : l[k]? = some (p, x)) :
    findL off size (endW (l.take k)) (l.drop k) = if hitF off size (endW (l.take (k + 1))) x then some p else findL off size (endW (l.take (k + 1))) (l.drop (k + 1)) := by
  obtain ⟨hlt, he⟩ := List.getElem?_eq_some_iff.1 h
  rw [List.drop_eq_getElem_cons hlt, he, endW_take h]
  rfl
def findR (n : Nd) (off : Int) : Int × List Nat :=
  if formedB n = false then (4, [])
  else if off < 0 ∨ (sumT (leavesN n) : Int) < off then (2, [])
  else match findL off (sumT (leavesN n)) 0 (walkN [] n) with
    | some p => (0, p)
    | none => (5, [])
def endS (n : Nd) : Prop := endW (walkN [] n) ≤ 1000000000000
theorem wrapEnd {n : Nd} {a b : Nat} (h : a + b ≤ endW (walkN [] n)) (hc : endS n) : wrap64 ((a : Int) + (b : Int)) = (a : Int) + (b : Int) := by unfold endS at hc; unfold wrap64; omega

theorem two_set {w W : World} {v0 v e0 er : Value} {t1 t2 : Nat} (hB : Below w.heap.size w W) (b2 : W.heap[w.heap.size + 2]? = some (.cells #[v0] t1 (0, 0))) (b3 : W.heap[w.heap.size + 3]? = some (.cells #[e0] t2 (0, 0))) :
    ((W.setCell ⟨w.heap.size + 2, 0, none⟩ v).setCell ⟨w.heap.size + 3, 0, none⟩ er).heap[w.heap.size + 2]? = some (.cells #[v] t1 (0, 0)) ∧ ((W.setCell ⟨w.heap.size + 2, 0, none⟩ v).setCell ⟨w.heap.size + 3, 0, none⟩ er).heap[w.heap.size + 3]? = some (.cells #[er] t2 (0, 0)) ∧
      Below w.heap.size w ((W.setCell ⟨w.heap.size + 2, 0, none⟩ v).setCell ⟨w.heap.size + 3, 0, none⟩ er) ∧ ∀ b, b ≠ w.heap.size + 2 → b ≠ w.heap.size + 3 → ((W.setCell ⟨w.heap.size + 2, 0, none⟩ v).setCell ⟨w.heap.size + 3, 0, none⟩ er).heap[b]? = W.heap[b]? :=
  ⟨(block_other (by omega)).trans (set_block b2), set_block ((block_other (by omega)).trans b3), (hB.setCell (p := ⟨w.heap.size + 2, 0, none⟩) (by simp) _).setCell (p := ⟨w.heap.size + 3, 0, none⟩) (by simp) _, fun b h1 h2 => (block_other h2).trans (block_other h1)⟩

theorem find_hit {w W2 W3 w4 : World} {O : Nat → Prop} {B : Nat} {v' : Value} {p : List Nat} {t1 t2 : Nat} {P : List Nat → Prop} (hK : Keep w.heap.size O W2 W3) (hM : Mine B w O W3) (s2 : W3.heap[w.heap.size + 2]? = some (.cells #[.slice none 0 0] t1 (0, 0))) (s3 : W3.heap[w.heap.size + 3]? = some (.cells #[.int .i64 0] t2 (0, 0)))
    (hOs : ∀ b, O b → b < W3.heap.size) (hsq : w.heap.size ≤ W3.heap.size) (h3B : w.heap.size + 3 < B) (hown : w4.ownsRow W3.heap.size 3 1 v' p.length (intCells p)) (hb4 : Below W3.heap.size W3 w4) (hp : P p) :
    Keep w.heap.size O W2 ((w4.setCell ⟨w.heap.size + 2, 0, none⟩ v').setCell ⟨w.heap.size + 3, 0, none⟩ (.int .i64 0)) ∧ Code.ret = Code.ret ∧ Mine B w O ((w4.setCell ⟨w.heap.size + 2, 0, none⟩ v').setCell ⟨w.heap.size + 3, 0, none⟩ (.int .i64 0)) ∧
      ∃ v'' p', ((w4.setCell ⟨w.heap.size + 2, 0, none⟩ v').setCell ⟨w.heap.size + 3, 0, none⟩ (.int .i64 0)).heap[w.heap.size + 2]? = some (.cells #[v''] t1 (0, 0)) ∧ ((w4.setCell ⟨w.heap.size + 2, 0, none⟩ v').setCell ⟨w.heap.size + 3, 0, none⟩ (.int .i64 0)).heap[w.heap.size + 3]? = some (.cells #[.int .i64 0] t2 (0, 0)) ∧
        P p' ∧ ((w4.setCell ⟨w.heap.size + 2, 0, none⟩ v').setCell ⟨w.heap.size + 3, 0, none⟩ (.int .i64 0)).ownsRow w.heap.size 3 1 v'' p'.length (intCells p') ∧ ∀ g, v''.ownBlock = some g → ¬ O g := by
  have hM4 := hM.call hb4
  have m1 := hM4.set (b := w.heap.size + 2) (j := 0) v' (by omega) (by omega)
  have m2 := m1.1.set (b := w.heap.size + 3) (j := 0) (.int .i64 0) h3B (by omega)
  have g2 := (hb4.block (w.heap.size + 2) (Array.getElem?_eq_some_iff.1 s2).1).trans s2
  have g3 := (hb4.block (w.heap.size + 3) (Array.getElem?_eq_some_iff.1 s3).1).trans s3
  obtain ⟨a2, a3, _, a4⟩ := two_set (v := v') (er := .int .i64 0) hM4.below g2 g3
  have hBs := hM.size
  exact ⟨((hK.trans (Keep.of_below hb4 hsq hOs)).trans m1.2).trans m2.2, rfl, m2.1, v', p, a2, a3, hp, own_le (own_same hown (fun g e => a4 g (by have := (hown.lt g e).1; omega) (by have := (hown.lt g e).1; omega))) hsq, fun g e ho => by have h1 := (hown.lt g e).1; have h2 := hOs g ho; omega⟩

set_option maxRecDepth 100000 in
set_option maxHeartbeats 2000000 in
theorem Find_any (n : Nd) (off : Int) (v : Value) (w : World) (hC : sizeN n) (hS : sumS n) (hE : endS n) (hT : Tabs w) (hV : NodeV w v n) :
    Calls Tryd.prog 44 #[v, .int .i64 off] w fun e w' => ∃ v', e = .returned (.tuple #[v', .int .i64 (findR n off).1]) ∧ w'.ownsRow w.heap.size 3 1 v' (findR n off).2.length (intCells (findR n off).2) ∧ Below w.heap.size w w' := by
  have hV0 := hV
  obtain ⟨A, c, rfl, hk⟩ := hV
  obtain ⟨wA, hwA⟩ : ∃ wA, wA = (((w.alloc (.cells (nodeCells n A c) 26)).alloc (.cells #[.int .i64 off] 3)).alloc (.cells #[.slice none 0 0] 51)).alloc (.cells #[.int .i64 0] 29) := ⟨_, rfl⟩
  have hBA : Below w.heap.size w wA := by rw [hwA]; exact ((((Below.refl _ _).alloc (Nat.le_refl _) _).alloc (by simp) _).alloc (by simp; omega) _).alloc (by simp; omega) _
  have hsA : wA.heap.size = w.heap.size + 4 := by rw [hwA]; simp
  have a0 : wA.heap[w.heap.size]? = some (.cells (nodeCells n A c) 26 (0, 0)) := by rw [hwA, alloc_old _ _ _ (by simp; omega), alloc_old _ _ _ (by simp; omega), alloc_old _ _ _ (by simp), alloc_at _ _ _ rfl]
  have a1 : wA.heap[w.heap.size + 1]? = some (.cells #[.int .i64 off] 3 (0, 0)) := by rw [hwA, alloc_old _ _ _ (by simp), alloc_old _ _ _ (by simp), alloc_at _ _ _ (by simp)]
  have a2 : wA.heap[w.heap.size + 2]? = some (.cells #[.slice none 0 0] 51 (0, 0)) := by rw [hwA, alloc_old _ _ _ (by simp), alloc_at _ _ _ (by simp)]
  have a3 : wA.heap[w.heap.size + 3]? = some (.cells #[.int .i64 0] 29 (0, 0)) := by rw [hwA, alloc_at _ _ _ (by simp)]
  have hIF := IsFormed_any n _ wA hC (hT.below hBA) (hV0.below hBA)
  have hWd := fun w1 (h : Below wA.heap.size wA w1) => width_any n _ w1 hC hS (hV0.below (hBA.trans (h.mono hBA.size)))
  have HA := Lib.hid (show _ ∧ _ ∧ _ ∧ _ ∧ _ ∧ _ ∧ _ ∧ _ ∧ _ ∧ _ from ⟨hBA, hsA, a0, a1, a2, a3, hk, hC, hE, hS⟩)
  have HWd := Lib.hid hWd
  have hgoA : ∀ (P : World → Prop), P wA → P ((((w.alloc (.cells (nodeCells n A c) 26)).alloc (.cells #[.int .i64 off] 3)).alloc (.cells #[.slice none 0 0] 51)).alloc (.cells #[.int .i64 0] 29)) := fun P h => by rw [← hwA]; exact h
  clear hBA hsA a0 a1 a2 a3 hT hV0 hk hC hE hS hWd hwA
  refine (callsIn_wide (n := 9)).1 ?_
  refine callsIn_of_wp_marks Tryd.func44 rfl trivial ?_ rfl
  simp only [Tryd.ntmps44, List.size_toArray, List.length_cons, List.length_nil, Nat.reduceAdd, Nat.reduceSub, Array.replicate_succ, Array.replicate_zero, List.push_toArray, List.append_toArray, List.nil_append, List.cons_append]
  refine wpIn_wide.2 ?_
  go_wp2_with (go_at_call 21; fail)
  refine hgoA (fun W => Calls Tryd.prog 21 _ W _) ?_
  refine hIF.mono ?_
  clear hIF hgoA
  rintro e w1 ⟨rfl, hb1⟩
  have hs1 : w.heap.size + 4 ≤ w1.heap.size := by have := hb1.size; rw [HA.out.2.1] at this; exact this
  have g1 : ∀ b, b < w.heap.size + 4 → w1.heap[b]? = wA.heap[b]? := fun b h => hb1.block b (by rw [HA.out.2.1]; exact h)
  have b0 := (g1 _ (by omega)).trans HA.out.2.2.1
  have b1 := (g1 _ (by omega)).trans HA.out.2.2.2.1
  have b2 := (g1 _ (by omega)).trans HA.out.2.2.2.2.1
  have b3 := (g1 _ (by omega)).trans HA.out.2.2.2.2.2.1
  have hBw1 : Below w.heap.size w w1 := HA.out.1.trans (hb1.mono HA.out.1.size)
  obtain ⟨n0, n1, n2, n3⟩ := cells_of_block b0
  have l2 : w1.cell? ⟨w.heap.size + 1 + 1, 0, none⟩ = some (.slice none 0 0) := Lib.cell_of_heap b2 0
  have l3 : w1.cell? ⟨w.heap.size + 1 + 1 + 1, 0, none⟩ = some (.int .i64 0) := Lib.cell_of_heap b3 0
  have f2 : w1.frozen? ⟨w.heap.size + 1 + 1, 0, none⟩ = false := frozen_block b2
  have f3 : w1.frozen? ⟨w.heap.size + 1 + 1 + 1, 0, none⟩ = false := frozen_block b3
  have HB1 := Lib.hid (show _ ∧ _ ∧ _ ∧ _ ∧ _ ∧ _ ∧ _ from ⟨hBw1, hs1, b0, b1, b2, b3, hb1⟩)
  have hne23 : w.heap.size + 1 + 1 + 1 ≠ w.heap.size + 1 + 1 := by omega
  clear g1 b0 b1 b2 b3 hBw1 hb1
  dsimp only
  cases hf : formedB n with
  | false =>
    have hr : findR n off = (4, []) := by simp [findR, hf]
    have HR := Lib.hid hr
    clear hr hf hs1
    go_wp2_with fail
    rw [HR.out]
    obtain ⟨s2, s3, sB, _⟩ := two_set (v := .slice none 0 0) (er := .int .i64 4) HB1.out.1 HB1.out.2.2.2.2.1 HB1.out.2.2.2.2.2.1
    have q2 := Lib.cell_of_heap s2 0
    have q3 := Lib.cell_of_heap s3 0
    exact ⟨.tuple #[.slice none 0 0, .int .i64 4], by simp [results, Tryd.f44, go_sem, q2, q3], _, rfl, World.ownsRow_nil _ _ _ _, sB⟩
  | true =>
    have HF := Lib.hid hf
    clear hf hs1 l2 l3 f2 f3
    go_wp2_with (go_at_call 60; fail)
    refine (HWd.out w1 HB1.out.2.2.2.2.2.2).mono ?_
    rintro e w2 ⟨rfl, hb2⟩
    have hs2 : w1.heap.size ≤ w2.heap.size := hb2.size
    have g1 : ∀ b, b < w.heap.size + 4 → w2.heap[b]? = w1.heap[b]? := fun b h => hb2.block b (Nat.lt_of_lt_of_le h HB1.out.2.1)
    have b0 := (g1 _ (by omega)).trans HB1.out.2.2.1
    have b1 := (g1 _ (by omega)).trans HB1.out.2.2.2.1
    have b2 := (g1 _ (by omega)).trans HB1.out.2.2.2.2.1
    have b3 := (g1 _ (by omega)).trans HB1.out.2.2.2.2.2.1
    have hBw2 : Below w.heap.size w w2 := HB1.out.1.trans (hb2.mono HB1.out.1.size)
    obtain ⟨n0', n1', n2', n3'⟩ := cells_of_block b0
    have m1 : w2.cell? ⟨w.heap.size + 1, 0, none⟩ = some (.int .i64 off) := Lib.cell_of_heap b1 0
    have m2 : w2.cell? ⟨w.heap.size + 1 + 1, 0, none⟩ = some (.slice none 0 0) := Lib.cell_of_heap b2 0
    have m3 : w2.cell? ⟨w.heap.size + 1 + 1 + 1, 0, none⟩ = some (.int .i64 0) := Lib.cell_of_heap b3 0
    have f2 : w2.frozen? ⟨w.heap.size + 1 + 1, 0, none⟩ = false := frozen_block b2
    have f3 : w2.frozen? ⟨w.heap.size + 1 + 1 + 1, 0, none⟩ = false := frozen_block b3
    have hlt4 : w.heap.size + 4 ≤ w2.heap.size := Nat.le_trans HB1.out.2.1 hs2
    have k0 : w.heap.size < w2.heap.size := by omega
    have k1 : w.heap.size + 1 < w2.heap.size := by omega
    have k2 : w.heap.size + 1 + 1 < w2.heap.size := by omega
    have k3 : w.heap.size + 1 + 1 + 1 < w2.heap.size := by omega
    have HB2 := Lib.hid (show _ ∧ _ ∧ _ ∧ _ ∧ _ ∧ _ from ⟨hBw2, hlt4, b0, b1, b2, b3⟩)
    clear g1 b0 b1 b2 b3 hBw2 hb2 hs2 hlt4 n0 n1 n2 n3
    dsimp only
    have hend2 : ∀ hr : findR n off = (2, []), ∃ x : Unit, True := fun _ => ⟨(), trivial⟩
    clear hend2
    by_cases hlo : off < 0
    · have hr : findR n off = (2, []) := by simp [findR, HF.out, hlo]
      have hd1 : decide (off < 0) = true := decide_eq_true hlo
      have HR := Lib.hid hr
      clear hr hlo
      go_wp2_with fail
      rw [HR.out]
      obtain ⟨s2, s3, sB, _⟩ := two_set (v := .slice none 0 0) (er := .int .i64 2) HB2.out.1 HB2.out.2.2.2.2.1 HB2.out.2.2.2.2.2
      have hx2 : w.heap.size + 3 < ((w2.setCell ⟨w.heap.size + 2, 0, none⟩ (.slice none 0 0)).setCell ⟨w.heap.size + 3, 0, none⟩ (.int .i64 2)).heap.size := (Array.getElem?_eq_some_iff.1 s3).1
      have q2 := Lib.cell_of_heap ((alloc_old _ (.cells #[.int .i64 (sumT (leavesN n) : Nat)] 3) _ (Nat.lt_of_succ_lt hx2)).trans s2) 0
      have q3 := Lib.cell_of_heap ((alloc_old _ (.cells #[.int .i64 (sumT (leavesN n) : Nat)] 3) _ hx2).trans s3) 0
      exact ⟨.tuple #[.slice none 0 0, .int .i64 2], by simp [results, Tryd.f44, go_sem, q2, q3], _, rfl, World.ownsRow_nil _ _ _ _, sB.alloc sB.size _⟩
    · have hd1 : decide (off < 0) = false := decide_eq_false hlo
      by_cases hhi : (sumT (leavesN n) : Int) < off
      · have hr : findR n off = (2, []) := by simp [findR, HF.out, hhi]
        have hd2 : decide ((sumT (leavesN n) : Int) < off) = true := decide_eq_true hhi
        have HR := Lib.hid hr
        clear hr hlo hhi
        go_wp2_with fail
        rw [HR.out]
        obtain ⟨s2, s3, sB, _⟩ := two_set (v := .slice none 0 0) (er := .int .i64 2) HB2.out.1 HB2.out.2.2.2.2.1 HB2.out.2.2.2.2.2
        have hx2 : w.heap.size + 3 < ((w2.setCell ⟨w.heap.size + 2, 0, none⟩ (.slice none 0 0)).setCell ⟨w.heap.size + 3, 0, none⟩ (.int .i64 2)).heap.size := (Array.getElem?_eq_some_iff.1 s3).1
        have q2 := Lib.cell_of_heap ((alloc_old _ (.cells #[.int .i64 (sumT (leavesN n) : Nat)] 3) _ (Nat.lt_of_succ_lt hx2)).trans s2) 0
        have q3 := Lib.cell_of_heap ((alloc_old _ (.cells #[.int .i64 (sumT (leavesN n) : Nat)] 3) _ hx2).trans s3) 0
        exact ⟨.tuple #[.slice none 0 0, .int .i64 2], by simp [results, Tryd.f44, go_sem, q2, q3], _, rfl, World.ownsRow_nil _ _ _ _, sB.alloc sB.size _⟩
      · have hr : findR n off = match findL off (sumT (leavesN n)) 0 (walkN [] n) with | some p => (0, p) | none => (5, []) := by simp [findR, HF.out, hhi, hlo]
        have hd2 : decide ((sumT (leavesN n) : Int) < off) = false := decide_eq_false hhi
        have HR := Lib.hid hr
        clear hr hlo hhi m2 m3 f2 f3
        go_wp2_with (go_at_call 62; refine (walk_any n A c _).mono ?_; rintro e w' ⟨rfl, rfl⟩)
        obtain ⟨hBw2, hlt4, b0, b1, b2, b3⟩ := HB2.out
        obtain ⟨_, _, _, _, _, _, hk, hC, hE, hS⟩ := HA.out
        obtain ⟨S, hSz⟩ : ∃ S, S = w2.heap.size := ⟨_, rfl⟩
        obtain ⟨W0, hW0⟩ : ∃ W0, W0 = ((w2.alloc (.cells #[.int .i64 (sumT (leavesN n) : Nat)] 3)).alloc (.cells #[.int .i64 0] 3)).alloc (.cells (nodeCells n A c) 26) := ⟨_, rfl⟩
        have hB0' : Below w2.heap.size w2 W0 := by rw [hW0]; exact (((Below.refl _ _).alloc (Nat.le_refl _) _).alloc (by simp) _).alloc (by simp; omega) _
        have hB0 : Below w.heap.size w W0 := hBw2.trans (hB0'.mono hBw2.size)
        have hs0 : W0.heap.size = w2.heap.size + 3 := by rw [hW0]; simp
        have e1 : W0.heap[w.heap.size + 1]? = some (.cells #[.int .i64 off] 3 (0, 0)) := (hB0'.block _ (by omega)).trans b1
        have e2 : W0.heap[w.heap.size + 2]? = some (.cells #[.slice none 0 0] 51 (0, 0)) := (hB0'.block _ (by omega)).trans b2
        have e3 : W0.heap[w.heap.size + 3]? = some (.cells #[.int .i64 0] 29 (0, 0)) := (hB0'.block _ (by omega)).trans b3
        have e4 : W0.heap[w2.heap.size]? = some (.cells #[.int .i64 (sumT (leavesN n) : Nat)] 3 (0, 0)) := by rw [hW0, alloc_old _ _ _ (by simp; omega), alloc_old _ _ _ (by simp), alloc_at _ _ _ rfl]
        have e5 : W0.heap[w2.heap.size + 1]? = some (.cells #[.int .i64 0] 3 (0, 0)) := by rw [hW0, alloc_old _ _ _ (by simp), alloc_at _ _ _ (by simp)]
        have e6 : W0.heap[w2.heap.size + 2]? = some (.cells (nodeCells n A c) 26 (0, 0)) := by rw [hW0, alloc_at _ _ _ (by simp)]
        obtain ⟨c0, c1, c2, c3⟩ := cells_of_block e6
        have hM0 : Mine (w2.heap.size + 3) w (fun _ => False) W0 := ⟨fun b hb => hb.elim, hB0, by omega, by omega⟩
        refine (wpIn_wide (n := 9)).1 ?_
        have hgo : ∀ (Q : Exit → Act → World → Prop) (a : Act) (g : Operand) (ps : Array Tmp) (assign body : Code), (Code.rangeFunc g ps assign body).wpIn Fence.wide 9 Tryd.prog Q a W0 → (Code.rangeFunc g ps assign body).wpIn Fence.wide 9 Tryd.prog Q a (((w2.alloc (.cells #[.int .i64 (sumT (leavesN n) : Nat)] 3)).alloc (.cells #[.int .i64 0] 3)).alloc (.cells (nodeCells n A c) 26)) := fun _ _ _ _ _ _ h => by rw [← hW0]; exact h
        refine hgo _ _ _ _ _ _ ?_
        clear hgo hW0
        refine wpIn_rangeT rfl (by decide) (gf := 84) (lb := #[.pointer (some ⟨w2.heap.size + 2, 0, none⟩)]) rfl trivial (enters_of Tryd.func84 (by kernel_rfl) rfl)
          (walk1_gives w n hC (w2.heap.size + 2) A c (9 - 1) (by decide) W0 hB0 (by omega) c0 c1 c2 c3 hk) (Below.refl _ _) hB0.size EnW.keep (fun O x W args h => EnW.size O x W args h)
          (fun k O W => Mine (w2.heap.size + 3) w O W ∧ W.heap[w.heap.size + 1]? = some (.cells #[.int .i64 off] 3 (0, 0)) ∧ W.heap[w.heap.size + 2]? = some (.cells #[.slice none 0 0] 51 (0, 0)) ∧ W.heap[w.heap.size + 3]? = some (.cells #[.int .i64 0] 29 (0, 0)) ∧ W.heap[w2.heap.size]? = some (.cells #[.int .i64 (sumT (leavesN n) : Nat)] 3 (0, 0)) ∧
            W.heap[w2.heap.size + 1]? = some (.cells #[.int .i64 (endW ((walkN [] n).take k) : Nat)] 3 (0, 0)) ∧ findL off (sumT (leavesN n)) 0 (walkN [] n) = findL off (sumT (leavesN n)) (endW ((walkN [] n).take k)) ((walkN [] n).drop k))
          (fun cd k O W => cd = .ret ∧ Mine (w2.heap.size + 3) w O W ∧ ∃ v' p, W.heap[w.heap.size + 2]? = some (.cells #[v'] 51 (0, 0)) ∧ W.heap[w.heap.size + 3]? = some (.cells #[.int .i64 0] 29 (0, 0)) ∧ findL off (sumT (leavesN n)) 0 (walkN [] n) = some p ∧ W.ownsRow w.heap.size 3 1 v' p.length (intCells p) ∧ ∀ g, v'.ownBlock = some g → ¬ O g)
          (fun k O O' W W' h ht hg => ⟨h.1.turns ht hg, (h.1.block ht (by omega)).trans h.2.1, (h.1.block ht (by omega)).trans h.2.2.1, (h.1.block ht (by omega)).trans h.2.2.2.1, (h.1.block ht (by omega)).trans h.2.2.2.2.1, (h.1.block ht (by omega)).trans h.2.2.2.2.2.1, h.2.2.2.2.2.2⟩)
          ?ab2 ⟨hM0, e1, e2, e3, e4, by rw [e5]; simp [endW], by simp [endW]⟩ ?round ?done ?stop
        case ab2 =>
          rintro cd k O O' W W' ⟨rfl, hM, v', p, h2, h3, h4, h5, h6⟩ ht hg
          exact ⟨rfl, hM.turns ht hg, v', p, (hM.block ht (by omega)).trans h2, (hM.block ht (by omega)).trans h3, h4, own_same h5 (fun g e => ht.block g (h5.lt g e).2 (h6 g e)), fun g e ho => (hg g ho).elim (h6 g e) (fun h => by have := (h5.lt g e).2; omega)⟩
        case round =>
          rintro l k O ⟨p, x⟩ args W hO hn ⟨hM, q1, q2, q3, q4, q5, hfl⟩ hx ⟨pv, Ak, ck, rfl, hkv, hpos, hpo⟩
          simp only at hpos hkv
          obtain ⟨a0, cp, rfl⟩ := own_slice hpos
          gi_wp2
          refine ⟨(Below.refl _ _).alloc (Nat.le_refl _) _, fun W2 hT2 hs2' hi2 he2 => ?_⟩
          have hbx : W2.heap[W.heap.size]? = some (.cells (nodeCells x Ak ck) 26 (0, 0)) := (hT2.block _ (by simp) (fun h => Nat.lt_irrefl _ (hO _ h))).trans (alloc_at _ _ _ rfl)
          obtain ⟨d0, d1, d2, d3⟩ := cells_of_block hbx
          obtain ⟨hM2, r1, r2, r3, r4, r5, hfl2⟩ := hi2
          clear hfl2
          have hpos2 : W2.ownsRow 0 3 1 (.slice a0 p.length cp) p.length (intCells p) := by
            obtain ⟨pv', A2', c2', he, _, hp2, _⟩ := he2
            have : (Value.slice a0 p.length cp) = pv' := by have := congrArg (fun a => a[0]?) he; simpa using this
            rw [this]; exact hp2
          have l1 : W2.cell? ⟨w.heap.size + 1, 0, none⟩ = some (.int .i64 off) := Lib.cell_of_heap r1 0
          have l4 : W2.cell? ⟨w2.heap.size, 0, none⟩ = some (.int .i64 (sumT (leavesN n) : Nat)) := Lib.cell_of_heap r4 0
          have l5 : W2.cell? ⟨w2.heap.size + 1, 0, none⟩ = some (.int .i64 (endW ((walkN [] n).take k) : Nat)) := Lib.cell_of_heap r5 0
          have f5 : W2.frozen? ⟨w2.heap.size + 1, 0, none⟩ = false := frozen_block r5
          have hst := endW_take hx
          have hwr : wrap64 ((endW ((walkN [] n).take k) : Int) + (x.tok.2.size : Int)) = (endW ((walkN [] n).take k) : Int) + (x.tok.2.size : Int) := wrapEnd (by rw [← hst]; exact endW_le _ _) hE
          have hM3 := hM2.set (b := w2.heap.size + 1) (j := 0) (.int .i64 ((endW ((walkN [] n).take k) : Int) + (x.tok.2.size : Int))) (by omega) (by omega)
          have s1 := (block_other (W := W2) (b := w.heap.size + 1) (b' := w2.heap.size + 1) (j := 0) (v := .int .i64 ((endW ((walkN [] n).take k) : Int) + (x.tok.2.size : Int))) (by omega)).trans r1
          have s2 := (block_other (W := W2) (b := w.heap.size + 2) (b' := w2.heap.size + 1) (j := 0) (v := .int .i64 ((endW ((walkN [] n).take k) : Int) + (x.tok.2.size : Int))) (by omega)).trans r2
          have s3 := (block_other (W := W2) (b := w.heap.size + 3) (b' := w2.heap.size + 1) (j := 0) (v := .int .i64 ((endW ((walkN [] n).take k) : Int) + (x.tok.2.size : Int))) (by omega)).trans r3
          have s4 := (block_other (W := W2) (b := w2.heap.size) (b' := w2.heap.size + 1) (j := 0) (v := .int .i64 ((endW ((walkN [] n).take k) : Int) + (x.tok.2.size : Int))) (by omega)).trans r4
          have s5 := set_block (v := .int .i64 ((endW ((walkN [] n).take k) : Int) + (x.tok.2.size : Int))) r5
          have sp := own_same (w' := W2.setCell ⟨w2.heap.size + 1, 0, none⟩ (.int .i64 ((endW ((walkN [] n).take k) : Int) + (x.tok.2.size : Int)))) hpos2 (fun g e => block_other (by have := hM2.far g (by obtain ⟨pv', A2', c2', he, _, _, ho⟩ := he2; have h' : (Value.slice a0 p.length cp) = pv' := (by have := congrArg (fun a => a[0]?) he; simpa using this); exact ho g (by rw [← h']; exact e)); omega))
          have hOs : ∀ b, O b → b < (W2.setCell ⟨w2.heap.size + 1, 0, none⟩ (.int .i64 ((endW ((walkN [] n).take k) : Int) + (x.tok.2.size : Int)))).heap.size := fun b hb => by have h1 := hO b hb; simp [World.setCell]; rw [hs2']; simp; omega
          have hpl : p.length ≤ 10000000 := by
            have h1 := longW_mem (List.mem_of_getElem? hx)
            have h2 := (atN_small_len n)
            rw [longW_walkN] at h1
            simp at h1
            unfold sizeN at hC
            omega
          have hcl := CloneInts_any p _ _ hpl sp
          have hstep := hfl.trans (findL_step hx)
          have n5 : w2.heap.size ≠ w2.heap.size + 1 := by omega
          have n6 : w.heap.size + 1 ≠ w2.heap.size + 1 := by omega
          have n7 : W.heap.size ≠ w2.heap.size + 1 := by have := hM.size; omega
          have hsq : w.heap.size ≤ (W2.setCell ⟨w2.heap.size + 1, 0, none⟩ (.int .i64 ((endW ((walkN [] n).take k) : Int) + (x.tok.2.size : Int)))).heap.size := hM3.1.below.size
          have HX := Lib.hid (show _ ∧ _ ∧ _ ∧ _ ∧ _ ∧ _ ∧ _ ∧ _ ∧ _ ∧ _ ∧ _ from ⟨hM3, s1, s2, s3, s4, s5, hst, hstep, hOs, hsq, hx⟩)
          have HCl := Lib.hid hcl
          clear hM3 s1 s2 s3 s4 s5 hst hstep hOs hsq hcl sp hpos2 hM2 r1 r2 r3 r4 r5 hbx hT2 hs2' he2 hM q1 q2 q3 q4 q5 hfl hx hpos hpo hkv hO hn hpl hB0' hB0 hs0 e1 e2 e3 e4 e5 e6 c0 c1 c2 c3 hM0 hk hC hE hS b0 b1 b2 b3 hBw2 hlt4 k1 k2 k3 m1 n0' n1' n2' n3' HR hd1 hd2
          have hnohit : hitF off (sumT (leavesN n)) (endW ((walkN [] n).take (k + 1))) x = false → Keep w.heap.size O W2 (W2.setCell ⟨w2.heap.size + 1, 0, none⟩ (.int .i64 ((endW ((walkN [] n).take k) : Int) + (x.tok.2.size : Int)))) ∧ Mine (w2.heap.size + 3) w O (W2.setCell ⟨w2.heap.size + 1, 0, none⟩ (.int .i64 ((endW ((walkN [] n).take k) : Int) + (x.tok.2.size : Int)))) ∧ (W2.setCell ⟨w2.heap.size + 1, 0, none⟩ (.int .i64 ((endW ((walkN [] n).take k) : Int) + (x.tok.2.size : Int)))).heap[w.heap.size + 1]? = some (.cells #[.int .i64 off] 3 (0, 0)) ∧ (W2.setCell ⟨w2.heap.size + 1, 0, none⟩ (.int .i64 ((endW ((walkN [] n).take k) : Int) + (x.tok.2.size : Int)))).heap[w.heap.size + 2]? = some (.cells #[.slice none 0 0] 51 (0, 0)) ∧ (W2.setCell ⟨w2.heap.size + 1, 0, none⟩ (.int .i64 ((endW ((walkN [] n).take k) : Int) + (x.tok.2.size : Int)))).heap[w.heap.size + 3]? = some (.cells #[.int .i64 0] 29 (0, 0)) ∧ (W2.setCell ⟨w2.heap.size + 1, 0, none⟩ (.int .i64 ((endW ((walkN [] n).take k) : Int) + (x.tok.2.size : Int)))).heap[w2.heap.size]? = some (.cells #[.int .i64 (sumT (leavesN n) : Nat)] 3 (0, 0)) ∧
            (W2.setCell ⟨w2.heap.size + 1, 0, none⟩ (.int .i64 ((endW ((walkN [] n).take k) : Int) + (x.tok.2.size : Int)))).heap[w2.heap.size + 1]? = some (.cells #[.int .i64 (endW ((walkN [] n).take (k + 1)) : Nat)] 3 (0, 0)) ∧ findL off (sumT (leavesN n)) 0 (walkN [] n) = findL off (sumT (leavesN n)) (endW ((walkN [] n).take (k + 1))) ((walkN [] n).drop (k + 1)) := fun h => by
            obtain ⟨hM3, s1, s2, s3, s4, s5, hst, hstep, hOs, hsq, hx⟩ := HX.out
            rw [h] at hstep
            exact ⟨hM3.2, hM3.1, s1, s2, s3, s4, by rw [s5, hst]; simp, hstep⟩
          have HN := Lib.hid hnohit
          clear hnohit
          have hff : ∀ wp : World, Below (W2.setCell ⟨w2.heap.size + 1, 0, none⟩ (.int .i64 ((endW ((walkN [] n).take k) : Int) + (x.tok.2.size : Int)))).heap.size (W2.setCell ⟨w2.heap.size + 1, 0, none⟩ (.int .i64 ((endW ((walkN [] n).take k) : Int) + (x.tok.2.size : Int)))) wp → wp.frozen? ⟨w.heap.size + 1 + 1, 0, none⟩ = false := fun wp h => frozen_block ((h.block (w.heap.size + 2) (Array.getElem?_eq_some_iff.1 HX.out.2.2.1).1).trans HX.out.2.2.1)
          have hf3 : ∀ wp : World, Below (W2.setCell ⟨w2.heap.size + 1, 0, none⟩ (.int .i64 ((endW ((walkN [] n).take k) : Int) + (x.tok.2.size : Int)))).heap.size (W2.setCell ⟨w2.heap.size + 1, 0, none⟩ (.int .i64 ((endW ((walkN [] n).take k) : Int) + (x.tok.2.size : Int)))) wp → wp.frozen? ⟨w.heap.size + 1 + 1 + 1, 0, none⟩ = false := fun wp h => frozen_block ((h.block (w.heap.size + 3) (Array.getElem?_eq_some_iff.1 HX.out.2.2.2.1).1).trans HX.out.2.2.2.1)
          have hc2 : ∀ wp : World, Below (W2.setCell ⟨w2.heap.size + 1, 0, none⟩ (.int .i64 ((endW ((walkN [] n).take k) : Int) + (x.tok.2.size : Int)))).heap.size (W2.setCell ⟨w2.heap.size + 1, 0, none⟩ (.int .i64 ((endW ((walkN [] n).take k) : Int) + (x.tok.2.size : Int)))) wp → wp.cell? ⟨w.heap.size + 1 + 1, 0, none⟩ = some (.slice none 0 0) := fun wp h => Lib.cell_of_heap ((h.block (w.heap.size + 2) (Array.getElem?_eq_some_iff.1 HX.out.2.2.1).1).trans HX.out.2.2.1) 0
          have hc3 : ∀ wp : World, Below (W2.setCell ⟨w2.heap.size + 1, 0, none⟩ (.int .i64 ((endW ((walkN [] n).take k) : Int) + (x.tok.2.size : Int)))).heap.size (W2.setCell ⟨w2.heap.size + 1, 0, none⟩ (.int .i64 ((endW ((walkN [] n).take k) : Int) + (x.tok.2.size : Int)))) wp → wp.cell? ⟨w.heap.size + 1 + 1 + 1, 0, none⟩ = some (.int .i64 0) := fun wp h => Lib.cell_of_heap ((h.block (w.heap.size + 3) (Array.getElem?_eq_some_iff.1 HX.out.2.2.2.1).1).trans HX.out.2.2.2.1) 0
          have HFF := Lib.hid (show _ ∧ _ ∧ _ ∧ _ from ⟨hff, hf3, hc2, hc3⟩)
          clear hff hf3 hc2 hc3
          have hen : (endW ((walkN [] n).take (k + 1)) : Int) = ((endW ((walkN [] n).take k) : Int) + (x.tok.2.size : Int)) := by rw [HX.out.2.2.2.2.2.2.1]; simp
          by_cases hk1 : x.kind = 1
          · by_cases ho : off < ((endW ((walkN [] n).take k) : Int) + (x.tok.2.size : Int))
            · have hd6 : decide (off < ((endW ((walkN [] n).take k) : Int) + (x.tok.2.size : Int))) = true := decide_eq_true ho
              have hh : hitF off (sumT (leavesN n)) (endW ((walkN [] n).take (k + 1))) x = true := by unfold hitF; rw [hen, hd6]; simp [hk1]
              clear ho hen
              have hfnd : findL off (sumT (leavesN n)) 0 (walkN [] n) = some p := by
                have h := HX.out.2.2.2.2.2.2.2.1
                rw [hh] at h
                exact h
              have HFN := Lib.hid hfnd
              clear hfnd hh
              gi_wp2_with (first | (gi_at_call 74; refine (CallsIn.inRound l ((callsIn_wide (n := 6)).2 HCl.out)).mono ?_; rintro e w4 ⟨v', rfl, hown, hb4⟩; obtain ⟨av, cv, rfl⟩ := own_slice hown; have g2 := HFF.out.1 w4 hb4; have g3 := HFF.out.2.1 w4 hb4; have g4 := HFF.out.2.2.1 w4 hb4; have g5 := HFF.out.2.2.2 w4 hb4) | (refine And.intro (show Fence.wide.fn 74 from trivial) ?_))
              exact find_hit HX.out.1.2 HX.out.1.1 HX.out.2.2.1 HX.out.2.2.2.1 HX.out.2.2.2.2.2.2.2.2.1 HX.out.2.2.2.2.2.2.2.2.2.1 (by omega) hown hb4 HFN.out
            have hd6 : decide (off < ((endW ((walkN [] n).take k) : Int) + (x.tok.2.size : Int))) = false := decide_eq_false ho
            by_cases hz : ((endW ((walkN [] n).take k) : Int) + (x.tok.2.size : Int)) = (sumT (leavesN n) : Int)
            · have hd7 : (((endW ((walkN [] n).take k) : Int) + (x.tok.2.size : Int)) == (sumT (leavesN n) : Int)) = true := by rw [hz]; simp
              have hh : hitF off (sumT (leavesN n)) (endW ((walkN [] n).take (k + 1))) x = true := by unfold hitF; rw [hen, hd6]; simp [hk1, hz]
              clear ho hen hz
              have hfnd : findL off (sumT (leavesN n)) 0 (walkN [] n) = some p := by
                have h := HX.out.2.2.2.2.2.2.2.1
                rw [hh] at h
                exact h
              have HFN := Lib.hid hfnd
              clear hfnd hh
              gi_wp2_with (first | (gi_at_call 74; refine (CallsIn.inRound l ((callsIn_wide (n := 6)).2 HCl.out)).mono ?_; rintro e w4 ⟨v', rfl, hown, hb4⟩; obtain ⟨av, cv, rfl⟩ := own_slice hown; have g2 := HFF.out.1 w4 hb4; have g3 := HFF.out.2.1 w4 hb4; have g4 := HFF.out.2.2.1 w4 hb4; have g5 := HFF.out.2.2.2 w4 hb4) | (refine And.intro (show Fence.wide.fn 74 from trivial) ?_))
              exact find_hit HX.out.1.2 HX.out.1.1 HX.out.2.2.1 HX.out.2.2.2.1 HX.out.2.2.2.2.2.2.2.2.1 HX.out.2.2.2.2.2.2.2.2.2.1 (by omega) hown hb4 HFN.out
            have hd7 : (((endW ((walkN [] n).take k) : Int) + (x.tok.2.size : Int)) == (sumT (leavesN n) : Int)) = false := by simpa using hz
            have hh : hitF off (sumT (leavesN n)) (endW ((walkN [] n).take (k + 1))) x = false := by unfold hitF; rw [hen, hd6]; simp [hk1, hz]
            have HH := Lib.hid hh
            clear ho hen hz hh
            gi_wp2_with (first | (refine And.intro (show Fence.wide.fn 74 from trivial) ?_))
            exact HN.out HH.out
          · have hkb : (x.kind == 1) = false := by simpa using hk1
            have hh : hitF off (sumT (leavesN n)) (endW ((walkN [] n).take (k + 1))) x = false := by unfold hitF; simp [hk1]
            have HH := Lib.hid hh
            clear hen hh
            gi_wp2_with (first | (refine And.intro (show Fence.wide.fn 74 from trivial) ?_))
            exact HN.out HH.out
        case done =>
          rintro D O W hD _ ⟨hM, q1, q2, q3, q4, q5, hfl⟩ hKD
          rw [List.drop_length] at hfl
          have hr2 : findR n off = (5, []) := by rw [HR.out, hfl]; rfl
          obtain ⟨s2, s3, sB, so⟩ := two_set (v := .slice none 0 0) (er := .int .i64 5) hM.below q2 q3
          have hKD2 := (so D (by omega) (by omega)).trans hKD
          have m2 : W.cell? ⟨w.heap.size + 1 + 1, 0, none⟩ = some (.slice none 0 0) := Lib.cell_of_heap q2 0
          have m3 : W.cell? ⟨w.heap.size + 1 + 1 + 1, 0, none⟩ = some (.int .i64 0) := Lib.cell_of_heap q3 0
          have f2 : W.frozen? ⟨w.heap.size + 1 + 1, 0, none⟩ = false := frozen_block q2
          have f3 : W.frozen? ⟨w.heap.size + 1 + 1 + 1, 0, none⟩ = false := frozen_block q3
          have HR2 := Lib.hid hr2
          clear hr2 hfl q1 q2 q3 q4 q5 HR hd1 hd2 k0 k1 k2 k3 m1 n0' n1' n2' n3'
          go_wp2_with fail
          rw [HR2.out]
          refine ⟨by simp, .inl ⟨_, _, rfl, run_takeDeferred hKD2, ?_⟩⟩
          have z2 := Lib.cell_of_heap ((World.putObj_heap_other (o := .deferred none) (show w.heap.size + 2 ≠ D by omega)).trans s2) 0
          have z3 := Lib.cell_of_heap ((World.putObj_heap_other (o := .deferred none) (show w.heap.size + 3 ≠ D by omega)).trans s3) 0
          exact ⟨.tuple #[.slice none 0 0, .int .i64 5], by simp [results, Tryd.f44, go_sem, z2, z3], _, rfl, World.ownsRow_nil _ _ _ _, sB.trans ⟨rfl, rfl, rfl, by simp, fun b hb => World.putObj_heap_other (by omega)⟩⟩
        case stop =>
          rintro D O cd k W hD hOD hkl ⟨rfl, hM, v', p, h2, h3, h4, h5, h6⟩ hKD
          have hr2 : findR n off = (0, p) := by rw [HR.out, h4]
          have HR2 := Lib.hid hr2
          clear hr2 HR hd1 hd2 k0 k1 k2 k3 m1 n0' n1' n2' n3'
          gi_wp2
          rw [HR2.out]
          refine ⟨by simp, .inl ⟨_, _, rfl, run_takeDeferred hKD, ?_⟩⟩
          have z2 := Lib.cell_of_heap ((World.putObj_heap_other (o := .deferred none) (show w.heap.size + 2 ≠ D by omega)).trans h2) 0
          have z3 := Lib.cell_of_heap ((World.putObj_heap_other (o := .deferred none) (show w.heap.size + 3 ≠ D by omega)).trans h3) 0
          exact ⟨.tuple #[v', .int .i64 0], by simp [results, Tryd.f44, go_sem, z2, z3], _, rfl, own_same h5 (fun g e => World.putObj_heap_other (fun hgd => h6 g e (by rw [hgd]; exact hOD))), hM.below.trans ⟨rfl, rfl, rfl, by simp, fun b hb => World.putObj_heap_other (by omega)⟩⟩
end Go.Proofs.YtpjlgahbbmlngaaDoor
