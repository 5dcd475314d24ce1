/-
  The contract of the specification's One.; Trees: the specification's cut: what a round leaves.
-/
import Derived.Test.YtpjlgahbbmlngaaDoorTreeLeavesp27
import Derived.Test.YtpjlgahbbmlngaaDoorTreeLeavesp5
import Derived.Test.YtpjlgahbbmlngaaDoorTreeLeavesp11
import Derived.Deep.RegionHeld3
import Derived.Lib.Builder
import Derived.BigRegion
import Derived.Handy
namespace Go.Proofs.YtpjlgahbbmlngaaDoor
set_option linter.unusedVariables false
set_option linter.unusedSimpArgs false
open Go.RowKit

set_option maxRecDepth 100000 in
set_option maxHeartbeats 1000000 in
theorem One_any (k : Int) (s : ByteArray) (w : World) (hs : s.size ≤ maxLen) :
    Calls Tryd.prog 101 #[.agg #[.int .i64 k, .string s]] w fun e w' => e = .returned (.agg #[.int .i64 k, .string (shortT s)]) ∧ Below w.heap.size w w' := by
  unfold maxLen at hs
  have hsh : shortT s = s.extract 0 (min s.size 20001) := rfl
  have hm : min (s.size : Int) 20001 = ((min s.size 20001 : Nat) : Int) := by omega
  have hle : min s.size 20001 ≤ s.size := Nat.min_le_left _ _
  rcases Nat.lt_or_ge 20001 s.size with h | h
  · have hmm : min s.size 20001 = 20001 := by omega
    rw [hmm] at hsh hm hle
    have Hsh := Lib.hid hsh
    have h1 : (20001 : Int) < (s.size : Int) := by omega
    have h2 : (20001 : Int) ≤ (s.size : Int) := by omega
    clear hsh hmm
    go_enter Tryd.func101, Tryd.ntmps101
    go_wp2_with fail
    obtain ⟨w2, hw2⟩ : ∃ w2, w2 = (w.alloc (.cells #[.int .i64 k, .string s] 23)).alloc (.cells #[.int .i64 0, .string { data := #[] }] 23) := ⟨_, rfl⟩
    have hB : Below w.heap.size w w2 := by rw [hw2]; exact ((Below.refl _ _).alloc (Nat.le_refl _) _).alloc (by simp) _
    have h1 : w2.heap[w.heap.size]? = some (.cells #[.int .i64 k, .string s] 23 (0, 0)) := by
      rw [hw2]
      exact (Below.heap_alloc _ _ _ (by simp)).trans (heap_alloc_new w _)
    have h2 : w2.heap[w.heap.size + 1]? = some (.cells #[.int .i64 0, .string { data := #[] }] 23 (0, 0)) := by
      rw [hw2]
      have h := heap_alloc_new (w.alloc (.cells #[.int .i64 k, .string s] 23)) (.cells #[.int .i64 0, .string { data := #[] }] 23)
      rw [show (w.alloc (.cells #[.int .i64 k, .string s] 23)).heap.size = w.heap.size + 1 by simp] at h
      exact h
    rw [← hw2]
    have m0 : w2.cell? ⟨w.heap.size, 0, none⟩ = some (.int .i64 k) := Lib.cell_of_heap h1 0
    have m1 : w2.cell? ⟨w.heap.size, 1, none⟩ = some (.string s) := Lib.cell_of_heap h1 1
    have n0 : w2.cell? ⟨w.heap.size + 1, 0, none⟩ = some (.int .i64 0) := Lib.cell_of_heap h2 0
    have n1 : w2.cell? ⟨w.heap.size + 1, 1, none⟩ = some (.string { data := #[] }) := Lib.cell_of_heap h2 1
    have f0 : w2.frozen? ⟨w.heap.size + 1, 0, none⟩ = false := by simp [World.frozen?, h2]
    have f1 : w2.frozen? ⟨w.heap.size + 1, 1, none⟩ = false := by simp [World.frozen?, h2]
    have HB := Lib.hid hB
    have H2 := Lib.hid h2
    clear hw2 h1 h2 hB
    go_region
    all_goals
      go_wp2_with fail
      obtain ⟨w3, hw3⟩ : ∃ w3, w3 = ((w2.setCell ⟨w.heap.size + 1, 0, none⟩ (.int .i64 k)).setCell ⟨w.heap.size + 1, 1, none⟩ (.string (s.extract 0 20001))).drew := ⟨_, rfl⟩
      rw [← hw3]
      have hB3 : Below w.heap.size w w3 := by
        rw [hw3]
        exact ((HB.out.setCell (p := ⟨w.heap.size + 1, 0, none⟩) (by simp) _).setCell (p := ⟨w.heap.size + 1, 1, none⟩) (by simp) _).drew
      have h3 : w3.heap[w.heap.size + 1]? = some (.cells #[.int .i64 k, .string (s.extract 0 20001)] 23 (0, 0)) := by
        rw [hw3]
        change ((w2.setCell ⟨w.heap.size + 1, 0, none⟩ (.int .i64 k)).setCell ⟨w.heap.size + 1, 1, none⟩ (.string (s.extract 0 20001))).heap[w.heap.size + 1]? = _
        unfold World.setCell
        simp only [Array.getElem?_modify, H2.out]
        simp
      have p0 : w3.cell? ⟨w.heap.size + 1, 0, none⟩ = some (.int .i64 k) := Lib.cell_of_heap h3 0
      have p1 : w3.cell? ⟨w.heap.size + 1, 1, none⟩ = some (.string (s.extract 0 20001)) := Lib.cell_of_heap h3 1
      clear hw3 h3
      refine bodyPost_ret (by simp [results, Tryd.results101, go_sem, p0, p1]; try rfl) rfl ?_
      exact ⟨by rw [Hsh.out], hB3⟩
  · have hmm : min s.size 20001 = s.size := by omega
    rw [hmm] at hsh hm hle
    rw [all_head] at hsh
    have Hsh := Lib.hid hsh
    have h1 : ¬ (20001 : Int) < (s.size : Int) := by omega
    have h2 : (s.size : Int) ≤ 20001 := by omega
    clear hsh hmm
    go_enter Tryd.func101, Tryd.ntmps101
    go_wp2_with fail
    obtain ⟨w2, hw2⟩ : ∃ w2, w2 = (w.alloc (.cells #[.int .i64 k, .string s] 23)).alloc (.cells #[.int .i64 0, .string { data := #[] }] 23) := ⟨_, rfl⟩
    have hB : Below w.heap.size w w2 := by rw [hw2]; exact ((Below.refl _ _).alloc (Nat.le_refl _) _).alloc (by simp) _
    have h1 : w2.heap[w.heap.size]? = some (.cells #[.int .i64 k, .string s] 23 (0, 0)) := by
      rw [hw2]
      exact (Below.heap_alloc _ _ _ (by simp)).trans (heap_alloc_new w _)
    have h2 : w2.heap[w.heap.size + 1]? = some (.cells #[.int .i64 0, .string { data := #[] }] 23 (0, 0)) := by
      rw [hw2]
      have h := heap_alloc_new (w.alloc (.cells #[.int .i64 k, .string s] 23)) (.cells #[.int .i64 0, .string { data := #[] }] 23)
      rw [show (w.alloc (.cells #[.int .i64 k, .string s] 23)).heap.size = w.heap.size + 1 by simp] at h
      exact h
    rw [← hw2]
    have m0 : w2.cell? ⟨w.heap.size, 0, none⟩ = some (.int .i64 k) := Lib.cell_of_heap h1 0
    have m1 : w2.cell? ⟨w.heap.size, 1, none⟩ = some (.string s) := Lib.cell_of_heap h1 1
    have n0 : w2.cell? ⟨w.heap.size + 1, 0, none⟩ = some (.int .i64 0) := Lib.cell_of_heap h2 0
    have n1 : w2.cell? ⟨w.heap.size + 1, 1, none⟩ = some (.string { data := #[] }) := Lib.cell_of_heap h2 1
    have f0 : w2.frozen? ⟨w.heap.size + 1, 0, none⟩ = false := by simp [World.frozen?, h2]
    have f1 : w2.frozen? ⟨w.heap.size + 1, 1, none⟩ = false := by simp [World.frozen?, h2]
    have HB := Lib.hid hB
    have H2 := Lib.hid h2
    clear hw2 h1 h2 hB
    go_region
    all_goals
      go_wp2_with fail
      obtain ⟨w3, hw3⟩ : ∃ w3, w3 = ((w2.setCell ⟨w.heap.size + 1, 0, none⟩ (.int .i64 k)).setCell ⟨w.heap.size + 1, 1, none⟩ (.string (s))).drew := ⟨_, rfl⟩
      rw [← hw3]
      have hB3 : Below w.heap.size w w3 := by
        rw [hw3]
        exact ((HB.out.setCell (p := ⟨w.heap.size + 1, 0, none⟩) (by simp) _).setCell (p := ⟨w.heap.size + 1, 1, none⟩) (by simp) _).drew
      have h3 : w3.heap[w.heap.size + 1]? = some (.cells #[.int .i64 k, .string (s)] 23 (0, 0)) := by
        rw [hw3]
        change ((w2.setCell ⟨w.heap.size + 1, 0, none⟩ (.int .i64 k)).setCell ⟨w.heap.size + 1, 1, none⟩ (.string (s))).heap[w.heap.size + 1]? = _
        unfold World.setCell
        simp only [Array.getElem?_modify, H2.out]
        simp
      have p0 : w3.cell? ⟨w.heap.size + 1, 0, none⟩ = some (.int .i64 k) := Lib.cell_of_heap h3 0
      have p1 : w3.cell? ⟨w.heap.size + 1, 1, none⟩ = some (.string (s)) := Lib.cell_of_heap h3 1
      clear hw3 h3
      refine bodyPost_ret (by simp [results, Tryd.results101, go_sem, p0, p1]; try rfl) rfl ?_
      exact ⟨by rw [Hsh.out], hB3⟩
end Go.Proofs.YtpjlgahbbmlngaaDoor

namespace Go.Proofs.YtpjlgahbbmlngaaDoor
set_option linter.unusedVariables false
set_option linter.unusedSimpArgs false
open Go Go.RowKit

theorem set4 {W : World} {b t : Nat} {u0 u1 u2 u3 v0 v1 v2 v3 : Value} (h : W.heap[b]? = some (.cells #[u0, u1, u2, u3] t (0, 0))) :
    ((((W.setCell ⟨b, 0, none⟩ v0).setCell ⟨b, 1, none⟩ v1).setCell ⟨b, 2, none⟩ v2).setCell ⟨b, 3, none⟩ v3).heap[b]? = some (.cells #[v0, v1, v2, v3] t (0, 0)) := by
  have a1 := heap_setCell_same W b 0 _ _ v0 h
  have a2 := heap_setCell_same _ b 1 _ _ v1 a1
  have a3 := heap_setCell_same _ b 2 _ _ v2 a2
  have a4 := heap_setCell_same _ b 3 _ _ v3 a3
  simpa using a4
theorem below4 {B : Nat} {w0 W : World} {b : Nat} {v0 v1 v2 v3 : Value} (h : Below B w0 W) (hb : B ≤ b) :
    Below B w0 ((((W.setCell ⟨b, 0, none⟩ v0).setCell ⟨b, 1, none⟩ v1).setCell ⟨b, 2, none⟩ v2).setCell ⟨b, 3, none⟩ v3) :=
  (((h.setCell (p := ⟨b, 0, none⟩) hb _).setCell (p := ⟨b, 1, none⟩) hb _).setCell (p := ⟨b, 2, none⟩) hb _).setCell (p := ⟨b, 3, none⟩) hb _
theorem other4 {W : World} {b b' : Nat} {v0 v1 v2 v3 : Value} (h : b' ≠ b) :
    ((((W.setCell ⟨b, 0, none⟩ v0).setCell ⟨b, 1, none⟩ v1).setCell ⟨b, 2, none⟩ v2).setCell ⟨b, 3, none⟩ v3).heap[b']? = W.heap[b']? :=
  (block_other h).trans ((block_other h).trans ((block_other h).trans (block_other h)))
theorem size4 {W : World} {b : Nat} {v0 v1 v2 v3 : Value} :
    ((((W.setCell ⟨b, 0, none⟩ v0).setCell ⟨b, 1, none⟩ v1).setCell ⟨b, 2, none⟩ v2).setCell ⟨b, 3, none⟩ v3).heap.size = W.heap.size := by simp [World.setCell]

/-- the copy so far: its cells, the row of its kids, and what is in them -/
structure CutSt (b8 base : Nat) (kd tk : Int) (tx : ByteArray) (w2 : World) (ys : List Pn) (sv : Value) (wr : World) : Prop where
  out : wr.heap[b8]? = some (.cells #[.int .i64 kd, .int .i64 tk, .string tx, sv] 26 (0, 0))
  row : wr.ownsRow base 26 4 sv ys.length (pathCells ys)
  kids : ∀ (i : Nat) (y : Pn), ys[i]? = some y → y.1.kids.length ≤ y.2.2 ∧ KidsP (fun b => base ≤ b ∧ sv.ownBlock ≠ some b) wr y.2.1 y.1.kids
  below : Below b8 w2 wr
  size : base ≤ wr.heap.size
theorem CutSt.row5 {b8 base : Nat} {kd tk : Int} {tx : ByteArray} {w2 wr w5 : World} {ys : List Pn} {sv : Value} (h : CutSt b8 base kd tk tx w2 ys sv wr) (hb5 : Below wr.heap.size wr w5) : w5.ownsRow base 26 4 sv ys.length (pathCells ys) :=
  own_same h.row (fun g e => hb5.block g (h.row.lt g e).2)
theorem CutSt.step {b8 base : Nat} {kd tk : Int} {tx : ByteArray} {w2 wr w5 w6 : World} {ys : List Pn} {sv : Value} {y : Pn} {g cap : Nat} (h : CutSt b8 base kd tk tx w2 ys sv wr) (hb8 : b8 < base) (hb5 : Below wr.heap.size wr w5)
    (hyc : y.1.kids.length ≤ y.2.2) (hz : KidsP (fun b => wr.heap.size ≤ b) w5 y.2.1 y.1.kids) (hrow : w6.ownsRow base 26 4 (.slice (some ⟨g, 0, none⟩) (ys.length + 1) cap) (ys.length + 1) (pathCells ys ++ cells4 y)) (hgr : w5.grownBy w6 sv.ownBlock) (hat : sv.ownBlock = some g ∨ g = w5.heap.size) :
    CutSt b8 base kd tk tx w2 (ys ++ [y]) (.slice (some ⟨g, 0, none⟩) (ys.length + 1) cap) (w6.setCell ⟨b8, 3, none⟩ (.slice (some ⟨g, 0, none⟩) (ys.length + 1) cap)) := by
  have hs5 := hb5.size
  have hs6 := hgr.size
  have hlt : ∀ k, sv.ownBlock = some k → base ≤ k ∧ k < wr.heap.size := fun k e => h.row.lt k e
  have hg : base ≤ g := (hrow.lt g rfl).1
  have hs7 : (w6.setCell ⟨b8, 3, none⟩ (.slice (some ⟨g, 0, none⟩) (ys.length + 1) cap)).heap.size = w6.heap.size := by simp [World.setCell]
  have key : ∀ b, b < w5.heap.size → b ≠ b8 → sv.ownBlock ≠ some b → (w6.setCell ⟨b8, 3, none⟩ (.slice (some ⟨g, 0, none⟩) (ys.length + 1) cap)).heap[b]? = w5.heap[b]? := fun b h1 h2 h3 =>
    (block_other h2).trans (hgr.block b h1 (fun e => h3 e.symm))
  have hsz := h.size
  refine ⟨?_, ?_, fun i z hz' => ?_, ?_, by rw [hs7]; omega⟩
  · have h6 : w6.heap[b8]? = some (.cells #[.int .i64 kd, .int .i64 tk, .string tx, sv] 26 (0, 0)) :=
      (hgr.block b8 (by omega) (fun e => by have := (hlt b8 e.symm).1; omega)).trans ((hb5.block b8 (by omega)).trans h.out)
    have := heap_setCell_same w6 b8 3 _ _ (.slice (some ⟨g, 0, none⟩) (ys.length + 1) cap) h6
    simpa using this
  · rw [show (ys ++ [y]).length = ys.length + 1 by simp, pathCells_append, show pathCells [y] = cells4 y by simp [pathCells]]
    exact own_same hrow (fun k e => block_other (by have : g = k := by simpa [Value.ownBlock] using e
                                                    omega))
  · have hno : ∀ b, sv.ownBlock ≠ some b → b < w5.heap.size → (Value.slice (some ⟨g, 0, none⟩) (ys.length + 1) cap).ownBlock ≠ some b := fun b h1 h2 e => by
      have e' : g = b := by simpa [Value.ownBlock] using e
      subst e'
      rcases hat with h | h
      · exact h1 h
      · omega
    rcases Nat.lt_or_ge i ys.length with hi | hi
    · rw [List.getElem?_append_left hi] at hz'
      exact ⟨(h.kids i z hz').1, (h.kids i z hz').2.kept (by rw [hs7]; omega) (fun b hp hb => (key b (by omega) (by omega) hp.2).trans (hb5.block b hb)) (fun b hp hb => ⟨hp.1, hno b hp.2 (by omega)⟩)⟩
    · have hi0 : i = ys.length := by
        have := (List.getElem?_eq_some_iff.1 hz').1
        simp at this; omega
      subst hi0
      rw [List.getElem?_append_right (Nat.le_refl _)] at hz'
      simp only [Nat.sub_self, List.getElem?_cons_zero, Option.some.injEq] at hz'
      subst hz'
      have hn : ∀ b, wr.heap.size ≤ b → sv.ownBlock ≠ some b := fun b hb e => by have := (hlt b e).2; omega
      exact ⟨hyc, hz.kept (by rw [hs7]; omega) (fun b hp hb => key b hb (by omega) (hn b hp)) (fun b hp hb => ⟨by omega, hno b (hn b hp) hb⟩)⟩
  · have h5 := h.below.trans (hb5.mono (show b8 ≤ wr.heap.size by omega))
    exact (h5.grown hgr (by omega) (fun k e => by have := (hlt k e).1; omega)).setCell (p := ⟨b8, 3, none⟩) (Nat.le_refl _) _
/-- the copy, as a value -/
theorem CutSt.node {b8 base : Nat} {kd tk : Int} {tx : ByteArray} {w2 wr w9 : World} {ys : List Pn} {sv : Value} {B : Nat} (h : CutSt b8 base kd tk tx w2 ys sv wr) (hs : wr.heap.size ≤ w9.heap.size) (hk : ∀ b, base ≤ b → b < wr.heap.size → w9.heap[b]? = wr.heap[b]?) (hB : B ≤ base) :
    NodeP (fun b => B ≤ b) w9 (.agg #[.int .i64 kd, .int .i64 tk, .string tx, sv]) (.mk kd (tk, tx) (ys.map (·.1))) := by
  obtain ⟨A, c, rfl, hcc, hK⟩ := KidsP.of_own (P := fun b => base ≤ b) h.row (fun g e => (h.row.lt g e).1) (fun i y hy => ⟨(h.kids i y hy).1, (h.kids i y hy).2.kept (Nat.le_refl _) (fun _ _ _ => rfl) (fun b hp _ => hp.1)⟩)
  exact ⟨A, c, rfl, hcc, hK.kept hs (fun b hp hb => hk b hp hb) (fun b hp _ => Nat.le_trans hB hp)⟩
theorem cutL_step {l : List Nd} {k r d : Nat} {x : Nd} (h : l[k]? = some x) (hr : r ≠ 0) : cutL (l.drop k) r d = ((cutN x r d).1 :: (cutL (l.drop (k + 1)) (cutN x r d).2 d).1, (cutL (l.drop (k + 1)) (cutN x r d).2 d).2) := by
  obtain ⟨hlt, he⟩ := List.getElem?_eq_some_iff.1 h
  rw [List.drop_eq_getElem_cons hlt, he]
  simp only [cutL, if_neg hr]
end Go.Proofs.YtpjlgahbbmlngaaDoor
