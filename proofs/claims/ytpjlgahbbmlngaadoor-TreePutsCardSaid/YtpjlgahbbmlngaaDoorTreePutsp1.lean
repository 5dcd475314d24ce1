/-
  Trees: the specification's Put. (gen_iuv.py)
-/
import Derived.Test.YtpjlgahbbmlngaaDoorTreePutp4
import Derived.Test.YtpjlgahbbmlngaaDoorTreeLeavesp34
import Derived.Test.YtpjlgahbbmlngaaDoorTreeLeavesp29
import Derived.Test.YtpjlgahbbmlngaaDoorTreeLeavesp33
import Derived.Deep.RegionHeld3
import Derived.Deep.DeepCutAuto
namespace Go.Proofs.YtpjlgahbbmlngaaDoor
set_option linter.unusedVariables false
set_option linter.unusedSimpArgs false
set_option linter.unnecessarySimpa false
open Go Go.RowKit

/-- a copy under way, some kids of which lie in old blocks -/
structure PuSt (R : Nat → Prop) (b7 base : Nat) (kd tk : Int) (tx : ByteArray) (w2 : World) (ys : List Pn) (sv : Value) (wr : World) : Prop where
  out : wr.heap[b7]? = some (.cells #[.int .i64 kd, .int .i64 tk, .string tx, sv] 26 (0, 0))
  row : wr.ownsRow base 26 4 sv ys.length (pathCells ys)
  kids : ∀ (i : Nat) (y : Pn), ys[i]? = some y → y.1.kids.length ≤ y.2.2 ∧ KidsP (fun b => R b ∧ b ≠ b7 ∧ sv.ownBlock ≠ some b) wr y.2.1 y.1.kids
  below : Below b7 w2 wr
  size : base ≤ wr.heap.size
theorem PuSt.lt {R : Nat → Prop} {b7 base : Nat} {kd tk : Int} {tx : ByteArray} {w2 wr : World} {ys : List Pn} {sv : Value} (h : PuSt R b7 base kd tk tx w2 ys sv wr) : b7 < wr.heap.size := (Array.getElem?_eq_some_iff.1 h.out).1
theorem PuSt.later {R : Nat → Prop} {b7 base : Nat} {kd tk : Int} {tx : ByteArray} {w2 wr W : World} {ys : List Pn} {sv : Value} (h : PuSt R b7 base kd tk tx w2 ys sv wr) (hb : Below wr.heap.size wr W) : PuSt R b7 base kd tk tx w2 ys sv W :=
  ⟨(hb.block b7 h.lt).trans h.out, own_same h.row (fun g e => hb.block g (h.row.lt g e).2), fun i y hy => ⟨(h.kids i y hy).1, (h.kids i y hy).2.below hb (fun _ hp _ => hp)⟩, h.below.trans (hb.mono (Nat.le_of_lt h.lt)), Nat.le_trans h.size hb.size⟩
theorem PuSt.app {R : Nat → Prop} {b7 base : Nat} {kd tk : Int} {tx : ByteArray} {w2 W : World} {ys : List Pn} {sv : Value} (h : PuSt R b7 base kd tk tx w2 ys sv W) (hb7 : b7 < base) (y : Pn) (hyc : y.1.kids.length ≤ y.2.2) (hy : KidsP (fun b => R b ∧ b ≠ b7 ∧ sv.ownBlock ≠ some b) W y.2.1 y.1.kids) (bx : Nat) (hx : W.heap[bx]? = some (.cells (nodeCells y.1 y.2.1 y.2.2) 26 (0, 0))) (hl : ys.length ≤ 10000000) :
    ∃ g cap W', (Builtin.append_ #[24, 24] 24 #[sv, .slice (some ⟨bx, 0, none⟩) 1 1]).run Tryd.prog W = .ok (.slice (some ⟨g, 0, none⟩) (ys.length + 1) cap) W' ∧
      W'.heap[b7]? = some (.cells #[.int .i64 kd, .int .i64 tk, .string tx, sv] 26 (0, 0)) ∧ Below b7 w2 W' ∧
      PuSt R b7 base kd tk tx w2 (ys ++ [y]) (.slice (some ⟨g, 0, none⟩) (ys.length + 1) cap) (W'.setCell ⟨b7, 3, none⟩ (.slice (some ⟨g, 0, none⟩) (ys.length + 1) cap)) := by
  obtain ⟨i0, hi0, hz0, hz1, hz2⟩ := info_parts infoNode
  obtain ⟨g, cap, w6, hrun, hrow, hgr, hat, hlt6⟩ := run_append_lies (P := Tryd.prog) W 24 24 base 26 i0 _ 4 56 Tryd.underlying24 hi0 hz0 hz1 hz2 rfl (by decide) sv ys.length (pathCells ys) h.row ⟨bx, 0, none⟩ 1 1 (cells4 y) rfl (World.news_of_block hx) (pathCells_one [y]) (by decide) (by unfold maxLen; omega) (by omega) h.size W.heap.size rfl
  have hs6 := hgr.size
  have hsz := h.size
  have hlt : ∀ k, sv.ownBlock = some k → base ≤ k ∧ k < W.heap.size := fun k e => h.row.lt k e
  have hg : base ≤ g := (hrow.lt g rfl).1
  have h6 : w6.heap[b7]? = some (.cells #[.int .i64 kd, .int .i64 tk, .string tx, sv] 26 (0, 0)) := (hgr.block b7 h.lt (fun e => by have := (hlt b7 e.symm).1; omega)).trans h.out
  have hB6 : Below b7 w2 w6 := h.below.grown hgr (Nat.le_of_lt h.lt) (fun k e => by have := (hlt k e).1; omega)
  refine ⟨g, cap, w6, hrun, h6, hB6, ?_⟩
  have hs7 : (w6.setCell ⟨b7, 3, none⟩ (.slice (some ⟨g, 0, none⟩) (ys.length + 1) cap)).heap.size = w6.heap.size := by simp [World.setCell]
  have key : ∀ b, b < W.heap.size → b ≠ b7 → sv.ownBlock ≠ some b → (w6.setCell ⟨b7, 3, none⟩ (.slice (some ⟨g, 0, none⟩) (ys.length + 1) cap)).heap[b]? = W.heap[b]? := fun b h1 h2 h3 =>
    (block_other h2).trans (hgr.block b h1 (fun e => h3 e.symm))
  have hno : ∀ b, sv.ownBlock ≠ some b → b < W.heap.size → (Value.slice (some ⟨g, 0, none⟩) (ys.length + 1) cap).ownBlock ≠ some b := fun b h1 h2 e => by
    have e' : g = b := by simpa [Value.ownBlock] using e
    subst e'
    rcases hat with h | h
    · exact h1 h
    · omega
  refine ⟨?_, ?_, fun i z hz' => ?_, hB6.setCell (p := ⟨b7, 3, none⟩) (Nat.le_refl _) _, by rw [hs7]; omega⟩
  · have := heap_setCell_same w6 b7 3 _ _ (.slice (some ⟨g, 0, none⟩) (ys.length + 1) cap) h6
    simpa using this
  · rw [show (ys ++ [y]).length = ys.length + 1 by simp, pathCells_append, show pathCells [y] = cells4 y by simp [pathCells]]
    exact own_same hrow (fun k e => block_other (by have : g = k := by simpa [Value.ownBlock] using e
                                                    omega))
  · rcases Nat.lt_or_ge i ys.length with hi | hi
    · rw [List.getElem?_append_left hi] at hz'
      exact ⟨(h.kids i z hz').1, (h.kids i z hz').2.kept (by rw [hs7]; omega) (fun b hp hb => key b hb hp.2.1 hp.2.2) (fun b hp hb => ⟨hp.1, hp.2.1, hno b hp.2.2 hb⟩)⟩
    · have hi0 : i = ys.length := by
        have := (List.getElem?_eq_some_iff.1 hz').1
        simp at this; omega
      subst hi0
      rw [List.getElem?_append_right (Nat.le_refl _)] at hz'
      simp only [Nat.sub_self, List.getElem?_cons_zero, Option.some.injEq] at hz'
      subst hz'
      exact ⟨hyc, hy.kept (by rw [hs7]; omega) (fun b hp hb => key b hb hp.2.1 hp.2.2) (fun b hp hb => ⟨hp.1, hp.2.1, hno b hp.2.2 hb⟩)⟩
/-- the copy, as a value -/
theorem PuSt.node {R : Nat → Prop} {b7 base : Nat} {kd tk : Int} {tx : ByteArray} {w2 wr w9 : World} {ys : List Pn} {sv : Value} (h : PuSt R b7 base kd tk tx w2 ys sv wr) (hs : wr.heap.size ≤ w9.heap.size) (hk : ∀ b, R b → b < wr.heap.size → w9.heap[b]? = wr.heap[b]?) (hR : ∀ b, base ≤ b → R b) {P' : Nat → Prop} (hP : ∀ b, R b → P' b) :
    NodeP P' w9 (.agg #[.int .i64 kd, .int .i64 tk, .string tx, sv]) (.mk kd (tk, tx) (ys.map (·.1))) := by
  obtain ⟨A, c, rfl, hcc, hK⟩ := KidsP.of_own (P := R) h.row (fun g e => hR g (h.row.lt g e).1) (fun i y hy => ⟨(h.kids i y hy).1, (h.kids i y hy).2.kept (Nat.le_refl _) (fun _ _ _ => rfl) (fun b hp _ => hp.1)⟩)
  exact ⟨A, c, rfl, hcc, hK.kept hs hk (fun b hp _ => hP b hp)⟩
theorem puApart {Q : Nat → Prop} {B b7 base b : Nat} {kd tk : Int} {tx : ByteArray} {w2 W : World} {ys : List Pn} {sv : Value} (hQ : ∀ b, Q b → b < B) (h7 : B + 3 = b7 ∧ b7 < base) (h : PuSt (fun b => Q b ∨ b7 ≤ b) b7 base kd tk tx w2 ys sv W) (hp : Q b ∨ W.heap.size ≤ b) : (Q b ∨ b7 ≤ b) ∧ b ≠ b7 ∧ sv.ownBlock ≠ some b := by
  have h1 := h.lt
  rcases hp with hp | hp
  · have h2 := hQ b hp
    exact ⟨.inl hp, by omega, fun e => by have := (h.row.lt b e).1; omega⟩
  · exact ⟨.inr (by omega), by omega, fun e => by have := (h.row.lt b e).2; omega⟩
theorem take_snocN {l : List Nd} {k : Nat} {x : Nd} (h : l[k]? = some x) : l.take (k + 1) = l.take k ++ [x] := by
  rw [List.take_add_one, h]; rfl

set_option maxRecDepth 100000 in
set_option maxHeartbeats 4000000 in
theorem RPut_any : ∀ (p : List Nat) (n x y : Nd) (Q : Nat → Prop) (v vy : Value) (Ap : Option Addr) (cp : Nat) (w : World), sizeN n → atN n p = some x → p.length ≤ cp → (∀ b, Q b → b < w.heap.size) → NodeP Q w v n → NodeP Q w vy y → IntsA w Ap (intL p) →
    Calls Tryd.prog 50 #[v, .slice Ap (intL p).length cp, vy] w fun e w' => ∃ v', e = .returned v' ∧ NodeP (fun b => Q b ∨ w.heap.size ≤ b) w' v' (putN n p y) ∧ Below w.heap.size w w'
  | [], n, x, y, Q, v, vy, Ap, cp, w, hC, hx, hcp, hQ, hV, hVy, hE => by
    obtain ⟨A, c, rfl, hcap, hk⟩ := hV
    obtain ⟨By, cy, rfl, hcy, hky⟩ := hVy
    rw [show (intL ([] : List Nat)).length = 0 from rfl]
    obtain ⟨w0, hw0⟩ : ∃ w0, w0 = ((w.alloc (.cells #[.int .i64 n.kind, .int .i64 n.tok.1, .string n.tok.2, .slice A n.kids.length c] 26)).alloc (.cells #[.int .i64 y.kind, .int .i64 y.tok.1, .string y.tok.2, .slice By y.kids.length cy] 26)).alloc (.cells #[.int .i64 0, .int .i64 0, .string { data := #[] }, .slice none 0 0] 26) := ⟨_, rfl⟩
    have hB0 : Below w.heap.size w w0 := by rw [hw0]; exact (((Below.refl _ _).alloc (Nat.le_refl _) _).alloc (by simp) _).alloc (by simp; omega) _
    have hs0 : w0.heap.size = w.heap.size + 3 := by rw [hw0]; simp
    have h3 : w0.heap[w.heap.size]? = some (.cells (nodeCells n A c) 26 (0, 0)) := by rw [hw0, alloc_old _ _ _ (by simp; omega), alloc_old _ _ _ (by simp)]; exact alloc_at _ _ _ rfl
    have h5 : w0.heap[w.heap.size + 1]? = some (.cells (nodeCells y By cy) 26 (0, 0)) := by rw [hw0, alloc_old _ _ _ (by simp)]; exact alloc_at _ _ _ (by simp)
    have h6 : w0.heap[w.heap.size + 1 + 1]? = some (.cells #[.int .i64 0, .int .i64 0, .string { data := #[] }, .slice none 0 0] 26 (0, 0)) := by rw [hw0]; exact alloc_at _ _ _ (by simp)
    have e5 := cells_of_block h5
    obtain ⟨p0, p1, p2, p3⟩ := e5
    have z0 := Lib.cell_of_heap h6 0
    have z1 := Lib.cell_of_heap h6 1
    have z2 := Lib.cell_of_heap h6 2
    have z3 := Lib.cell_of_heap h6 3
    have f0 := frozen_block (j := 0) h6
    have f1 := frozen_block (j := 1) h6
    have f2 := frozen_block (j := 2) h6
    have f3 := frozen_block (j := 3) h6
    have HW := Lib.hid hw0
    have HX := Lib.hid (show _ ∧ _ ∧ _ ∧ _ ∧ _ from ⟨hB0, hs0, h6, hky, hcy⟩)
    clear hw0 hB0 hs0 h3 h5 h6 hky hcy
    go_enter Tryd.func50, Tryd.ntmps50
    go_upto_region 1 with fail
    rw [← HW.out]
    go_wp2_with fail
    have hz := set4 (v0 := .int .i64 y.kind) (v1 := .int .i64 y.tok.1) (v2 := .string y.tok.2) (v3 := .slice By y.kids.length cy) HX.out.2.2.1
    have s0 := Lib.cell_of_heap hz 0
    have s1 := Lib.cell_of_heap hz 1
    have s2 := Lib.cell_of_heap hz 2
    have s3 := Lib.cell_of_heap hz 3
    refine bodyPost_ret (by simp [results, Tryd.f50, go_sem, s0, s1, s2, s3]; try rfl) rfl ?_
    exact ⟨_, rfl, ⟨By, cy, rfl, HX.out.2.2.2.2, HX.out.2.2.2.1.kept (by rw [size4, HX.out.2.1]; omega) (fun b _ hb => (other4 (by omega)).trans (HX.out.1.block b hb)) (fun b hp _ => .inl hp)⟩, below4 HX.out.1 (by omega)⟩
  | i0 :: p, .mk kd (tk, tx) l, x, y, Q, v, vy, Ap, cp, w, hC, hx, hcp, hQ, hV, hVy, hE => by
    have IH := RPut_any p
    have hx' : (match l[i0]? with | some k => atN k p | none => none) = some x := hx
    clear hx
    cases hj : l[i0]? with
    | none => simp [hj] at hx'
    | some xk =>
      simp only [hj] at hx'
      have hV : ∃ A c, v = .agg #[.int .i64 kd, .int .i64 tk, .string tx, .slice A l.length c] ∧ l.length ≤ c ∧ KidsP Q w A l := hV
      obtain ⟨A, c, rfl, hcap, hk⟩ := hV
      obtain ⟨By, cy, rfl, hcy, hky⟩ := hVy
      have hi0 : i0 < l.length := (List.getElem?_eq_some_iff.1 hj).1
      have hput : putN (.mk kd (tk, tx) l) (i0 :: p) y = .mk kd (tk, tx) (l.set i0 (putN xk p y)) := by simp only [putN, show (Nd.mk kd (tk, tx) l).kids[i0]? = some xk from hj]; rfl
      rw [hput]
      clear hput
      have hzc2 : sizeN xk := by have h1 := countL_get _ _ _ hj; have h2 := countN_kids (.mk kd (tk, tx) l); unfold sizeN at hC ⊢; simp only [Nd.kids] at h2; omega
      obtain ⟨bp, op, rfl, hbp, hg⟩ := hE (by simp [intL])
      have epos : w.cell? ⟨bp, op, none⟩ = some (.int .i64 (i0 : Int)) := hg 0 _ rfl
      rw [show (intL (i0 :: p)).length = (intL p).length + 1 from rfl]
      have hlp : (intL p).length = p.length := by simp [intL]
      obtain ⟨A', hA'⟩ : ∃ A' : Option Addr, A' = if cp = 1 then some ⟨bp, op, none⟩ else some ⟨bp, op + 1, none⟩ := ⟨_, rfl⟩
      have hE' : IntsA w A' (intL p) := fun h0 => by
        have : cp ≠ 1 := by simp only [List.length_cons] at hcp; omega
        exact ⟨bp, op + 1, by rw [hA', if_neg this], hbp, fun i u hu => by have := hg (i + 1) u hu; rwa [show op + (i + 1) = op + 1 + i by omega] at this⟩
      have hsl : ∀ W : World, (Instr.slice 51 (.slice (some ⟨bp, op, none⟩) ((intL p).length + 1) cp) (some (.int .i64 1)) none none).run Tryd.prog W = .ok (.slice A' (intL p).length (cp - 1)) W := fun W => by
        rw [run_slice_l W 51 _ _ _ undInts .i64 _ (by omega) (by omega), sizeInts]
        simp only [Result.andThen, sliced, hA']
        by_cases h1 : cp = 1
        · simp [h1]
        · simp [h1, Addr.add]
      obtain ⟨w0, hw0⟩ : ∃ w0, w0 = ((w.alloc (.cells #[.int .i64 kd, .int .i64 tk, .string tx, .slice A l.length c] 26)).alloc (.cells #[.int .i64 y.kind, .int .i64 y.tok.1, .string y.tok.2, .slice By y.kids.length cy] 26)).alloc (.cells #[.int .i64 0, .int .i64 0, .string { data := #[] }, .slice none 0 0] 26) := ⟨_, rfl⟩
      have hB0 : Below w.heap.size w w0 := by rw [hw0]; exact (((Below.refl _ _).alloc (Nat.le_refl _) _).alloc (by simp) _).alloc (by simp; omega) _
      have hs0 : w0.heap.size = w.heap.size + 3 := by rw [hw0]; simp
      have h3 : w0.heap[w.heap.size]? = some (.cells #[.int .i64 kd, .int .i64 tk, .string tx, .slice A l.length c] 26 (0, 0)) := by rw [hw0, alloc_old _ _ _ (by simp; omega), alloc_old _ _ _ (by simp)]; exact alloc_at _ _ _ rfl
      have h5 : w0.heap[w.heap.size + 1]? = some (.cells (nodeCells y By cy) 26 (0, 0)) := by rw [hw0, alloc_old _ _ _ (by simp)]; exact alloc_at _ _ _ (by simp)
      have h6 : w0.heap[w.heap.size + 1 + 1]? = some (.cells #[.int .i64 0, .int .i64 0, .string { data := #[] }, .slice none 0 0] 26 (0, 0)) := by rw [hw0]; exact alloc_at _ _ _ (by simp)
      have hw1 : Below w.heap.size w (w0.alloc (.cells #[.int .i64 kd, .int .i64 tk, .string tx, .slice none 0 0] 26)) := hB0.alloc hB0.size _
      obtain ⟨wc, hwc⟩ : ∃ u, u = w0.alloc (.cells #[.int .i64 kd, .int .i64 tk, .string tx, .slice none 0 0] 26) := ⟨_, rfl⟩
      obtain ⟨b7, hb7⟩ : ∃ x, x = w0.heap.size := ⟨_, rfl⟩
      have e7 : wc.heap[b7]? = some (.cells #[.int .i64 kd, .int .i64 tk, .string tx, .slice none 0 0] 26 (0, 0)) := by rw [hwc, hb7]; exact alloc_at _ _ _ rfl
      rw [← hwc] at hw1
      have hsc : wc.heap.size = b7 + 1 := by rw [hwc, hb7]; simp
      have g7 : w.heap.size + 3 = b7 := by rw [hb7, hs0]
      have g3 : wc.heap[w.heap.size]? = some (.cells #[.int .i64 kd, .int .i64 tk, .string tx, .slice A l.length c] 26 (0, 0)) := by rw [hwc, alloc_old _ _ _ (by omega)]; exact h3
      have g5 : wc.heap[w.heap.size + 1]? = some (.cells (nodeCells y By cy) 26 (0, 0)) := by rw [hwc, alloc_old _ _ _ (by omega)]; exact h5
      have g6 : wc.heap[w.heap.size + 1 + 1]? = some (.cells #[.int .i64 0, .int .i64 0, .string { data := #[] }, .slice none 0 0] 26 (0, 0)) := by rw [hwc, alloc_old _ _ _ (by omega)]; exact h6
      have p0 := Lib.cell_of_heap h3 0
      have p1 := Lib.cell_of_heap h3 1
      have p2 := Lib.cell_of_heap h3 2
      have p3 := Lib.cell_of_heap h3 3
      have hst0 : PuSt (fun b => Q b ∨ b7 ≤ b) b7 wc.heap.size kd tk tx wc [] (.slice none 0 0) wc := ⟨e7, by simpa [pathCells] using World.ownsRow_nil wc wc.heap.size 26 4, fun i y h => by simp at h, Below.refl _ _, Nat.le_refl _⟩
      have hkc : KidsP Q wc A l := hk.below hw1 (fun _ hp _ => hp)
      have hyc : KidsP Q wc By y.kids := hky.below hw1 (fun _ hp _ => hp)
      have hec : IntsA wc A' (intL p) := hE'.below hw1
      have epc : wc.cell? ⟨bp, op, none⟩ = some (.int .i64 (i0 : Int)) := (hw1.cell (p := ⟨bp, op, none⟩) hbp).trans epos
      have hcall : ∀ (W : World) (B1 : Option Addr) (d1 : Nat), Below b7 wc W → xk.kids.length ≤ d1 → KidsP Q wc B1 xk.kids → Calls Tryd.prog 50 #[.agg #[.int .i64 xk.kind, .int .i64 xk.tok.1, .string xk.tok.2, .slice B1 xk.kids.length d1], .slice A' (intL p).length (cp - 1), .agg #[.int .i64 y.kind, .int .i64 y.tok.1, .string y.tok.2, .slice By y.kids.length cy]] W fun e w' => ∃ v', e = .returned v' ∧ NodeP (fun b => Q b ∨ W.heap.size ≤ b) w' v' (putN xk p y) ∧ Below W.heap.size W w' := fun W B1 d1 hW hd hk1 => by
        have hsW := hW.size
        have hkeep : ∀ b, Q b → b < wc.heap.size → W.heap[b]? = wc.heap[b]? := fun b hq _ => hW.block b (by have := hQ b hq; omega)
        refine IH xk x y Q _ _ A' (cp - 1) W hzc2 hx' (by simp only [List.length_cons] at hcp; omega) (fun b hq => by have := hQ b hq; omega) ⟨B1, d1, rfl, hd, hk1.kept hsW hkeep (fun _ hp _ => hp)⟩ ⟨By, cy, rfl, hcy, hyc.kept hsW hkeep (fun _ hp _ => hp)⟩ (fun h0 => ?_)
        obtain ⟨b, o, h1, h2, h4⟩ := hE' h0
        obtain ⟨b', o', h1', h2', h4'⟩ := hec h0
        rw [h1] at h1'
        obtain ⟨rfl, rfl⟩ : b = b' ∧ o = o' := by simpa using h1'
        exact ⟨b, o, h1, by omega, fun i u hu => (hW.cell (p := ⟨b, o + i, none⟩) (show b < b7 by omega)).trans (h4' i u hu)⟩
      generalize hz : putN xk p y = z at hcall ⊢
      have hC2 := hC
      have hll : l.length ≤ 10000000 := by have h1 := len_countL l; have h2 := countN_kids (.mk kd (tk, tx) l); unfold sizeN at hC; simp only [Nd.kids] at h2; omega
      have HW := Lib.hid hw0
      have HWC := Lib.hid hwc
      have HB7 := Lib.hid hb7
      have HX := Lib.hid (show _ ∧ _ ∧ _ ∧ _ ∧ _ from ⟨hst0, hkc, hw1, g6, hQ⟩)
      have HG := Lib.hid (show _ ∧ _ ∧ _ from ⟨g3, g5, epc⟩)
      have HN := Lib.hid (show _ ∧ _ ∧ _ ∧ _ from ⟨hsc, g7, hbp, hll⟩)
      have HCall := Lib.hid hcall
      have HJ := Lib.hid (show _ ∧ _ from ⟨hj, hi0⟩)
      have hn1 : ¬ (((intL p).length + 1 : Nat) : Int) = 0 := by omega
      have hn2 : ((((intL p).length + 1 : Nat) : Int) == 0) = false := by simp; omega
      have hn3 : ¬ ((intL p).length : Int) + 1 = 0 := by omega
      have hn4 : (((intL p).length : Int) + 1 == 0) = false := by simp; omega
      have hsz0 : w.heap.size < w0.heap.size := by omega
      clear hw0 hwc hb7 hst0 hkc hw1 g6 hQ g3 g5 epc hsc g7 hll hcall hj hi0 hB0 hs0 h3 h5 h6 e7 hE hE' hec hyc hk hky hz hx' hzc2 hg epos IH hC hC2 hA' hcy hcap hcp hlp
      go_enter Tryd.func50, Tryd.ntmps50
      go_upto_region 1 with fail
      rw [← HW.out]
      go_upto_region 4 with fail
      rw [← HWC.out]
      rw [← HB7.out]
      clear p0 p1 p2 p3
      go_wp2_with fail
      go_loopw [8] (fun i wr => ∃ (k : Nat) (ys : List Pn) (sv : Value), k ≤ l.length ∧ i = .int .i64 k ∧ ys.map (·.1) = (l.set i0 z).take k ∧ PuSt (fun b => Q b ∨ b7 ≤ b) b7 wc.heap.size kd tk tx wc ys sv wr) (fun i _ => l.length - (intOf i).toNat)
      case atStart => exact ⟨0, [], _, Nat.zero_le _, rfl, rfl, HX.out.1⟩
      case round =>
        obtain ⟨k, ys, sv, hkl, rfl, hys, hst⟩ := hrel
        have hsr := hst.size
        have hn7 : w.heap.size + 3 = b7 := HN.out.2.1
        have hk0 : (0 : Int) ≤ (k : Int) := by omega
        have q3 : wr.cell? ⟨w.heap.size, 3, none⟩ = some (.slice A l.length c) := (hst.below.cell (p := ⟨w.heap.size, 3, none⟩) (show w.heap.size < b7 by omega)).trans (Lib.cell_of_heap HG.out.1 3)
        have qp : wr.cell? ⟨bp, op, none⟩ = some (.int .i64 (i0 : Int)) := (hst.below.cell (p := ⟨bp, op, none⟩) (show bp < b7 by have := HN.out.2.2.1; omega)).trans HG.out.2.2
        by_cases hlt : k < l.length
        · have hk1 : (k : Int) < (l.length : Int) := by omega
          have hx0 : l[k]? = some l[k] := List.getElem?_eq_getElem hlt
          obtain ⟨b, o, rfl, n1⟩ := HX.out.2.1 (by omega)
          obtain ⟨u, hu⟩ : ∃ u, u = l[k] := ⟨_, rfl⟩
          rw [← hu] at hx0
          obtain ⟨B1, d1, hQb, hbl, x0, x1, x2, x3, hd1, xkk⟩ := n1.get hx0
          have hb7l : b < b7 := by have := HX.out.2.2.2.2 b hQb; omega
          have e3 : IntKind.i64.wrap ((k : Int) + 1) = ((k + 1 : Nat) : Int) := by rw [IntWalk.i64_in _ (by have := HN.out.2.2.2; omega)]; omega
          have hSS : ∀ W, Below b7 wc W → (fun W => W.cell? ⟨w.heap.size, 3, none⟩ = some (.slice (some ⟨b, o, none⟩) l.length c) ∧ (W.cell? ⟨w.heap.size + 1, 0, none⟩ = some (.int .i64 y.kind) ∧ W.cell? ⟨w.heap.size + 1, 1, none⟩ = some (.int .i64 y.tok.1) ∧ W.cell? ⟨w.heap.size + 1, 2, none⟩ = some (.string y.tok.2) ∧ W.cell? ⟨w.heap.size + 1, 3, none⟩ = some (.slice By y.kids.length cy)) ∧ W.cell? ⟨b, o + k * 4, none⟩ = some (.int .i64 u.kind) ∧ W.cell? ⟨b, o + k * 4 + 1, none⟩ = some (.int .i64 u.tok.1) ∧ W.cell? ⟨b, o + k * 4 + 2, none⟩ = some (.string u.tok.2) ∧ W.cell? ⟨b, o + k * 4 + 3, none⟩ = some (.slice B1 u.kids.length d1)) W := fun W hW => ⟨(hW.cell (p := ⟨w.heap.size, 3, none⟩) (show w.heap.size < b7 by omega)).trans (Lib.cell_of_heap HG.out.1 3),
            ⟨(hW.cell (p := ⟨w.heap.size + 1, 0, none⟩) (show w.heap.size + 1 < b7 by omega)).trans (cells_of_block HG.out.2.1).1, (hW.cell (p := ⟨w.heap.size + 1, 1, none⟩) (show w.heap.size + 1 < b7 by omega)).trans (cells_of_block HG.out.2.1).2.1, (hW.cell (p := ⟨w.heap.size + 1, 2, none⟩) (show w.heap.size + 1 < b7 by omega)).trans (cells_of_block HG.out.2.1).2.2.1, (hW.cell (p := ⟨w.heap.size + 1, 3, none⟩) (show w.heap.size + 1 < b7 by omega)).trans (cells_of_block HG.out.2.1).2.2.2⟩,
            (hW.cell (p := ⟨b, o + k * 4, none⟩) hb7l).trans x0, (hW.cell (p := ⟨b, o + k * 4 + 1, none⟩) hb7l).trans x1, (hW.cell (p := ⟨b, o + k * 4 + 2, none⟩) hb7l).trans x2, (hW.cell (p := ⟨b, o + k * 4 + 3, none⟩) hb7l).trans x3⟩
          have HS := Lib.hid hSS
          have HK := Lib.hid (show _ ∧ _ ∧ _ ∧ _ from ⟨hd1, xkk, hys, hx0⟩)
          have HST := Lib.hid hst
          have hyl : ys.length ≤ 10000000 := by have := congrArg List.length hys; have := HN.out.2.2.2; simp only [List.length_map, List.length_take, List.length_set] at *; omega
          clear hu hSS n1 x0 x1 x2 x3 hd1 xkk hys hx0 hst
          by_cases hik : k = i0
          · subst hik
            obtain rfl : u = xk := Option.some.inj (HK.out.2.2.2.symm.trans HJ.out.1)
            have hi1 : ((k : Int) == (k : Int)) = true := by simp
            go_upto_region 8 with fail
            refine wp_region_held_drew (S := (fun W => W.cell? ⟨w.heap.size, 3, none⟩ = some (.slice (some ⟨b, o, none⟩) l.length c) ∧ (W.cell? ⟨w.heap.size + 1, 0, none⟩ = some (.int .i64 y.kind) ∧ W.cell? ⟨w.heap.size + 1, 1, none⟩ = some (.int .i64 y.tok.1) ∧ W.cell? ⟨w.heap.size + 1, 2, none⟩ = some (.string y.tok.2) ∧ W.cell? ⟨w.heap.size + 1, 3, none⟩ = some (.slice By y.kids.length cy)) ∧ W.cell? ⟨b, o + k * 4, none⟩ = some (.int .i64 u.kind) ∧ W.cell? ⟨b, o + k * 4 + 1, none⟩ = some (.int .i64 u.tok.1) ∧ W.cell? ⟨b, o + k * 4 + 2, none⟩ = some (.string u.tok.2) ∧ W.cell? ⟨b, o + k * 4 + 3, none⟩ = some (.slice B1 u.kids.length d1))) (by kernel_rfl) ?_ (fun hHeld => ?_)
            · exact HS.out _ (HST.out.later (Below.drew (Below.refl _ _))).below
            obtain ⟨W0, hw⟩ : ∃ u, u = wr.drew := ⟨_, rfl⟩
            have st := HST.out.later (Below.drew (Below.refl _ _))
            rw [← hw] at hHeld st
            rw [← hw]
            clear hw HST
            refine wpAnyH_take (i := 0) (oi := ⟨some 30, _, _, _, _, _⟩) (v := ?_) rfl (by kernel_rfl) (by kernel_rfl) (by kernel_rfl) (fun _ _ _ h => h) (Or.inl ⟨by rfl, ?hy⟩) (by assumption) ?_
            case hy => (intro w hSw; (try dsimp only at hSw); go_simp; (try with_reducible rfl))
            try simp only [Act.put, List.setIfInBounds_toArray, List.set_cons_zero, List.set_cons_succ]
            refine wpAnyH_take (i := 2) (oi := ⟨some 32, _, _, _, _, _⟩) (v := ?_) rfl (by kernel_rfl) (by kernel_rfl) (by kernel_rfl) (fun _ _ _ h => h) (Or.inl ⟨by rfl, ?hy⟩) (by assumption) ?_
            case hy => (intro w hSw; (try dsimp only at hSw); go_simp; (try with_reducible rfl))
            try simp only [Act.put, List.setIfInBounds_toArray, List.set_cons_zero, List.set_cons_succ]
            refine wpAnyH_take (i := 3) (oi := ⟨some 33, _, _, _, _, _⟩) (v := ?_) rfl (by kernel_rfl) (by kernel_rfl) (by kernel_rfl) (fun _ _ _ h => h) (Or.inl ⟨by rfl, ?hy⟩) (by assumption) ?_
            case hy => (intro w hSw; (try dsimp only at hSw); go_simp; (try with_reducible rfl))
            try simp only [Act.put, List.setIfInBounds_toArray, List.set_cons_zero, List.set_cons_succ]
            refine wpAnyH_take (i := 4) (oi := ⟨some 34, _, _, _, _, _⟩) (v := ?_) rfl (by kernel_rfl) (by kernel_rfl) (by kernel_rfl) (fun _ _ _ h => h) (Or.inl ⟨by rfl, ?hy⟩) (by assumption) ?_
            case hy => (intro w hSw; (try dsimp only at hSw); go_simp; (try with_reducible rfl))
            try simp only [Act.put, List.setIfInBounds_toArray, List.set_cons_zero, List.set_cons_succ]
            refine wpAnyH_take (i := 5) (oi := ⟨some 35, _, _, _, _, _⟩) (v := ?_) rfl (by kernel_rfl) (by kernel_rfl) (by kernel_rfl) (fun _ _ _ h => h) (Or.inl ⟨by rfl, ?hy⟩) (by assumption) ?_
            case hy => (intro w hSw; (try dsimp only at hSw); go_simp; (try with_reducible rfl))
            try simp only [Act.put, List.setIfInBounds_toArray, List.set_cons_zero, List.set_cons_succ]
            refine wpAnyH_take (i := 6) (oi := ⟨some 36, _, _, _, _, _⟩) (v := ?_) rfl (by kernel_rfl) (by kernel_rfl) (by kernel_rfl) (fun _ _ _ h => h) (Or.inl ⟨by rfl, ?hy⟩) (by assumption) ?_
            case hy => (intro w hSw; (try dsimp only at hSw); go_simp; (try with_reducible rfl))
            try simp only [Act.put, List.setIfInBounds_toArray, List.set_cons_zero, List.set_cons_succ]
            refine wpAnyH_take (i := 7) (oi := ⟨some 37, _, _, _, _, _⟩) (v := ?_) rfl (by kernel_rfl) (by kernel_rfl) (by kernel_rfl) (fun _ _ _ h => h) (Or.inl ⟨by rfl, ?hy⟩) (by assumption) ?_
            case hy => (intro w hSw; (try dsimp only at hSw); go_simp; (try with_reducible rfl))
            try simp only [Act.put, List.setIfInBounds_toArray, List.set_cons_zero, List.set_cons_succ]
            refine wpAnyH_take (i := 8) (oi := ⟨some 38, _, _, _, _, _⟩) (v := ?_) rfl (by kernel_rfl) (by kernel_rfl) (by kernel_rfl) (fun _ _ _ h => h) (Or.inl ⟨by rfl, ?hy⟩) (by assumption) ?_
            case hy => (intro w hSw; (try dsimp only at hSw); go_simp; (try with_reducible rfl))
            try simp only [Act.put, List.setIfInBounds_toArray, List.set_cons_zero, List.set_cons_succ]
            refine wpAnyH_take (i := 9) (oi := ⟨some 39, _, _, _, _, _⟩) (v := ?_) rfl (by kernel_rfl) (by kernel_rfl) (by kernel_rfl) (fun _ _ _ h => h) (Or.inl ⟨by rfl, ?hy⟩) (by assumption) ?_
            case hy => (intro w hSw; (try dsimp only at hSw); go_simp; (try with_reducible rfl))
            try simp only [Act.put, List.setIfInBounds_toArray, List.set_cons_zero, List.set_cons_succ]
            refine wpAnyH_ready (rs := [1, 10]) (by kernel_rfl) (by simp) ?_
            refine AllReadyH.cons (o := ⟨some 31, _, _, _, _, _⟩) rfl (fun K hK => ?_) (AllReadyH.cons (o := ⟨some 40, _, _, _, _, _⟩) rfl (fun K hK => ?_) AllReadyH.nil)
            · have g3 := Lib.cell_of_heap st.out 3
              go_simp
              refine hK.out _ _ ?_ (fun hHeld => ?_)
              · exact HS.out _ st.below
              clear hK K g3
              try simp only [Act.put, List.setIfInBounds_toArray, List.set_cons_zero, List.set_cons_succ]
              refine wpAnyH_ready (rs := [10]) (by kernel_rfl) (by simp) ?_
              refine AllReadyH.cons (o := ⟨some 40, _, _, _, _, _⟩) rfl (fun K hK => ?_) AllReadyH.nil
              go_simp
              go_at_call 50
              with_reducible refine (HCall.out W0 B1 d1 st.below HK.out.1 HK.out.2.1).mono ?_
              rintro e W2 ⟨v2, rfl, ⟨A2, c2, rfl, hc2, hz2⟩, hbC⟩
              have hzk : KidsP (fun b => (Q b ∨ b7 ≤ b) ∧ b ≠ b7 ∧ sv.ownBlock ≠ some b) W2 A2 z.kids := hz2.kept (Nat.le_refl _) (fun _ _ _ => rfl) (fun b hp _ => puApart HX.out.2.2.2.2 ⟨HN.out.2.1, by have := HN.out.1; omega⟩ st hp)
              have sn := st.later hbC
              refine hK.out _ _ ?_ (fun hHeld => ?_)
              · exact HS.out _ sn.below
              clear hK K hbC st hz2
              try simp only [Act.put, List.setIfInBounds_toArray, List.set_cons_zero, List.set_cons_succ]
              have st := sn
              clear sn
              refine wpAnyH_ready (rs := [11]) (by kernel_rfl) (by simp) ?_
              refine AllReadyH.cons (o := ⟨some 41, _, _, _, _, _⟩) rfl (fun K hK => ?_) AllReadyH.nil
              go_simp
              have hal := allocB W2 (.cells (nodeCells z A2 c2) 26)
              have sn := st.later hal
              refine hK.out _ _ ?_ (fun hHeld => ?_)
              · exact HS.out _ sn.below
              clear hK K
              try simp only [Act.put, List.setIfInBounds_toArray, List.set_cons_zero, List.set_cons_succ]
              obtain ⟨bx, hc⟩ : ∃ c, c = W2.heap.size := ⟨_, rfl⟩
              obtain ⟨W3, hw⟩ : ∃ x, x = W2.alloc (.cells (nodeCells z A2 c2) 26) := ⟨_, rfl⟩
              rw [← hw] at hal sn
              have hbx : W3.heap[bx]? = some (.cells (nodeCells z A2 c2) 26 (0, 0)) := by rw [hw, hc]; exact heap_alloc_new _ _
              have hzk := hzk.below hal (fun _ hp _ => hp) (P' := (fun b => (Q b ∨ b7 ≤ b) ∧ b ≠ b7 ∧ sv.ownBlock ≠ some b))
              rw [show W2.alloc (.cells #[.int .i64 z.kind, .int .i64 z.tok.1, .string z.tok.2, .slice A2 z.kids.length c2] 26) = W3 from hw.symm] at hHeld
              rw [show W2.alloc (.cells #[.int .i64 z.kind, .int .i64 z.tok.1, .string z.tok.2, .slice A2 z.kids.length c2] 26) = W3 from hw.symm]
              rw [← hc]
              clear hw hc hal st
              have st := sn
              clear sn
              refine wpAnyH_ready (rs := [12]) (by kernel_rfl) (by simp) ?_
              refine AllReadyH.cons (o := ⟨some 42, _, _, _, _, _⟩) rfl (fun K hK => ?_) AllReadyH.nil
              have hy : KidsP (fun b => (Q b ∨ b7 ≤ b) ∧ b ≠ b7 ∧ sv.ownBlock ≠ some b) W3 A2 z.kids := hzk
              obtain ⟨g, cap, W4, hrun, h7, hbl, sn⟩ := st.app (by have := HN.out.1; omega) (z, A2, c2) hc2 hy bx hbx hyl
              refine opH_append rfl _ _ _ rfl rfl rfl hrun ?_
              refine hK.out _ _ ?_ (fun hHeld => ?_)
              · exact HS.out _ hbl
              clear hK K hrun st hy
              try simp only [Act.put, List.setIfInBounds_toArray, List.set_cons_zero, List.set_cons_succ]
              refine wpAnyH_take (i := 13) (oi := ⟨some 43, _, _, _, _, _⟩) (v := ?_) rfl (by kernel_rfl) (by kernel_rfl) (by kernel_rfl) (fun _ _ _ h => h) (Or.inl ⟨by rfl, ?hy⟩) (by assumption) ?_
              case hy => (intro w hSw; (try dsimp only at hSw); go_simp; (try with_reducible rfl))
              try simp only [Act.put, List.setIfInBounds_toArray, List.set_cons_zero, List.set_cons_succ]
              refine wpAnyH_ready (rs := [14]) (by kernel_rfl) (by simp) ?_
              refine AllReadyH.cons (o := ⟨none, _, _, _, _, _⟩) rfl (fun K hK => ?_) AllReadyH.nil
              have g3 := Lib.cell_of_heap h7 3
              have r3 := frozen_block (j := 3) h7
              go_simp
              refine hK.out _ _ ?_ (fun hHeld => ?_)
              · exact HS.out _ sn.below
              clear hK K g3 r3
              try simp only [Act.put, List.setIfInBounds_toArray, List.set_cons_zero, List.set_cons_succ]
              have st := sn
              clear sn
              refine wpAnyH_done (by kernel_rfl) ?_ _
              go_wp2_with fail
              exact ⟨⟨k + 1, ys ++ [(z, A2, c2)], _, by omega, by go_num, by rw [List.map_append, HK.out.2.2.1, take_snocN (x := z) (by rw [List.getElem?_set]; simp [HJ.out.2])]; rfl, st⟩, by simp only [intOf]; omega⟩
            · go_simp
              go_at_call 50
              with_reducible refine (HCall.out W0 B1 d1 st.below HK.out.1 HK.out.2.1).mono ?_
              rintro e W6 ⟨v2, rfl, ⟨A2, c2, rfl, hc2, hz2⟩, hbC⟩
              have hzk : KidsP (fun b => (Q b ∨ b7 ≤ b) ∧ b ≠ b7 ∧ sv.ownBlock ≠ some b) W6 A2 z.kids := hz2.kept (Nat.le_refl _) (fun _ _ _ => rfl) (fun b hp _ => puApart HX.out.2.2.2.2 ⟨HN.out.2.1, by have := HN.out.1; omega⟩ st hp)
              have sn := st.later hbC
              refine hK.out _ _ ?_ (fun hHeld => ?_)
              · exact HS.out _ sn.below
              clear hK K hbC st hz2
              try simp only [Act.put, List.setIfInBounds_toArray, List.set_cons_zero, List.set_cons_succ]
              have st := sn
              clear sn
              refine wpAnyH_ready (rs := [1, 11]) (by kernel_rfl) (by simp) ?_
              refine AllReadyH.cons (o := ⟨some 31, _, _, _, _, _⟩) rfl (fun K hK => ?_) (AllReadyH.cons (o := ⟨some 41, _, _, _, _, _⟩) rfl (fun K hK => ?_) AllReadyH.nil)
              · have g3 := Lib.cell_of_heap st.out 3
                go_simp
                refine hK.out _ _ ?_ (fun hHeld => ?_)
                · exact HS.out _ st.below
                clear hK K g3
                try simp only [Act.put, List.setIfInBounds_toArray, List.set_cons_zero, List.set_cons_succ]
                refine wpAnyH_ready (rs := [11]) (by kernel_rfl) (by simp) ?_
                refine AllReadyH.cons (o := ⟨some 41, _, _, _, _, _⟩) rfl (fun K hK => ?_) AllReadyH.nil
                go_simp
                have hal := allocB W6 (.cells (nodeCells z A2 c2) 26)
                have sn := st.later hal
                refine hK.out _ _ ?_ (fun hHeld => ?_)
                · exact HS.out _ sn.below
                clear hK K
                try simp only [Act.put, List.setIfInBounds_toArray, List.set_cons_zero, List.set_cons_succ]
                obtain ⟨bx, hc⟩ : ∃ c, c = W6.heap.size := ⟨_, rfl⟩
                obtain ⟨W8, hw⟩ : ∃ x, x = W6.alloc (.cells (nodeCells z A2 c2) 26) := ⟨_, rfl⟩
                rw [← hw] at hal sn
                have hbx : W8.heap[bx]? = some (.cells (nodeCells z A2 c2) 26 (0, 0)) := by rw [hw, hc]; exact heap_alloc_new _ _
                have hzk := hzk.below hal (fun _ hp _ => hp) (P' := (fun b => (Q b ∨ b7 ≤ b) ∧ b ≠ b7 ∧ sv.ownBlock ≠ some b))
                rw [show W6.alloc (.cells #[.int .i64 z.kind, .int .i64 z.tok.1, .string z.tok.2, .slice A2 z.kids.length c2] 26) = W8 from hw.symm] at hHeld
                rw [show W6.alloc (.cells #[.int .i64 z.kind, .int .i64 z.tok.1, .string z.tok.2, .slice A2 z.kids.length c2] 26) = W8 from hw.symm]
                rw [← hc]
                clear hw hc hal st
                have st := sn
                clear sn
                refine wpAnyH_ready (rs := [12]) (by kernel_rfl) (by simp) ?_
                refine AllReadyH.cons (o := ⟨some 42, _, _, _, _, _⟩) rfl (fun K hK => ?_) AllReadyH.nil
                have hy : KidsP (fun b => (Q b ∨ b7 ≤ b) ∧ b ≠ b7 ∧ sv.ownBlock ≠ some b) W8 A2 z.kids := hzk
                obtain ⟨g, cap, W9, hrun, h7, hbl, sn⟩ := st.app (by have := HN.out.1; omega) (z, A2, c2) hc2 hy bx hbx hyl
                refine opH_append rfl _ _ _ rfl rfl rfl hrun ?_
                refine hK.out _ _ ?_ (fun hHeld => ?_)
                · exact HS.out _ hbl
                clear hK K hrun st hy
                try simp only [Act.put, List.setIfInBounds_toArray, List.set_cons_zero, List.set_cons_succ]
                refine wpAnyH_take (i := 13) (oi := ⟨some 43, _, _, _, _, _⟩) (v := ?_) rfl (by kernel_rfl) (by kernel_rfl) (by kernel_rfl) (fun _ _ _ h => h) (Or.inl ⟨by rfl, ?hy⟩) (by assumption) ?_
                case hy => (intro w hSw; (try dsimp only at hSw); go_simp; (try with_reducible rfl))
                try simp only [Act.put, List.setIfInBounds_toArray, List.set_cons_zero, List.set_cons_succ]
                refine wpAnyH_ready (rs := [14]) (by kernel_rfl) (by simp) ?_
                refine AllReadyH.cons (o := ⟨none, _, _, _, _, _⟩) rfl (fun K hK => ?_) AllReadyH.nil
                have g3 := Lib.cell_of_heap h7 3
                have r3 := frozen_block (j := 3) h7
                go_simp
                refine hK.out _ _ ?_ (fun hHeld => ?_)
                · exact HS.out _ sn.below
                clear hK K g3 r3
                try simp only [Act.put, List.setIfInBounds_toArray, List.set_cons_zero, List.set_cons_succ]
                have st := sn
                clear sn
                refine wpAnyH_done (by kernel_rfl) ?_ _
                go_wp2_with fail
                exact ⟨⟨k + 1, ys ++ [(z, A2, c2)], _, by omega, by go_num, by rw [List.map_append, HK.out.2.2.1, take_snocN (x := z) (by rw [List.getElem?_set]; simp [HJ.out.2])]; rfl, st⟩, by simp only [intOf]; omega⟩
              · go_simp
                have hal := allocB W6 (.cells (nodeCells z A2 c2) 26)
                have sn := st.later hal
                refine hK.out _ _ ?_ (fun hHeld => ?_)
                · exact HS.out _ sn.below
                clear hK K
                try simp only [Act.put, List.setIfInBounds_toArray, List.set_cons_zero, List.set_cons_succ]
                obtain ⟨bx, hc⟩ : ∃ c, c = W6.heap.size := ⟨_, rfl⟩
                obtain ⟨W11, hw⟩ : ∃ x, x = W6.alloc (.cells (nodeCells z A2 c2) 26) := ⟨_, rfl⟩
                rw [← hw] at hal sn
                have hbx : W11.heap[bx]? = some (.cells (nodeCells z A2 c2) 26 (0, 0)) := by rw [hw, hc]; exact heap_alloc_new _ _
                have hzk := hzk.below hal (fun _ hp _ => hp) (P' := (fun b => (Q b ∨ b7 ≤ b) ∧ b ≠ b7 ∧ sv.ownBlock ≠ some b))
                rw [show W6.alloc (.cells #[.int .i64 z.kind, .int .i64 z.tok.1, .string z.tok.2, .slice A2 z.kids.length c2] 26) = W11 from hw.symm] at hHeld
                rw [show W6.alloc (.cells #[.int .i64 z.kind, .int .i64 z.tok.1, .string z.tok.2, .slice A2 z.kids.length c2] 26) = W11 from hw.symm]
                rw [← hc]
                clear hw hc hal st
                have st := sn
                clear sn
                refine wpAnyH_ready (rs := [1]) (by kernel_rfl) (by simp) ?_
                refine AllReadyH.cons (o := ⟨some 31, _, _, _, _, _⟩) rfl (fun K hK => ?_) AllReadyH.nil
                have g3 := Lib.cell_of_heap st.out 3
                go_simp
                refine hK.out _ _ ?_ (fun hHeld => ?_)
                · exact HS.out _ st.below
                clear hK K g3
                try simp only [Act.put, List.setIfInBounds_toArray, List.set_cons_zero, List.set_cons_succ]
                refine wpAnyH_ready (rs := [12]) (by kernel_rfl) (by simp) ?_
                refine AllReadyH.cons (o := ⟨some 42, _, _, _, _, _⟩) rfl (fun K hK => ?_) AllReadyH.nil
                have hy : KidsP (fun b => (Q b ∨ b7 ≤ b) ∧ b ≠ b7 ∧ sv.ownBlock ≠ some b) W11 A2 z.kids := hzk
                obtain ⟨g, cap, W13, hrun, h7, hbl, sn⟩ := st.app (by have := HN.out.1; omega) (z, A2, c2) hc2 hy bx hbx hyl
                refine opH_append rfl _ _ _ rfl rfl rfl hrun ?_
                refine hK.out _ _ ?_ (fun hHeld => ?_)
                · exact HS.out _ hbl
                clear hK K hrun st hy
                try simp only [Act.put, List.setIfInBounds_toArray, List.set_cons_zero, List.set_cons_succ]
                refine wpAnyH_take (i := 13) (oi := ⟨some 43, _, _, _, _, _⟩) (v := ?_) rfl (by kernel_rfl) (by kernel_rfl) (by kernel_rfl) (fun _ _ _ h => h) (Or.inl ⟨by rfl, ?hy⟩) (by assumption) ?_
                case hy => (intro w hSw; (try dsimp only at hSw); go_simp; (try with_reducible rfl))
                try simp only [Act.put, List.setIfInBounds_toArray, List.set_cons_zero, List.set_cons_succ]
                refine wpAnyH_ready (rs := [14]) (by kernel_rfl) (by simp) ?_
                refine AllReadyH.cons (o := ⟨none, _, _, _, _, _⟩) rfl (fun K hK => ?_) AllReadyH.nil
                have g3 := Lib.cell_of_heap h7 3
                have r3 := frozen_block (j := 3) h7
                go_simp
                refine hK.out _ _ ?_ (fun hHeld => ?_)
                · exact HS.out _ sn.below
                clear hK K g3 r3
                try simp only [Act.put, List.setIfInBounds_toArray, List.set_cons_zero, List.set_cons_succ]
                have st := sn
                clear sn
                refine wpAnyH_done (by kernel_rfl) ?_ _
                go_wp2_with fail
                exact ⟨⟨k + 1, ys ++ [(z, A2, c2)], _, by omega, by go_num, by rw [List.map_append, HK.out.2.2.1, take_snocN (x := z) (by rw [List.getElem?_set]; simp [HJ.out.2])]; rfl, st⟩, by simp only [intOf]; omega⟩
          · have hi1 : ((k : Int) == (i0 : Int)) = false := by simp; omega
            have hi2 : ¬ (k : Int) = (i0 : Int) := by omega
            go_upto_region 9 with fail
            refine wp_region_held_drew (S := (fun W => W.cell? ⟨w.heap.size, 3, none⟩ = some (.slice (some ⟨b, o, none⟩) l.length c) ∧ (W.cell? ⟨w.heap.size + 1, 0, none⟩ = some (.int .i64 y.kind) ∧ W.cell? ⟨w.heap.size + 1, 1, none⟩ = some (.int .i64 y.tok.1) ∧ W.cell? ⟨w.heap.size + 1, 2, none⟩ = some (.string y.tok.2) ∧ W.cell? ⟨w.heap.size + 1, 3, none⟩ = some (.slice By y.kids.length cy)) ∧ W.cell? ⟨b, o + k * 4, none⟩ = some (.int .i64 u.kind) ∧ W.cell? ⟨b, o + k * 4 + 1, none⟩ = some (.int .i64 u.tok.1) ∧ W.cell? ⟨b, o + k * 4 + 2, none⟩ = some (.string u.tok.2) ∧ W.cell? ⟨b, o + k * 4 + 3, none⟩ = some (.slice B1 u.kids.length d1))) (by kernel_rfl) ?_ (fun hHeld => ?_)
            · exact HS.out _ (HST.out.later (Below.drew (Below.refl _ _))).below
            obtain ⟨W0, hw⟩ : ∃ u, u = wr.drew := ⟨_, rfl⟩
            have st := HST.out.later (Below.drew (Below.refl _ _))
            rw [← hw] at hHeld st
            rw [← hw]
            clear hw HST
            refine wpAnyH_take (i := 0) (oi := ⟨some 44, _, _, _, _, _⟩) (v := ?_) rfl (by kernel_rfl) (by kernel_rfl) (by kernel_rfl) (fun _ _ _ h => h) (Or.inl ⟨by rfl, ?hy⟩) (by assumption) ?_
            case hy => (intro w hSw; (try dsimp only at hSw); go_simp; (try with_reducible rfl))
            try simp only [Act.put, List.setIfInBounds_toArray, List.set_cons_zero, List.set_cons_succ]
            refine wpAnyH_take (i := 2) (oi := ⟨some 46, _, _, _, _, _⟩) (v := ?_) rfl (by kernel_rfl) (by kernel_rfl) (by kernel_rfl) (fun _ _ _ h => h) (Or.inl ⟨by rfl, ?hy⟩) (by assumption) ?_
            case hy => (intro w hSw; (try dsimp only at hSw); go_simp; (try with_reducible rfl))
            try simp only [Act.put, List.setIfInBounds_toArray, List.set_cons_zero, List.set_cons_succ]
            refine wpAnyH_take (i := 3) (oi := ⟨some 47, _, _, _, _, _⟩) (v := ?_) rfl (by kernel_rfl) (by kernel_rfl) (by kernel_rfl) (fun _ _ _ h => h) (Or.inl ⟨by rfl, ?hy⟩) (by assumption) ?_
            case hy => (intro w hSw; (try dsimp only at hSw); go_simp; (try with_reducible rfl))
            try simp only [Act.put, List.setIfInBounds_toArray, List.set_cons_zero, List.set_cons_succ]
            refine wpAnyH_take (i := 4) (oi := ⟨some 48, _, _, _, _, _⟩) (v := ?_) rfl (by kernel_rfl) (by kernel_rfl) (by kernel_rfl) (fun _ _ _ h => h) (Or.inl ⟨by rfl, ?hy⟩) (by assumption) ?_
            case hy => (intro w hSw; (try dsimp only at hSw); go_simp; (try with_reducible rfl))
            try simp only [Act.put, List.setIfInBounds_toArray, List.set_cons_zero, List.set_cons_succ]
            refine wpAnyH_take (i := 5) (oi := ⟨some 49, _, _, _, _, _⟩) (v := ?_) rfl (by kernel_rfl) (by kernel_rfl) (by kernel_rfl) (fun _ _ _ h => h) (Or.inl ⟨by rfl, ?hy⟩) (by assumption) ?_
            case hy => (intro w hSw; (try dsimp only at hSw); go_simp; (try with_reducible rfl))
            try simp only [Act.put, List.setIfInBounds_toArray, List.set_cons_zero, List.set_cons_succ]
            refine wpAnyH_take (i := 6) (oi := ⟨some 50, _, _, _, _, _⟩) (v := ?_) rfl (by kernel_rfl) (by kernel_rfl) (by kernel_rfl) (fun _ _ _ h => h) (Or.inl ⟨by rfl, ?hy⟩) (by assumption) ?_
            case hy => (intro w hSw; (try dsimp only at hSw); go_simp; (try with_reducible rfl))
            try simp only [Act.put, List.setIfInBounds_toArray, List.set_cons_zero, List.set_cons_succ]
            refine wpAnyH_ready (rs := [1, 7]) (by kernel_rfl) (by simp) ?_
            refine AllReadyH.cons (o := ⟨some 45, _, _, _, _, _⟩) rfl (fun K hK => ?_) (AllReadyH.cons (o := ⟨some 51, _, _, _, _, _⟩) rfl (fun K hK => ?_) AllReadyH.nil)
            · have g3 := Lib.cell_of_heap st.out 3
              go_simp
              refine hK.out _ _ ?_ (fun hHeld => ?_)
              · exact HS.out _ st.below
              clear hK K g3
              try simp only [Act.put, List.setIfInBounds_toArray, List.set_cons_zero, List.set_cons_succ]
              refine wpAnyH_ready (rs := [7]) (by kernel_rfl) (by simp) ?_
              refine AllReadyH.cons (o := ⟨some 51, _, _, _, _, _⟩) rfl (fun K hK => ?_) AllReadyH.nil
              go_simp
              have hal := allocB W0 (.cells (nodeCells u B1 d1) 26)
              have sn := st.later hal
              refine hK.out _ _ ?_ (fun hHeld => ?_)
              · exact HS.out _ sn.below
              clear hK K
              try simp only [Act.put, List.setIfInBounds_toArray, List.set_cons_zero, List.set_cons_succ]
              obtain ⟨bx, hc⟩ : ∃ c, c = W0.heap.size := ⟨_, rfl⟩
              obtain ⟨W16, hw⟩ : ∃ x, x = W0.alloc (.cells (nodeCells u B1 d1) 26) := ⟨_, rfl⟩
              rw [← hw] at hal sn
              have hbx : W16.heap[bx]? = some (.cells (nodeCells u B1 d1) 26 (0, 0)) := by rw [hw, hc]; exact heap_alloc_new _ _
              rw [show W0.alloc (.cells #[.int .i64 u.kind, .int .i64 u.tok.1, .string u.tok.2, .slice B1 u.kids.length d1] 26) = W16 from hw.symm] at hHeld
              rw [show W0.alloc (.cells #[.int .i64 u.kind, .int .i64 u.tok.1, .string u.tok.2, .slice B1 u.kids.length d1] 26) = W16 from hw.symm]
              rw [← hc]
              clear hw hc hal st
              have st := sn
              clear sn
              refine wpAnyH_ready (rs := [8]) (by kernel_rfl) (by simp) ?_
              refine AllReadyH.cons (o := ⟨some 52, _, _, _, _, _⟩) rfl (fun K hK => ?_) AllReadyH.nil
              have hy : KidsP (fun b => (Q b ∨ b7 ≤ b) ∧ b ≠ b7 ∧ sv.ownBlock ≠ some b) W16 B1 u.kids := HK.out.2.1.kept st.below.size (fun b hp _ => st.below.block b (by have := HX.out.2.2.2.2 b hp; omega)) (fun b hp _ => puApart (W := W16) HX.out.2.2.2.2 ⟨HN.out.2.1, by have := HN.out.1; omega⟩ st (.inl hp))
              obtain ⟨g, cap, W17, hrun, h7, hbl, sn⟩ := st.app (by have := HN.out.1; omega) (u, B1, d1) HK.out.1 hy bx hbx hyl
              refine opH_append rfl _ _ _ rfl rfl rfl hrun ?_
              refine hK.out _ _ ?_ (fun hHeld => ?_)
              · exact HS.out _ hbl
              clear hK K hrun st hy
              try simp only [Act.put, List.setIfInBounds_toArray, List.set_cons_zero, List.set_cons_succ]
              refine wpAnyH_take (i := 9) (oi := ⟨some 53, _, _, _, _, _⟩) (v := ?_) rfl (by kernel_rfl) (by kernel_rfl) (by kernel_rfl) (fun _ _ _ h => h) (Or.inl ⟨by rfl, ?hy⟩) (by assumption) ?_
              case hy => (intro w hSw; (try dsimp only at hSw); go_simp; (try with_reducible rfl))
              try simp only [Act.put, List.setIfInBounds_toArray, List.set_cons_zero, List.set_cons_succ]
              refine wpAnyH_ready (rs := [10]) (by kernel_rfl) (by simp) ?_
              refine AllReadyH.cons (o := ⟨none, _, _, _, _, _⟩) rfl (fun K hK => ?_) AllReadyH.nil
              have g3 := Lib.cell_of_heap h7 3
              have r3 := frozen_block (j := 3) h7
              go_simp
              refine hK.out _ _ ?_ (fun hHeld => ?_)
              · exact HS.out _ sn.below
              clear hK K g3 r3
              try simp only [Act.put, List.setIfInBounds_toArray, List.set_cons_zero, List.set_cons_succ]
              have st := sn
              clear sn
              refine wpAnyH_done (by kernel_rfl) ?_ _
              go_wp2_with fail
              exact ⟨⟨k + 1, ys ++ [(u, B1, d1)], _, by omega, by go_num, by rw [List.map_append, HK.out.2.2.1, take_snocN (x := u) (by rw [List.getElem?_set]; rw [if_neg (fun e => hik e.symm)]; exact HK.out.2.2.2)]; rfl, st⟩, by simp only [intOf]; omega⟩
            · go_simp
              have hal := allocB W0 (.cells (nodeCells u B1 d1) 26)
              have sn := st.later hal
              refine hK.out _ _ ?_ (fun hHeld => ?_)
              · exact HS.out _ sn.below
              clear hK K
              try simp only [Act.put, List.setIfInBounds_toArray, List.set_cons_zero, List.set_cons_succ]
              obtain ⟨bx, hc⟩ : ∃ c, c = W0.heap.size := ⟨_, rfl⟩
              obtain ⟨W19, hw⟩ : ∃ x, x = W0.alloc (.cells (nodeCells u B1 d1) 26) := ⟨_, rfl⟩
              rw [← hw] at hal sn
              have hbx : W19.heap[bx]? = some (.cells (nodeCells u B1 d1) 26 (0, 0)) := by rw [hw, hc]; exact heap_alloc_new _ _
              rw [show W0.alloc (.cells #[.int .i64 u.kind, .int .i64 u.tok.1, .string u.tok.2, .slice B1 u.kids.length d1] 26) = W19 from hw.symm] at hHeld
              rw [show W0.alloc (.cells #[.int .i64 u.kind, .int .i64 u.tok.1, .string u.tok.2, .slice B1 u.kids.length d1] 26) = W19 from hw.symm]
              rw [← hc]
              clear hw hc hal st
              have st := sn
              clear sn
              refine wpAnyH_ready (rs := [1]) (by kernel_rfl) (by simp) ?_
              refine AllReadyH.cons (o := ⟨some 45, _, _, _, _, _⟩) rfl (fun K hK => ?_) AllReadyH.nil
              have g3 := Lib.cell_of_heap st.out 3
              go_simp
              refine hK.out _ _ ?_ (fun hHeld => ?_)
              · exact HS.out _ st.below
              clear hK K g3
              try simp only [Act.put, List.setIfInBounds_toArray, List.set_cons_zero, List.set_cons_succ]
              refine wpAnyH_ready (rs := [8]) (by kernel_rfl) (by simp) ?_
              refine AllReadyH.cons (o := ⟨some 52, _, _, _, _, _⟩) rfl (fun K hK => ?_) AllReadyH.nil
              have hy : KidsP (fun b => (Q b ∨ b7 ≤ b) ∧ b ≠ b7 ∧ sv.ownBlock ≠ some b) W19 B1 u.kids := HK.out.2.1.kept st.below.size (fun b hp _ => st.below.block b (by have := HX.out.2.2.2.2 b hp; omega)) (fun b hp _ => puApart (W := W19) HX.out.2.2.2.2 ⟨HN.out.2.1, by have := HN.out.1; omega⟩ st (.inl hp))
              obtain ⟨g, cap, W21, hrun, h7, hbl, sn⟩ := st.app (by have := HN.out.1; omega) (u, B1, d1) HK.out.1 hy bx hbx hyl
              refine opH_append rfl _ _ _ rfl rfl rfl hrun ?_
              refine hK.out _ _ ?_ (fun hHeld => ?_)
              · exact HS.out _ hbl
              clear hK K hrun st hy
              try simp only [Act.put, List.setIfInBounds_toArray, List.set_cons_zero, List.set_cons_succ]
              refine wpAnyH_take (i := 9) (oi := ⟨some 53, _, _, _, _, _⟩) (v := ?_) rfl (by kernel_rfl) (by kernel_rfl) (by kernel_rfl) (fun _ _ _ h => h) (Or.inl ⟨by rfl, ?hy⟩) (by assumption) ?_
              case hy => (intro w hSw; (try dsimp only at hSw); go_simp; (try with_reducible rfl))
              try simp only [Act.put, List.setIfInBounds_toArray, List.set_cons_zero, List.set_cons_succ]
              refine wpAnyH_ready (rs := [10]) (by kernel_rfl) (by simp) ?_
              refine AllReadyH.cons (o := ⟨none, _, _, _, _, _⟩) rfl (fun K hK => ?_) AllReadyH.nil
              have g3 := Lib.cell_of_heap h7 3
              have r3 := frozen_block (j := 3) h7
              go_simp
              refine hK.out _ _ ?_ (fun hHeld => ?_)
              · exact HS.out _ sn.below
              clear hK K g3 r3
              try simp only [Act.put, List.setIfInBounds_toArray, List.set_cons_zero, List.set_cons_succ]
              have st := sn
              clear sn
              refine wpAnyH_done (by kernel_rfl) ?_ _
              go_wp2_with fail
              exact ⟨⟨k + 1, ys ++ [(u, B1, d1)], _, by omega, by go_num, by rw [List.map_append, HK.out.2.2.1, take_snocN (x := u) (by rw [List.getElem?_set]; rw [if_neg (fun e => hik e.symm)]; exact HK.out.2.2.2)]; rfl, st⟩, by simp only [intOf]; omega⟩
        · have hke : k = l.length := by omega
          subst hke
          have hk2 : decide ((l.length : Int) < (l.length : Int)) = false := by simp
          have hk3 : ¬ (l.length : Int) < (l.length : Int) := by omega
          obtain ⟨aS, cS, rfl⟩ := own_slice hst.row
          obtain ⟨z0, z1, z2, z3⟩ := show _ ∧ _ ∧ _ ∧ _ from ⟨Lib.cell_of_heap hst.out 0, Lib.cell_of_heap hst.out 1, Lib.cell_of_heap hst.out 2, Lib.cell_of_heap hst.out 3⟩
          have e6 := (hst.below.block (w.heap.size + 1 + 1) (by omega)).trans HX.out.2.2.2.1
          obtain ⟨r0, r1, r2, r3⟩ := show _ ∧ _ ∧ _ ∧ _ from ⟨Lib.cell_of_heap e6 0, Lib.cell_of_heap e6 1, Lib.cell_of_heap e6 2, Lib.cell_of_heap e6 3⟩
          have f0 := frozen_block (j := 0) e6
          have f1 := frozen_block (j := 1) e6
          have f2 := frozen_block (j := 2) e6
          have f3 := frozen_block (j := 3) e6
          rw [List.take_of_length_le (by simp)] at hys
          have HF := Lib.hid (show _ ∧ _ ∧ _ from ⟨hst, hys, e6⟩)
          clear hst hys e6
          go_wp2_with fail
          have hz := set4 (v0 := .int .i64 kd) (v1 := .int .i64 tk) (v2 := .string tx) (v3 := .slice aS ys.length cS) HF.out.2.2
          have s0 := Lib.cell_of_heap hz 0
          have s1 := Lib.cell_of_heap hz 1
          have s2 := Lib.cell_of_heap hz 2
          have s3 := Lib.cell_of_heap hz 3
          refine bodyPost_ret (by simp [results, Tryd.f50, go_sem, s0, s1, s2, s3]; try rfl) rfl ?_
          rw [← HF.out.2.1]
          exact ⟨_, rfl, HF.out.1.node (by rw [size4]; exact Nat.le_refl _) (fun b hb _ => other4 (by rcases hb with hb | hb; (have := HX.out.2.2.2.2 b hb; omega); omega)) (fun b hb => .inr (by have := HN.out.1; omega)) (fun b hb => hb.imp id (fun h => by omega)), below4 (HX.out.2.2.1.trans (HF.out.1.below.mono (by omega))) (by omega)⟩
end Go.Proofs.YtpjlgahbbmlngaaDoor
