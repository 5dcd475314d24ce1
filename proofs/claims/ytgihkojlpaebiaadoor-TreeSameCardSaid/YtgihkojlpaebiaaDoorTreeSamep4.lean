/-
  Trees: the specification's Changed.
-/
import Derived.Test.YtgihkojlpaebiaaDoorTreeSamep3
namespace Go.Proofs.YtgihkojlpaebiaaDoor
set_option linter.unusedVariables false
set_option linter.unusedSimpArgs false
set_option linter.unnecessarySimpa false
open Go Go.RowKit

def lenV : Value → Nat
  | .slice _ n _ => n
  | _ => 0
theorem drew_heap (W : World) : W.drew.heap = W.heap := rfl
theorem own44 {W : World} {base e size n b b' : Nat} {v v0 v1 v2 v3 z0 z1 z2 z3 : Value} {xs : List Value} (h : W.ownsRow base e size v n xs) (hb : b < base) (hb' : b' < base) :
    ((((((((W.setCell ⟨b, 0, none⟩ v0).setCell ⟨b, 1, none⟩ v1).setCell ⟨b, 2, none⟩ v2).setCell ⟨b, 3, none⟩ v3).setCell ⟨b', 0, none⟩ z0).setCell ⟨b', 1, none⟩ z1).setCell ⟨b', 2, none⟩ z2).setCell ⟨b', 3, none⟩ z3).drew.ownsRow base e size v n xs := by
  obtain ⟨W1, hW1⟩ : ∃ W1, W1 = ((((W.setCell ⟨b, 0, none⟩ v0).setCell ⟨b, 1, none⟩ v1).setCell ⟨b, 2, none⟩ v2).setCell ⟨b, 3, none⟩ v3) := ⟨_, rfl⟩
  have h1 : W1.ownsRow base e size v n xs := by
    rw [hW1]; exact own_same h (fun g hg => other4 (by have := (h.lt g hg).1; omega))
  rw [← hW1]
  obtain ⟨W2, hW2⟩ : ∃ W2, W2 = ((((W1.setCell ⟨b', 0, none⟩ z0).setCell ⟨b', 1, none⟩ z1).setCell ⟨b', 2, none⟩ z2).setCell ⟨b', 3, none⟩ z3) := ⟨_, rfl⟩
  have h2 : W2.ownsRow base e size v n xs := by
    rw [hW2]; exact own_same h1 (fun g hg => other4 (by have := (h1.lt g hg).1; omega))
  rw [← hW2]
  exact own_same h2 (fun g _ => by rw [drew_heap])
theorem blk44 {W : World} {b b' t : Nat} {u0 u1 u2 u3 x0 x1 x2 x3 v0 v1 v2 v3 z0 z1 z2 z3 : Value} (hne : b ≠ b') (h : W.heap[b]? = some (.cells #[u0, u1, u2, u3] t (0, 0))) (h' : W.heap[b']? = some (.cells #[x0, x1, x2, x3] t (0, 0))) :
    ((((((((W.setCell ⟨b, 0, none⟩ v0).setCell ⟨b, 1, none⟩ v1).setCell ⟨b, 2, none⟩ v2).setCell ⟨b, 3, none⟩ v3).setCell ⟨b', 0, none⟩ z0).setCell ⟨b', 1, none⟩ z1).setCell ⟨b', 2, none⟩ z2).setCell ⟨b', 3, none⟩ z3).drew.heap[b]? = some (.cells #[v0, v1, v2, v3] t (0, 0)) ∧
    ((((((((W.setCell ⟨b, 0, none⟩ v0).setCell ⟨b, 1, none⟩ v1).setCell ⟨b, 2, none⟩ v2).setCell ⟨b, 3, none⟩ v3).setCell ⟨b', 0, none⟩ z0).setCell ⟨b', 1, none⟩ z1).setCell ⟨b', 2, none⟩ z2).setCell ⟨b', 3, none⟩ z3).drew.heap[b']? = some (.cells #[z0, z1, z2, z3] t (0, 0)) := by
  obtain ⟨W1, hW1⟩ : ∃ W1, W1 = ((((W.setCell ⟨b, 0, none⟩ v0).setCell ⟨b, 1, none⟩ v1).setCell ⟨b, 2, none⟩ v2).setCell ⟨b, 3, none⟩ v3) := ⟨_, rfl⟩
  have a1 : W1.heap[b]? = some (.cells #[v0, v1, v2, v3] t (0, 0)) := by rw [hW1]; exact set4 h
  have a2 : W1.heap[b']? = some (.cells #[x0, x1, x2, x3] t (0, 0)) := by rw [hW1]; exact (other4 (Ne.symm hne)).trans h'
  rw [← hW1, drew_heap]
  exact ⟨(other4 hne).trans a1, set4 a2⟩
theorem bel44 {W w : World} {B b b' : Nat} {v0 v1 v2 v3 z0 z1 z2 z3 : Value} (h : Below B w W) (hb : B ≤ b) (hb' : B ≤ b') :
    Below B w ((((((((W.setCell ⟨b, 0, none⟩ v0).setCell ⟨b, 1, none⟩ v1).setCell ⟨b, 2, none⟩ v2).setCell ⟨b, 3, none⟩ v3).setCell ⟨b', 0, none⟩ z0).setCell ⟨b', 1, none⟩ z1).setCell ⟨b', 2, none⟩ z2).setCell ⟨b', 3, none⟩ z3).drew := by
  have h1 := below4 (b := b) (v0 := v0) (v1 := v1) (v2 := v2) (v3 := v3) h hb
  have h2 := below4 (b := b') (v0 := z0) (v1 := z1) (v2 := z2) (v3 := z3) h1 hb'
  exact h2.drew
theorem siz44 {W : World} {b b' : Nat} {v0 v1 v2 v3 z0 z1 z2 z3 : Value} :
    ((((((((W.setCell ⟨b, 0, none⟩ v0).setCell ⟨b, 1, none⟩ v1).setCell ⟨b, 2, none⟩ v2).setCell ⟨b, 3, none⟩ v3).setCell ⟨b', 0, none⟩ z0).setCell ⟨b', 1, none⟩ z1).setCell ⟨b', 2, none⟩ z2).setCell ⟨b', 3, none⟩ z3).drew.heap.size = W.heap.size := by
  rw [drew_heap]; exact size4.trans size4
theorem RSame_S (a b : Nd) (va vb : Value) (w : World) (hc : countN a ≤ 10000000) (h1 : NodeV w va a) (h2 : NodeV w vb b) :
    Calls Tryd.prog 33 #[va, vb] w fun e w' => e = .returned (.bool (sameS a b)) ∧ Below w.heap.size w w' :=
  RSame_node (deepN a + 1) a b va vb w (depthN_of _ a (Nat.lt_succ_self _)) (smallN_of _ a hc) h1 h2
/-- the two parts so far -/
structure ChSt (w : World) (a b : Nd) (wr : World) (pre : List Nat) (x y : Nd) (Ax Ay : Option Addr) (cx cy m : Nat) : Prop where
  b1 : wr.heap[w.heap.size]? = some (.cells (nodeCells x Ax cx) 26 (0, 0))
  b2 : wr.heap[w.heap.size + 1]? = some (.cells (nodeCells y Ay cy) 26 (0, 0))
  k1 : KidsP (fun k => k < w.heap.size) w Ax x.kids
  k2 : KidsP (fun k => k < w.heap.size) w Ay y.kids
  deep : deepN x < m
  here : rChR (deepN a + 1) a b = pre ++ rChR m x y
  long : pre.length + m ≤ deepN a + 1
  c1 : countN x ≤ countN a
  c2 : countN y ≤ countN b
  below : Below w.heap.size w wr

set_option maxRecDepth 100000 in
set_option maxHeartbeats 2000000 in
theorem RChanged_same (a b : Nd) (va vb : Value) (w : World) (hCa : sizeN a) (ha : NodeV w va a) (hb : NodeV w vb b) (hs : sameS a b = true) :
    Calls Tryd.prog 34 #[va, vb] w fun e w' => e = .returned (.tuple #[.slice none 0 0, .bool false]) ∧ Below w.heap.size w w' := by
  have ha0 := ha
  have hb0 := hb
  obtain ⟨A, c, rfl, hka⟩ := ha
  obtain ⟨B, d, rfl, hkb⟩ := hb
  obtain ⟨w0, hw0⟩ : ∃ w0, w0 = (w.alloc (.cells #[.int .i64 a.kind, .int .i64 a.tok.1, .string a.tok.2, .slice A a.kids.length c] 26)).alloc (.cells #[.int .i64 b.kind, .int .i64 b.tok.1, .string b.tok.2, .slice B b.kids.length d] 26) := ⟨_, rfl⟩
  have hB0 : Below w.heap.size w w0 := by rw [hw0]; exact ((Below.refl _ _).alloc (Nat.le_refl _) _).alloc (by simp) _
  have hsm := RSame_S a b _ _ w0 hCa (ha0.below hB0) (hb0.below hB0)
  rw [hs] at hsm
  have HS := Lib.hid hsm
  have HW := Lib.hid hw0
  have HB := Lib.hid hB0
  clear hw0 hB0 hsm hka hkb ha0 hb0 hs
  go_enter Tryd.func34, Tryd.ntmps34
  go_wp2_with fail
  rw [← HW.out]
  refine HS.out.mono ?_
  rintro e w1 ⟨rfl, hb1⟩
  have HB1 := Lib.hid (HB.out.trans (hb1.mono HB.out.size))
  clear hb1
  go_wp2_with fail
  refine bodyPost_ret (by simp [results, Tryd.f34, go_sem]; try rfl) rfl ?_
  exact ⟨rfl, HB1.out⟩

set_option maxRecDepth 100000 in
set_option maxHeartbeats 4000000 in
theorem RChanged_differ (a b : Nd) (va vb : Value) (w : World) (hCa : sizeN a) (hCb : sizeN b) (ha : NodeP (fun _ => True) w va a) (hb : NodeP (fun _ => True) w vb b) (hs : sameS a b = false) :
    Calls Tryd.prog 34 #[va, vb] w fun e w' => (∃ v', e = .returned (.tuple #[v', .bool true]) ∧ w'.ownsRow w.heap.size 3 1 v' (rChR (deepN a + 1) a b).length (intCells (rChR (deepN a + 1) a b))) ∧ Below w.heap.size w w' := by
  have ha0 := ha.node
  have hb0 := hb.node
  obtain ⟨A, c, rfl, _, hka⟩ := ha
  obtain ⟨B, d, rfl, _, hkb⟩ := hb
  obtain ⟨w0, hw0⟩ : ∃ w0, w0 = (w.alloc (.cells #[.int .i64 a.kind, .int .i64 a.tok.1, .string a.tok.2, .slice A a.kids.length c] 26)).alloc (.cells #[.int .i64 b.kind, .int .i64 b.tok.1, .string b.tok.2, .slice B b.kids.length d] 26) := ⟨_, rfl⟩
  have hB0 : Below w.heap.size w w0 := by rw [hw0]; exact ((Below.refl _ _).alloc (Nat.le_refl _) _).alloc (by simp) _
  have hs0 : w0.heap.size = w.heap.size + 2 := by rw [hw0]; simp
  have hb1 : w0.heap[w.heap.size]? = some (.cells (nodeCells a A c) 26 (0, 0)) := by rw [hw0, alloc_old _ _ _ (by simp)]; exact alloc_at _ _ _ rfl
  have hb2 : w0.heap[w.heap.size + 1]? = some (.cells (nodeCells b B d) 26 (0, 0)) := by rw [hw0]; exact alloc_at _ _ _ (by simp)
  have hk1 : KidsP (fun k => k < w.heap.size) w A a.kids := hka.kept (Nat.le_refl _) (fun _ _ _ => rfl) (fun b _ hb => hb)
  have hk2 : KidsP (fun k => k < w.heap.size) w B b.kids := hkb.kept (Nat.le_refl _) (fun _ _ _ => rfl) (fun b _ hb => hb)
  have hsm := RSame_S a b _ _ w0 hCa (ha0.below hB0) (hb0.below hB0)
  rw [hs] at hsm
  obtain ⟨i0, hi0, hz0, hzz1, hzz2⟩ := info_parts infoInt
  have HS := Lib.hid hsm
  have HW := Lib.hid hw0
  have HX := Lib.hid (show _ ∧ _ ∧ _ ∧ _ ∧ _ ∧ _ from ⟨hB0, hs0, hb1, hb2, hk1, hk2⟩)
  have HN := Lib.hid (show _ ∧ _ from ⟨hCa, hCb⟩)
  have hda := atN_small_len a
  have hda2 : deepN a < 10000000 := by unfold sizeN at hCa; omega
  clear hw0 hB0 hs0 hb1 hb2 hk1 hk2 hsm hka hkb ha0 hb0 hs hCa hCb hda
  go_enter Tryd.func34, Tryd.ntmps34
  go_wp2_with fail
  rw [← HW.out]
  refine HS.out.mono ?_
  rintro e w1 ⟨rfl, hb1⟩
  have hst1 : ChSt w a b w1 [] a b A B c d (deepN a + 1) := ⟨keepB HX.out.2.2.1 hb1, keepB HX.out.2.2.2.1 hb1, HX.out.2.2.2.2.1, HX.out.2.2.2.2.2, Nat.lt_succ_self _, rfl, by simp, Nat.le_refl _, Nat.le_refl _, HX.out.1.trans (hb1.mono HX.out.1.size)⟩
  have hs1 := hb1.size
  rw [HX.out.2.1] at hs1
  have H1 := Lib.hid hst1
  clear hst1 hb1
  go_wp2_with fail
  go_loopw [6] (fun out0 wr => ∃ (pre : List Nat) (sv : Value) (x y : Nd) (Ax Ay : Option Addr) (cx cy m : Nat), sv = out0 ∧ wr.ownsRow w1.heap.size 3 1 sv pre.length (intCells pre) ∧ w1.heap.size ≤ wr.heap.size ∧ ChSt w a b wr pre x y Ax Ay cx cy m) (fun out0 _ => deepN a + 2 - lenV out0)
  case atStart => exact ⟨[], _, a, b, A, B, c, d, deepN a + 1, rfl, by simpa [intCells] using World.ownsRow_nil w1 w1.heap.size 3 1, Nat.le_refl _, H1.out⟩
  case round =>
    obtain ⟨pre, sv, x, y, Ax, Ay, cx, cy, m, rfl, hrow, hsz, hst⟩ := hrel
    obtain ⟨aS, cS, rfl⟩ := own_slice hrow
    obtain ⟨p0, p1, p2, p3⟩ := cells_of_block hst.b1
    obtain ⟨q0, q1, q2, q3⟩ := cells_of_block hst.b2
    by_cases hgo : x.kind = y.kind ∧ x.kind ≠ 1 ∧ x.kids.length = y.kids.length
    · obtain ⟨hg1, hg2, hg3⟩ := hgo
      have e1 : (x.kind == y.kind) = true := by simp [hg1]
      have e2 : (y.kind != 1) = true := by simp; rw [← hg1]; exact hg2
      have e2' : (x.kind != 1) = true := by simpa using hg2
      have e3 : ((x.kids.length : Int) == (y.kids.length : Int)) = true := by simp; omega
      have e3' : (x.kids.length == y.kids.length) = true := by simp; omega
      have HG := Lib.hid (show _ ∧ _ ∧ _ ∧ _ ∧ _ from ⟨hst, hrow, hg1, hg2, hg3⟩)
      have hws : w.heap.size + 2 ≤ wr.heap.size := by omega
      have hcount := countN_kids x
      have hlenx := len_countL x.kids
      have hCC := HN.out.1
      unfold sizeN at hCC
      have hc1 := hst.c1
      have hlx : x.kids.length ≤ 10000000 := by omega
      clear hst hrow hcount hlenx hCC hc1
      go_wp2_with fail
      obtain ⟨wo, hwo⟩ : ∃ wo, wo = wr := ⟨_, rfl⟩
      subst hwo
      go_loopw [7, 8, 9] (fun mn att ii wq => ∃ (k : Nat) (q : Nat × Nat), k ≤ x.kids.length ∧ ii = .int .i64 k ∧ mn = .int .i64 (q.1 : Nat) ∧ att = .int .i64 (q.2 : Nat) ∧ dfA 0 x.kids y.kids (0, 0) = dfA k (x.kids.drop k) (y.kids.drop k) q ∧ q.1 ≤ k ∧ q.2 ≤ k ∧ Below wo.heap.size wo wq) (fun _ _ ii _ => x.kids.length - (intOf ii).toNat)
      case atStart => exact ⟨0, (0, 0), Nat.zero_le _, rfl, rfl, rfl, rfl, Nat.le_refl _, Nat.le_refl _, Below.refl _ _⟩
      case round =>
        obtain ⟨k, ⟨qm, qa⟩, hk, rfl, rfl, rfl, hdf, hqm, hqa, hBq⟩ := hrel
        simp only at hqm hqa
        have hBw : Below w.heap.size w wr := HG.out.1.below.trans (hBq.mono (by omega))
        have hla : w.heap.size < wr.heap.size := by have := hBq.size; omega
        have hlb : w.heap.size + 1 < wr.heap.size := by have := hBq.size; omega
        obtain ⟨_, _, _, qa3⟩ := cells_of_block ((hBq.block _ (show w.heap.size < wo.heap.size by omega)).trans HG.out.1.b1)
        obtain ⟨_, _, _, qb3⟩ := cells_of_block ((hBq.block _ (show w.heap.size + 1 < wo.heap.size by omega)).trans HG.out.1.b2)
        by_cases hlt : k < x.kids.length
        · have hlt2 : k < y.kids.length := by rw [← HG.out.2.2.2.2]; exact hlt
          have hk0 : (0 : Int) ≤ (k : Int) := by omega
          have hk1 : (k : Int) < (x.kids.length : Int) := by omega
          have hk2 : (k : Int) < (y.kids.length : Int) := by omega
          obtain ⟨b1, o1, rfl, n1⟩ := (HG.out.1.k1.later hBw) (by omega)
          obtain ⟨b2, o2, rfl, n2⟩ := (HG.out.1.k2.later hBw) (by omega)
          have hu0 : x.kids[k]? = some x.kids[k] := List.getElem?_eq_getElem hlt
          have hv0 : y.kids[k]? = some y.kids[k] := List.getElem?_eq_getElem hlt2
          obtain ⟨u, hu⟩ : ∃ u, u = x.kids[k] := ⟨_, rfl⟩
          obtain ⟨v, hv⟩ : ∃ v, v = y.kids[k] := ⟨_, rfl⟩
          rw [← hu] at hu0
          rw [← hv] at hv0
          obtain ⟨C1, d1, pz1, s1, x0, x1, x2, x3, gc1, xk⟩ := n1.get hu0
          obtain ⟨C2, d2, pz2, s2, y0, y1, y2, y3, gc2, yk⟩ := n2.get hv0
          have hcu := countL_get _ _ _ hu0
          have hcx := countN_kids x
          have hc1 := HG.out.1.c1
          have hCC := HN.out.1
          unfold sizeN at hCC
          rw [dfA_step hu0 hv0] at hdf
          have hcall : Calls Tryd.prog 33 #[.agg #[.int .i64 u.kind, .int .i64 u.tok.1, .string u.tok.2, .slice C1 u.kids.length d1], .agg #[.int .i64 v.kind, .int .i64 v.tok.1, .string v.tok.2, .slice C2 v.kids.length d2]] wr.drew fun e w' => e = .returned (.bool (sameS u v)) ∧ Below wr.heap.size wr w' :=
            (RSame_S u v _ _ wr.drew (by omega) ⟨C1, d1, rfl, xk.kids.below (Below.refl _ _).drew⟩ ⟨C2, d2, rfl, yk.kids.below (Below.refl _ _).drew⟩).mono fun e w' ⟨g1, g2⟩ => ⟨g1, (Below.drew (Below.refl _ _)).trans g2⟩
          obtain ⟨sq, hsq⟩ : ∃ sq, sq = sameS u v := ⟨_, rfl⟩
          rw [← hsq] at hcall hdf
          have e5 : IntKind.i64.wrap ((k : Int) + 1) = ((k + 1 : Nat) : Int) := by rw [IntWalk.i64_in _ (by omega)]; omega
          have e6 : IntKind.i64.wrap ((qm : Int) + 1) = ((qm + 1 : Nat) : Int) := by rw [IntWalk.i64_in _ (by omega)]; omega
          have HCall := Lib.hid hcall
          have HD := Lib.hid (show _ ∧ _ from ⟨hdf, hBq⟩)
          clear hu hv hu0 hv0 n1 n2 xk yk hcu hcx hc1 hCC hcall hsq hdf hBq hBw gc1 gc2 pz1 pz2
          go_wp2_with fail
          go_region_held3 (fun W => W.cell? ⟨w.heap.size, 3, none⟩ = some (.slice (some ⟨b1, o1, none⟩) x.kids.length cx) ∧ W.cell? ⟨w.heap.size + 1, 3, none⟩ = some (.slice (some ⟨b2, o2, none⟩) y.kids.length cy) ∧ W.cell? ⟨b1, o1 + k * 4, none⟩ = some (.int .i64 u.kind) ∧ W.cell? ⟨b1, o1 + k * 4 + 1, none⟩ = some (.int .i64 u.tok.1) ∧ W.cell? ⟨b1, o1 + k * 4 + 2, none⟩ = some (.string u.tok.2) ∧ W.cell? ⟨b1, o1 + k * 4 + 3, none⟩ = some (.slice C1 u.kids.length d1) ∧ W.cell? ⟨b2, o2 + k * 4, none⟩ = some (.int .i64 v.kind) ∧ W.cell? ⟨b2, o2 + k * 4 + 1, none⟩ = some (.int .i64 v.tok.1) ∧ W.cell? ⟨b2, o2 + k * 4 + 2, none⟩ = some (.string v.tok.2) ∧ W.cell? ⟨b2, o2 + k * 4 + 3, none⟩ = some (.slice C2 v.kids.length d2))
            (first
              | go_keep
              | (exact ⟨j1, j2, j3, j4, j5, j6, j7, j8, j9, j10⟩))
            ((first
              | (go_simp
                 go_at_call 33
                 with_reducible refine HCall.out.mono ?_
                 rintro e wA ⟨rfl, hba⟩
                 have j1 := (hba.cell (p := ⟨w.heap.size, 3, none⟩) hla).trans qa3
                 have j2 := (hba.cell (p := ⟨w.heap.size + 1, 3, none⟩) hlb).trans qb3
                 have j3 := (hba.cell (p := ⟨b1, o1 + k * 4, none⟩) s1).trans x0
                 have j4 := (hba.cell (p := ⟨b1, o1 + k * 4 + 1, none⟩) s1).trans x1
                 have j5 := (hba.cell (p := ⟨b1, o1 + k * 4 + 2, none⟩) s1).trans x2
                 have j6 := (hba.cell (p := ⟨b1, o1 + k * 4 + 3, none⟩) s1).trans x3
                 have j7 := (hba.cell (p := ⟨b2, o2 + k * 4, none⟩) s2).trans y0
                 have j8 := (hba.cell (p := ⟨b2, o2 + k * 4 + 1, none⟩) s2).trans y1
                 have j9 := (hba.cell (p := ⟨b2, o2 + k * 4 + 2, none⟩) s2).trans y2
                 have j10 := (hba.cell (p := ⟨b2, o2 + k * 4 + 3, none⟩) s2).trans y3)))
          have hBA := Lib.hid (HD.out.2.trans (hba.mono HD.out.2.size))
          clear hba
          cases sq with
          | true =>
            have hd2 := Lib.hid (HD.out.1.trans (if_pos rfl))
            go_wp2_with fail
            refine ⟨?_, by simp [intOf]; omega⟩
            exact ⟨k + 1, (qm, qa), by omega, by go_num, rfl, rfl, hd2.out, by simp only; omega, by simp only; omega, hBA.out⟩
          | false =>
            have hd2 := Lib.hid (HD.out.1.trans (if_neg (by decide)))
            go_wp2_with fail
            refine ⟨?_, by simp [intOf]; omega⟩
            exact ⟨k + 1, (qm + 1, k), by omega, by go_num, by go_num, rfl, hd2.out, by simp only; omega, by simp only; omega, hBA.out⟩
        · have hke : x.kids.length ≤ k := by omega
          rw [dfA_end hke] at hdf
          have t1 : ¬ (k : Int) < (x.kids.length : Int) := by omega
          have t2 : decide ((k : Int) < (x.kids.length : Int)) = false := decide_eq_false t1
          obtain ⟨m', rfl⟩ : ∃ m', m = m' + 1 := ⟨m - 1, by have := HG.out.1.deep; omega⟩
          have hrx : rChR (m' + 1) x y = if qm = 1 then (match x.kids[qa]?, y.kids[qa]? with
              | some u, some v => qa :: rChR m' u v
              | _, _ => []) else [] := by
            simp only [rChR]
            rw [if_pos ⟨HG.out.2.2.1, HG.out.2.2.2.1, HG.out.2.2.2.2⟩, hdf]
            rfl
          have hrowq : wr.ownsRow w1.heap.size 3 1 (.slice aS pre.length cS) pre.length (intCells pre) := own_same HG.out.2.1 (fun g e => hBq.block g (HG.out.2.1.lt g e).2)
          have hBqs := hBq.size
          by_cases hq1 : qm = 1
          · subst hq1
            have hone := (chL_one (fun a b => ([], !(sameS a b))) x.kids y.kids 0 0 HG.out.2.2.2.2 (fun _ _ _ => rfl)).2 (by rw [hdf])
            rw [hdf] at hone
            simp only [Nat.sub_zero] at hone
            have hqx : qa < x.kids.length := hone.2
            have hqy : qa < y.kids.length := by rw [← HG.out.2.2.2.2]; exact hqx
            have hu0 : x.kids[qa]? = some x.kids[qa] := List.getElem?_eq_getElem hqx
            have hv0 : y.kids[qa]? = some y.kids[qa] := List.getElem?_eq_getElem hqy
            obtain ⟨u, hu⟩ : ∃ u, u = x.kids[qa] := ⟨_, rfl⟩
            obtain ⟨v, hv⟩ : ∃ v, v = y.kids[qa] := ⟨_, rfl⟩
            rw [← hu] at hu0
            rw [← hv] at hv0
            rw [if_pos rfl, hu0, hv0] at hrx
            simp only at hrx
            obtain ⟨b1, o1, rfl, n1⟩ := HG.out.1.k1 (by omega)
            obtain ⟨b2, o2, rfl, n2⟩ := HG.out.1.k2 (by omega)
            obtain ⟨C1, d1, pz1, s1, x0, x1, x2, x3, gc1, xk⟩ := n1.get hu0
            obtain ⟨C2, d2, pz2, s2, y0, y1, y2, y3, gc2, yk⟩ := n2.get hv0
            have hdu := kid_depth (List.mem_of_getElem? hu0)
            have hcu := countL_get _ _ _ hu0
            have hcx := countN_kids x
            have hcv := countL_get _ _ _ hv0
            have hcy := countN_kids y
            have hj0 : (0 : Int) ≤ (qa : Int) := by omega
            have hj1 : (qa : Int) < (x.kids.length : Int) := by omega
            have hj2 : (qa : Int) < (y.kids.length : Int) := by omega
            have hrow1 : (wr.alloc (.cells #[.int .i64 (qa : Nat)] 3)).ownsRow w1.heap.size 3 1 (.slice aS pre.length cS) pre.length (intCells pre) := hrowq.alloc _
            have hnews := World.news_of_block (w := wr.alloc (.cells #[.int .i64 (qa : Nat)] 3)) (B := wr.heap.size) (cs := #[.int .i64 (qa : Nat)]) (t := 3) (fr := (0, 0)) (alloc_at _ _ _ rfl)
            have hlong := HG.out.1.long
            have h63 : pre.length + 1 ≤ maxLen := by unfold maxLen; omega
            have hby : (pre.length + 1) * 8 ≤ 140737488355328 := by omega
            have hbs : w1.heap.size ≤ (wr.alloc (.cells #[.int .i64 (qa : Nat)] 3)).heap.size := by simp; omega
            have HQ := Lib.hid (show _ ∧ _ ∧ _ ∧ _ ∧ _ ∧ _ ∧ _ ∧ _ ∧ _ ∧ _ from ⟨hrx, hdu, (by have := HG.out.1.c1; omega : countN u ≤ countN a), (by have := HG.out.1.c2; omega : countN v ≤ countN b), xk, yk, hBw, hBq, gc1, gc2⟩)
            clear hrx hdu hcu hcx hcv hcy xk yk hBw hBq gc1 gc2 n1 n2 hu hv hu0 hv0 hone hdf hrowq
            go_wp2_with (at_builtin; refine wpList_append_lies _ rfl _ _ 51 rfl w1.heap.size 3 i0 _ 1 8 Tryd.underlying51 hi0 hz0 hzz1 hzz2 rfl (by decide) _ _ _ rfl hrow1 ⟨wr.heap.size, 0, none⟩ 1 1 [.int .i64 (qa : Nat)] rfl rfl hnews (by intro u hu; simp at hu; subst hu; rfl) (by decide) h63 hby hbs (wr.heap.size + 1) (by simp) ?_)
            intro g cap w6 hrow6 hgr6 hat6 hlt6
            have hold : ∀ b, b < w1.heap.size → w6.heap[b]? = wr.heap[b]? := fun b hb =>
              (hgr6.block b (by simp; omega) (fun e => by have := (hrow1.lt b e.symm).1; omega)).trans (alloc_old _ _ _ (by omega))
            have hb1 := (hold w.heap.size (by omega)).trans ((HQ.out.2.2.2.2.2.2.2.1.block _ (show w.heap.size < wo.heap.size by omega)).trans HG.out.1.b1)
            have hb2 := (hold (w.heap.size + 1) (by omega)).trans ((HQ.out.2.2.2.2.2.2.2.1.block _ (show w.heap.size + 1 < wo.heap.size by omega)).trans HG.out.1.b2)
            have hs6 := hgr6.size
            rw [World.size_alloc] at hs6
            have hB6 : Below w.heap.size w w6 := HQ.out.2.2.2.2.2.2.1.trans ⟨hgr6.os, hgr6.tape, hgr6.output, by omega, fun b hb => hold b (by omega)⟩
            obtain ⟨r0, r1, r2, r3⟩ := cells_of_block hb1
            obtain ⟨t0, t1', t2', t3⟩ := cells_of_block hb2
            have f0 := frozen_block (j := 0) hb1
            have f1 := frozen_block (j := 1) hb1
            have f2 := frozen_block (j := 2) hb1
            have f3 := frozen_block (j := 3) hb1
            have g0 := frozen_block (j := 0) hb2
            have g1 := frozen_block (j := 1) hb2
            have g2 := frozen_block (j := 2) hb2
            have g3 := frozen_block (j := 3) hb2
            have l0 := (hB6.cell (p := ⟨b1, o1 + qa * 4, none⟩) s1).trans x0
            have l1 := (hB6.cell (p := ⟨b1, o1 + qa * 4 + 1, none⟩) s1).trans x1
            have l2 := (hB6.cell (p := ⟨b1, o1 + qa * 4 + 2, none⟩) s1).trans x2
            have l3 := (hB6.cell (p := ⟨b1, o1 + qa * 4 + 3, none⟩) s1).trans x3
            have m0 := (hB6.cell (p := ⟨b2, o2 + qa * 4, none⟩) s2).trans y0
            have m1 := (hB6.cell (p := ⟨b2, o2 + qa * 4 + 1, none⟩) s2).trans y1
            have m2 := (hB6.cell (p := ⟨b2, o2 + qa * 4 + 2, none⟩) s2).trans y2
            have m3 := (hB6.cell (p := ⟨b2, o2 + qa * 4 + 3, none⟩) s2).trans y3
            have hne1 : b2 ≠ w.heap.size := by omega
            have H6 := Lib.hid (show _ ∧ _ ∧ _ ∧ _ ∧ _ from ⟨hrow6, hb1, hb2, hB6, hs6⟩)
            clear hrow6 hgr6 hat6 hlt6 hold hb1 hb2 hB6 hrow1 hnews h63 hby hbs x0 x1 x2 x3 y0 y1 y2 y3
            go_wp2_with fail
            go_region
            all_goals
              go_wp2_with fail
              refine ⟨⟨pre ++ [qa], _, u, v, C1, C2, d1, d2, m', rfl, ?_, ?_, ?_, ?_, HQ.out.2.2.2.2.1, HQ.out.2.2.2.2.2.1, ?_, ?_, ?_, HQ.out.2.2.1, HQ.out.2.2.2.1, ?_⟩, by show deepN a + 2 - (pre.length + 1) < deepN a + 2 - pre.length; omega⟩
              · rw [show (pre ++ [qa]).length = pre.length + 1 by simp, show intCells (pre ++ [qa]) = intCells pre ++ [.int .i64 (qa : Nat)] by simp [intCells]]
                exact own44 H6.out.1 (by omega) (by omega)
              · rw [siz44]; omega
              · exact (blk44 (Nat.ne_of_lt (Nat.lt_succ_self _)) H6.out.2.1 H6.out.2.2.1).1
              · exact (blk44 (Nat.ne_of_lt (Nat.lt_succ_self _)) H6.out.2.1 H6.out.2.2.1).2
              · have := HG.out.1.deep; have := HQ.out.2.1; omega
              · rw [HG.out.1.here, HQ.out.1, List.append_assoc]; rfl
              · simp only [List.length_append, List.length_singleton]; omega
              · exact bel44 H6.out.2.2.2.1 (Nat.le_refl _) (Nat.le_succ _)
          · rw [if_neg hq1] at hrx
            have hh := HG.out.1.here
            rw [hrx, List.append_nil] at hh
            have hrw := own_le hrowq (show w.heap.size ≤ w1.heap.size by omega)
            have HE := Lib.hid (show _ ∧ _ ∧ _ from ⟨hh, hrw, hBw⟩)
            have e7 : ((qm : Int) != 1) = true := by simp; omega
            have e8 : (qm != 1) = true := by simpa using hq1
            clear hh hrw hrx hdf hrowq hBw hBq
            go_wp2_with fail
            refine bodyPost_ret (by simp [results, Tryd.f34, go_sem]; try rfl) rfl ?_
            rw [HE.out.1]
            exact ⟨⟨_, rfl, HE.out.2.1⟩, HE.out.2.2⟩
    · have hrc : rChR m x y = [] := by
        cases m with
        | zero => rfl
        | succ m => simp only [rChR]; rw [if_neg hgo]
      have hh := hst.here
      rw [hrc, List.append_nil] at hh
      have hrw := own_le hrow (show w.heap.size ≤ w1.heap.size by omega)
      have HE := Lib.hid (show _ ∧ _ ∧ _ from ⟨hh, hrw, hst.below⟩)
      clear hh hrw hst hrow hrc
      by_cases h1 : x.kind = y.kind
      · have e1 : (x.kind == y.kind) = true := by simp [h1]
        by_cases h2 : x.kind = 1
        · have e2 : (y.kind != 1) = false := by simp; rw [← h1]; exact h2
          have e2' : (x.kind != 1) = false := by simpa using h2
          go_wp2_with fail
          refine bodyPost_ret (by simp [results, Tryd.f34, go_sem]; try rfl) rfl ?_
          rw [HE.out.1]
          exact ⟨⟨_, rfl, HE.out.2.1⟩, HE.out.2.2⟩
        · have e2 : (y.kind != 1) = true := by simp; rw [← h1]; exact h2
          have e2' : (x.kind != 1) = true := by simpa using h2
          have h3 : x.kids.length ≠ y.kids.length := fun h => hgo ⟨h1, h2, h⟩
          have e3 : ((x.kids.length : Int) == (y.kids.length : Int)) = false := by simp; omega
          have e3' : (x.kids.length == y.kids.length) = false := by simp; omega
          go_wp2_with fail
          refine bodyPost_ret (by simp [results, Tryd.f34, go_sem]; try rfl) rfl ?_
          rw [HE.out.1]
          exact ⟨⟨_, rfl, HE.out.2.1⟩, HE.out.2.2⟩
      · have e1 : (x.kind == y.kind) = false := by simpa using h1
        go_wp2_with fail
        refine bodyPost_ret (by simp [results, Tryd.f34, go_sem]; try rfl) rfl ?_
        rw [HE.out.1]
        exact ⟨⟨_, rfl, HE.out.2.1⟩, HE.out.2.2⟩
end Go.Proofs.YtgihkojlpaebiaaDoor
