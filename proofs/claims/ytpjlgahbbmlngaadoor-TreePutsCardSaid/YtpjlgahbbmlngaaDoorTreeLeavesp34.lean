/-
  Trees: Same, the program's and the specification's.; Trees: what the walks of statements with positions take.; A position with one number more, made beside a call: what each state of such a region keeps.
-/
import Derived.Test.YtpjlgahbbmlngaaDoorTreeLeavesp33
import Derived.Deep.RegionHeld3
import Derived.Test.YtpjlgahbbmlngaaDoorTreeLeavesp32
import Derived.Test.YtpjlgahbbmlngaaDoorTreeLeavesp31
import Derived.Test.YtpjlgahbbmlngaaDoorTreeLeavesp17
namespace Go.Proofs.YtpjlgahbbmlngaaDoor
set_option linter.unusedVariables false
set_option linter.unusedSimpArgs false
open Go.RowKit

set_option maxRecDepth 100000 in
theorem Same_node (a b : Nd) (va vb : Value) (w : World) (hs : SmallN 65537 a) (ha : NodeV w va a) (hb : NodeV w vb b) :
    Calls Tryd.prog 32 #[va, vb] w fun e w' => e = .returned (.bool (sameT 65537 a b)) ∧ Below w.heap.size w w' := by
  obtain ⟨A1, c1, rfl, h1⟩ := ha
  obtain ⟨A2, c2, rfl, h2⟩ := hb
  obtain ⟨w0, hw0⟩ : ∃ w0, w0 = (w.alloc (.cells #[.int .i64 a.kind, .int .i64 a.tok.1, .string a.tok.2, .slice A1 a.kids.length c1] 26)).alloc (.cells #[.int .i64 b.kind, .int .i64 b.tok.1, .string b.tok.2, .slice A2 b.kids.length c2] 26) := ⟨_, rfl⟩
  have hB0 : Below w.heap.size w w0 := by rw [hw0]; exact ((Below.refl _ _).alloc (Nat.le_refl _) _).alloc (by simp) _
  have hc := sameTo_any 65537 (Nat.le_refl _) a b _ _ w0 hs ⟨A1, c1, rfl, h1.below hB0⟩ ⟨A2, c2, rfl, h2.below hB0⟩
  rw [show ((65537 : Nat) : Int) - 1 = 65536 from rfl] at hc
  have HC := Lib.hid hc
  have HW := Lib.hid hw0
  have HB := Lib.hid hB0
  clear hc hw0 hB0 h1 h2 hs
  generalize a.tok = t1 at *
  generalize b.tok = t2 at *
  generalize sameT 65537 a b = r at *
  go_enter Tryd.func32, Tryd.ntmps32
  go_wp2_with fail
  rw [← HW.out]
  refine HC.out.mono ?_
  rintro e w2 ⟨rfl, hb2⟩
  go_wp2_with fail
  go_ret
  exact ⟨rfl, HB.out.trans (hb2.mono HB.out.size)⟩

/-- no deeper than so many levels less one -/
def DepthN : Nat → Nd → Prop
  | 0, _ => False
  | m + 1, a => ∀ x ∈ a.kids, DepthN m x
theorem eqF_congr {r r' : Nd → Nd → Bool} : ∀ {a b : List Nd}, (∀ x ∈ a, ∀ y, r x y = r' x y) → eqF r a b = eqF r' a b
  | [], [], _ => rfl
  | [], _ :: _, _ => rfl
  | _ :: _, [], _ => rfl
  | x :: a, y :: b, h => by
    simp only [eqF]
    rw [h x (List.mem_cons_self ..) y, eqF_congr (a := a) (b := b) (fun z hz => h z (List.mem_cons_of_mem _ hz))]
/-- levels enough are enough -/
theorem sameT_eq : ∀ (m m' : Nat) (a b : Nd), DepthN m a → DepthN m' a → sameT m a b = sameT m' a b
  | 0, _, _, _, h, _ => absurd h id
  | _ + 1, 0, _, _, _, h => absurd h id
  | m + 1, m' + 1, a, b, h1, h2 => by
    simp only [sameT]
    rw [eqF_congr (a := a.kids) (b := b.kids) (fun x hx y => sameT_eq m m' x y (h1 x hx) (h2 x hx))]
theorem DepthN.more : ∀ {m : Nat} {a : Nd}, DepthN m a → ∀ {m' : Nat}, m ≤ m' → DepthN m' a
  | 0, _, h, _, _ => absurd h id
  | m + 1, a, h, 0, hm => by omega
  | m + 1, a, h, m' + 1, hm => fun x hx => (h x hx).more (by omega)
theorem alikeR_no {k1 k2 : Int} {t1 t2 : Tok} {n1 n2 : Nat} (h : k1 ≠ k2 ∨ t1 ≠ t2 ∨ n1 ≠ n2) : alikeR k1 k2 t1 t2 n1 n2 = false := by
  unfold alikeR
  rcases h with h | h | h <;> simp [h]

theorem kept10 {w W : World} (hb : Below w.heap.size w W) {a b c d oa ob oc1 oc2 oc3 oc4 od1 od2 od3 od4 : Nat} {v1 v2 x0 x1 x2 x3 y0 y1 y2 y3 : Value} (la : a < w.heap.size) (lb : b < w.heap.size) (lc : c < w.heap.size) (ld : d < w.heap.size)
    (h1 : w.cell? ⟨a, oa, none⟩ = some v1) (h2 : w.cell? ⟨b, ob, none⟩ = some v2) (g0 : w.cell? ⟨c, oc1, none⟩ = some x0) (g1 : w.cell? ⟨c, oc2, none⟩ = some x1) (g2 : w.cell? ⟨c, oc3, none⟩ = some x2) (g3 : w.cell? ⟨c, oc4, none⟩ = some x3)
    (f0 : w.cell? ⟨d, od1, none⟩ = some y0) (f1 : w.cell? ⟨d, od2, none⟩ = some y1) (f2 : w.cell? ⟨d, od3, none⟩ = some y2) (f3 : w.cell? ⟨d, od4, none⟩ = some y3) :
    (W.cell? ⟨a, oa, none⟩ = some v1 ∧ W.cell? ⟨b, ob, none⟩ = some v2) ∧ (W.cell? ⟨c, oc1, none⟩ = some x0 ∧ W.cell? ⟨c, oc2, none⟩ = some x1 ∧ W.cell? ⟨c, oc3, none⟩ = some x2 ∧ W.cell? ⟨c, oc4, none⟩ = some x3) ∧ (W.cell? ⟨d, od1, none⟩ = some y0 ∧ W.cell? ⟨d, od2, none⟩ = some y1 ∧ W.cell? ⟨d, od3, none⟩ = some y2 ∧ W.cell? ⟨d, od4, none⟩ = some y3) := by
  rw [hb.cell la, hb.cell lb, hb.cell lc, hb.cell lc, hb.cell lc, hb.cell lc, hb.cell ld, hb.cell ld, hb.cell ld, hb.cell ld]
  exact ⟨⟨h1, h2⟩, ⟨g0, g1, g2, g3⟩, f0, f1, f2, f3⟩

set_option maxRecDepth 100000 in
set_option maxHeartbeats 2000000 in
theorem RSame_node : ∀ (m : Nat) (a b : Nd) (va vb : Value) (w : World), DepthN m a → SmallN m a → NodeV w va a → NodeV w vb b →
    Calls Tryd.prog 33 #[va, vb] w fun e w' => e = .returned (.bool (sameT m a b)) ∧ Below w.heap.size w w'
  | 0, a, b, va, vb, w, hd, _, _, _ => absurd hd id
  | m + 1, a, b, va, vb, w, hd, hs, ha, hb => by
    have IH := RSame_node m
    obtain ⟨A1, c1, rfl, h1⟩ := ha
    obtain ⟨A2, c2, rfl, h2⟩ := hb
    obtain ⟨k1, ⟨tk1, tx1⟩, l1⟩ := a
    obtain ⟨k2, ⟨tk2, tx2⟩, l2⟩ := b
    simp only [Nd.kind, Nd.tok, Nd.kids] at *
    obtain ⟨hs1, hs2⟩ := hs
    have hd1 : ∀ x ∈ l1, DepthN m x := hd
    simp only [Nd.kids] at hs1 hs2
    have hr : sameT (m + 1) (.mk k1 (tk1, tx1) l1) (.mk k2 (tk2, tx2) l2) = (alikeR k1 k2 (tk1, tx1) (tk2, tx2) l1.length l2.length && eqF (sameT m) l1 l2) := rfl
    obtain ⟨w0, hw0⟩ : ∃ w0, w0 = (w.alloc (.cells #[.int .i64 k1, .int .i64 tk1, .string tx1, .slice A1 l1.length c1] 26)).alloc (.cells #[.int .i64 k2, .int .i64 tk2, .string tx2, .slice A2 l2.length c2] 26) := ⟨_, rfl⟩
    have hB0 : Below w.heap.size w w0 := by rw [hw0]; exact ((Below.refl _ _).alloc (Nat.le_refl _) _).alloc (by simp) _
    have hb1 : w0.heap[w.heap.size]? = some (.cells #[.int .i64 k1, .int .i64 tk1, .string tx1, .slice A1 l1.length c1] 26 (0, 0)) := by rw [hw0]; exact (Below.heap_alloc _ _ _ (by simp)).trans (heap_alloc_new w _)
    have hb2 : w0.heap[w.heap.size + 1]? = some (.cells #[.int .i64 k2, .int .i64 tk2, .string tx2, .slice A2 l2.length c2] 26 (0, 0)) := by rw [hw0]; exact heap_alloc2T w _ _
    have HW := Lib.hid hw0
    have HB := Lib.hid hB0
    have H1 := Lib.hid (h1.below hB0)
    have H2 := Lib.hid (h2.below hB0)
    have HB1 := Lib.hid hb1
    have HB2 := Lib.hid hb2
    have l1s : w.heap.size < w0.heap.size := by rw [hw0]; simp; omega
    have l2s : w.heap.size + 1 < w0.heap.size := by rw [hw0]; simp
    have HIH := Lib.hid IH
    have HS2 := Lib.hid hs2
    have HD := Lib.hid hd1
    clear hw0 hB0 hb1 hb2 h1 h2 IH hs2 hd1 hd
    by_cases hno : k1 ≠ k2 ∨ (tk1, tx1) ≠ (tk2, tx2) ∨ l1.length ≠ l2.length
    · have HR : Hid (sameT (m + 1) (.mk k1 (tk1, tx1) l1) (.mk k2 (tk2, tx2) l2) = false) := Lib.hid (by rw [hr, alikeR_no hno]; rfl)
      clear hr
      have fin : Below w.heap.size w ((w.alloc (.cells #[.int .i64 k1, .int .i64 tk1, .string tx1, .slice A1 l1.length c1] 26)).alloc (.cells #[.int .i64 k2, .int .i64 tk2, .string tx2, .slice A2 l2.length c2] 26)) := ((Below.refl _ _).alloc (Nat.le_refl _) _).alloc (by simp) _
      by_cases hk : k1 = k2
      · have q0 : (k1 != k2) = false := by simpa using hk
        by_cases ht : tk1 = tk2
        · have q1 : (tk1 == tk2) = true := by simpa using ht
          by_cases hx : tx1 = tx2
          · have e1 : tx1.toList = tx2.toList := by rw [hx]
            have e2 : (tx1.toList == tx2.toList) = true := by simpa using e1
            have hn : l1.length ≠ l2.length := by
              rcases hno with h | h | h
              · exact absurd hk h
              · exact absurd (by rw [ht, hx]) h
              · exact h
            have q3 : ((l1.length : Int) != (l2.length : Int)) = true := by simp; omega
            go_enter Tryd.func33, Tryd.ntmps33
            go_wp2_with fail
            go_ret
            exact ⟨ret_b HR.out.symm, ((Below.refl _ _).alloc (Nat.le_refl _) _).alloc (by simp) _⟩
          · have e1 : ¬ tx1.toList = tx2.toList := fun h => hx (strs_inj h)
            have e2 : (tx1.toList == tx2.toList) = false := by simpa using e1
            go_enter Tryd.func33, Tryd.ntmps33
            go_wp2_with fail
            go_ret
            exact ⟨ret_b HR.out.symm, ((Below.refl _ _).alloc (Nat.le_refl _) _).alloc (by simp) _⟩
        · have q1 : (tk1 == tk2) = false := beq_false_of_ne ht
          go_enter Tryd.func33, Tryd.ntmps33
          go_wp2_with fail
          go_ret
          exact ⟨ret_b HR.out.symm, ((Below.refl _ _).alloc (Nat.le_refl _) _).alloc (by simp) _⟩
      · have q0 : (k1 != k2) = true := by simpa using hk
        go_enter Tryd.func33, Tryd.ntmps33
        go_wp2_with fail
        go_ret
        exact ⟨ret_b HR.out.symm, ((Below.refl _ _).alloc (Nat.le_refl _) _).alloc (by simp) _⟩
    · have hk : k1 = k2 := Classical.byContradiction fun h => hno (.inl h)
      have ht : (tk1, tx1) = (tk2, tx2) := Classical.byContradiction fun h => hno (.inr (.inl h))
      have hn : l1.length = l2.length := Classical.byContradiction fun h => hno (.inr (.inr h))
      have HR : Hid (sameT (m + 1) (.mk k1 (tk1, tx1) l1) (.mk k2 (tk2, tx2) l2) = eqF (sameT m) l1 l2) := Lib.hid (by rw [hr]; unfold alikeR; simp [hk, ht, hn])
      injection ht with ht1 ht2
      clear hr hno
      generalize sameT (m + 1) (.mk k1 (tk1, tx1) l1) (.mk k2 (tk2, tx2) l2) = rs at *
      subst hk ht1 ht2
      have q3 : ((l1.length : Int) != (l2.length : Int)) = false := by simp; omega
      have HN := Lib.hid hn
      clear hn
      go_enter Tryd.func33, Tryd.ntmps33
      go_wp2_with fail
      rw [← HW.out]
      go_loopw [5] (fun i wr => ∃ (k : Nat), k ≤ l1.length ∧ i = .int .i64 k ∧ eqF (sameT m) l1 l2 = eqF (sameT m) (l1.drop k) (l2.drop k) ∧ Below w0.heap.size w0 wr) (fun i _ => l1.length - (intOf i).toNat)
      case atStart => exact ⟨0, Nat.zero_le _, rfl, rfl, Below.refl _ _⟩
      case round =>
        obtain ⟨k, hkl, rfl, he, hB⟩ := hrel
        have hk0 : (0 : Int) ≤ (k : Int) := by omega
        have p3 : wr.cell? ⟨w.heap.size, 3, none⟩ = some (.slice A1 l1.length c1) := Lib.cell_of_heap ((hB.block _ l1s).trans HB1.out) 3
        have r3 : wr.cell? ⟨w.heap.size + 1, 3, none⟩ = some (.slice A2 l2.length c2) := Lib.cell_of_heap ((hB.block _ l2s).trans HB2.out) 3
        by_cases hlt : k < l1.length
        · have hlt2 : k < l2.length := by have := HN.out; omega
          have hk1 : (k : Int) < (l1.length : Int) := by omega
          have hk2 : (k : Int) < (l2.length : Int) := by omega
          obtain ⟨b1, o1, rfl, n1⟩ := H1.out (by omega)
          obtain ⟨b2, o2, rfl, n2⟩ := H2.out (by omega)
          obtain ⟨B1, d1, s1, x0, x1, x2, x3, xk⟩ := n1.get (List.getElem?_eq_getElem hlt)
          obtain ⟨B2, d2, s2, y0, y1, y2, y3, yk⟩ := n2.get (List.getElem?_eq_getElem hlt2)
          have hm1 := List.getElem_mem hlt
          rw [eqF_drop hlt hlt2] at he
          obtain ⟨x, hx⟩ : ∃ x, x = l1[k] := ⟨_, rfl⟩
          obtain ⟨y, hy⟩ : ∃ y, y = l2[k] := ⟨_, rfl⟩
          rw [← hx] at x0 x1 x2 x3 xk hm1 he
          rw [← hy] at y0 y1 y2 y3 yk he
          have hcl := fun W (hW : Below w0.heap.size w0 W) => HIH.out x y _ _ W (HD.out x hm1) (HS2.out x hm1) ⟨B1, d1, rfl, xk.below hW⟩ ⟨B2, d2, rfl, yk.below hW⟩
          obtain ⟨kx, ⟨tx, sx⟩, lx⟩ := x
          obtain ⟨ky, ⟨ty, sy⟩, ly⟩ := y
          simp only [Nd.kind, Nd.tok, Nd.kids] at x0 x1 x2 x3 y0 y1 y2 y3 hcl
          generalize sameT m (.mk kx (tx, sx) lx) (.mk ky (ty, sy) ly) = q1 at he hcl
          have HCl := Lib.hid hcl
          have He := Lib.hid he
          have p3' : w0.cell? ⟨w.heap.size, 3, none⟩ = some (.slice (some ⟨b1, o1, none⟩) l1.length c1) := Lib.cell_of_heap HB1.out 3
          have r3' : w0.cell? ⟨w.heap.size + 1, 3, none⟩ = some (.slice (some ⟨b2, o2, none⟩) l2.length c2) := Lib.cell_of_heap HB2.out 3
          clear hcl he hx hy n1 n2 xk yk hm1
          go_wp2_with fail
          go_region_held3 (fun W => (W.cell? ⟨w.heap.size, 3, none⟩ = some (.slice (some ⟨b1, o1, none⟩) l1.length c1) ∧ W.cell? ⟨w.heap.size + 1, 3, none⟩ = some (.slice (some ⟨b2, o2, none⟩) l2.length c2)) ∧ (W.cell? ⟨b1, o1 + k * 4, none⟩ = some (.int .i64 kx) ∧ W.cell? ⟨b1, o1 + k * 4 + 1, none⟩ = some (.int .i64 tx) ∧ W.cell? ⟨b1, o1 + k * 4 + 2, none⟩ = some (.string sx) ∧ W.cell? ⟨b1, o1 + k * 4 + 3, none⟩ = some (.slice B1 lx.length d1)) ∧ (W.cell? ⟨b2, o2 + k * 4, none⟩ = some (.int .i64 ky) ∧ W.cell? ⟨b2, o2 + k * 4 + 1, none⟩ = some (.int .i64 ty) ∧ W.cell? ⟨b2, o2 + k * 4 + 2, none⟩ = some (.string sy) ∧ W.cell? ⟨b2, o2 + k * 4 + 3, none⟩ = some (.slice B2 ly.length d2)))
            (exact kept10 (by repeat (first | with_reducible exact Below.refl _ _ | with_reducible assumption | with_reducible refine Below.drew ?_ | with_reducible refine below_drewT ?_ _ | with_reducible refine below_callR ?_ (Nat.le_refl _) hbA)) l1s l2s s1 s2 p3' r3' x0 x1 x2 x3 y0 y1 y2 y3)
            ((go_at_call 33
              with_reducible refine (HCl.out _ ?_).mono ?_
              · exact (by repeat (first | with_reducible exact Below.refl _ _ | with_reducible assumption | with_reducible refine Below.drew ?_ | with_reducible refine below_drewT ?_ _ | with_reducible refine below_callR ?_ (Nat.le_refl _) hbA))
              rintro e wA ⟨rfl, hbA⟩))
          all_goals
            have hBA : Below w0.heap.size w0 wA := (by repeat (first | with_reducible exact Below.refl _ _ | with_reducible assumption | with_reducible refine Below.drew ?_ | with_reducible refine below_drewT ?_ _ | with_reducible refine below_callR ?_ (Nat.le_refl _) hbA))
            have HBA := Lib.hid hBA
            clear hbA hBA x0 x1 x2 x3 y0 y1 y2 y3 p3' r3'
            cases q1
            · go_wp2_with fail
              go_ret
              exact ⟨ret_b (by rw [HR.out, He.out]; rfl), by first | exact HB.out.trans (HBA.out.mono HB.out.size) | exact (HB.out.trans (HBA.out.mono HB.out.size)).drew | exact below_drewT (HB.out.trans (HBA.out.mono HB.out.size)) _⟩
            · go_wp2_with fail
              exact ⟨⟨k + 1, by omega, by go_num, by rw [He.out]; rfl, by first | exact HBA.out | exact HBA.out.drew | exact below_drewT HBA.out _⟩, by simp [intOf]; omega⟩
        · have hke : k = l1.length := by omega
          subst hke
          have hrr : eqF (sameT m) l1 l2 = true := by
            rw [he, List.drop_length, HN.out, List.drop_length]; rfl
          have HRR := Lib.hid (HR.out.trans hrr)
          clear he hrr
          go_wp2_with fail
          go_ret
          exact ⟨ret_b HRR.out.symm, HB.out.trans (hB.mono HB.out.size)⟩
end Go.Proofs.YtpjlgahbbmlngaaDoor

namespace Go.Proofs.YtpjlgahbbmlngaaDoor
set_option linter.unusedVariables false
set_option linter.unusedSimpArgs false
open Go Go.RowKit

theorem isTok_pos {p : Tok} (h : isTok p = true) : 0 < p.2.size := by
  rcases Nat.eq_zero_or_pos p.2.size with h0 | h0
  · unfold isTok lexesB at h
    rw [lexL_nil (by omega)] at h
    simp at h
  · exact h0
mutual
theorem parts_pos : ∀ {n : Nd}, partsN n = true → ∀ t ∈ leavesN n, 0 < t.2.size
  | .mk k t l, h, u, hu => by
    simp only [partsN, Bool.and_eq_true] at h
    simp only [leavesN, List.mem_append] at hu
    rcases hu with hu | hu
    · split at hu
      · rename_i hk
        subst hk
        have h1 := h.1
        rw [isPart_one, Bool.and_eq_true] at h1
        simp only [List.mem_singleton] at hu
        subst hu
        exact isTok_pos h1.2
      · simp at hu
    · exact partsL_pos h.2 u hu
theorem partsL_pos : ∀ {l : List Nd}, partsL l = true → ∀ t ∈ leavesL l, 0 < t.2.size
  | [], _, u, hu => by simp [leavesL] at hu
  | n :: l, h, u, hu => by
    simp only [partsL, Bool.and_eq_true] at h
    simp only [leavesL, List.mem_append] at hu
    exact hu.elim (parts_pos h.1 u) (partsL_pos h.2 u)
end
theorem depthN_of : ∀ (m : Nat) (a : Nd), deepN a < m → DepthN m a
  | 0, _, h => absurd h (Nat.not_lt_zero _)
  | m + 1, a, h => fun x hx => by
    obtain ⟨k, hk⟩ := List.getElem?_of_mem hx
    have h1 := deepL_at hk
    have h2 := kids_deep a
    exact depthN_of m x (by omega)
theorem smallN_of : ∀ (m : Nat) (a : Nd), countN a ≤ 10000000 → SmallN m a
  | 0, _, _ => trivial
  | m + 1, a, h => by
    have h2 := countN_kids a
    have h3 := len_countL a.kids
    refine ⟨by omega, fun x hx => ?_⟩
    obtain ⟨k, hk⟩ := List.getElem?_of_mem hx
    have h1 := countL_get _ _ _ hk
    exact smallN_of m x (by omega)
theorem eqF_refl {r : Nd → Nd → Bool} : ∀ (l : List Nd), (∀ x ∈ l, r x x = true) → eqF r l l = true
  | [], _ => rfl
  | x :: l, h => by simp only [eqF]; rw [h x (.head _), eqF_refl l fun y hy => h y (.tail _ hy)]; rfl
theorem sameT_refl : ∀ (m : Nat) (a : Nd), DepthN m a → sameT m a a = true
  | 0, _, h => absurd h id
  | m + 1, a, h => by
    simp only [sameT]
    rw [eqF_refl a.kids fun x hx => sameT_refl m x (h x hx)]
    simp [alikeR]
def zeroNd : Nd := .mk 0 noTok []
theorem zero_node (w : World) : NodeV w (.agg #[.int .i64 0, .int .i64 0, .string { data := #[] }, .slice none 0 0]) zeroNd := ⟨none, 0, rfl, fun h => by simp [zeroNd, Nd.kids] at h⟩
/-- a Node with itself -/
theorem RSame_self (a : Nd) (va vb : Value) (w : World) (hc : countN a ≤ 10000000) (h1 : NodeV w va a) (h2 : NodeV w vb a) :
    Calls Tryd.prog 33 #[va, vb] w fun e w' => e = .returned (.bool true) ∧ Below w.heap.size w w' := by
  have hd := depthN_of (deepN a + 1) a (Nat.lt_succ_self _)
  have h := RSame_node (deepN a + 1) a a va vb w hd (smallN_of _ a hc) h1 h2
  rw [sameT_refl _ _ hd] at h
  exact h
theorem RSame_zero (w : World) : Calls Tryd.prog 33 #[.agg #[.int .i64 0, .int .i64 0, .string { data := #[] }, .slice none 0 0], .agg #[.int .i64 0, .int .i64 0, .string { data := #[] }, .slice none 0 0]] w fun e w' => e = .returned (.bool true) ∧ Below w.heap.size w w' :=
  RSame_self zeroNd _ _ w (by decide) (zero_node w) (zero_node w)
/-- the copy and the position: what each later world still has of them -/
structure KA (z : Nd) (A : Option Addr) (c b : Nat) (L : List Int) (Ap : Option Addr) (W : World) : Prop where
  kz : KeepZ z A c b W
  ints : IntsR W Ap L
theorem KA.below {z : Nd} {A Ap : Option Addr} {c b : Nat} {L : List Int} {W W' : World} (h : KA z A c b L Ap W) (hb : Below W.heap.size W W') : KA z A c b L Ap W' := ⟨h.kz.below hb, h.ints.below hb⟩
theorem keepB {W W' : World} {b : Nat} {o : Obj} (h : W.heap[b]? = some o) (hb : Below W.heap.size W W') : W'.heap[b]? = some o := (hb.block b (Array.getElem?_eq_some_iff.1 h).1).trans h
theorem allocB (W : World) (o : Obj) : Below W.heap.size W (W.alloc o) := (Below.refl _ _).alloc (Nat.le_refl _) _
end Go.Proofs.YtpjlgahbbmlngaaDoor

namespace Go.Proofs.YtpjlgahbbmlngaaDoor
set_option linter.unusedVariables false
set_option linter.unusedSimpArgs false
open Go Go.RowKit

/-- a region that makes 'p and i' behind a world wr: f: the block of i alone, g: the block of a span -/
structure PkSt (wr : World) (i : Nat) (xs : List Nat) (v : Value) (f g : Option Nat) (W : World) : Prop where
  below : Below wr.heap.size wr W
  row : W.ownsRow wr.heap.size 3 1 v xs.length (intCells xs)
  five : ∀ b, f = some b → wr.heap.size ≤ b ∧ W.heap[b]? = some (.cells #[.int .i64 (i : Nat)] 3 (0, 0)) ∧ v.ownBlock ≠ some b
  elv : ∀ b, g = some b → wr.heap.size ≤ b ∧ W.heap[b]? = some (.cells #[.int .i64 0, .int .i64 0] 62 (0, 0)) ∧ v.ownBlock ≠ some b
theorem PkSt.init (wr : World) (i : Nat) : PkSt wr i [] (.slice none 0 0) none none wr.drew :=
  ⟨Below.drew (Below.refl _ _), (by simpa [intCells] using World.ownsRow_nil wr.drew wr.heap.size 3 1), (fun b h => by cases h), (fun b h => by cases h)⟩
theorem PkSt.lt {wr W : World} {i : Nat} {xs : List Nat} {v : Value} {f g : Option Nat} (h : PkSt wr i xs v f g W) : v.ownBlock ≠ some W.heap.size := fun e => by
  have := (h.row.lt _ e).2; omega
/-- what makes memory, and turns nothing of the row's own -/
theorem PkSt.call {wr W W' : World} {i : Nat} {xs : List Nat} {v : Value} {f g : Option Nat} (h : PkSt wr i xs v f g W) (hb : Below W.heap.size W W') : PkSt wr i xs v f g W' :=
  ⟨h.below.trans (hb.mono h.below.size), own_same h.row (fun b e => hb.block b (h.row.lt b e).2), fun b e => by
    obtain ⟨h1, h2, h3⟩ := h.five b e
    exact ⟨h1, (hb.block b (Array.getElem?_eq_some_iff.1 h2).1).trans h2, h3⟩, fun b e => by
    obtain ⟨h1, h2, h3⟩ := h.elv b e
    exact ⟨h1, (hb.block b (Array.getElem?_eq_some_iff.1 h2).1).trans h2, h3⟩⟩
theorem PkSt.zero {wr W : World} {i : Nat} {v : Value} {f g : Option Nat} (h : PkSt wr i [] v f g W) : PkSt wr i [] (.slice (some ⟨W.heap.size, 0, none⟩) 0 0) f g (W.alloc (.cells #[] 3)) := by
  have hc := h.call (allocB W (.cells #[] 3))
  refine ⟨hc.below, ⟨rfl, .inr ⟨W.heap.size, 0, #[], rfl, h.below.size, World.alloc_heap_new W _, Nat.le_refl _, Nat.zero_le _, rfl, rfl⟩⟩, fun b e => ?_, fun b e => ?_⟩
  · obtain ⟨h1, h2, h3⟩ := hc.five b e
    refine ⟨h1, h2, fun e2 => ?_⟩
    have hlt := (Array.getElem?_eq_some_iff.1 (h.five b e).2.1).1
    have : W.heap.size = b := by simpa [Value.ownBlock] using e2
    omega
  · obtain ⟨h1, h2, h3⟩ := hc.elv b e
    refine ⟨h1, h2, fun e2 => ?_⟩
    have hlt := (Array.getElem?_eq_some_iff.1 (h.elv b e).2.1).1
    have : W.heap.size = b := by simpa [Value.ownBlock] using e2
    omega
theorem PkSt.one {wr W : World} {i : Nat} {xs : List Nat} {v : Value} {g : Option Nat} (h : PkSt wr i xs v none g W) : PkSt wr i xs v (some W.heap.size) g (W.alloc (.cells #[.int .i64 (i : Nat)] 3)) := by
  have hc := h.call (allocB W (.cells #[.int .i64 (i : Nat)] 3))
  exact ⟨hc.below, hc.row, fun b e => by
    obtain rfl := Option.some.inj e
    exact ⟨h.below.size, World.alloc_heap_new W _, h.lt⟩, hc.elv⟩
theorem PkSt.span {wr W : World} {i : Nat} {xs : List Nat} {v : Value} {f : Option Nat} (h : PkSt wr i xs v f none W) : PkSt wr i xs v f (some W.heap.size) (W.alloc (.cells #[.int .i64 0, .int .i64 0] 62)) := by
  have hc := h.call (allocB W (.cells #[.int .i64 0, .int .i64 0] 62))
  exact ⟨hc.below, hc.row, hc.five, fun b e => by
    obtain rfl := Option.some.inj e
    exact ⟨h.below.size, World.alloc_heap_new W _, h.lt⟩⟩
theorem PkSt.app {wr W : World} {i : Nat} {xs q : List Nat} {v qv : Value} {f g : Option Nat} (ty : Nat) (h : PkSt wr i xs v f g W) (hq : W.ownsRow 0 3 1 qv q.length (intCells q)) (hs : xs.length + q.length ≤ 100000000) :
    ∃ v' W', (Builtin.append_ #[51, 51] ty #[v, qv]).run Tryd.prog W = .ok v' W' ∧ PkSt wr i (xs ++ q) v' f g W' := by
  obtain ⟨v', W', h1, h2, h3, h4⟩ := run_append_ints W ty wr.heap.size v xs.length (intCells xs) h.row qv q hq h.below.size hs
  have hne : ∀ b, b < W.heap.size → v.ownBlock ≠ some b → v'.ownBlock ≠ some b := fun b hb hv e => by
    rcases h4 with h4 | h4
    · exact hv (h4.symm.trans e)
    · rw [h4] at e
      have := Option.some.inj e
      omega
  have hrow : intCells (xs ++ q) = intCells xs ++ intCells q := by simp [intCells]
  refine ⟨v', W', h1, ⟨h.below.grown h3 h.below.size (fun k e => (h.row.lt k e).1), by rw [hrow, List.length_append]; exact h2, fun b e => ?_, fun b e => ?_⟩⟩
  · obtain ⟨k1, k2, k3⟩ := h.five b e
    have hlt := (Array.getElem?_eq_some_iff.1 k2).1
    exact ⟨k1, (h3.block b hlt (fun e => k3 e.symm)).trans k2, hne b hlt k3⟩
  · obtain ⟨k1, k2, k3⟩ := h.elv b e
    have hlt := (Array.getElem?_eq_some_iff.1 k2).1
    exact ⟨k1, (h3.block b hlt (fun e => k3 e.symm)).trans k2, hne b hlt k3⟩
/-- the block of i alone, as a row -/
theorem PkSt.oneRow {wr W : World} {i b : Nat} {xs : List Nat} {v : Value} {g : Option Nat} (h : PkSt wr i xs v (some b) g W) : W.ownsRow 0 3 1 (.slice (some ⟨b, 0, none⟩) 1 1) [i].length (intCells [i]) :=
  ⟨rfl, .inr ⟨b, 1, #[.int .i64 (i : Nat)], rfl, Nat.zero_le _, (h.five b rfl).2.1, Nat.le_refl _, by decide, rfl, rfl⟩⟩
/-- a row that was there -/
theorem own_below {wr W : World} {base n : Nat} {v : Value} {xs : List Value} (h : wr.ownsRow base 3 1 v n xs) (hb : Below wr.heap.size wr W) : W.ownsRow 0 3 1 v n xs :=
  own_le (own_same h (fun g e => hb.block g (h.lt g e).2)) (Nat.zero_le _)
theorem opH_append {P : Program} {ops : Array Oper} {o : Oper} {a : Act} {w w' : World} {K : Act → World → Prop} {Q : Exit → Act → World → Prop} {E : Prop} {v xv v' : Value} (hgd : o.guard = none) (s x : Operand) (t : TypeId) (hop : o.op = Op.call { callee := Callee.builtin Builtin.append, args := #[s, x], argTypes := #[t, t] })
    (hs : a.eval s = v) (hx : a.eval x = xv) (hrun : (Builtin.append_ #[t, t] o.type #[v, xv]).run P w = .ok v' w') (hK : K (a.put o.dst v') w') :
    if Region.wanted o (yielded ops a.tmps) = true then Oper.wp P o a w K Q else E := by
  have hw : Region.wanted o (yielded ops a.tmps) = true := by simp [Region.wanted, hgd]
  rw [if_pos hw]
  unfold Oper.wp
  simp [execOp, hop, resolve, invoke, builtin, hs, hx, hrun, Result.andThen]
  exact hK
theorem keptN {wr W : World} {b : Nat} {x0 x1 x2 x3 : Value} {t : Nat} (hb : Below wr.heap.size wr W) (h1 : wr.heap[b]? = some (.cells #[x0, x1, x2, x3] t (0, 0))) :
    W.cell? ⟨b, 0, none⟩ = some x0 ∧ W.cell? ⟨b, 1, none⟩ = some x1 ∧ W.cell? ⟨b, 2, none⟩ = some x2 ∧ W.cell? ⟨b, 3, none⟩ = some x3 := by
  have e1 := (hb.block b (Array.getElem?_eq_some_iff.1 h1).1).trans h1
  exact ⟨Lib.cell_of_heap e1 0, Lib.cell_of_heap e1 1, Lib.cell_of_heap e1 2, Lib.cell_of_heap e1 3⟩
/-- the row as the argument of a call -/
theorem PkSt.arg {wr W : World} {i : Nat} {xs : List Nat} {v : Value} {f g : Option Nat} (h : PkSt wr i xs v f g W) : ∃ A c, v = .slice A (intL xs).length c ∧ IntsR W A (intL xs) := by
  obtain ⟨A, c, h1, h3⟩ := IntsR.of_own h.row
  exact ⟨A, c, by simpa [intL] using h1, h3⟩
/-- the span is stored -/
theorem PkSt.stored {wr W : World} {i b : Nat} {xs : List Nat} {v : Value} {f : Option Nat} (h : PkSt wr i xs v f (some b) W) (a c : Value) :
    ((W.setCell ⟨b, 0, none⟩ a).setCell ⟨b, 1, none⟩ c).heap[b]? = some (.cells #[a, c] 62 (0, 0)) ∧ Below wr.heap.size wr ((W.setCell ⟨b, 0, none⟩ a).setCell ⟨b, 1, none⟩ c) ∧ wr.heap.size ≤ b :=
  ⟨set2 (h.elv b rfl).2.1, below2 h.below (h.elv b rfl).1, (h.elv b rfl).1⟩
end Go.Proofs.YtpjlgahbbmlngaaDoor
