/-
  Trees: goTo.
-/
import Derived.Test.YtpjlgahbbmlngaaDoorTreeLeavesp27
import Derived.Test.YtpjlgahbbmlngaaDoorTreeLeavesp29
import Derived.Test.YtpjlgahbbmlngaaDoorTreeLeavesp24
namespace Go.Proofs.YtpjlgahbbmlngaaDoor
set_option linter.unusedVariables false
set_option linter.unusedSimpArgs false
open Go Go.RowKit

theorem NdsP.get {P : Nat → Prop} {w : World} : ∀ {l : List Nd} {b o : Nat}, NdsP P w b o l → ∀ {i : Nat} {n : Nd}, l[i]? = some n → ∃ A c, P b ∧ b < w.heap.size ∧ w.cell? ⟨b, o + i * 4, none⟩ = some (.int .i64 n.kind) ∧ w.cell? ⟨b, o + i * 4 + 1, none⟩ = some (.int .i64 n.tok.1) ∧ w.cell? ⟨b, o + i * 4 + 2, none⟩ = some (.string n.tok.2) ∧ w.cell? ⟨b, o + i * 4 + 3, none⟩ = some (.slice A n.kids.length c) ∧ n.kids.length ≤ c ∧ KidsP P w A n.kids
  | [], _, _, _, i, n, h => by simp at h
  | _ :: _, b, o, .leaf p h1 c0 c1 c2 c3 h2, 0, n, h => by
    obtain rfl := Option.some.inj h
    simp only [Nat.zero_mul, Nat.add_zero]
    exact ⟨_, _, p, h1, c0, c1, c2, c3, Nat.zero_le _, fun hl => by simp [Nd.kids] at hl⟩
  | _ :: _, b, o, .node p h1 c0 c1 c2 c3 hc hk h2, 0, n, h => by
    obtain rfl := Option.some.inj h
    simp only [Nat.zero_mul, Nat.add_zero]
    exact ⟨_, _, p, h1, c0, c1, c2, c3, hc, fun _ => ⟨_, _, rfl, hk⟩⟩
  | _ :: l, b, o, .leaf p h1 c0 c1 c2 c3 h2, i + 1, n, h => by
    have := h2.get (i := i) (n := n) (by simpa using h)
    rw [show o + (i + 1) * 4 = o + 4 + i * 4 by omega]
    exact this
  | _ :: l, b, o, .node p h1 c0 c1 c2 c3 hc hk h2, i + 1, n, h => by
    have := h2.get (i := i) (n := n) (by simpa using h)
    rw [show o + (i + 1) * 4 = o + 4 + i * 4 by omega]
    exact this

/-- what is at a position, and where it begins -/
def goR : Nd → List Int → Nat → Option (Nd × Nat)
  | n, [], b => some (n, b)
  | n, i :: ps, b => if i < 0 ∨ (n.kids.length : Int) ≤ i then none else match n.kids[i.toNat]? with
    | some k => goR k ps (b + sumT (leavesL (n.kids.take i.toNat)))
    | none => none
theorem leavesL_append : ∀ a b : List Nd, leavesL (a ++ b) = leavesL a ++ leavesL b
  | [], b => rfl
  | n :: a, b => by simp only [List.cons_append, leavesL, leavesL_append a b, List.append_assoc]
theorem leavesL_next {l : List Nd} {k : Nat} {x : Nd} (h : l[k]? = some x) : leavesL (l.take (k + 1)) = leavesL (l.take k) ++ leavesN x := by
  rw [take_snoc h, leavesL_append]; simp [leavesL]
theorem leavesN_kids (n : Nd) : sumT (leavesL n.kids) ≤ sumT (leavesN n) := by
  cases n with
  | mk k t l => simp only [leavesN, Nd.kids]; rw [sumT_append]; omega
theorem leavesL_cut (l : List Nd) (k : Nat) : sumT (leavesL (l.take k)) ≤ sumT (leavesL l) := by
  conv => rhs; rw [← List.take_append_drop k l, leavesL_append, sumT_append]
  omega
theorem goR_cons (n : Nd) (i : Int) (ps : List Int) (b : Nat) : goR n (i :: ps) b = if i < 0 ∨ (n.kids.length : Int) ≤ i then none else match n.kids[i.toNat]? with
    | some k => goR k ps (b + sumT (leavesL (n.kids.take i.toNat)))
    | none => none := rfl
theorem goR_kid {n k : Nd} {i : Int} {ps : List Int} {b : Nat} (h0 : 0 ≤ i) (hk : n.kids[i.toNat]? = some k) : goR n (i :: ps) b = goR k ps (b + sumT (leavesL (n.kids.take i.toNat))) := by
  have hlt := (List.getElem?_eq_some_iff.1 hk).1
  rw [goR_cons, if_neg (by omega), hk]
theorem goR_no {n : Nd} {i : Int} {ps : List Int} {b : Nat} (h : i < 0 ∨ (n.kids.length : Int) ≤ i) : goR n (i :: ps) b = none := by
  rw [goR_cons, if_pos h]
/-- what goTo returns -/
def goPost (n : Nd) (l : List Int) (e : Ending) (w w' : World) : Prop :=
  if formedB n = false then e = .returned (.tuple #[.agg zeroCells, .int .i64 0, .int .i64 4])
  else match goR n l 0 with
    | none => e = .returned (.tuple #[.agg zeroCells, .int .i64 0, .int .i64 2])
    | some (x, b) => ∃ A c, e = .returned (.tuple #[.agg (nodeCells x A c), .int .i64 (b : Nat), .int .i64 0]) ∧ x.kids.length ≤ c ∧ KidsP (fun k => k < w.heap.size) w A x.kids
/-- the part so far -/
structure GoSt (w : World) (n : Nd) (l : List Int) (S : Nat) (bp : Nat) (k : Nat) (x : Nd) (A : Option Addr) (c b : Nat) (wr : World) : Prop where
  box : wr.heap[bp]? = some (.cells (nodeCells x A c) 26 (0, 0))
  cap : x.kids.length ≤ c
  kids : KidsP (fun k => k < w.heap.size) w A x.kids
  goes : goR n l 0 = goR x (l.drop k) b
  count : countN x ≤ countN n
  sum : b + sumT (leavesN x) ≤ S
  below : Below w.heap.size w wr
theorem KidsP.later {w wr : World} {A : Option Addr} {l : List Nd} (h : KidsP (fun k => k < w.heap.size) w A l) (hb : Below w.heap.size w wr) : KidsP (fun k => k < w.heap.size) wr A l :=
  h.kept hb.size (fun b hp _ => hb.block b hp) (fun b hp _ => hp)

set_option maxRecDepth 100000 in
set_option maxHeartbeats 2000000 in
theorem goTo_any (n : Nd) (v : Value) (l : List Int) (Ap : Option Addr) (cp : Nat) (w : World) (hC : sizeN n) (hS : sumS n) (hT : Tabs w) (hV : NodeP (fun _ => True) w v n) (hl : l.length ≤ 1000000000) (hP : IntsR w Ap l) :
    Calls Tryd.prog 68 #[v, .slice Ap l.length cp] w fun e w' => goPost n l e w w' ∧ Below w.heap.size w w' := by
  have hV0 := hV.node
  obtain ⟨A, c, rfl, hcap, hkp⟩ := hV
  obtain ⟨w0, hw0⟩ : ∃ w0, w0 = (w.alloc (.cells #[.int .i64 n.kind, .int .i64 n.tok.1, .string n.tok.2, .slice A n.kids.length c] 26)).alloc (.cells #[.int .i64 0, .int .i64 0, .string { data := #[] }, .slice none 0 0] 26) := ⟨_, rfl⟩
  have hB0 : Below w.heap.size w w0 := by rw [hw0]; exact ((Below.refl _ _).alloc (Nat.le_refl _) _).alloc (by simp) _
  have hb0 : w0.heap[w.heap.size]? = some (.cells (nodeCells n A c) 26 (0, 0)) := by rw [hw0, alloc_old _ _ _ (by simp)]; exact alloc_at _ _ _ rfl
  have hb1 : w0.heap[w.heap.size + 1]? = some (.cells zeroCells 26 (0, 0)) := by rw [hw0]; exact alloc_at _ _ _ (by simp)
  have hs0 : w0.heap.size = w.heap.size + 2 := by rw [hw0]; simp
  have hIF := IsFormed_any n _ w0 hC (hT.below hB0) (hV0.below hB0)
  have hkw : KidsP (fun k => k < w.heap.size) w A n.kids := hkp.kept (Nat.le_refl _) (fun _ _ _ => rfl) (fun b _ hb => hb)
  obtain ⟨c0, c1, c2, c3⟩ := cells_of_block hb0
  have HW := Lib.hid hw0
  have HX := Lib.hid (show _ ∧ _ ∧ _ ∧ _ ∧ _ ∧ _ ∧ _ from ⟨hB0, hb0, hb1, hs0, hcap, hkw, hP⟩)
  have HN := Lib.hid (show _ ∧ _ from ⟨hC, hS⟩)
  clear hw0 hB0 hb0 hb1 hs0 hT hV0 hkp hkw hcap hP hC hS
  cases hf : formedB n with
  | false =>
    rw [hf] at hIF
    have HIF := Lib.hid hIF
    have HF := Lib.hid hf
    clear hIF hf
    go_enter Tryd.func68, Tryd.ntmps68
    go_wp2_with fail
    rw [← HW.out]
    go_wp2_with fail
    refine HIF.out.mono ?_
    rintro e w1 ⟨rfl, hb1⟩
    have hB1 := HX.out.1.trans (hb1.mono HX.out.1.size)
    have hz := (hb1.block (w.heap.size + 1) (by rw [HX.out.2.2.2.1]; omega)).trans HX.out.2.2.1
    have q0 := Lib.cell_of_heap hz 0
    have q1 := Lib.cell_of_heap hz 1
    have q2 := Lib.cell_of_heap hz 2
    have q3 := Lib.cell_of_heap hz 3
    have f0 := frozen_block (j := 0) hz
    have f1 := frozen_block (j := 1) hz
    have f2 := frozen_block (j := 2) hz
    have f3 := frozen_block (j := 3) hz
    have HZ := Lib.hid (show _ ∧ _ from ⟨hz, hB1⟩)
    clear hz hB1 hb1
    go_wp2_with fail
    have hz9 := set4 (v0 := .int .i64 0) (v1 := .int .i64 0) (v2 := .string { data := #[] }) (v3 := .slice none 0 0) HZ.out.1
    have s0 := Lib.cell_of_heap hz9 0
    have s1 := Lib.cell_of_heap hz9 1
    have s2 := Lib.cell_of_heap hz9 2
    have s3 := Lib.cell_of_heap hz9 3
    refine bodyPost_ret (by simp [results, Tryd.f68, go_sem, s0, s1, s2, s3]; try rfl) rfl ?_
    exact ⟨by unfold goPost; rw [if_pos HF.out], below4 HZ.out.2 (Nat.le_succ _)⟩
  | true =>
    rw [hf] at hIF
    have HIF := Lib.hid hIF
    have HF := Lib.hid hf
    clear hIF hf
    go_enter Tryd.func68, Tryd.ntmps68
    go_wp2_with fail
    rw [← HW.out]
    go_wp2_with fail
    refine HIF.out.mono ?_
    rintro e w1 ⟨rfl, hb1⟩
    have hB1 := HX.out.1.trans (hb1.mono HX.out.1.size)
    have hs1 := hb1.size
    rw [HX.out.2.2.2.1] at hs1
    have hz := (hb1.block (w.heap.size + 1) (by rw [HX.out.2.2.2.1]; omega)).trans HX.out.2.2.1
    have hy := (hb1.block w.heap.size (by rw [HX.out.2.2.2.1]; omega)).trans HX.out.2.1
    obtain ⟨y0, y1, y2, y3⟩ := cells_of_block hy
    have q0 := Lib.cell_of_heap hz 0
    have q1 := Lib.cell_of_heap hz 1
    have q2 := Lib.cell_of_heap hz 2
    have q3 := Lib.cell_of_heap hz 3
    have f0 := frozen_block (j := 0) hz
    have f1 := frozen_block (j := 1) hz
    have f2 := frozen_block (j := 2) hz
    have f3 := frozen_block (j := 3) hz
    have HZ := Lib.hid (show _ ∧ _ from ⟨hz, hB1⟩)
    clear hz hy hB1 hb1 c0 c1 c2 c3
    go_wp2_with fail
    have hz2 := set4 (v0 := .int .i64 n.kind) (v1 := .int .i64 n.tok.1) (v2 := .string n.tok.2) (v3 := .slice A n.kids.length c) HZ.out.1
    have hB2 := below4 (b := w.heap.size + 1) (v0 := .int .i64 n.kind) (v1 := .int .i64 n.tok.1) (v2 := .string n.tok.2) (v3 := .slice A n.kids.length c) HZ.out.2 (Nat.le_succ _)
    obtain ⟨W2, hW2⟩ : ∃ W2, W2 = ((((w1.setCell ⟨w.heap.size + 1, 0, none⟩ (.int .i64 n.kind)).setCell ⟨w.heap.size + 1, 1, none⟩ (.int .i64 n.tok.1)).setCell ⟨w.heap.size + 1, 2, none⟩ (.string n.tok.2)).setCell ⟨w.heap.size + 1, 3, none⟩ (.slice A n.kids.length c)) := ⟨_, rfl⟩
    have hs2 : w.heap.size + 2 ≤ W2.heap.size := by rw [hW2, size4]; exact hs1
    rw [← hW2] at hz2 hB2 ⊢
    have hst0 : GoSt w n l (sumT (leavesN n)) (w.heap.size + 1) 0 n A c 0 W2 := ⟨hz2, HX.out.2.2.2.2.1, HX.out.2.2.2.2.2.1, rfl, Nat.le_refl _, by omega, hB2⟩
    have HS0 := Lib.hid (show _ ∧ _ from ⟨hst0, hs2⟩)
    clear hst0 hz2 hB2 hW2 hs2 hs1 y0 y1 y2 y3 q0 q1 q2 q3 f0 f1 f2 f3
    go_loopw [5, 18] (fun bg i wr => ∃ (k b : Nat) (x : Nd) (A' : Option Addr) (c' : Nat), k ≤ l.length ∧ i = .int .i64 k ∧ bg = .int .i64 b ∧ w.heap.size + 2 ≤ wr.heap.size ∧ GoSt w n l (sumT (leavesN n)) (w.heap.size + 1) k x A' c' b wr) (fun _ i _ => l.length - (intOf i).toNat)
    case atStart => exact ⟨0, 0, n, A, c, Nat.zero_le _, rfl, rfl, HS0.out.2, HS0.out.1⟩
    case round =>
      obtain ⟨k, b, x, A', c', hk, rfl, rfl, hsr, hst⟩ := hrel
      have hz := hst.box
      obtain ⟨q0, q1, q2, q3⟩ := cells_of_block hz
      have f0 := frozen_block (j := 0) hz
      have f1 := frozen_block (j := 1) hz
      have f2 := frozen_block (j := 2) hz
      have f3 := frozen_block (j := 3) hz
      have hS := HN.out.2
      unfold sumS at hS
      have hsum := hst.sum
      by_cases hlt : k < l.length
      · have hk0 : (0 : Int) ≤ (k : Int) := by omega
        have hk1 : (k : Int) < (l.length : Int) := by omega
        obtain ⟨bi, rfl, hbi, gi⟩ := HX.out.2.2.2.2.2.2 (by omega)
        have e1 := (hst.below.cell (p := ⟨bi, k, none⟩) hbi).trans (gi k _ (List.getElem?_eq_getElem hlt))
        have hdrop : l.drop k = l[k] :: l.drop (k + 1) := List.drop_eq_getElem_cons hlt
        obtain ⟨i, hi⟩ : ∃ i, i = l[k] := ⟨_, rfl⟩
        rw [← hi] at e1 hdrop
        have hgo := hst.goes
        rw [hdrop] at hgo
        have e3 : IntKind.i64.wrap ((k : Int) + 1) = ((k + 1 : Nat) : Int) := by rw [IntWalk.i64_in _ (by omega)]; omega
        have HG := Lib.hid (show _ ∧ _ ∧ _ from ⟨hst, hgo, hz⟩)
        clear hi hdrop hgo hst gi hz
        by_cases hneg : i < 0
        · have hd1 : decide (i < 0) = true := decide_eq_true hneg
          go_wp2_with fail
          have hz9 := set4 (v0 := .int .i64 0) (v1 := .int .i64 0) (v2 := .string { data := #[] }) (v3 := .slice none 0 0) HG.out.2.2
          have s0 := Lib.cell_of_heap hz9 0
          have s1 := Lib.cell_of_heap hz9 1
          have s2 := Lib.cell_of_heap hz9 2
          have s3 := Lib.cell_of_heap hz9 3
          refine bodyPost_ret (by simp [results, Tryd.f68, go_sem, s0, s1, s2, s3]; try rfl) rfl ?_
          exact ⟨by unfold goPost; rw [if_neg (by rw [HF.out]; decide), HG.out.2.1, goR_no (.inl hneg)], below4 HG.out.1.below (Nat.le_succ _)⟩
        · have hd1 : decide (i < 0) = false := decide_eq_false hneg
          by_cases hbig : (x.kids.length : Int) ≤ i
          · have hd2 : decide ((x.kids.length : Int) ≤ i) = true := decide_eq_true hbig
            go_wp2_with fail
            have hz9 := set4 (v0 := .int .i64 0) (v1 := .int .i64 0) (v2 := .string { data := #[] }) (v3 := .slice none 0 0) HG.out.2.2
            have s0 := Lib.cell_of_heap hz9 0
            have s1 := Lib.cell_of_heap hz9 1
            have s2 := Lib.cell_of_heap hz9 2
            have s3 := Lib.cell_of_heap hz9 3
            refine bodyPost_ret (by simp [results, Tryd.f68, go_sem, s0, s1, s2, s3]; try rfl) rfl ?_
            exact ⟨by unfold goPost; rw [if_neg (by rw [HF.out]; decide), HG.out.2.1, goR_no (.inr hbig)], below4 HG.out.1.below (Nat.le_succ _)⟩
          · have hd2 : decide ((x.kids.length : Int) ≤ i) = false := decide_eq_false hbig
            obtain ⟨j, rfl⟩ : ∃ j : Nat, i = (j : Int) := ⟨i.toNat, by omega⟩
            have hj : j < x.kids.length := by omega
            have hj1 : (j : Int) < (x.kids.length : Int) := by omega
            have hj0 : (0 : Int) ≤ (j : Int) := by omega
            have hd3 : decide (x.kids.length ≤ j) = false := decide_eq_false (by omega)
            have hd4 : ¬ x.kids.length ≤ j := by omega
            have hjc : (j : Int) ≤ (c' : Int) := by have := HG.out.1.cap; omega
            have hjc2 : j ≤ c' := by have := HG.out.1.cap; omega
            obtain ⟨bk, o, rfl, nk⟩ := HG.out.1.kids (by omega)
            have hx0 : x.kids[j]? = some x.kids[j] := List.getElem?_eq_getElem hj
            obtain ⟨y, hy⟩ : ∃ y, y = x.kids[j] := ⟨_, rfl⟩
            rw [← hy] at hx0
            have HNK := Lib.hid nk
            have HX0 := Lib.hid hx0
            clear hy hx0 nk hneg hbig
            go_wp2_with fail
            have hkl := HG.out.1.count
            have hck := countN_kids x
            have hlk := len_countL x.kids
            have hC := HN.out.1
            unfold sizeN at hC
            obtain ⟨wo, hwo⟩ : ∃ wo, wo = wr := ⟨_, rfl⟩
            subst hwo
            go_loopw [5, 37] (fun bg jj wr => ∃ (jn : Nat), jn ≤ j ∧ jj = .int .i64 jn ∧ bg = .int .i64 ((b + sumT (leavesL (x.kids.take jn)) : Nat) : Int) ∧ Below wo.heap.size wo wr) (fun _ jj _ => j - (intOf jj).toNat)
            case atStart => exact ⟨0, Nat.zero_le _, rfl, by simp [leavesL, sumT], Below.refl _ _⟩
            case round =>
              obtain ⟨jn, hjn, rfl, rfl, hBq⟩ := hrel
              by_cases hjl : jn < j
              · have hx1 : x.kids[jn]? = some x.kids[jn] := List.getElem?_eq_getElem (by omega)
                obtain ⟨z, hz⟩ : ∃ z, z = x.kids[jn] := ⟨_, rfl⟩
                rw [← hz] at hx1
                have hBw : Below w.heap.size w wr := HG.out.1.below.trans (hBq.mono (by omega))
                obtain ⟨B1, d1, pz, s1, g0, g1, g2, g3, gc, gk⟩ := HNK.out.get hx1
                have x0 := (hBw.cell (p := ⟨bk, o + jn * 4, none⟩) s1).trans g0
                have x1 := (hBw.cell (p := ⟨bk, o + jn * 4 + 1, none⟩) s1).trans g1
                have x2 := (hBw.cell (p := ⟨bk, o + jn * 4 + 2, none⟩) s1).trans g2
                have x3 := (hBw.cell (p := ⟨bk, o + jn * 4 + 3, none⟩) s1).trans g3
                have hnx := leavesL_next hx1
                have hcut := leavesL_cut x.kids (jn + 1)
                have hkk := leavesN_kids x
                rw [hnx, sumT_append] at hcut
                have hcz := countL_get _ _ _ hx1
                have hS2 := HN.out.2
                unfold sumS at hS2
                have hsm2 := HG.out.1.sum
                have hwid := width_any z (.agg #[.int .i64 z.kind, .int .i64 z.tok.1, .string z.tok.2, .slice B1 z.kids.length d1]) (wr.alloc (.cells #[.int .i64 z.kind, .int .i64 z.tok.1, .string z.tok.2, .slice B1 z.kids.length d1] 26)) (by unfold sizeN; omega) (by unfold sumS; omega) ⟨B1, d1, rfl, (gk.later hBw).kids.below ((Below.refl _ _).alloc (Nat.le_refl _) _)⟩
                have hj2 : (jn : Int) < (j : Int) := by omega
                have hj3 : (0 : Int) ≤ (jn : Int) := by omega
                have e5 : IntKind.i64.wrap ((jn : Int) + 1) = ((jn + 1 : Nat) : Int) := by rw [IntWalk.i64_in _ (by omega)]; omega
                have e6 : IntKind.i64.wrap (((b + sumT (leavesL (x.kids.take jn)) : Nat) : Int) + ((sumT (leavesN z) : Nat) : Int)) = ((b + sumT (leavesL (x.kids.take (jn + 1))) : Nat) : Int) := by rw [IntWalk.i64_in _ (by omega), hnx, sumT_append]; omega
                have HWid := Lib.hid hwid
                have HBq := Lib.hid hBq
                clear hx1 hz pz g0 g1 g2 g3 gc gk hnx hcut hkk hcz hwid hBw hBq hS2 hsm2
                generalize b + sumT (leavesL (x.kids.take jn)) = bs at *
                obtain ⟨bt, hbt⟩ : ∃ bt, bt = b + sumT (leavesL (x.kids.take (jn + 1))) := ⟨_, rfl⟩
                rw [← hbt] at e6
                have HBT := Lib.hid hbt
                clear hbt
                generalize sumT (leavesN z) = wz at *
                go_wp2_with fail
                refine HWid.out.mono ?_
                rintro e w5 ⟨rfl, hb5⟩
                have H5 := Lib.hid (HBq.out.trans (((Below.refl wr.heap.size wr).alloc (Nat.le_refl _) _).trans (hb5.mono (by simp)) |>.mono HBq.out.size))
                clear hb5
                go_wp2_with fail
                refine ⟨?_, by simp [intOf]; omega⟩
                exact ⟨jn + 1, by omega, by go_num, by rw [HBT.out], H5.out⟩
              · have hje : jn = j := by omega
                subst hje
                have hj2 : ¬ (jn : Int) < (jn : Int) := by omega
                have hBw : Below w.heap.size w wr := HG.out.1.below.trans (hBq.mono (by omega))
                have hzq := (hBq.block (w.heap.size + 1) (by omega)).trans HG.out.2.2
                obtain ⟨q0', q1', q2', q3'⟩ := cells_of_block hzq
                have f0' := frozen_block (j := 0) hzq
                have f1' := frozen_block (j := 1) hzq
                have f2' := frozen_block (j := 2) hzq
                have f3' := frozen_block (j := 3) hzq
                obtain ⟨B1, d1, pz, s1, g0, g1, g2, g3, gc, gk⟩ := HNK.out.get HX0.out
                have x0 := (hBw.cell (p := ⟨bk, o + jn * 4, none⟩) s1).trans g0
                have x1 := (hBw.cell (p := ⟨bk, o + jn * 4 + 1, none⟩) s1).trans g1
                have x2 := (hBw.cell (p := ⟨bk, o + jn * 4 + 2, none⟩) s1).trans g2
                have x3 := (hBw.cell (p := ⟨bk, o + jn * 4 + 3, none⟩) s1).trans g3
                have hnx := leavesL_next HX0.out
                have hcut := leavesL_cut x.kids (jn + 1)
                have hkk := leavesN_kids x
                rw [hnx, sumT_append] at hcut
                have hcz := countL_get _ _ _ HX0.out
                have hgk := HG.out.2.1
                rw [goR_kid (by omega) (by simpa using HX0.out)] at hgk
                simp only [Int.toNat_natCast] at hgk
                have hfin := set4 (v0 := .int .i64 y.kind) (v1 := .int .i64 y.tok.1) (v2 := .string y.tok.2) (v3 := .slice B1 y.kids.length d1) hzq
                have hbel := below4 (b := w.heap.size + 1) (v0 := .int .i64 y.kind) (v1 := .int .i64 y.tok.1) (v2 := .string y.tok.2) (v3 := .slice B1 y.kids.length d1) hBw (Nat.le_succ _)
                have hsq := hBq.size
                have HE := Lib.hid (show GoSt w n l (sumT (leavesN n)) (w.heap.size + 1) (k + 1) y B1 d1 (b + sumT (leavesL (x.kids.take jn))) _ from ⟨hfin, gc, gk, hgk, by omega, by omega, hbel⟩)
                clear hfin hbel hgk hcz hkk hcut hnx gk gc g0 g1 g2 g3 pz hBw hzq
                go_wp2_with fail
                exact ⟨⟨k + 1, _, y, B1, d1, by omega, by go_num, rfl, by rw [size4]; omega, HE.out⟩, by simp [intOf]; omega⟩
      · have hke : k = l.length := by omega
        subst hke
        have hj2 : ¬ (l.length : Int) < (l.length : Int) := by omega
        have hgo := hst.goes
        rw [List.drop_length] at hgo
        have HG := Lib.hid (show _ ∧ _ ∧ _ from ⟨hst, hgo, hz⟩)
        clear hst hgo hz
        go_wp2_with fail
        have hz9 := set4 (v0 := .int .i64 x.kind) (v1 := .int .i64 x.tok.1) (v2 := .string x.tok.2) (v3 := .slice A' x.kids.length c') HG.out.2.2
        have s0 := Lib.cell_of_heap hz9 0
        have s1 := Lib.cell_of_heap hz9 1
        have s2 := Lib.cell_of_heap hz9 2
        have s3 := Lib.cell_of_heap hz9 3
        refine bodyPost_ret (by simp [results, Tryd.f68, go_sem, s0, s1, s2, s3]; try rfl) rfl ?_
        refine ⟨?_, below4 HG.out.1.below (Nat.le_succ _)⟩
        unfold goPost
        rw [if_neg (by rw [HF.out]; decide), HG.out.2.1]
        exact ⟨A', c', rfl, HG.out.1.cap, HG.out.1.kids⟩
end Go.Proofs.YtpjlgahbbmlngaaDoor
