/-
  Trees: At and Span.; Arguments opened: tokens' cells.; Trees: a Node as an argument.
-/
import Derived.Test.YtgihkojlpaebiaaDoorTreeAtsp30
import Derived.Test.YtgihkojlpaebiaaDoorTreeAtsp31
import Derived.Test.YtgihkojlpaebiaaDoorTreeAtsp5
import Derived.Deep.Slices
import Derived.Lib.SmallJoins
import Derived.Test.YtgihkojlpaebiaaDoorTreeAtsp27
namespace Go.Proofs.YtgihkojlpaebiaaDoor
set_option linter.unusedVariables false
set_option linter.unusedSimpArgs false
open Go Go.RowKit

theorem partsL_get : ∀ {l : List Nd} {i : Nat} {x : Nd}, partsL l = true → l[i]? = some x → partsN x = true
  | y :: l, 0, x, hp, h => by
    obtain rfl := Option.some.inj h
    simp only [partsL, Bool.and_eq_true] at hp
    exact hp.1
  | y :: l, i + 1, x, hp, h => by
    simp only [partsL, Bool.and_eq_true] at hp
    exact partsL_get (l := l) (i := i) hp.2 (by simpa using h)
theorem partsN_kids {n : Nd} (h : partsN n = true) : partsL n.kids = true := by
  cases n with
  | mk k t l => simp only [partsN, Bool.and_eq_true] at h; exact h.2
theorem goR_facts : ∀ {l : List Int} {n x : Nd} {b b' : Nat}, goR n l b = some (x, b') → countN x ≤ countN n ∧ b' + sumT (leavesN x) ≤ b + sumT (leavesN n) ∧ (partsN n = true → partsN x = true)
  | [], n, x, b, b', h => by
    simp only [goR, Option.some.injEq, Prod.mk.injEq] at h
    obtain ⟨rfl, rfl⟩ := h
    exact ⟨Nat.le_refl _, Nat.le_refl _, id⟩
  | i :: ps, n, x, b, b', h => by
    rw [goR_cons] at h
    split at h
    · cases h
    · split at h
      · rename_i k hk
        obtain ⟨h1, h2, h3⟩ := goR_facts h
        have e1 := countL_get _ _ _ hk
        have e2 := countN_kids n
        have e3 := leavesL_cut n.kids (i.toNat + 1)
        rw [leavesL_next hk, sumT_append] at e3
        have e4 := leavesN_kids n
        exact ⟨by omega, by omega, fun hp => h3 (partsL_get (partsN_kids hp) hk)⟩
      · cases h
/-- the error of a position -/
def goErr (n : Nd) (l : List Int) : Int := if formedB n = false then 4 else match goR n l 0 with
  | none => 2
  | some _ => 0
theorem goPost_err {n : Nd} {l : List Int} {e : Ending} {w w' : World} {c : Int} (h : goPost n l e w w') (hc : goErr n l = c) (h0 : c ≠ 0) : e = .returned (.tuple #[.agg zeroCells, .int .i64 0, .int .i64 c]) := by
  unfold goPost at h
  unfold goErr at hc
  subst hc
  split at h
  · rename_i hf
    rw [if_pos hf]; exact h
  · rename_i hf
    rw [if_neg hf] at h0 ⊢
    cases hg : goR n l 0 with
    | none => rw [hg] at h; exact h
    | some p => rw [hg] at h0; exact absurd rfl h0
theorem goPost_ok {n x : Nd} {l : List Int} {e : Ending} {w w' : World} {b : Nat} (h : goPost n l e w w') (hf : formedB n = true) (hg : goR n l 0 = some (x, b)) :
    ∃ A c, e = .returned (.tuple #[.agg #[.int .i64 x.kind, .int .i64 x.tok.1, .string x.tok.2, .slice A x.kids.length c], .int .i64 (b : Nat), .int .i64 0]) ∧ x.kids.length ≤ c ∧ KidsP (fun k => k < w.heap.size) w A x.kids := by
  unfold goPost at h
  rw [if_neg (by rw [hf]; decide), hg] at h
  exact h

theorem set2 {W : World} {b t : Nat} {u0 u1 v0 v1 : Value} (h : W.heap[b]? = some (.cells #[u0, u1] t (0, 0))) :
    ((W.setCell ⟨b, 0, none⟩ v0).setCell ⟨b, 1, none⟩ v1).heap[b]? = some (.cells #[v0, v1] t (0, 0)) := by
  have a1 := heap_setCell_same W b 0 _ _ v0 h
  have a2 := heap_setCell_same _ b 1 _ _ v1 a1
  simpa using a2
theorem below2 {B : Nat} {w0 W : World} {b : Nat} {v0 v1 : Value} (h : Below B w0 W) (hb : B ≤ b) : Below B w0 ((W.setCell ⟨b, 0, none⟩ v0).setCell ⟨b, 1, none⟩ v1) :=
  (h.setCell (p := ⟨b, 0, none⟩) hb _).setCell (p := ⟨b, 1, none⟩) hb _
theorem size2 {W : World} {b : Nat} {v0 v1 : Value} : ((W.setCell ⟨b, 0, none⟩ v0).setCell ⟨b, 1, none⟩ v1).heap.size = W.heap.size := by simp [World.setCell]

set_option maxRecDepth 100000 in
set_option maxHeartbeats 2000000 in
theorem At_err (n : Nd) (v : Value) (l : List Int) (Ap : Option Addr) (cp : Nat) (w : World) (c : Int) (hC : sizeN n) (hS : sumS n) (hT : Tabs w) (hV : NodeP (fun _ => True) w v n) (hl : l.length ≤ 1000000000) (hP : IntsR w Ap l) (hc : goErr n l = c) (h0 : c ≠ 0) :
    Calls Tryd.prog 37 #[v, .slice Ap l.length cp] w fun e w' => e = .returned (.tuple #[.agg zeroCells, .int .i64 c]) ∧ Below w.heap.size w w' := by
  have hV0 := hV
  obtain ⟨A, ca, rfl, _, _⟩ := hV0
  obtain ⟨w0, hw0⟩ : ∃ w0, w0 = (w.alloc (.cells #[.int .i64 n.kind, .int .i64 n.tok.1, .string n.tok.2, .slice A n.kids.length ca] 26)).alloc (.cells #[.int .i64 0, .int .i64 0, .string { data := #[] }, .slice none 0 0] 26) := ⟨_, rfl⟩
  have hB0 : Below w.heap.size w w0 := by rw [hw0]; exact ((Below.refl _ _).alloc (Nat.le_refl _) _).alloc (by simp) _
  have hb1 : w0.heap[w.heap.size + 1]? = some (.cells #[.int .i64 0, .int .i64 0, .string { data := #[] }, .slice none 0 0] 26 (0, 0)) := by rw [hw0]; exact alloc_at _ _ _ (by simp)
  have hs0 : w0.heap.size = w.heap.size + 2 := by rw [hw0]; simp
  have hgo := (goTo_any n _ l Ap cp w0 hC hS (hT.below hB0) (hV.below hB0 (fun _ _ _ => trivial)) hl (hP.below hB0)).mono fun e w' ⟨h1, h2⟩ => And.intro (goPost_err h1 hc h0) h2
  have hne : (c != 0) = true := by simpa using h0
  have HG := Lib.hid hgo
  have HW := Lib.hid hw0
  have HX := Lib.hid (show _ ∧ _ ∧ _ from ⟨hB0, hb1, hs0⟩)
  clear hgo hw0 hB0 hb1 hs0 hC hS hT hV hP hc
  go_enter Tryd.func37, Tryd.ntmps37
  go_wp2_with fail
  rw [← HW.out]
  refine HG.out.mono ?_
  rintro e w1 ⟨rfl, hbb⟩
  have hz := (hbb.block (w.heap.size + 1) (by rw [HX.out.2.2]; omega)).trans HX.out.2.1
  have hs1 := hbb.size
  rw [HX.out.2.2] at hs1
  have hlt : w.heap.size + 1 < w1.heap.size := by omega
  have hnb : w.heap.size + 1 ≠ w1.heap.size := by omega
  have q0 := Lib.cell_of_heap hz 0
  have f0 := frozen_block (j := 0) hz
  have q1 := Lib.cell_of_heap hz 1
  have f1 := frozen_block (j := 1) hz
  have q2 := Lib.cell_of_heap hz 2
  have f2 := frozen_block (j := 2) hz
  have q3 := Lib.cell_of_heap hz 3
  have f3 := frozen_block (j := 3) hz
  have HB := Lib.hid (show _ ∧ _ from ⟨hz, HX.out.1.trans (hbb.mono HX.out.1.size)⟩)
  clear hz hbb hs1
  go_wp2_with fail
  have hF := set4 (v0 := .int .i64 0) (v1 := .int .i64 0) (v2 := .string { data := #[] }) (v3 := .slice none 0 0) HB.out.1
  obtain ⟨W, hW⟩ : ∃ W, W = (((((w1).setCell ⟨w.heap.size + 1, 0, none⟩ (.int .i64 0)).setCell ⟨w.heap.size + 1, 1, none⟩ (.int .i64 0)).setCell ⟨w.heap.size + 1, 2, none⟩ (.string { data := #[] })).setCell ⟨w.heap.size + 1, 3, none⟩ (.slice none 0 0)).alloc (.cells #[.int .i64 0, .int .i64 0, .string { data := #[] }, .slice none 0 0] 26) := ⟨_, rfl⟩
  rw [← hW]
  have hA : W.heap[w.heap.size + 1]? = some (.cells #[.int .i64 0, .int .i64 0, .string { data := #[] }, .slice none 0 0] 26 (0, 0)) := by rw [hW]; exact (alloc_old _ _ _ (by rw [size4]; exact hlt)).trans hF
  have hBW : Below w.heap.size w W := by rw [hW]; exact (below4 HB.out.2 (Nat.le_succ _)).alloc (by rw [size4]; omega) _
  have s0 := Lib.cell_of_heap hA 0
  have s1 := Lib.cell_of_heap hA 1
  have s2 := Lib.cell_of_heap hA 2
  have s3 := Lib.cell_of_heap hA 3
  refine bodyPost_ret (by simp [results, Tryd.f37, go_sem, s0, s1, s2, s3]; try rfl) rfl ?_
  exact ⟨rfl, hBW⟩

set_option maxRecDepth 100000 in
set_option maxHeartbeats 2000000 in
theorem At_ok (n x : Nd) (b : Nat) (v : Value) (l : List Int) (Ap : Option Addr) (cp : Nat) (w : World) (hC : sizeN n) (hS : sumS n) (hT : Tabs w) (hV : NodeP (fun _ => True) w v n) (hl : l.length ≤ 1000000000) (hP : IntsR w Ap l) (hf : formedB n = true) (hg : goR n l 0 = some (x, b)) :
    Calls Tryd.prog 37 #[v, .slice Ap l.length cp] w fun e w' => (∃ v', e = .returned (.tuple #[v', .int .i64 0]) ∧ NodeP (fun k => w.heap.size ≤ k) w' v' x) ∧ Below w.heap.size w w' := by
  have hV0 := hV
  obtain ⟨A, ca, rfl, _, _⟩ := hV0
  obtain ⟨w0, hw0⟩ : ∃ w0, w0 = (w.alloc (.cells #[.int .i64 n.kind, .int .i64 n.tok.1, .string n.tok.2, .slice A n.kids.length ca] 26)).alloc (.cells #[.int .i64 0, .int .i64 0, .string { data := #[] }, .slice none 0 0] 26) := ⟨_, rfl⟩
  have hB0 : Below w.heap.size w w0 := by rw [hw0]; exact ((Below.refl _ _).alloc (Nat.le_refl _) _).alloc (by simp) _
  have hb1 : w0.heap[w.heap.size + 1]? = some (.cells #[.int .i64 0, .int .i64 0, .string { data := #[] }, .slice none 0 0] 26 (0, 0)) := by rw [hw0]; exact alloc_at _ _ _ (by simp)
  have hs0 : w0.heap.size = w.heap.size + 2 := by rw [hw0]; simp
  obtain ⟨hcx, hsx, _⟩ := goR_facts hg
  have hcx2 : countN x ≤ 10000000 := Nat.le_trans hcx hC
  have hsx2 : b + sumT (leavesN x) ≤ 1000000000000 := by unfold sumS at hS; omega
  have hgo := (goTo_any n _ l Ap cp w0 hC hS (hT.below hB0) (hV.below hB0 (fun _ _ _ => trivial)) hl (hP.below hB0)).mono fun e w' ⟨h1, h2⟩ => And.intro (goPost_ok h1 hf hg) h2
  have HN := Lib.hid (show _ ∧ _ from ⟨hcx2, hsx2⟩)
  clear hcx hsx hcx2 hsx2
  have HG := Lib.hid hgo
  have HW := Lib.hid hw0
  have HX := Lib.hid (show _ ∧ _ ∧ _ from ⟨hB0, hb1, hs0⟩)
  clear hgo hw0 hB0 hb1 hs0 hC hS hT hV hP hf hg
  go_enter Tryd.func37, Tryd.ntmps37
  go_wp2_with fail
  rw [← HW.out]
  refine HG.out.mono ?_
  rintro e w1 ⟨⟨Ax, cx, rfl, hcap, hkx⟩, hbb⟩
  have hz := (hbb.block (w.heap.size + 1) (by rw [HX.out.2.2]; omega)).trans HX.out.2.1
  have hs1 := hbb.size
  rw [HX.out.2.2] at hs1
  have hlt : w.heap.size + 1 < w1.heap.size := by omega
  have hnb : w.heap.size + 1 ≠ w1.heap.size := by omega
  have q0 := Lib.cell_of_heap hz 0
  have f0 := frozen_block (j := 0) hz
  have q1 := Lib.cell_of_heap hz 1
  have f1 := frozen_block (j := 1) hz
  have q2 := Lib.cell_of_heap hz 2
  have f2 := frozen_block (j := 2) hz
  have q3 := Lib.cell_of_heap hz 3
  have f3 := frozen_block (j := 3) hz
  have hk2 : KidsV (w1.alloc (.cells (nodeCells x Ax cx) 26)) Ax x.kids := ((hkx.later hbb).kids).below ((Below.refl _ _).alloc (Nat.le_refl _) _)
  have hcl := Clone_any (deepN x + 1) x _ (w1.alloc (.cells (nodeCells x Ax cx) 26)) (Nat.lt_succ_self _) HN.out.1 ⟨Ax, cx, rfl, hk2⟩
  have HCl := Lib.hid hcl
  have hB1 := HX.out.1.trans (hbb.mono HX.out.1.size)
  have HB := Lib.hid (show _ ∧ _ from ⟨hz, hB1.alloc (o := .cells (nodeCells x Ax cx) 26) (by omega)⟩)
  clear hz hbb hs1 hk2 hcl hkx hB1 hcap q0 q1 q2 q3 f0 f1 f2 f3
  go_wp2_with fail
  refine HCl.out.mono ?_
  rintro e w2 ⟨v', rfl, ⟨A2, c2, rfl, hc2, hk2⟩, hb2⟩
  have hs2 := hb2.size
  rw [World.size_alloc] at hs2
  have hz := (hb2.block (w.heap.size + 1) (by rw [World.size_alloc]; omega)).trans ((alloc_old _ _ _ hlt).trans HB.out.1)
  have q0 := Lib.cell_of_heap hz 0
  have f0 := frozen_block (j := 0) hz
  have q1 := Lib.cell_of_heap hz 1
  have f1 := frozen_block (j := 1) hz
  have q2 := Lib.cell_of_heap hz 2
  have f2 := frozen_block (j := 2) hz
  have q3 := Lib.cell_of_heap hz 3
  have f3 := frozen_block (j := 3) hz
  have HB2 := Lib.hid (show _ ∧ _ ∧ _ ∧ _ from ⟨hz, HB.out.2.trans (hb2.mono (by rw [World.size_alloc]; omega)), hc2, hk2⟩)
  clear hz hb2 hk2 hc2
  go_wp2_with fail
  have hF := set4 (v0 := .int .i64 x.kind) (v1 := .int .i64 x.tok.1) (v2 := .string x.tok.2) (v3 := .slice A2 x.kids.length c2) HB2.out.1
  have s0 := Lib.cell_of_heap hF 0
  have s1 := Lib.cell_of_heap hF 1
  have s2 := Lib.cell_of_heap hF 2
  have s3 := Lib.cell_of_heap hF 3
  refine bodyPost_ret (by simp [results, Tryd.f37, go_sem, s0, s1, s2, s3]; try rfl) rfl ?_
  exact ⟨⟨_, rfl, A2, c2, rfl, HB2.out.2.2.1, HB2.out.2.2.2.kept (by rw [size4]; exact Nat.le_refl _) (fun k hp _ => other4 (by rw [World.size_alloc] at hp; omega)) (fun k hp _ => by rw [World.size_alloc] at hp; omega)⟩, below4 HB2.out.2.1 (Nat.le_succ _)⟩

set_option maxRecDepth 100000 in
set_option maxHeartbeats 2000000 in
theorem Span_err (n : Nd) (v : Value) (l : List Int) (Ap : Option Addr) (cp : Nat) (w : World) (c : Int) (hC : sizeN n) (hS : sumS n) (hT : Tabs w) (hV : NodeP (fun _ => True) w v n) (hl : l.length ≤ 1000000000) (hP : IntsR w Ap l) (hc : goErr n l = c) (h0 : c ≠ 0) :
    Calls Tryd.prog 38 #[v, .slice Ap l.length cp] w fun e w' => e = .returned (.tuple #[.agg #[.int .i64 0, .int .i64 0], .int .i64 c]) ∧ Below w.heap.size w w' := by
  have hV0 := hV
  obtain ⟨A, ca, rfl, _, _⟩ := hV0
  obtain ⟨w0, hw0⟩ : ∃ w0, w0 = (w.alloc (.cells #[.int .i64 n.kind, .int .i64 n.tok.1, .string n.tok.2, .slice A n.kids.length ca] 26)).alloc (.cells #[.int .i64 0, .int .i64 0] 62) := ⟨_, rfl⟩
  have hB0 : Below w.heap.size w w0 := by rw [hw0]; exact ((Below.refl _ _).alloc (Nat.le_refl _) _).alloc (by simp) _
  have hb1 : w0.heap[w.heap.size + 1]? = some (.cells #[.int .i64 0, .int .i64 0] 62 (0, 0)) := by rw [hw0]; exact alloc_at _ _ _ (by simp)
  have hs0 : w0.heap.size = w.heap.size + 2 := by rw [hw0]; simp
  have hgo := (goTo_any n _ l Ap cp w0 hC hS (hT.below hB0) (hV.below hB0 (fun _ _ _ => trivial)) hl (hP.below hB0)).mono fun e w' ⟨h1, h2⟩ => And.intro (goPost_err h1 hc h0) h2
  have hne : (c != 0) = true := by simpa using h0
  have HG := Lib.hid hgo
  have HW := Lib.hid hw0
  have HX := Lib.hid (show _ ∧ _ ∧ _ from ⟨hB0, hb1, hs0⟩)
  clear hgo hw0 hB0 hb1 hs0 hC hS hT hV hP hc
  go_enter Tryd.func38, Tryd.ntmps38
  go_wp2_with fail
  rw [← HW.out]
  refine HG.out.mono ?_
  rintro e w1 ⟨rfl, hbb⟩
  have hz := (hbb.block (w.heap.size + 1) (by rw [HX.out.2.2]; omega)).trans HX.out.2.1
  have hs1 := hbb.size
  rw [HX.out.2.2] at hs1
  have hlt : w.heap.size + 1 < w1.heap.size := by omega
  have hnb : w.heap.size + 1 ≠ w1.heap.size := by omega
  have q0 := Lib.cell_of_heap hz 0
  have f0 := frozen_block (j := 0) hz
  have q1 := Lib.cell_of_heap hz 1
  have f1 := frozen_block (j := 1) hz
  have HB := Lib.hid (show _ ∧ _ from ⟨hz, HX.out.1.trans (hbb.mono HX.out.1.size)⟩)
  clear hz hbb hs1
  go_wp2_with fail
  have hF := set2 (v0 := .int .i64 0) (v1 := .int .i64 0) HB.out.1
  obtain ⟨W, hW⟩ : ∃ W, W = (((w1).setCell ⟨w.heap.size + 1, 0, none⟩ (.int .i64 0)).setCell ⟨w.heap.size + 1, 1, none⟩ (.int .i64 0)).alloc (.cells #[.int .i64 0, .int .i64 0, .string { data := #[] }, .slice none 0 0] 26) := ⟨_, rfl⟩
  rw [← hW]
  have hA : W.heap[w.heap.size + 1]? = some (.cells #[.int .i64 0, .int .i64 0] 62 (0, 0)) := by rw [hW]; exact (alloc_old _ _ _ (by rw [size2]; exact hlt)).trans hF
  have hBW : Below w.heap.size w W := by rw [hW]; exact (below2 HB.out.2 (Nat.le_succ _)).alloc (by rw [size2]; omega) _
  have s0 := Lib.cell_of_heap hA 0
  have s1 := Lib.cell_of_heap hA 1
  refine bodyPost_ret (by simp [results, Tryd.f38, go_sem, s0, s1]; try rfl) rfl ?_
  exact ⟨rfl, hBW⟩

set_option maxRecDepth 100000 in
set_option maxHeartbeats 2000000 in
theorem Span_ok (n x : Nd) (b : Nat) (v : Value) (l : List Int) (Ap : Option Addr) (cp : Nat) (w : World) (hC : sizeN n) (hS : sumS n) (hT : Tabs w) (hV : NodeP (fun _ => True) w v n) (hl : l.length ≤ 1000000000) (hP : IntsR w Ap l) (hf : formedB n = true) (hg : goR n l 0 = some (x, b)) :
    Calls Tryd.prog 38 #[v, .slice Ap l.length cp] w fun e w' => (e = .returned (.tuple #[.agg #[.int .i64 (b : Nat), .int .i64 ((b + sumT (leavesN x) : Nat) : Int)], .int .i64 0])) ∧ Below w.heap.size w w' := by
  have hV0 := hV
  obtain ⟨A, ca, rfl, _, _⟩ := hV0
  obtain ⟨w0, hw0⟩ : ∃ w0, w0 = (w.alloc (.cells #[.int .i64 n.kind, .int .i64 n.tok.1, .string n.tok.2, .slice A n.kids.length ca] 26)).alloc (.cells #[.int .i64 0, .int .i64 0] 62) := ⟨_, rfl⟩
  have hB0 : Below w.heap.size w w0 := by rw [hw0]; exact ((Below.refl _ _).alloc (Nat.le_refl _) _).alloc (by simp) _
  have hb1 : w0.heap[w.heap.size + 1]? = some (.cells #[.int .i64 0, .int .i64 0] 62 (0, 0)) := by rw [hw0]; exact alloc_at _ _ _ (by simp)
  have hs0 : w0.heap.size = w.heap.size + 2 := by rw [hw0]; simp
  obtain ⟨hcx, hsx, _⟩ := goR_facts hg
  have hcx2 : countN x ≤ 10000000 := Nat.le_trans hcx hC
  have hsx2 : b + sumT (leavesN x) ≤ 1000000000000 := by unfold sumS at hS; omega
  have hgo := (goTo_any n _ l Ap cp w0 hC hS (hT.below hB0) (hV.below hB0 (fun _ _ _ => trivial)) hl (hP.below hB0)).mono fun e w' ⟨h1, h2⟩ => And.intro (goPost_ok h1 hf hg) h2
  have HN := Lib.hid (show _ ∧ _ from ⟨hcx2, hsx2⟩)
  clear hcx hsx hcx2 hsx2
  have HG := Lib.hid hgo
  have HW := Lib.hid hw0
  have HX := Lib.hid (show _ ∧ _ ∧ _ from ⟨hB0, hb1, hs0⟩)
  clear hgo hw0 hB0 hb1 hs0 hC hS hT hV hP hf hg
  go_enter Tryd.func38, Tryd.ntmps38
  go_wp2_with fail
  rw [← HW.out]
  refine HG.out.mono ?_
  rintro e w1 ⟨⟨Ax, cx, rfl, hcap, hkx⟩, hbb⟩
  have hz := (hbb.block (w.heap.size + 1) (by rw [HX.out.2.2]; omega)).trans HX.out.2.1
  have hs1 := hbb.size
  rw [HX.out.2.2] at hs1
  have hlt : w.heap.size + 1 < w1.heap.size := by omega
  have hnb : w.heap.size + 1 ≠ w1.heap.size := by omega
  have q0 := Lib.cell_of_heap hz 0
  have f0 := frozen_block (j := 0) hz
  have q1 := Lib.cell_of_heap hz 1
  have f1 := frozen_block (j := 1) hz
  have hk2 : KidsV (w1.alloc (.cells (nodeCells x Ax cx) 26)) Ax x.kids := ((hkx.later hbb).kids).below ((Below.refl _ _).alloc (Nat.le_refl _) _)
  have hwid := width_any x _ (w1.alloc (.cells (nodeCells x Ax cx) 26)) HN.out.1 (by have := HN.out.2; unfold sumS; omega) ⟨Ax, cx, rfl, hk2⟩
  have hB1 := HX.out.1.trans (hbb.mono HX.out.1.size)
  have HB := Lib.hid (show _ ∧ _ from ⟨hz, hB1.alloc (o := .cells (nodeCells x Ax cx) 26) (by omega)⟩)
  have e6 : IntKind.i64.wrap ((b : Int) + ((sumT (leavesN x) : Nat) : Int)) = ((b + sumT (leavesN x) : Nat) : Int) := by rw [IntWalk.i64_in _ (by have := HN.out.2; omega)]; omega
  obtain ⟨wx, hwx⟩ : ∃ wx, wx = sumT (leavesN x) := ⟨_, rfl⟩
  rw [← hwx] at e6 hwid
  have HWX := Lib.hid hwx
  clear hwx
  obtain ⟨bx, hbx⟩ : ∃ bx, bx = b + wx := ⟨_, rfl⟩
  rw [← hbx] at e6
  have HBX := Lib.hid hbx
  have HWid := Lib.hid hwid
  clear hz hbb hs1 hk2 hwid hkx hB1 hcap q0 q1 f0 f1 hbx
  go_wp2_with fail
  refine HWid.out.mono ?_
  rintro e w2 ⟨rfl, hb2⟩
  have hs2 := hb2.size
  rw [World.size_alloc] at hs2
  have hz := (hb2.block (w.heap.size + 1) (by rw [World.size_alloc]; omega)).trans ((alloc_old _ _ _ hlt).trans HB.out.1)
  have q0 := Lib.cell_of_heap hz 0
  have f0 := frozen_block (j := 0) hz
  have q1 := Lib.cell_of_heap hz 1
  have f1 := frozen_block (j := 1) hz
  have HB2 := Lib.hid (show _ ∧ _ from ⟨hz, HB.out.2.trans (hb2.mono (by rw [World.size_alloc]; omega))⟩)
  clear hz hb2
  go_wp2_with fail
  have hF := set2 (v0 := .int .i64 (b : Nat)) (v1 := .int .i64 (bx : Nat)) HB2.out.1
  have s0 := Lib.cell_of_heap hF 0
  have s1 := Lib.cell_of_heap hF 1
  refine bodyPost_ret (by simp [results, Tryd.f38, go_sem, s0, s1]; try rfl) rfl ?_
  exact ⟨by rw [HBX.out, HWX.out], below2 HB2.out.2 (Nat.le_succ _)⟩

end Go.Proofs.YtgihkojlpaebiaaDoor

namespace Go.Proofs.YtgihkojlpaebiaaDoor
set_option linter.unusedVariables false
set_option linter.unusedSimpArgs false
open Go Go.Deep

theorem cellsTok : Tryd.prog.cellsOf 23 = 2 := by kernel_rfl
theorem cells3T : Tryd.prog.cellsOf 3 = 1 := by kernel_rfl
theorem cells9T : Tryd.prog.cellsOf 9 = 1 := by kernel_rfl
theorem build_listT {α : Type} {Q : Nat → α → Prop} : ∀ n : Nat, (∀ i, i < n → ∃ e, Q i e) → ∃ l : List α, l.length = n ∧ ∀ i e, l[i]? = some e → Q i e
  | 0, _ => ⟨[], rfl, fun i e h => by simp at h⟩
  | n + 1, h => by
    obtain ⟨l, hl, hq⟩ := build_listT n (fun i hi => h i (by omega))
    obtain ⟨e, he⟩ := h n (by omega)
    refine ⟨l ++ [e], by simp [hl], fun i x hx => ?_⟩
    rw [List.getElem?_append] at hx
    by_cases hi : i < l.length
    · rw [if_pos hi] at hx; exact hq i x hx
    · rw [if_neg hi] at hx
      have : i - l.length = 0 := by
        rcases Nat.eq_zero_or_pos (i - l.length) with h0 | h0
        · exact h0
        · rw [List.getElem?_eq_none (by simp; omega)] at hx; cases hx
      rw [this] at hx
      have hin : i = n := by omega
      simp at hx
      subst hx
      subst hin
      exact he
def tkC (p : Tok) : List Value := [.int .i64 p.1, .string p.2]

section
variable {H : Type} {enc : TypeId × Value → H} {w : World} {base : Nat} {spare : Nat → Bool} {held : Bool}

set_option maxRecDepth 100000 in
theorem tok_of {fuel : Nat} {cs : List Value} {x : DataW H × List MemPlace} (h : DataW.trod enc Tryd.prog w base spare held fuel 23 cs = some x) :
    ∃ p : Tok, cs = tkC p ∧ p.2.size ≤ maxLen := by
  obtain ⟨xs, n, _, _, hlen, hxs, hf⟩ := DataW.trod_struct Tryd.underlying23 h
  rw [cellsTok] at hlen
  match cs, hlen with
  | [c0, c1], _ =>
    have h0 := hf 0 { name := "Kind", type := 3, offset := 0, embedded := false, tag := "", pkgPath := "", byteOffset := 0 } rfl
    have h1 := hf 1 { name := "Text", type := 9, offset := 1, embedded := false, tag := "", pkgPath := "", byteOffset := 8 } rfl
    dsimp only at h0 h1
    rw [cells3T] at h0
    rw [cells9T] at h1
    have hx : ∀ i, i < xs.length → ∃ y, xs[i]? = some y := fun i hi => ⟨_, List.getElem?_eq_getElem hi⟩
    have h3 : xs.length = 2 := hxs
    obtain ⟨y0, e0⟩ := hx 0 (by omega)
    obtain ⟨y1, e1⟩ := hx 1 (by omega)
    rw [e0] at h0
    rw [e1] at h1
    obtain ⟨a, ha, _, wa⟩ := DataW.trod_int Tryd.underlying3 h0
    obtain ⟨s, hs, _, ws⟩ := DataW.trod_string Tryd.underlying9 h1
    simp at ha hs
    subst ha hs
    exact ⟨(a, s), rfl, ws⟩

end
end Go.Proofs.YtgihkojlpaebiaaDoor

namespace Go.Proofs.YtgihkojlpaebiaaDoor
set_option linter.unusedVariables false
set_option linter.unusedSimpArgs false
open Go Go.RowKit Go.Deep Go.WideShapes Go.ChangeShapes

theorem cellsNode : Tryd.prog.cellsOf 26 = 4 := by kernel_rfl
theorem cellsNodes : Tryd.prog.cellsOf 24 = 1 := by kernel_rfl
theorem spot_none {w : World} {a : Addr} {n : Nat} {cs : List Value} (h : w.cells? 0 a n = some cs) (hn : 0 < n) (h0 : ∀ u, cs[0]? = some u → u.oneCell' = true) (hc : ∃ k, cs[0]? = some (.int .i64 k)) : ∃ b off, a = ⟨b, off, none⟩ ∧ b < w.heap.size := by
  obtain ⟨_, _, hc0⟩ := World.cells?_some h
  have hc00 := hc0 0 hn
  obtain ⟨k, hk⟩ := hc
  rw [hk] at hc00
  have hsp : a.spot = none := by
    have hz : a.add 0 = a := by simp [Addr.add]
    rw [hz] at hc00
    simp only [World.cell?] at hc00
    split at hc00
    · split at hc00
      · simp at hc00
      · rename_i hns; simpa using hns
    · simp at hc00
  obtain ⟨b, off, sp⟩ := a
  simp only at hsp
  subst hsp
  refine ⟨b, off, rfl, ?_⟩
  rcases Nat.lt_or_ge b w.heap.size with hlt | hge
  · exact hlt
  · simp [World.cell?, Addr.add, Array.getElem?_eq_none hge] at hc00

section
variable {H : Type} {enc : TypeId × Value → H} {w : World} {spare : Nat → Bool} {held : Bool}
set_option maxRecDepth 100000 in
theorem node_cells (fuel : Nat) : ∀ {cs : List Value} {x : DataW H × List MemPlace}, DataW.trod enc Tryd.prog w 0 spare held fuel 26 cs = some x →
    ∃ y : Pn, cs = cells4 y ∧ (y.1.kids.length ≤ y.2.2 ∧ KidsP (fun _ => True) w y.2.1 y.1.kids) ∧ rawN y.1 := by
  induction fuel using Nat.strongRecOn with
  | _ fuel ih =>
    intro cs x h
    obtain ⟨xs, n, rfl, _, hlen, hxs, hf⟩ := DataW.trod_struct Tryd.underlying26 h
    rw [cellsNode] at hlen
    obtain ⟨c0, c1, c2, c3, rfl⟩ : ∃ c0 c1 c2 c3, cs = [c0, c1, c2, c3] := by
      match cs, hlen with
      | [c0, c1, c2, c3], _ => exact ⟨c0, c1, c2, c3, rfl⟩
    have h0 := hf 0 { name := "Kind", type := 3, offset := 0, embedded := false, tag := "", pkgPath := "", byteOffset := 0 } rfl
    have h1 := hf 1 { name := "Token", type := 23, offset := 1, embedded := false, tag := "", pkgPath := "", byteOffset := 8 } rfl
    have h2 := hf 2 { name := "Kids", type := 24, offset := 3, embedded := false, tag := "", pkgPath := "", byteOffset := 32 } rfl
    dsimp only at h0 h1 h2
    rw [cells3T] at h0
    rw [cellsTok] at h1
    rw [cellsNodes] at h2
    have h3 : xs.length = 3 := hxs
    have hx : ∀ i, i < xs.length → ∃ y, xs[i]? = some y := fun i hi => ⟨_, List.getElem?_eq_getElem hi⟩
    obtain ⟨y0, e0⟩ := hx 0 (by omega)
    obtain ⟨y1, e1⟩ := hx 1 (by omega)
    obtain ⟨y2, e2⟩ := hx 2 (by omega)
    rw [e0] at h0
    rw [e1] at h1
    rw [e2] at h2
    obtain ⟨k, hk, _, _⟩ := DataW.trod_int Tryd.underlying3 h0
    obtain ⟨⟨tk, tx⟩, hp, hps⟩ := tok_of h1
    simp [tkC] at hk hp
    obtain rfl := hk
    obtain ⟨rfl, rfl⟩ := hp
    rcases DataW.trod_slice Tryd.underlying24 h2 with ⟨hcs, _⟩ | ⟨a', len, cap, elems, rest, n', hn', hcs, _, hb, hl, hm, hel, hi, _⟩
    · simp at hcs
      subst hcs
      exact ⟨(.mk k (tk, tx) [], none, 0), rfl, ⟨Nat.le_refl _, fun hl => by simp [Nd.kids] at hl⟩, hps, Nat.zero_le _, trivial⟩
    · simp at hcs
      subst hcs
      rw [cellsNode] at hi
      obtain ⟨ys, hyl, hq⟩ := build_listT (Q := fun i (y : Pn) => w.cells? 0 (a'.add (i * 4)) 4 = some (cells4 y) ∧ (y.1.kids.length ≤ y.2.2 ∧ KidsP (fun _ => True) w y.2.1 y.1.kids) ∧ rawN y.1) len (fun i hi' => by
        have hii := hi i hi'
        rw [List.getElem?_eq_getElem (by omega)] at hii
        obtain ⟨cs', hc1, hc2⟩ := Option.bind_eq_some_iff.1 hii
        obtain ⟨y, rfl, hy1, hy2⟩ := ih n' (by omega) hc2
        exact ⟨y, hc1, hy1, hy2⟩)
      subst hyl
      refine ⟨(.mk k (tk, tx) (ys.map (·.1)), some a', cap), by simp [cells4, Nd.kind, Nd.tok, Nd.kids], ⟨by simpa [Nd.kids] using hl, fun hpos => ?_⟩, hps, by simp; omega, rawL_of fun z hz => ?_⟩
      · have hpos' : 0 < ys.length := by simpa [Nd.kids] using hpos
        have hz0 := (hq 0 _ (List.getElem?_eq_getElem hpos')).1
        obtain ⟨b, off, he, hbl⟩ := spot_none hz0 (by decide) (by intro u hu; simp [cells4] at hu; subst hu; rfl) ⟨_, rfl⟩
        have ha' : a' = ⟨b, off, none⟩ := by
          have hz : a'.add (0 * 4) = a' := by simp [Addr.add]
          rw [← hz]; exact he
        subst ha'
        refine ⟨b, off, rfl, NdsP.of_cells trivial hbl ys off fun i y hy => ?_⟩
        obtain ⟨q1, q2, _⟩ := hq i y hy
        obtain ⟨_, _, hcc⟩ := World.cells?_some q1
        have hadd : ∀ j : Nat, ((⟨b, off, none⟩ : Addr).add (i * 4)).add j = ⟨b, off + i * 4 + j, none⟩ := by
          intro j
          unfold Addr.add
          by_cases h1 : i * 4 = 0 <;> by_cases h2 : j = 0 <;> simp [h1, h2]
        have hcell : ∀ j, j < 4 → w.cell? ⟨b, off + i * 4 + j, none⟩ = (cells4 y)[j]? := fun j hj => by rw [← hadd]; exact hcc j hj
        exact ⟨hcell 0 (by decide), hcell 1 (by decide), hcell 2 (by decide), hcell 3 (by decide), q2.1, q2.2⟩
      · obtain ⟨y, hy, rfl⟩ := List.mem_map.1 hz
        obtain ⟨i, hi', rfl⟩ := List.getElem_of_mem hy
        exact (hq i _ (List.getElem?_eq_getElem hi')).2.2

set_option maxRecDepth 100000 in
theorem node_of_arg {r : Reach} {b0 : Nat} {v : Value} {d : DataW H} {ps : List MemPlace} (hval : Value.okWide Tryd.prog w r b0 26 v) (h : DataW.Trod enc Tryd.prog w 0 (fun _ => true) true 26 v d ps) :
    ∃ n : Nd, NodeV w v n ∧ rawN n := by
  obtain ⟨cs, rfl, hsz⟩ := okWide_struct Tryd.underlying26 hval
  obtain ⟨fuel, hf⟩ := h
  obtain ⟨y, hc, ⟨_, hk⟩, hr⟩ := node_cells fuel hf
  have hcs : cs = #[.int .i64 y.1.kind, .int .i64 y.1.tok.1, .string y.1.tok.2, .slice y.2.1 y.1.kids.length y.2.2] := by
    apply Array.ext'
    simpa [Value.cells, cells4] using hc
  subst hcs
  exact ⟨y.1, ⟨y.2.1, y.2.2, rfl, hk.kids⟩, hr⟩
end
end Go.Proofs.YtgihkojlpaebiaaDoor
