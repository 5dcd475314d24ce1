/-
  Trees: At returns new memory.
-/
import Derived.Test.YtpjlgahbbmlngaaDoorTreeOwnp2
import Derived.Test.YtpjlgahbbmlngaaDoorTreeLeavesp31
namespace Go.Proofs.YtpjlgahbbmlngaaDoor
set_option linter.unusedVariables false
set_option linter.unusedSimpArgs false
open Go Go.RowKit

set_option maxRecDepth 100000 in
set_option maxHeartbeats 2000000 in
theorem At_okU (n x : Nd) (b : Nat) (v : Value) (l : List Int) (Ap : Option Addr) (cp : Nat) (w : World) (hC : sizeN n) (hS : sumS n) (hT : Tabs w) (hV : NodeP (fun _ => True) w v n) (hl : l.length ≤ 1000000000) (hP : IntsR w Ap l) (hf : formedB n = true) (hg : goR n l 0 = some (x, b)) :
    Calls Tryd.prog 37 #[v, .slice Ap l.length cp] w fun e w' => (∃ A2 c2, e = .returned (.tuple #[.agg #[.int .i64 x.kind, .int .i64 x.tok.1, .string x.tok.2, .slice A2 x.kids.length c2], .int .i64 0]) ∧ x.kids.length ≤ c2 ∧ KidsP (fun k => w.heap.size ≤ k) w' A2 x.kids ∧ OpenK (fun k => w.heap.size ≤ k) w' A2 x.kids.length) ∧ Below w.heap.size w w' := by
  have hV0 := hV
  obtain ⟨A, ca, rfl, _, _⟩ := hV0
  obtain ⟨w0, hw0⟩ : ∃ w0, w0 = (w.alloc (.cells #[.int .i64 n.kind, .int .i64 n.tok.1, .string n.tok.2, .slice A n.kids.length ca] 26)).alloc (.cells #[.int .i64 0, .int .i64 0, .string { data := #[] }, .slice none 0 0] 26) := ⟨_, rfl⟩
  have hB0 : Below w.heap.size w w0 := by rw [hw0]; exact ((Below.refl _ _).alloc (Nat.le_refl _) _).alloc (by simp) _
  have hb1 : w0.heap[w.heap.size + 1]? = some (.cells #[.int .i64 0, .int .i64 0, .string { data := #[] }, .slice none 0 0] 26 (0, 0)) := by rw [hw0]; exact alloc_at _ _ _ (by simp)
  have hs0 : w0.heap.size = w.heap.size + 2 := by rw [hw0]; simp
  obtain ⟨hcx, hsx, _⟩ := goR_facts hg
  have hcx2 : countN x ≤ 10000000 := Nat.le_trans hcx hC
  have hsx2 : b + sumT (leavesN x) ≤ 1000000000000 := by unfold sumS at hS; omega
  have hgo := (goTo_any n _ l Ap cp w0 hC hS (hT.below hB0) (hV.below hB0 (fun _ _ _ => trivial)) hl (hP.below hB0)).mono fun e w' ⟨h1, h2⟩ => And.intro (goPost_ok h1 hf hg) h2
  have HN := Lib.hid (show _ ∧ _ from ⟨hcx2, hsx2⟩)
  clear hcx hsx hcx2 hsx2
  have HG := Lib.hid hgo
  have HW := Lib.hid hw0
  have HX := Lib.hid (show _ ∧ _ ∧ _ from ⟨hB0, hb1, hs0⟩)
  clear hgo hw0 hB0 hb1 hs0 hC hS hT hV hP hf hg
  go_enter Tryd.func37, Tryd.ntmps37
  go_wp2_with fail
  rw [← HW.out]
  refine HG.out.mono ?_
  rintro e w1 ⟨⟨Ax, cx, rfl, hcap, hkx⟩, hbb⟩
  have hz := (hbb.block (w.heap.size + 1) (by rw [HX.out.2.2]; omega)).trans HX.out.2.1
  have hs1 := hbb.size
  rw [HX.out.2.2] at hs1
  have hlt : w.heap.size + 1 < w1.heap.size := by omega
  have hnb : w.heap.size + 1 ≠ w1.heap.size := by omega
  have q0 := Lib.cell_of_heap hz 0
  have f0 := frozen_block (j := 0) hz
  have q1 := Lib.cell_of_heap hz 1
  have f1 := frozen_block (j := 1) hz
  have q2 := Lib.cell_of_heap hz 2
  have f2 := frozen_block (j := 2) hz
  have q3 := Lib.cell_of_heap hz 3
  have f3 := frozen_block (j := 3) hz
  have hk2 : KidsV (w1.alloc (.cells (nodeCells x Ax cx) 26)) Ax x.kids := ((hkx.later hbb).kids).below ((Below.refl _ _).alloc (Nat.le_refl _) _)
  have hcl := Clone_u (deepN x + 1) x _ (w1.alloc (.cells (nodeCells x Ax cx) 26)) (Nat.lt_succ_self _) HN.out.1 ⟨Ax, cx, rfl, hk2⟩
  have HCl := Lib.hid hcl
  have hB1 := HX.out.1.trans (hbb.mono HX.out.1.size)
  have HB := Lib.hid (show _ ∧ _ from ⟨hz, hB1.alloc (o := .cells (nodeCells x Ax cx) 26) (by omega)⟩)
  clear hz hbb hs1 hk2 hcl hkx hB1 hcap q0 q1 q2 q3 f0 f1 f2 f3
  go_wp2_with fail
  refine HCl.out.mono ?_
  rintro e w2 ⟨v', rfl, ⟨⟨A2, c2, rfl, hc2, hk2⟩, hu2⟩, hb2⟩
  have hu2 := (nodeU_kids hu2).open_ (P := fun k => (w1.alloc (.cells (nodeCells x Ax cx) 26)).heap.size ≤ k) (fun k h => h.1)
  have hs2 := hb2.size
  rw [World.size_alloc] at hs2
  have hz := (hb2.block (w.heap.size + 1) (by rw [World.size_alloc]; omega)).trans ((alloc_old _ _ _ hlt).trans HB.out.1)
  have q0 := Lib.cell_of_heap hz 0
  have f0 := frozen_block (j := 0) hz
  have q1 := Lib.cell_of_heap hz 1
  have f1 := frozen_block (j := 1) hz
  have q2 := Lib.cell_of_heap hz 2
  have f2 := frozen_block (j := 2) hz
  have q3 := Lib.cell_of_heap hz 3
  have f3 := frozen_block (j := 3) hz
  have HB2 := Lib.hid (show _ ∧ _ ∧ _ ∧ _ ∧ _ from ⟨hz, HB.out.2.trans (hb2.mono (by rw [World.size_alloc]; omega)), hc2, hk2, hu2⟩)
  clear hz hb2 hk2 hc2 hu2
  go_wp2_with fail
  have hF := set4 (v0 := .int .i64 x.kind) (v1 := .int .i64 x.tok.1) (v2 := .string x.tok.2) (v3 := .slice A2 x.kids.length c2) HB2.out.1
  have s0 := Lib.cell_of_heap hF 0
  have s1 := Lib.cell_of_heap hF 1
  have s2 := Lib.cell_of_heap hF 2
  have s3 := Lib.cell_of_heap hF 3
  refine bodyPost_ret (by simp [results, Tryd.f37, go_sem, s0, s1, s2, s3]; try rfl) rfl ?_
  exact ⟨⟨A2, c2, rfl, HB2.out.2.2.1, HB2.out.2.2.2.1.kept (by rw [size4]; exact Nat.le_refl _) (fun k hp _ => other4 (by rw [World.size_alloc] at hp; omega)) (fun k hp _ => by rw [World.size_alloc] at hp; omega), HB2.out.2.2.2.2.kept (fun k hp _ => other4 (by rw [World.size_alloc] at hp; omega)) (fun k hp => by rw [World.size_alloc] at hp; omega)⟩, below4 HB2.out.2.1 (Nat.le_succ _)⟩
end Go.Proofs.YtpjlgahbbmlngaaDoor
