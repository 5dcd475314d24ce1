/-
  Trees: Changed of both sides.
-/
import Derived.Test.YtpjlgahbbmlngaaDoorTreePutp2
import Derived.Test.YtpjlgahbbmlngaaDoorTreeLeavesp14
import Derived.BigRegion
import Derived.Deep.RegionHeld3
namespace Go.Proofs.YtpjlgahbbmlngaaDoor
set_option linter.unusedVariables false
set_option linter.unusedSimpArgs false
set_option linter.unnecessarySimpa false
open Go Go.RowKit

set_option maxRecDepth 100000 in
set_option maxHeartbeats 2000000 in
theorem Changed_err (a b : Nd) (va vb : Value) (w : World) (hCa : sizeN a) (hCb : sizeN b) (hd : deepN a < 100000) (hT : Tabs w) (ha : NodeV w va a) (hb : NodeV w vb b) (hf : formedB a = false ∨ formedB b = false) :
    Calls Tryd.prog 31 #[va, vb] w fun e w' => e = .returned (.tuple #[.slice none 0 0, .bool false, .int .i64 4]) ∧ Below w.heap.size w w' := by
  have ha0 := ha
  have hb0 := hb
  obtain ⟨A, c, rfl, hka⟩ := ha
  obtain ⟨B, d, rfl, hkb⟩ := hb
  obtain ⟨w0, hw0⟩ : ∃ w0, w0 = (w.alloc (.cells #[.int .i64 a.kind, .int .i64 a.tok.1, .string a.tok.2, .slice A a.kids.length c] 26)).alloc (.cells #[.int .i64 b.kind, .int .i64 b.tok.1, .string b.tok.2, .slice B b.kids.length d] 26) := ⟨_, rfl⟩
  have hB0 : Below w.heap.size w w0 := by rw [hw0]; exact ((Below.refl _ _).alloc (Nat.le_refl _) _).alloc (by simp) _
  have hs0 : w0.heap.size = w.heap.size + 2 := by rw [hw0]; simp
  have hb1 : w0.heap[w.heap.size]? = some (.cells (nodeCells a A c) 26 (0, 0)) := by rw [hw0, alloc_old _ _ _ (by simp)]; exact alloc_at _ _ _ rfl
  have hb2 : w0.heap[w.heap.size + 1]? = some (.cells (nodeCells b B d) 26 (0, 0)) := by rw [hw0]; exact alloc_at _ _ _ (by simp)
  have hIA := IsFormed_any a _ w0 hCa (hT.below hB0) (ha0.below hB0)
  have hIB := fun W (h : Below w0.heap.size w0 W) => IsFormed_any b _ W hCb ((hT.below hB0).below h) ((hb0.below hB0).below h)
  have hch := fun W (h : Below w0.heap.size w0 W) => changed_any (deepN a + 1) a b _ _ W (by omega) (Nat.lt_succ_self _) hCa ((ha0.below hB0).below h) ((hb0.below hB0).below h)
  have HW := Lib.hid hw0
  have HX := Lib.hid (show _ ∧ _ ∧ _ ∧ _ from ⟨hB0, hs0, hb1, hb2⟩)
  clear hw0 hB0 hs0 hb1 hb2 hka hkb hT ha0 hb0 hCa hCb
  cases hfa : formedB a with
  | false =>
    rw [hfa] at hIA
    have HIA := Lib.hid hIA
    have HCH := Lib.hid hch
    have HIB := Lib.hid hIB
    clear hIA hch hIB hfa hf
    go_enter Tryd.func31, Tryd.ntmps31
    go_wp2_with fail
    rw [← HW.out]
    refine HIA.out.mono ?_
    rintro e w1 ⟨rfl, hb1⟩
    have HB1 := Lib.hid (HX.out.1.trans (hb1.mono HX.out.1.size))
    clear hb1
    go_wp2_with fail
    refine bodyPost_ret (by simp [results, Tryd.f31, go_sem]; try rfl) rfl ?_
    exact ⟨rfl, HB1.out⟩
  | true =>
    have hfb : formedB b = false := hf.elim (fun h => by rw [hfa] at h; cases h) id
    rw [hfa] at hIA
    have HIA := Lib.hid hIA
    have HCH := Lib.hid hch
    clear hIA hch hfa hf
    rw [hfb] at hIB
    have HIB := Lib.hid hIB
    clear hIB hfb
    go_enter Tryd.func31, Tryd.ntmps31
    go_wp2_with fail
    rw [← HW.out]
    refine HIA.out.mono ?_
    rintro e w1 ⟨rfl, hb1⟩
    have HB1 := Lib.hid hb1
    obtain ⟨r0, r1, r2, r3⟩ := cells_of_block (keepB HX.out.2.2.2 hb1)
    clear hb1
    go_wp2_with fail
    refine (HIB.out w1 HB1.out).mono ?_
    rintro e w2 ⟨rfl, hb2⟩
    have HB2 := Lib.hid (HX.out.1.trans ((HB1.out.trans (hb2.mono HB1.out.size)).mono HX.out.1.size))
    clear hb2
    go_wp2_with fail
    refine bodyPost_ret (by simp [results, Tryd.f31, go_sem]; try rfl) rfl ?_
    exact ⟨rfl, HB2.out⟩

set_option maxRecDepth 100000 in
set_option maxHeartbeats 2000000 in
theorem Changed_ok (a b : Nd) (va vb : Value) (w : World) (hCa : sizeN a) (hCb : sizeN b) (hd : deepN a < 100000) (hT : Tabs w) (ha : NodeV w va a) (hb : NodeV w vb b) (hfa : formedB a = true) (hfb : formedB b = true) :
    Calls Tryd.prog 31 #[va, vb] w fun e w' => (∃ v', e = .returned (.tuple #[v', .bool (chR (deepN a + 1) a b).2, .int .i64 0]) ∧ w'.ownsRow w.heap.size 3 1 v' (chR (deepN a + 1) a b).1.length (intCells (chR (deepN a + 1) a b).1)) ∧ Below w.heap.size w w' := by
  have ha0 := ha
  have hb0 := hb
  obtain ⟨A, c, rfl, hka⟩ := ha
  obtain ⟨B, d, rfl, hkb⟩ := hb
  obtain ⟨w0, hw0⟩ : ∃ w0, w0 = (w.alloc (.cells #[.int .i64 a.kind, .int .i64 a.tok.1, .string a.tok.2, .slice A a.kids.length c] 26)).alloc (.cells #[.int .i64 b.kind, .int .i64 b.tok.1, .string b.tok.2, .slice B b.kids.length d] 26) := ⟨_, rfl⟩
  have hB0 : Below w.heap.size w w0 := by rw [hw0]; exact ((Below.refl _ _).alloc (Nat.le_refl _) _).alloc (by simp) _
  have hs0 : w0.heap.size = w.heap.size + 2 := by rw [hw0]; simp
  have hb1 : w0.heap[w.heap.size]? = some (.cells (nodeCells a A c) 26 (0, 0)) := by rw [hw0, alloc_old _ _ _ (by simp)]; exact alloc_at _ _ _ rfl
  have hb2 : w0.heap[w.heap.size + 1]? = some (.cells (nodeCells b B d) 26 (0, 0)) := by rw [hw0]; exact alloc_at _ _ _ (by simp)
  have hIA := IsFormed_any a _ w0 hCa (hT.below hB0) (ha0.below hB0)
  have hIB := fun W (h : Below w0.heap.size w0 W) => IsFormed_any b _ W hCb ((hT.below hB0).below h) ((hb0.below hB0).below h)
  have hch := fun W (h : Below w0.heap.size w0 W) => changed_any (deepN a + 1) a b _ _ W (by omega) (Nat.lt_succ_self _) hCa ((ha0.below hB0).below h) ((hb0.below hB0).below h)
  have HW := Lib.hid hw0
  have HX := Lib.hid (show _ ∧ _ ∧ _ ∧ _ from ⟨hB0, hs0, hb1, hb2⟩)
  clear hw0 hB0 hs0 hb1 hb2 hka hkb hT ha0 hb0 hCa hCb
  rw [hfa] at hIA
  have HIA := Lib.hid hIA
  have HCH := Lib.hid hch
  clear hIA hch hfa
  rw [hfb] at hIB
  have HIB := Lib.hid hIB
  clear hIB hfb
  go_enter Tryd.func31, Tryd.ntmps31
  go_wp2_with fail
  rw [← HW.out]
  refine HIA.out.mono ?_
  rintro e w1 ⟨rfl, hb1⟩
  have HB1 := Lib.hid hb1
  obtain ⟨r0, r1, r2, r3⟩ := cells_of_block (keepB HX.out.2.2.2 hb1)
  clear hb1
  go_wp2_with fail
  refine (HIB.out w1 HB1.out).mono ?_
  rintro e w2 ⟨rfl, hb2⟩
  have HB2 := Lib.hid (HB1.out.trans (hb2.mono HB1.out.size))
  clear hb2
  obtain ⟨p0', p1', p2', p3'⟩ := cells_of_block (keepB HX.out.2.2.1 HB2.out)
  obtain ⟨r0', r1', r2', r3'⟩ := cells_of_block (keepB HX.out.2.2.2 HB2.out)
  go_wp2_with fail
  refine (HCH.out w2 HB2.out).mono ?_
  rintro e w3 ⟨v', rfl, hrow, hb3⟩
  have hB2 := HX.out.1.trans (HB2.out.mono HX.out.1.size)
  have HB3 := Lib.hid (show _ ∧ _ from ⟨own_le hrow (show w.heap.size ≤ w2.heap.size from hB2.size), hB2.trans (hb3.mono hB2.size)⟩)
  clear hrow hb3 hB2
  go_wp2_with fail
  refine bodyPost_ret (by simp [results, Tryd.f31, go_sem]; try rfl) rfl ?_
  exact ⟨⟨v', rfl, HB3.out.1⟩, HB3.out.2⟩
end Go.Proofs.YtpjlgahbbmlngaaDoor
