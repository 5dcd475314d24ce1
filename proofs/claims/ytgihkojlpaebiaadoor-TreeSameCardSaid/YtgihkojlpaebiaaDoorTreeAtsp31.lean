/-
  Trees: clone.
-/
import Derived.Test.YtgihkojlpaebiaaDoorTreeAtsp27
import Derived.Test.YtgihkojlpaebiaaDoorTreeAtsp26
import Derived.Deep.DeepCutAuto
import Derived.Deep.RegionHeld3
namespace Go.Proofs.YtgihkojlpaebiaaDoor
set_option linter.unusedVariables false
set_option linter.unusedSimpArgs false
open Go Go.RowKit

theorem cell_old {w : World} {o : Obj} {b j : Nat} (h : b < w.heap.size) : (w.alloc o).cell? ⟨b, j, none⟩ = w.cell? ⟨b, j, none⟩ := World.cell?_of_block (w := w) (a := ⟨b, j, none⟩) (alloc_old w o b h)

set_option maxRecDepth 100000 in
set_option maxHeartbeats 2000000 in
theorem Clone_any : ∀ (m : Nat) (n : Nd) (v : Value) (w : World), deepN n < m → countN n ≤ 10000000 → NodeV w v n →
    Calls Tryd.prog 69 #[v] w fun e w' => ∃ v', e = .returned v' ∧ NodeP (fun b => w.heap.size ≤ b) w' v' n ∧ Below w.heap.size w w'
  | 0, n, v, w, h, _, _ => absurd h (Nat.not_lt_zero _)
  | m + 1, .mk kd (tk, tx) l, v, w, hm, hn, hV => by
    have IH := Clone_any m
    have hV : ∃ A c, v = .agg #[.int .i64 kd, .int .i64 tk, .string tx, .slice A l.length c] ∧ KidsV w A l := hV
    obtain ⟨A, c, rfl, hk⟩ := hV
    obtain ⟨w0, hw0⟩ : ∃ w0, w0 = ((w.alloc (.cells #[.int .i64 kd, .int .i64 tk, .string tx, .slice A l.length c] 26)).alloc (.cells #[.int .i64 0, .int .i64 0, .string { data := #[] }, .slice none 0 0] 26)).alloc (.cells #[.int .i64 kd, .int .i64 tk, .string tx, .slice none 0 0] 26) := ⟨_, rfl⟩
    have hB0 : Below w.heap.size w w0 := by rw [hw0]; exact (((Below.refl _ _).alloc (Nat.le_refl _) _).alloc (by simp) _).alloc (by simp; omega) _
    have hs0 : w0.heap.size = w.heap.size + 3 := by rw [hw0]; simp
    have hb1 : w0.heap[w.heap.size + 1]? = some (.cells #[.int .i64 0, .int .i64 0, .string { data := #[] }, .slice none 0 0] 26 (0, 0)) := by rw [hw0, alloc_old _ _ _ (by simp)]; exact alloc_at _ _ _ (by simp)
    have hb2 : w0.heap[w.heap.size + 2]? = some (.cells #[.int .i64 kd, .int .i64 tk, .string tx, .slice none 0 0] 26 (0, 0)) := by rw [hw0]; exact alloc_at _ _ _ (by simp)
    have hst0 : CutSt (w.heap.size + 2) w0.heap.size kd tk tx w0 [] (.slice none 0 0) w0 := ⟨hb2, by simpa [pathCells] using World.ownsRow_nil w0 w0.heap.size 26 4, fun i y h => by simp at h, Below.refl _ _, Nat.le_refl _⟩
    have hm : deepL l < m + 1 := hm
    have hn : 1 + countL l ≤ 10000000 := hn
    have hlc := countL_len l
    have hl1 : l.length ≤ 10000000 := by omega
    obtain ⟨i0, hi0, hz0, hz1, hz2⟩ := info_parts infoNode
    have HW := Lib.hid hw0
    have HX := Lib.hid (show _ ∧ _ ∧ _ ∧ _ ∧ _ from ⟨hB0, hs0, hb1, hst0, hk⟩)
    have HIH := Lib.hid IH
    have HN := Lib.hid (show _ ∧ _ from ⟨hm, hn⟩)
    clear IH hm hn hlc hk hst0 hb1 hb2 hB0 hw0 hs0
    go_enter Tryd.func69, Tryd.ntmps69
    go_wp2_with fail
    rw [← HW.out]
    go_loopw [11] (fun i wr => ∃ (k : Nat) (ys : List Pn) (sv : Value), k ≤ l.length ∧ i = .int .i64 k ∧ ys.map (·.1) = l.take k ∧ CutSt (w.heap.size + 2) w0.heap.size kd tk tx w0 ys sv wr) (fun i _ => l.length - (intOf i).toNat)
    case atStart => exact ⟨0, [], _, Nat.zero_le _, rfl, by simp, HX.out.2.2.2.1⟩
    case round =>
      obtain ⟨k, ys, sv, hk, rfl, hys, hst⟩ := hrel
      have hlen : ys.length = k := by have := congrArg List.length hys; rw [List.length_map, List.length_take] at this; omega
      obtain ⟨aS, cS, rfl⟩ := own_slice hst.row
      have hs0 := HX.out.2.1
      have hsr := hst.size
      have hBwr : Below w.heap.size w wr := HX.out.1.trans (hst.below.mono (by omega))
      have e8 := hst.out
      have z0 : wr.cell? ⟨w.heap.size + 1 + 1, 0, none⟩ = some (.int .i64 kd) := Lib.cell_of_heap e8 0
      have z1 : wr.cell? ⟨w.heap.size + 1 + 1, 1, none⟩ = some (.int .i64 tk) := Lib.cell_of_heap e8 1
      have z2 : wr.cell? ⟨w.heap.size + 1 + 1, 2, none⟩ = some (.string tx) := Lib.cell_of_heap e8 2
      have z3 : wr.cell? ⟨w.heap.size + 1 + 1, 3, none⟩ = some (.slice aS ys.length cS) := Lib.cell_of_heap e8 3
      by_cases hlt : k < l.length
      · have hk0 : (0 : Int) ≤ (k : Int) := by omega
        have hk1 : (k : Int) < (l.length : Int) := by omega
        have hx0 : l[k]? = some l[k] := List.getElem?_eq_getElem hlt
        obtain ⟨b, o, rfl, n1⟩ := (HX.out.2.2.2.2.below hBwr) (by omega)
        obtain ⟨x, hx⟩ : ∃ x, x = l[k] := ⟨_, rfl⟩
        rw [← hx] at hx0
        obtain ⟨B1, d1, s1, x0, x1, x2, x3, xk⟩ := n1.get hx0
        have e3 : IntKind.i64.wrap ((k : Int) + 1) = ((k + 1 : Nat) : Int) := by rw [IntWalk.i64_in _ (by omega)]; omega
        have hdx := deepL_at hx0
        have hxc := countL_next hx0
        have hxd := countL_cut l (k + 1)
        have htk := take_snoc hx0
        obtain ⟨wr1, hwr1⟩ : ∃ wr1, wr1 = wr.alloc (.cells #[.int .i64 x.kind, .int .i64 x.tok.1, .string x.tok.2, .slice B1 x.kids.length d1] 26) := ⟨_, rfl⟩
        have hb1 : Below wr.heap.size wr wr1 := by rw [hwr1]; exact (Below.refl _ _).alloc (Nat.le_refl _) _
        have hs1' : wr1.heap.size = wr.heap.size + 1 := by rw [hwr1]; simp
        have h5 : wr1.heap[wr.heap.size]? = some (.cells #[.int .i64 x.kind, .int .i64 x.tok.1, .string x.tok.2, .slice B1 x.kids.length d1] 26 (0, 0)) := by rw [hwr1]; exact alloc_at _ _ _ rfl
        have t0 : wr1.cell? ⟨wr.heap.size, 0, none⟩ = some (.int .i64 x.kind) := Lib.cell_of_heap h5 0
        have t1 : wr1.cell? ⟨wr.heap.size, 1, none⟩ = some (.int .i64 x.tok.1) := Lib.cell_of_heap h5 1
        have t2 : wr1.cell? ⟨wr.heap.size, 2, none⟩ = some (.string x.tok.2) := Lib.cell_of_heap h5 2
        have t3 : wr1.cell? ⟨wr.heap.size, 3, none⟩ = some (.slice B1 x.kids.length d1) := Lib.cell_of_heap h5 3
        have t8 : wr1.cell? ⟨w.heap.size + 1 + 1, 3, none⟩ = some (.slice aS ys.length cS) := (hb1.cell (p := ⟨w.heap.size + 1 + 1, 3, none⟩) (show w.heap.size + 1 + 1 < wr.heap.size by omega)).trans z3
        have hcl : Calls Tryd.prog 69 #[.agg #[.int .i64 x.kind, .int .i64 x.tok.1, .string x.tok.2, .slice B1 x.kids.length d1]] wr1.drew fun e w' => ∃ v', e = .returned v' ∧ NodeP (fun b => wr1.heap.size ≤ b) w' v' x ∧ Below wr1.heap.size wr1 w' :=
          (HIH.out x _ wr1.drew (by have := HN.out.1; omega) (by have := HN.out.2; omega) ⟨B1, d1, rfl, xk.below (hb1.drew)⟩).mono fun e w' ⟨v', h1, h2, h3⟩ => ⟨v', h1, h2, (Below.drew (Below.refl _ _)).trans h3⟩
        have HCl := Lib.hid hcl
        have HR := Lib.hid (show _ ∧ _ ∧ _ ∧ _ ∧ _ from ⟨hys, hst, hBwr, hb1, htk⟩)
        have HW1 := Lib.hid hwr1
        have h63 : ys.length + 1 ≤ maxLen := by unfold maxLen; omega
        have HLEN := Lib.hid hlen
        have hby : (ys.length + 1) * 56 ≤ 140737488355328 := by omega
        have hl8 : w.heap.size + 1 + 1 < wr1.heap.size := by omega
        have hl5 : wr.heap.size < wr1.heap.size := by omega
        clear hx hx0 n1 xk hcl hdx hxc hxd htk hst hys hBwr hb1 hwr1 h5 e8 s1 hlen
        go_wp2_with fail
        rw [← HW1.out]
        go_region_law
          ((first
            | (go_simp
               go_at_call 69
               with_reducible refine HCl.out.mono ?_
               rintro e w3 ⟨v', rfl, ⟨A', c', rfl, hzc, hzk⟩, hb3⟩
               have g83 := (hb3.cell (p := ⟨w.heap.size + 1 + 1, 3, none⟩) hl8).trans t8
               have g50 := (hb3.cell (p := ⟨wr.heap.size, 0, none⟩) hl5).trans t0
               have g51 := (hb3.cell (p := ⟨wr.heap.size, 1, none⟩) hl5).trans t1
               have g52 := (hb3.cell (p := ⟨wr.heap.size, 2, none⟩) hl5).trans t2
               have g53 := (hb3.cell (p := ⟨wr.heap.size, 3, none⟩) hl5).trans t3
               have hl83 : w.heap.size + 1 + 1 < w3.heap.size := Nat.lt_of_lt_of_le hl8 hb3.size
               have hl53 : wr.heap.size < w3.heap.size := Nat.lt_of_lt_of_le hl5 hb3.size
               have hne8 : w.heap.size + 1 + 1 ≠ w3.heap.size := Nat.ne_of_lt hl83)
            | (refine step_append_lies _ (by rfl) _ _ _ (by rfl) w0.heap.size 26 i0 _ 4 56 Tryd.underlying24 hi0 hz0 hz1 hz2 rfl (by omega) (.slice aS ys.length cS) ys.length (pathCells ys) (by rfl) ((HR.out.2.1.row5 (HR.out.2.2.2.1.trans (hb3.mono (by rw [hs1']; omega)))).alloc _)
                ⟨w3.heap.size, 0, none⟩ 1 1 (cells4 (x, A', c')) (by rfl) (by rfl) (World.news_of_block (cs := #[.int .i64 x.kind, .int .i64 x.tok.1, .string x.tok.2, .slice A' x.kids.length c']) (t := 26) (fr := (0, 0)) (World.alloc_heap_new w3 _)) (by simp [cells4, Value.oneCell'])
                (by decide) h63 hby (by simp; have := hb3.size; omega) (w3.heap.size + 1) (by simp) ?_
               intro g9 cap9 W9 hown9 hgr9 hat9 hlt9
               have g9b : W9.heap[w.heap.size + 1 + 1]? = some (.cells #[.int .i64 kd, .int .i64 tk, .string tx, .slice aS ys.length cS] 26 (0, 0)) :=
                 (hgr9.block (w.heap.size + 1 + 1) (by simp; omega) (fun e => by have := (HR.out.2.1.row.lt _ e.symm).1; omega)).trans ((alloc_old _ _ _ hl83).trans ((hb3.block _ hl8).trans ((HR.out.2.2.2.1.block _ (by omega)).trans HR.out.2.1.out)))
               have k83 : W9.cell? ⟨w.heap.size + 1 + 1, 3, none⟩ = some (.slice aS ys.length cS) := Lib.cell_of_heap g9b 3
               have kf8 : W9.frozen? ⟨w.heap.size + 1 + 1, 3, none⟩ = false := frozen_block g9b
               have hn5 : some wr.heap.size ≠ (Value.slice aS ys.length cS).ownBlock := fun e => by have := (HR.out.2.1.row.lt _ e.symm).2; omega
               have k50 := (hgr9.cell_far ⟨wr.heap.size, 0, none⟩ (by simp; omega) hn5).trans ((cell_old hl53).trans g50)
               have k51 := (hgr9.cell_far ⟨wr.heap.size, 1, none⟩ (by simp; omega) hn5).trans ((cell_old hl53).trans g51)
               have k52 := (hgr9.cell_far ⟨wr.heap.size, 2, none⟩ (by simp; omega) hn5).trans ((cell_old hl53).trans g52)
               have k53 := (hgr9.cell_far ⟨wr.heap.size, 3, none⟩ (by simp; omega) hn5).trans ((cell_old hl53).trans g53))))
        all_goals
          have hB5 : Below wr.heap.size wr (w3.alloc (.cells #[.int .i64 x.kind, .int .i64 x.tok.1, .string x.tok.2, .slice A' x.kids.length c'] 26)) := (HR.out.2.2.2.1.trans (hb3.mono (by rw [hs1']; omega))).alloc (by have := hb3.size; omega) _
          have hstep := HR.out.2.1.step (y := (x, A', c')) (by have := HX.out.2.1; omega) hB5 hzc (hzk.kept (by simp) (fun b hp hb => alloc_old _ _ _ hb) (fun b hp _ => by rw [hs1'] at hp; omega)) hown9 hgr9 (hat9.imp id (fun h => by rw [h]; simp))
          have H9 := Lib.hid hstep
          clear hstep hB5 hown9 hgr9 hat9 hlt9 hzk hzc hb3 k83 kf8 k50 k51 k52 k53 g9b hn5
          go_wp2_with fail
          exact ⟨⟨k + 1, ys ++ [(x, A', c')], _, by omega, by go_num, by rw [List.map_append, HR.out.1, HR.out.2.2.2.2]; rfl, H9.out⟩, by simp [intOf]; omega⟩
      · have hke : k = l.length := by omega
        rw [hke, List.take_length] at hys
        have t1 : ¬ (k : Int) < (l.length : Int) := by omega
        have t2 : decide ((k : Int) < (l.length : Int)) = false := decide_eq_false t1
        have t3 : decide (k < l.length) = false := decide_eq_false (by omega)
        have e1 := (hst.below.block (w.heap.size + 1) (by omega)).trans HX.out.2.2.1
        have r0 : wr.cell? ⟨w.heap.size + 1, 0, none⟩ = some (.int .i64 0) := Lib.cell_of_heap e1 0
        have r1 : wr.cell? ⟨w.heap.size + 1, 1, none⟩ = some (.int .i64 0) := Lib.cell_of_heap e1 1
        have r2 : wr.cell? ⟨w.heap.size + 1, 2, none⟩ = some (.string { data := #[] }) := Lib.cell_of_heap e1 2
        have r3 : wr.cell? ⟨w.heap.size + 1, 3, none⟩ = some (.slice none 0 0) := Lib.cell_of_heap e1 3
        have f0 : wr.frozen? ⟨w.heap.size + 1, 0, none⟩ = false := frozen_block e1
        have f1 : wr.frozen? ⟨w.heap.size + 1, 1, none⟩ = false := frozen_block e1
        have f2 : wr.frozen? ⟨w.heap.size + 1, 2, none⟩ = false := frozen_block e1
        have f3 : wr.frozen? ⟨w.heap.size + 1, 3, none⟩ = false := frozen_block e1
        have HS := Lib.hid (show _ ∧ _ ∧ _ ∧ _ from ⟨hst, hBwr, hys, hlen⟩)
        clear hst hBwr hys e8 hlen hke
        go_wp2_with fail
        have hz := set4 (v0 := .int .i64 kd) (v1 := .int .i64 tk) (v2 := .string tx) (v3 := .slice aS ys.length cS) e1
        have s0 := Lib.cell_of_heap hz 0
        have s1 := Lib.cell_of_heap hz 1
        have s2 := Lib.cell_of_heap hz 2
        have s3 := Lib.cell_of_heap hz 3
        refine bodyPost_ret (by simp [results, Tryd.f69, go_sem, s0, s1, s2, s3]; try rfl) rfl ?_
        rw [← HS.out.2.2.1]
        exact ⟨_, rfl, HS.out.1.node (B := w.heap.size) (by rw [size4]; exact Nat.le_refl _) (fun b h1 h2 => other4 (by omega)) (by omega), below4 HS.out.2.1 (Nat.le_succ _)⟩
end Go.Proofs.YtgihkojlpaebiaaDoor
