/-
  Trees: clone.; Trees: At and Span.
-/
import Derived.Test.YtpjlgahbbmlngaaDoorTreeLeavesp28
import Derived.Test.YtpjlgahbbmlngaaDoorTreeLeavesp27
import Derived.Deep.DeepCutAuto
import Derived.Deep.RegionHeld3
import Derived.Test.YtpjlgahbbmlngaaDoorTreeLeavesp30
namespace Go.Proofs.YtpjlgahbbmlngaaDoor
set_option linter.unusedVariables false
set_option linter.unusedSimpArgs false
open Go Go.RowKit

theorem cell_old {w : World} {o : Obj} {b j : Nat} (h : b < w.heap.size) : (w.alloc o).cell? ⟨b, j, none⟩ = w.cell? ⟨b, j, none⟩ := World.cell?_of_block (w := w) (a := ⟨b, j, none⟩) (alloc_old w o b h)

set_option maxRecDepth 100000 in
set_option maxHeartbeats 2000000 in
theorem Clone_any : ∀ (m : Nat) (n : Nd) (v : Value) (w : World), deepN n < m → countN n ≤ 10000000 → NodeV w v n →
    Calls Tryd.prog 69 #[v] w fun e w' => ∃ v', e = .returned v' ∧ NodeP (fun b => w.heap.size ≤ b) w' v' n ∧ Below w.heap.size w w'
  | 0, n, v, w, h, _, _ => absurd h (Nat.not_lt_zero _)
  | m + 1, .mk kd (tk, tx) l, v, w, hm, hn, hV => by
    have IH := Clone_any m
    have hV : ∃ A c, v = .agg #[.int .i64 kd, .int .i64 tk, .string tx, .slice A l.length c] ∧ KidsV w A l := hV
    obtain ⟨A, c, rfl, hk⟩ := hV
    obtain ⟨w0, hw0⟩ : ∃ w0, w0 = ((w.alloc (.cells #[.int .i64 kd, .int .i64 tk, .string tx, .slice A l.length c] 26)).alloc (.cells #[.int .i64 0, .int .i64 0, .string { data := #[] }, .slice none 0 0] 26)).alloc (.cells #[.int .i64 kd, .int .i64 tk, .string tx, .slice none 0 0] 26) := ⟨_, rfl⟩
    have hB0 : Below w.heap.size w w0 := by rw [hw0]; exact (((Below.refl _ _).alloc (Nat.le_refl _) _).alloc (by simp) _).alloc (by simp; omega) _
    have hs0 : w0.heap.size = w.heap.size + 3 := by rw [hw0]; simp
    have hb1 : w0.heap[w.heap.size + 1]? = some (.cells #[.int .i64 0, .int .i64 0, .string { data := #[] }, .slice none 0 0] 26 (0, 0)) := by rw [hw0, alloc_old _ _ _ (by simp)]; exact alloc_at _ _ _ (by simp)
    have hb2 : w0.heap[w.heap.size + 2]? = some (.cells #[.int .i64 kd, .int .i64 tk, .string tx, .slice none 0 0] 26 (0, 0)) := by rw [hw0]; exact alloc_at _ _ _ (by simp)
    have hst0 : CutSt (w.heap.size + 2) w0.heap.size kd tk tx w0 [] (.slice none 0 0) w0 := ⟨hb2, by simpa [pathCells] using World.ownsRow_nil w0 w0.heap.size 26 4, fun i y h => by simp at h, Below.refl _ _, Nat.le_refl _⟩
    have hm : deepL l < m + 1 := hm
    have hn : 1 + countL l ≤ 10000000 := hn
    have hlc := countL_len l
    have hl1 : l.length ≤ 10000000 := by omega
    obtain ⟨i0, hi0, hz0, hz1, hz2⟩ := info_parts infoNode
    have HW := Lib.hid hw0
    have HX := Lib.hid (show _ ∧ _ ∧ _ ∧ _ ∧ _ from ⟨hB0, hs0, hb1, hst0, hk⟩)
    have HIH := Lib.hid IH
    have HN := Lib.hid (show _ ∧ _ from ⟨hm, hn⟩)
    clear IH hm hn hlc hk hst0 hb1 hb2 hB0 hw0 hs0
    go_enter Tryd.func69, Tryd.ntmps69
    go_wp2_with fail
    rw [← HW.out]
    go_loopw [11] (fun i wr => ∃ (k : Nat) (ys : List Pn) (sv : Value), k ≤ l.length ∧ i = .int .i64 k ∧ ys.map (·.1) = l.take k ∧ CutSt (w.heap.size + 2) w0.heap.size kd tk tx w0 ys sv wr) (fun i _ => l.length - (intOf i).toNat)
    case atStart => exact ⟨0, [], _, Nat.zero_le _, rfl, by simp, HX.out.2.2.2.1⟩
    case round =>
      obtain ⟨k, ys, sv, hk, rfl, hys, hst⟩ := hrel
      have hlen : ys.length = k := by have := congrArg List.length hys; rw [List.length_map, List.length_take] at this; omega
      obtain ⟨aS, cS, rfl⟩ := own_slice hst.row
      have hs0 := HX.out.2.1
      have hsr := hst.size
      have hBwr : Below w.heap.size w wr := HX.out.1.trans (hst.below.mono (by omega))
      have e8 := hst.out
      have z0 : wr.cell? ⟨w.heap.size + 1 + 1, 0, none⟩ = some (.int .i64 kd) := Lib.cell_of_heap e8 0
      have z1 : wr.cell? ⟨w.heap.size + 1 + 1, 1, none⟩ = some (.int .i64 tk) := Lib.cell_of_heap e8 1
      have z2 : wr.cell? ⟨w.heap.size + 1 + 1, 2, none⟩ = some (.string tx) := Lib.cell_of_heap e8 2
      have z3 : wr.cell? ⟨w.heap.size + 1 + 1, 3, none⟩ = some (.slice aS ys.length cS) := Lib.cell_of_heap e8 3
      by_cases hlt : k < l.length
      · have hk0 : (0 : Int) ≤ (k : Int) := by omega
        have hk1 : (k : Int) < (l.length : Int) := by omega
        have hx0 : l[k]? = some l[k] := List.getElem?_eq_getElem hlt
        obtain ⟨b, o, rfl, n1⟩ := (HX.out.2.2.2.2.below hBwr) (by omega)
        obtain ⟨x, hx⟩ : ∃ x, x = l[k] := ⟨_, rfl⟩
        rw [← hx] at hx0
        obtain ⟨B1, d1, s1, x0, x1, x2, x3, xk⟩ := n1.get hx0
        have e3 : IntKind.i64.wrap ((k : Int) + 1) = ((k + 1 : Nat) : Int) := by rw [IntWalk.i64_in _ (by omega)]; omega
        have hdx := deepL_at hx0
        have hxc := countL_next hx0
        have hxd := countL_cut l (k + 1)
        have htk := take_snoc hx0
        obtain ⟨wr1, hwr1⟩ : ∃ wr1, wr1 = wr.alloc (.cells #[.int .i64 x.kind, .int .i64 x.tok.1, .string x.tok.2, .slice B1 x.kids.length d1] 26) := ⟨_, rfl⟩
        have hb1 : Below wr.heap.size wr wr1 := by rw [hwr1]; exact (Below.refl _ _).alloc (Nat.le_refl _) _
        have hs1' : wr1.heap.size = wr.heap.size + 1 := by rw [hwr1]; simp
        have h5 : wr1.heap[wr.heap.size]? = some (.cells #[.int .i64 x.kind, .int .i64 x.tok.1, .string x.tok.2, .slice B1 x.kids.length d1] 26 (0, 0)) := by rw [hwr1]; exact alloc_at _ _ _ rfl
        have t0 : wr1.cell? ⟨wr.heap.size, 0, none⟩ = some (.int .i64 x.kind) := Lib.cell_of_heap h5 0
        have t1 : wr1.cell? ⟨wr.heap.size, 1, none⟩ = some (.int .i64 x.tok.1) := Lib.cell_of_heap h5 1
        have t2 : wr1.cell? ⟨wr.heap.size, 2, none⟩ = some (.string x.tok.2) := Lib.cell_of_heap h5 2
        have t3 : wr1.cell? ⟨wr.heap.size, 3, none⟩ = some (.slice B1 x.kids.length d1) := Lib.cell_of_heap h5 3
        have t8 : wr1.cell? ⟨w.heap.size + 1 + 1, 3, none⟩ = some (.slice aS ys.length cS) := (hb1.cell (p := ⟨w.heap.size + 1 + 1, 3, none⟩) (show w.heap.size + 1 + 1 < wr.heap.size by omega)).trans z3
        have hcl : Calls Tryd.prog 69 #[.agg #[.int .i64 x.kind, .int .i64 x.tok.1, .string x.tok.2, .slice B1 x.kids.length d1]] wr1.drew fun e w' => ∃ v', e = .returned v' ∧ NodeP (fun b => wr1.heap.size ≤ b) w' v' x ∧ Below wr1.heap.size wr1 w' :=
          (HIH.out x _ wr1.drew (by have := HN.out.1; omega) (by have := HN.out.2; omega) ⟨B1, d1, rfl, xk.below (hb1.drew)⟩).mono fun e w' ⟨v', h1, h2, h3⟩ => ⟨v', h1, h2, (Below.drew (Below.refl _ _)).trans h3⟩
        have HCl := Lib.hid hcl
        have HR := Lib.hid (show _ ∧ _ ∧ _ ∧ _ ∧ _ from ⟨hys, hst, hBwr, hb1, htk⟩)
        have HW1 := Lib.hid hwr1
        have h63 : ys.length + 1 ≤ maxLen := by unfold maxLen; omega
        have HLEN := Lib.hid hlen
        have hby : (ys.length + 1) * 56 ≤ 140737488355328 := by omega
        have hl8 : w.heap.size + 1 + 1 < wr1.heap.size := by omega
        have hl5 : wr.heap.size < wr1.heap.size := by omega
        clear hx hx0 n1 xk hcl hdx hxc hxd htk hst hys hBwr hb1 hwr1 h5 e8 s1 hlen
        go_wp2_with fail
        rw [← HW1.out]
        go_region_law
          ((first
            | (go_simp
               go_at_call 69
               with_reducible refine HCl.out.mono ?_
               rintro e w3 ⟨v', rfl, ⟨A', c', rfl, hzc, hzk⟩, hb3⟩
               have g83 := (hb3.cell (p := ⟨w.heap.size + 1 + 1, 3, none⟩) hl8).trans t8
               have g50 := (hb3.cell (p := ⟨wr.heap.size, 0, none⟩) hl5).trans t0
               have g51 := (hb3.cell (p := ⟨wr.heap.size, 1, none⟩) hl5).trans t1
               have g52 := (hb3.cell (p := ⟨wr.heap.size, 2, none⟩) hl5).trans t2
               have g53 := (hb3.cell (p := ⟨wr.heap.size, 3, none⟩) hl5).trans t3
               have hl83 : w.heap.size + 1 + 1 < w3.heap.size := Nat.lt_of_lt_of_le hl8 hb3.size
               have hl53 : wr.heap.size < w3.heap.size := Nat.lt_of_lt_of_le hl5 hb3.size
               have hne8 : w.heap.size + 1 + 1 ≠ w3.heap.size := Nat.ne_of_lt hl83)
            | (refine step_append_lies _ (by rfl) _ _ _ (by rfl) w0.heap.size 26 i0 _ 4 56 Tryd.underlying24 hi0 hz0 hz1 hz2 rfl (by omega) (.slice aS ys.length cS) ys.length (pathCells ys) (by rfl) ((HR.out.2.1.row5 (HR.out.2.2.2.1.trans (hb3.mono (by rw [hs1']; omega)))).alloc _)
                ⟨w3.heap.size, 0, none⟩ 1 1 (cells4 (x, A', c')) (by rfl) (by rfl) (World.news_of_block (cs := #[.int .i64 x.kind, .int .i64 x.tok.1, .string x.tok.2, .slice A' x.kids.length c']) (t := 26) (fr := (0, 0)) (World.alloc_heap_new w3 _)) (by simp [cells4, Value.oneCell'])
                (by decide) h63 hby (by simp; have := hb3.size; omega) (w3.heap.size + 1) (by simp) ?_
               intro g9 cap9 W9 hown9 hgr9 hat9 hlt9
               have g9b : W9.heap[w.heap.size + 1 + 1]? = some (.cells #[.int .i64 kd, .int .i64 tk, .string tx, .slice aS ys.length cS] 26 (0, 0)) :=
                 (hgr9.block (w.heap.size + 1 + 1) (by simp; omega) (fun e => by have := (HR.out.2.1.row.lt _ e.symm).1; omega)).trans ((alloc_old _ _ _ hl83).trans ((hb3.block _ hl8).trans ((HR.out.2.2.2.1.block _ (by omega)).trans HR.out.2.1.out)))
               have k83 : W9.cell? ⟨w.heap.size + 1 + 1, 3, none⟩ = some (.slice aS ys.length cS) := Lib.cell_of_heap g9b 3
               have kf8 : W9.frozen? ⟨w.heap.size + 1 + 1, 3, none⟩ = false := frozen_block g9b
               have hn5 : some wr.heap.size ≠ (Value.slice aS ys.length cS).ownBlock := fun e => by have := (HR.out.2.1.row.lt _ e.symm).2; omega
               have k50 := (hgr9.cell_far ⟨wr.heap.size, 0, none⟩ (by simp; omega) hn5).trans ((cell_old hl53).trans g50)
               have k51 := (hgr9.cell_far ⟨wr.heap.size, 1, none⟩ (by simp; omega) hn5).trans ((cell_old hl53).trans g51)
               have k52 := (hgr9.cell_far ⟨wr.heap.size, 2, none⟩ (by simp; omega) hn5).trans ((cell_old hl53).trans g52)
               have k53 := (hgr9.cell_far ⟨wr.heap.size, 3, none⟩ (by simp; omega) hn5).trans ((cell_old hl53).trans g53))))
        all_goals
          have hB5 : Below wr.heap.size wr (w3.alloc (.cells #[.int .i64 x.kind, .int .i64 x.tok.1, .string x.tok.2, .slice A' x.kids.length c'] 26)) := (HR.out.2.2.2.1.trans (hb3.mono (by rw [hs1']; omega))).alloc (by have := hb3.size; omega) _
          have hstep := HR.out.2.1.step (y := (x, A', c')) (by have := HX.out.2.1; omega) hB5 hzc (hzk.kept (by simp) (fun b hp hb => alloc_old _ _ _ hb) (fun b hp _ => by rw [hs1'] at hp; omega)) hown9 hgr9 (hat9.imp id (fun h => by rw [h]; simp))
          have H9 := Lib.hid hstep
          clear hstep hB5 hown9 hgr9 hat9 hlt9 hzk hzc hb3 k83 kf8 k50 k51 k52 k53 g9b hn5
          go_wp2_with fail
          exact ⟨⟨k + 1, ys ++ [(x, A', c')], _, by omega, by go_num, by rw [List.map_append, HR.out.1, HR.out.2.2.2.2]; rfl, H9.out⟩, by simp [intOf]; omega⟩
      · have hke : k = l.length := by omega
        rw [hke, List.take_length] at hys
        have t1 : ¬ (k : Int) < (l.length : Int) := by omega
        have t2 : decide ((k : Int) < (l.length : Int)) = false := decide_eq_false t1
        have t3 : decide (k < l.length) = false := decide_eq_false (by omega)
        have e1 := (hst.below.block (w.heap.size + 1) (by omega)).trans HX.out.2.2.1
        have r0 : wr.cell? ⟨w.heap.size + 1, 0, none⟩ = some (.int .i64 0) := Lib.cell_of_heap e1 0
        have r1 : wr.cell? ⟨w.heap.size + 1, 1, none⟩ = some (.int .i64 0) := Lib.cell_of_heap e1 1
        have r2 : wr.cell? ⟨w.heap.size + 1, 2, none⟩ = some (.string { data := #[] }) := Lib.cell_of_heap e1 2
        have r3 : wr.cell? ⟨w.heap.size + 1, 3, none⟩ = some (.slice none 0 0) := Lib.cell_of_heap e1 3
        have f0 : wr.frozen? ⟨w.heap.size + 1, 0, none⟩ = false := frozen_block e1
        have f1 : wr.frozen? ⟨w.heap.size + 1, 1, none⟩ = false := frozen_block e1
        have f2 : wr.frozen? ⟨w.heap.size + 1, 2, none⟩ = false := frozen_block e1
        have f3 : wr.frozen? ⟨w.heap.size + 1, 3, none⟩ = false := frozen_block e1
        have HS := Lib.hid (show _ ∧ _ ∧ _ ∧ _ from ⟨hst, hBwr, hys, hlen⟩)
        clear hst hBwr hys e8 hlen hke
        go_wp2_with fail
        have hz := set4 (v0 := .int .i64 kd) (v1 := .int .i64 tk) (v2 := .string tx) (v3 := .slice aS ys.length cS) e1
        have s0 := Lib.cell_of_heap hz 0
        have s1 := Lib.cell_of_heap hz 1
        have s2 := Lib.cell_of_heap hz 2
        have s3 := Lib.cell_of_heap hz 3
        refine bodyPost_ret (by simp [results, Tryd.f69, go_sem, s0, s1, s2, s3]; try rfl) rfl ?_
        rw [← HS.out.2.2.1]
        exact ⟨_, rfl, HS.out.1.node (B := w.heap.size) (by rw [size4]; exact Nat.le_refl _) (fun b h1 h2 => other4 (by omega)) (by omega), below4 HS.out.2.1 (Nat.le_succ _)⟩
end Go.Proofs.YtpjlgahbbmlngaaDoor

namespace Go.Proofs.YtpjlgahbbmlngaaDoor
set_option linter.unusedVariables false
set_option linter.unusedSimpArgs false
open Go Go.RowKit

theorem partsL_get : ∀ {l : List Nd} {i : Nat} {x : Nd}, partsL l = true → l[i]? = some x → partsN x = true
  | y :: l, 0, x, hp, h => by
    obtain rfl := Option.some.inj h
    simp only [partsL, Bool.and_eq_true] at hp
    exact hp.1
  | y :: l, i + 1, x, hp, h => by
    simp only [partsL, Bool.and_eq_true] at hp
    exact partsL_get (l := l) (i := i) hp.2 (by simpa using h)
theorem partsN_kids {n : Nd} (h : partsN n = true) : partsL n.kids = true := by
  cases n with
  | mk k t l => simp only [partsN, Bool.and_eq_true] at h; exact h.2
theorem goR_facts : ∀ {l : List Int} {n x : Nd} {b b' : Nat}, goR n l b = some (x, b') → countN x ≤ countN n ∧ b' + sumT (leavesN x) ≤ b + sumT (leavesN n) ∧ (partsN n = true → partsN x = true)
  | [], n, x, b, b', h => by
    simp only [goR, Option.some.injEq, Prod.mk.injEq] at h
    obtain ⟨rfl, rfl⟩ := h
    exact ⟨Nat.le_refl _, Nat.le_refl _, id⟩
  | i :: ps, n, x, b, b', h => by
    rw [goR_cons] at h
    split at h
    · cases h
    · split at h
      · rename_i k hk
        obtain ⟨h1, h2, h3⟩ := goR_facts h
        have e1 := countL_get _ _ _ hk
        have e2 := countN_kids n
        have e3 := leavesL_cut n.kids (i.toNat + 1)
        rw [leavesL_next hk, sumT_append] at e3
        have e4 := leavesN_kids n
        exact ⟨by omega, by omega, fun hp => h3 (partsL_get (partsN_kids hp) hk)⟩
      · cases h
/-- the error of a position -/
def goErr (n : Nd) (l : List Int) : Int := if formedB n = false then 4 else match goR n l 0 with
  | none => 2
  | some _ => 0
theorem goPost_err {n : Nd} {l : List Int} {e : Ending} {w w' : World} {c : Int} (h : goPost n l e w w') (hc : goErr n l = c) (h0 : c ≠ 0) : e = .returned (.tuple #[.agg zeroCells, .int .i64 0, .int .i64 c]) := by
  unfold goPost at h
  unfold goErr at hc
  subst hc
  split at h
  · rename_i hf
    rw [if_pos hf]; exact h
  · rename_i hf
    rw [if_neg hf] at h0 ⊢
    cases hg : goR n l 0 with
    | none => rw [hg] at h; exact h
    | some p => rw [hg] at h0; exact absurd rfl h0
theorem goPost_ok {n x : Nd} {l : List Int} {e : Ending} {w w' : World} {b : Nat} (h : goPost n l e w w') (hf : formedB n = true) (hg : goR n l 0 = some (x, b)) :
    ∃ A c, e = .returned (.tuple #[.agg #[.int .i64 x.kind, .int .i64 x.tok.1, .string x.tok.2, .slice A x.kids.length c], .int .i64 (b : Nat), .int .i64 0]) ∧ x.kids.length ≤ c ∧ KidsP (fun k => k < w.heap.size) w A x.kids := by
  unfold goPost at h
  rw [if_neg (by rw [hf]; decide), hg] at h
  exact h

theorem set2 {W : World} {b t : Nat} {u0 u1 v0 v1 : Value} (h : W.heap[b]? = some (.cells #[u0, u1] t (0, 0))) :
    ((W.setCell ⟨b, 0, none⟩ v0).setCell ⟨b, 1, none⟩ v1).heap[b]? = some (.cells #[v0, v1] t (0, 0)) := by
  have a1 := heap_setCell_same W b 0 _ _ v0 h
  have a2 := heap_setCell_same _ b 1 _ _ v1 a1
  simpa using a2
theorem below2 {B : Nat} {w0 W : World} {b : Nat} {v0 v1 : Value} (h : Below B w0 W) (hb : B ≤ b) : Below B w0 ((W.setCell ⟨b, 0, none⟩ v0).setCell ⟨b, 1, none⟩ v1) :=
  (h.setCell (p := ⟨b, 0, none⟩) hb _).setCell (p := ⟨b, 1, none⟩) hb _
theorem size2 {W : World} {b : Nat} {v0 v1 : Value} : ((W.setCell ⟨b, 0, none⟩ v0).setCell ⟨b, 1, none⟩ v1).heap.size = W.heap.size := by simp [World.setCell]

set_option maxRecDepth 100000 in
set_option maxHeartbeats 2000000 in
theorem At_err (n : Nd) (v : Value) (l : List Int) (Ap : Option Addr) (cp : Nat) (w : World) (c : Int) (hC : sizeN n) (hS : sumS n) (hT : Tabs w) (hV : NodeP (fun _ => True) w v n) (hl : l.length ≤ 1000000000) (hP : IntsR w Ap l) (hc : goErr n l = c) (h0 : c ≠ 0) :
    Calls Tryd.prog 37 #[v, .slice Ap l.length cp] w fun e w' => e = .returned (.tuple #[.agg zeroCells, .int .i64 c]) ∧ Below w.heap.size w w' := by
  have hV0 := hV
  obtain ⟨A, ca, rfl, _, _⟩ := hV0
  obtain ⟨w0, hw0⟩ : ∃ w0, w0 = (w.alloc (.cells #[.int .i64 n.kind, .int .i64 n.tok.1, .string n.tok.2, .slice A n.kids.length ca] 26)).alloc (.cells #[.int .i64 0, .int .i64 0, .string { data := #[] }, .slice none 0 0] 26) := ⟨_, rfl⟩
  have hB0 : Below w.heap.size w w0 := by rw [hw0]; exact ((Below.refl _ _).alloc (Nat.le_refl _) _).alloc (by simp) _
  have hb1 : w0.heap[w.heap.size + 1]? = some (.cells #[.int .i64 0, .int .i64 0, .string { data := #[] }, .slice none 0 0] 26 (0, 0)) := by rw [hw0]; exact alloc_at _ _ _ (by simp)
  have hs0 : w0.heap.size = w.heap.size + 2 := by rw [hw0]; simp
  have hgo := (goTo_any n _ l Ap cp w0 hC hS (hT.below hB0) (hV.below hB0 (fun _ _ _ => trivial)) hl (hP.below hB0)).mono fun e w' ⟨h1, h2⟩ => And.intro (goPost_err h1 hc h0) h2
  have hne : (c != 0) = true := by simpa using h0
  have HG := Lib.hid hgo
  have HW := Lib.hid hw0
  have HX := Lib.hid (show _ ∧ _ ∧ _ from ⟨hB0, hb1, hs0⟩)
  clear hgo hw0 hB0 hb1 hs0 hC hS hT hV hP hc
  go_enter Tryd.func37, Tryd.ntmps37
  go_wp2_with fail
  rw [← HW.out]
  refine HG.out.mono ?_
  rintro e w1 ⟨rfl, hbb⟩
  have hz := (hbb.block (w.heap.size + 1) (by rw [HX.out.2.2]; omega)).trans HX.out.2.1
  have hs1 := hbb.size
  rw [HX.out.2.2] at hs1
  have hlt : w.heap.size + 1 < w1.heap.size := by omega
  have hnb : w.heap.size + 1 ≠ w1.heap.size := by omega
  have q0 := Lib.cell_of_heap hz 0
  have f0 := frozen_block (j := 0) hz
  have q1 := Lib.cell_of_heap hz 1
  have f1 := frozen_block (j := 1) hz
  have q2 := Lib.cell_of_heap hz 2
  have f2 := frozen_block (j := 2) hz
  have q3 := Lib.cell_of_heap hz 3
  have f3 := frozen_block (j := 3) hz
  have HB := Lib.hid (show _ ∧ _ from ⟨hz, HX.out.1.trans (hbb.mono HX.out.1.size)⟩)
  clear hz hbb hs1
  go_wp2_with fail
  have hF := set4 (v0 := .int .i64 0) (v1 := .int .i64 0) (v2 := .string { data := #[] }) (v3 := .slice none 0 0) HB.out.1
  obtain ⟨W, hW⟩ : ∃ W, W = (((((w1).setCell ⟨w.heap.size + 1, 0, none⟩ (.int .i64 0)).setCell ⟨w.heap.size + 1, 1, none⟩ (.int .i64 0)).setCell ⟨w.heap.size + 1, 2, none⟩ (.string { data := #[] })).setCell ⟨w.heap.size + 1, 3, none⟩ (.slice none 0 0)).alloc (.cells #[.int .i64 0, .int .i64 0, .string { data := #[] }, .slice none 0 0] 26) := ⟨_, rfl⟩
  rw [← hW]
  have hA : W.heap[w.heap.size + 1]? = some (.cells #[.int .i64 0, .int .i64 0, .string { data := #[] }, .slice none 0 0] 26 (0, 0)) := by rw [hW]; exact (alloc_old _ _ _ (by rw [size4]; exact hlt)).trans hF
  have hBW : Below w.heap.size w W := by rw [hW]; exact (below4 HB.out.2 (Nat.le_succ _)).alloc (by rw [size4]; omega) _
  have s0 := Lib.cell_of_heap hA 0
  have s1 := Lib.cell_of_heap hA 1
  have s2 := Lib.cell_of_heap hA 2
  have s3 := Lib.cell_of_heap hA 3
  refine bodyPost_ret (by simp [results, Tryd.f37, go_sem, s0, s1, s2, s3]; try rfl) rfl ?_
  exact ⟨rfl, hBW⟩

set_option maxRecDepth 100000 in
set_option maxHeartbeats 2000000 in
theorem At_ok (n x : Nd) (b : Nat) (v : Value) (l : List Int) (Ap : Option Addr) (cp : Nat) (w : World) (hC : sizeN n) (hS : sumS n) (hT : Tabs w) (hV : NodeP (fun _ => True) w v n) (hl : l.length ≤ 1000000000) (hP : IntsR w Ap l) (hf : formedB n = true) (hg : goR n l 0 = some (x, b)) :
    Calls Tryd.prog 37 #[v, .slice Ap l.length cp] w fun e w' => (∃ v', e = .returned (.tuple #[v', .int .i64 0]) ∧ NodeP (fun k => w.heap.size ≤ k) w' v' x) ∧ Below w.heap.size w w' := by
  have hV0 := hV
  obtain ⟨A, ca, rfl, _, _⟩ := hV0
  obtain ⟨w0, hw0⟩ : ∃ w0, w0 = (w.alloc (.cells #[.int .i64 n.kind, .int .i64 n.tok.1, .string n.tok.2, .slice A n.kids.length ca] 26)).alloc (.cells #[.int .i64 0, .int .i64 0, .string { data := #[] }, .slice none 0 0] 26) := ⟨_, rfl⟩
  have hB0 : Below w.heap.size w w0 := by rw [hw0]; exact ((Below.refl _ _).alloc (Nat.le_refl _) _).alloc (by simp) _
  have hb1 : w0.heap[w.heap.size + 1]? = some (.cells #[.int .i64 0, .int .i64 0, .string { data := #[] }, .slice none 0 0] 26 (0, 0)) := by rw [hw0]; exact alloc_at _ _ _ (by simp)
  have hs0 : w0.heap.size = w.heap.size + 2 := by rw [hw0]; simp
  obtain ⟨hcx, hsx, _⟩ := goR_facts hg
  have hcx2 : countN x ≤ 10000000 := Nat.le_trans hcx hC
  have hsx2 : b + sumT (leavesN x) ≤ 1000000000000 := by unfold sumS at hS; omega
  have hgo := (goTo_any n _ l Ap cp w0 hC hS (hT.below hB0) (hV.below hB0 (fun _ _ _ => trivial)) hl (hP.below hB0)).mono fun e w' ⟨h1, h2⟩ => And.intro (goPost_ok h1 hf hg) h2
  have HN := Lib.hid (show _ ∧ _ from ⟨hcx2, hsx2⟩)
  clear hcx hsx hcx2 hsx2
  have HG := Lib.hid hgo
  have HW := Lib.hid hw0
  have HX := Lib.hid (show _ ∧ _ ∧ _ from ⟨hB0, hb1, hs0⟩)
  clear hgo hw0 hB0 hb1 hs0 hC hS hT hV hP hf hg
  go_enter Tryd.func37, Tryd.ntmps37
  go_wp2_with fail
  rw [← HW.out]
  refine HG.out.mono ?_
  rintro e w1 ⟨⟨Ax, cx, rfl, hcap, hkx⟩, hbb⟩
  have hz := (hbb.block (w.heap.size + 1) (by rw [HX.out.2.2]; omega)).trans HX.out.2.1
  have hs1 := hbb.size
  rw [HX.out.2.2] at hs1
  have hlt : w.heap.size + 1 < w1.heap.size := by omega
  have hnb : w.heap.size + 1 ≠ w1.heap.size := by omega
  have q0 := Lib.cell_of_heap hz 0
  have f0 := frozen_block (j := 0) hz
  have q1 := Lib.cell_of_heap hz 1
  have f1 := frozen_block (j := 1) hz
  have q2 := Lib.cell_of_heap hz 2
  have f2 := frozen_block (j := 2) hz
  have q3 := Lib.cell_of_heap hz 3
  have f3 := frozen_block (j := 3) hz
  have hk2 : KidsV (w1.alloc (.cells (nodeCells x Ax cx) 26)) Ax x.kids := ((hkx.later hbb).kids).below ((Below.refl _ _).alloc (Nat.le_refl _) _)
  have hcl := Clone_any (deepN x + 1) x _ (w1.alloc (.cells (nodeCells x Ax cx) 26)) (Nat.lt_succ_self _) HN.out.1 ⟨Ax, cx, rfl, hk2⟩
  have HCl := Lib.hid hcl
  have hB1 := HX.out.1.trans (hbb.mono HX.out.1.size)
  have HB := Lib.hid (show _ ∧ _ from ⟨hz, hB1.alloc (o := .cells (nodeCells x Ax cx) 26) (by omega)⟩)
  clear hz hbb hs1 hk2 hcl hkx hB1 hcap q0 q1 q2 q3 f0 f1 f2 f3
  go_wp2_with fail
  refine HCl.out.mono ?_
  rintro e w2 ⟨v', rfl, ⟨A2, c2, rfl, hc2, hk2⟩, hb2⟩
  have hs2 := hb2.size
  rw [World.size_alloc] at hs2
  have hz := (hb2.block (w.heap.size + 1) (by rw [World.size_alloc]; omega)).trans ((alloc_old _ _ _ hlt).trans HB.out.1)
  have q0 := Lib.cell_of_heap hz 0
  have f0 := frozen_block (j := 0) hz
  have q1 := Lib.cell_of_heap hz 1
  have f1 := frozen_block (j := 1) hz
  have q2 := Lib.cell_of_heap hz 2
  have f2 := frozen_block (j := 2) hz
  have q3 := Lib.cell_of_heap hz 3
  have f3 := frozen_block (j := 3) hz
  have HB2 := Lib.hid (show _ ∧ _ ∧ _ ∧ _ from ⟨hz, HB.out.2.trans (hb2.mono (by rw [World.size_alloc]; omega)), hc2, hk2⟩)
  clear hz hb2 hk2 hc2
  go_wp2_with fail
  have hF := set4 (v0 := .int .i64 x.kind) (v1 := .int .i64 x.tok.1) (v2 := .string x.tok.2) (v3 := .slice A2 x.kids.length c2) HB2.out.1
  have s0 := Lib.cell_of_heap hF 0
  have s1 := Lib.cell_of_heap hF 1
  have s2 := Lib.cell_of_heap hF 2
  have s3 := Lib.cell_of_heap hF 3
  refine bodyPost_ret (by simp [results, Tryd.f37, go_sem, s0, s1, s2, s3]; try rfl) rfl ?_
  exact ⟨⟨_, rfl, A2, c2, rfl, HB2.out.2.2.1, HB2.out.2.2.2.kept (by rw [size4]; exact Nat.le_refl _) (fun k hp _ => other4 (by rw [World.size_alloc] at hp; omega)) (fun k hp _ => by rw [World.size_alloc] at hp; omega)⟩, below4 HB2.out.2.1 (Nat.le_succ _)⟩

set_option maxRecDepth 100000 in
set_option maxHeartbeats 2000000 in
theorem Span_err (n : Nd) (v : Value) (l : List Int) (Ap : Option Addr) (cp : Nat) (w : World) (c : Int) (hC : sizeN n) (hS : sumS n) (hT : Tabs w) (hV : NodeP (fun _ => True) w v n) (hl : l.length ≤ 1000000000) (hP : IntsR w Ap l) (hc : goErr n l = c) (h0 : c ≠ 0) :
    Calls Tryd.prog 38 #[v, .slice Ap l.length cp] w fun e w' => e = .returned (.tuple #[.agg #[.int .i64 0, .int .i64 0], .int .i64 c]) ∧ Below w.heap.size w w' := by
  have hV0 := hV
  obtain ⟨A, ca, rfl, _, _⟩ := hV0
  obtain ⟨w0, hw0⟩ : ∃ w0, w0 = (w.alloc (.cells #[.int .i64 n.kind, .int .i64 n.tok.1, .string n.tok.2, .slice A n.kids.length ca] 26)).alloc (.cells #[.int .i64 0, .int .i64 0] 62) := ⟨_, rfl⟩
  have hB0 : Below w.heap.size w w0 := by rw [hw0]; exact ((Below.refl _ _).alloc (Nat.le_refl _) _).alloc (by simp) _
  have hb1 : w0.heap[w.heap.size + 1]? = some (.cells #[.int .i64 0, .int .i64 0] 62 (0, 0)) := by rw [hw0]; exact alloc_at _ _ _ (by simp)
  have hs0 : w0.heap.size = w.heap.size + 2 := by rw [hw0]; simp
  have hgo := (goTo_any n _ l Ap cp w0 hC hS (hT.below hB0) (hV.below hB0 (fun _ _ _ => trivial)) hl (hP.below hB0)).mono fun e w' ⟨h1, h2⟩ => And.intro (goPost_err h1 hc h0) h2
  have hne : (c != 0) = true := by simpa using h0
  have HG := Lib.hid hgo
  have HW := Lib.hid hw0
  have HX := Lib.hid (show _ ∧ _ ∧ _ from ⟨hB0, hb1, hs0⟩)
  clear hgo hw0 hB0 hb1 hs0 hC hS hT hV hP hc
  go_enter Tryd.func38, Tryd.ntmps38
  go_wp2_with fail
  rw [← HW.out]
  refine HG.out.mono ?_
  rintro e w1 ⟨rfl, hbb⟩
  have hz := (hbb.block (w.heap.size + 1) (by rw [HX.out.2.2]; omega)).trans HX.out.2.1
  have hs1 := hbb.size
  rw [HX.out.2.2] at hs1
  have hlt : w.heap.size + 1 < w1.heap.size := by omega
  have hnb : w.heap.size + 1 ≠ w1.heap.size := by omega
  have q0 := Lib.cell_of_heap hz 0
  have f0 := frozen_block (j := 0) hz
  have q1 := Lib.cell_of_heap hz 1
  have f1 := frozen_block (j := 1) hz
  have HB := Lib.hid (show _ ∧ _ from ⟨hz, HX.out.1.trans (hbb.mono HX.out.1.size)⟩)
  clear hz hbb hs1
  go_wp2_with fail
  have hF := set2 (v0 := .int .i64 0) (v1 := .int .i64 0) HB.out.1
  obtain ⟨W, hW⟩ : ∃ W, W = (((w1).setCell ⟨w.heap.size + 1, 0, none⟩ (.int .i64 0)).setCell ⟨w.heap.size + 1, 1, none⟩ (.int .i64 0)).alloc (.cells #[.int .i64 0, .int .i64 0, .string { data := #[] }, .slice none 0 0] 26) := ⟨_, rfl⟩
  rw [← hW]
  have hA : W.heap[w.heap.size + 1]? = some (.cells #[.int .i64 0, .int .i64 0] 62 (0, 0)) := by rw [hW]; exact (alloc_old _ _ _ (by rw [size2]; exact hlt)).trans hF
  have hBW : Below w.heap.size w W := by rw [hW]; exact (below2 HB.out.2 (Nat.le_succ _)).alloc (by rw [size2]; omega) _
  have s0 := Lib.cell_of_heap hA 0
  have s1 := Lib.cell_of_heap hA 1
  refine bodyPost_ret (by simp [results, Tryd.f38, go_sem, s0, s1]; try rfl) rfl ?_
  exact ⟨rfl, hBW⟩

set_option maxRecDepth 100000 in
set_option maxHeartbeats 2000000 in
theorem Span_ok (n x : Nd) (b : Nat) (v : Value) (l : List Int) (Ap : Option Addr) (cp : Nat) (w : World) (hC : sizeN n) (hS : sumS n) (hT : Tabs w) (hV : NodeP (fun _ => True) w v n) (hl : l.length ≤ 1000000000) (hP : IntsR w Ap l) (hf : formedB n = true) (hg : goR n l 0 = some (x, b)) :
    Calls Tryd.prog 38 #[v, .slice Ap l.length cp] w fun e w' => (e = .returned (.tuple #[.agg #[.int .i64 (b : Nat), .int .i64 ((b + sumT (leavesN x) : Nat) : Int)], .int .i64 0])) ∧ Below w.heap.size w w' := by
  have hV0 := hV
  obtain ⟨A, ca, rfl, _, _⟩ := hV0
  obtain ⟨w0, hw0⟩ : ∃ w0, w0 = (w.alloc (.cells #[.int .i64 n.kind, .int .i64 n.tok.1, .string n.tok.2, .slice A n.kids.length ca] 26)).alloc (.cells #[.int .i64 0, .int .i64 0] 62) := ⟨_, rfl⟩
  have hB0 : Below w.heap.size w w0 := by rw [hw0]; exact ((Below.refl _ _).alloc (Nat.le_refl _) _).alloc (by simp) _
  have hb1 : w0.heap[w.heap.size + 1]? = some (.cells #[.int .i64 0, .int .i64 0] 62 (0, 0)) := by rw [hw0]; exact alloc_at _ _ _ (by simp)
  have hs0 : w0.heap.size = w.heap.size + 2 := by rw [hw0]; simp
  obtain ⟨hcx, hsx, _⟩ := goR_facts hg
  have hcx2 : countN x ≤ 10000000 := Nat.le_trans hcx hC
  have hsx2 : b + sumT (leavesN x) ≤ 1000000000000 := by unfold sumS at hS; omega
  have hgo := (goTo_any n _ l Ap cp w0 hC hS (hT.below hB0) (hV.below hB0 (fun _ _ _ => trivial)) hl (hP.below hB0)).mono fun e w' ⟨h1, h2⟩ => And.intro (goPost_ok h1 hf hg) h2
  have HN := Lib.hid (show _ ∧ _ from ⟨hcx2, hsx2⟩)
  clear hcx hsx hcx2 hsx2
  have HG := Lib.hid hgo
  have HW := Lib.hid hw0
  have HX := Lib.hid (show _ ∧ _ ∧ _ from ⟨hB0, hb1, hs0⟩)
  clear hgo hw0 hB0 hb1 hs0 hC hS hT hV hP hf hg
  go_enter Tryd.func38, Tryd.ntmps38
  go_wp2_with fail
  rw [← HW.out]
  refine HG.out.mono ?_
  rintro e w1 ⟨⟨Ax, cx, rfl, hcap, hkx⟩, hbb⟩
  have hz := (hbb.block (w.heap.size + 1) (by rw [HX.out.2.2]; omega)).trans HX.out.2.1
  have hs1 := hbb.size
  rw [HX.out.2.2] at hs1
  have hlt : w.heap.size + 1 < w1.heap.size := by omega
  have hnb : w.heap.size + 1 ≠ w1.heap.size := by omega
  have q0 := Lib.cell_of_heap hz 0
  have f0 := frozen_block (j := 0) hz
  have q1 := Lib.cell_of_heap hz 1
  have f1 := frozen_block (j := 1) hz
  have hk2 : KidsV (w1.alloc (.cells (nodeCells x Ax cx) 26)) Ax x.kids := ((hkx.later hbb).kids).below ((Below.refl _ _).alloc (Nat.le_refl _) _)
  have hwid := width_any x _ (w1.alloc (.cells (nodeCells x Ax cx) 26)) HN.out.1 (by have := HN.out.2; unfold sumS; omega) ⟨Ax, cx, rfl, hk2⟩
  have hB1 := HX.out.1.trans (hbb.mono HX.out.1.size)
  have HB := Lib.hid (show _ ∧ _ from ⟨hz, hB1.alloc (o := .cells (nodeCells x Ax cx) 26) (by omega)⟩)
  have e6 : IntKind.i64.wrap ((b : Int) + ((sumT (leavesN x) : Nat) : Int)) = ((b + sumT (leavesN x) : Nat) : Int) := by rw [IntWalk.i64_in _ (by have := HN.out.2; omega)]; omega
  obtain ⟨wx, hwx⟩ : ∃ wx, wx = sumT (leavesN x) := ⟨_, rfl⟩
  rw [← hwx] at e6 hwid
  have HWX := Lib.hid hwx
  clear hwx
  obtain ⟨bx, hbx⟩ : ∃ bx, bx = b + wx := ⟨_, rfl⟩
  rw [← hbx] at e6
  have HBX := Lib.hid hbx
  have HWid := Lib.hid hwid
  clear hz hbb hs1 hk2 hwid hkx hB1 hcap q0 q1 f0 f1 hbx
  go_wp2_with fail
  refine HWid.out.mono ?_
  rintro e w2 ⟨rfl, hb2⟩
  have hs2 := hb2.size
  rw [World.size_alloc] at hs2
  have hz := (hb2.block (w.heap.size + 1) (by rw [World.size_alloc]; omega)).trans ((alloc_old _ _ _ hlt).trans HB.out.1)
  have q0 := Lib.cell_of_heap hz 0
  have f0 := frozen_block (j := 0) hz
  have q1 := Lib.cell_of_heap hz 1
  have f1 := frozen_block (j := 1) hz
  have HB2 := Lib.hid (show _ ∧ _ from ⟨hz, HB.out.2.trans (hb2.mono (by rw [World.size_alloc]; omega))⟩)
  clear hz hb2
  go_wp2_with fail
  have hF := set2 (v0 := .int .i64 (b : Nat)) (v1 := .int .i64 (bx : Nat)) HB2.out.1
  have s0 := Lib.cell_of_heap hF 0
  have s1 := Lib.cell_of_heap hF 1
  refine bodyPost_ret (by simp [results, Tryd.f38, go_sem, s0, s1]; try rfl) rfl ?_
  exact ⟨by rw [HBX.out, HWX.out], below2 HB2.out.2 (Nat.le_succ _)⟩

end Go.Proofs.YtpjlgahbbmlngaaDoor
