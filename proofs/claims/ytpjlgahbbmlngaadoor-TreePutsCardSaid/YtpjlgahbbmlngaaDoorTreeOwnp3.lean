/-
  Trees: Put.
-/
import Derived.Test.YtpjlgahbbmlngaaDoorTreeOwnp2
import Derived.Test.YtpjlgahbbmlngaaDoorTreeLeavesp31
import Derived.Test.YtpjlgahbbmlngaaDoorTreeLeavesp26
import Derived.Test.YtpjlgahbbmlngaaDoorTreeLeavesp34
namespace Go.Proofs.YtpjlgahbbmlngaaDoor
set_option linter.unusedVariables false
set_option linter.unusedSimpArgs false
open Go Go.RowKit

theorem setAt {W : World} {b o : Nat} {u0 u3 : Value} (v0 v1 v2 v3 : Value) (h : OpenB W b) (c0 : W.cell? ⟨b, o, none⟩ = some u0) (c3 : W.cell? ⟨b, o + 3, none⟩ = some u3) :
    OpenB ((((W.setCell ⟨b, o, none⟩ v0).setCell ⟨b, o + 1, none⟩ v1).setCell ⟨b, o + 2, none⟩ v2).setCell ⟨b, o + 3, none⟩ v3) b ∧
    ((((W.setCell ⟨b, o, none⟩ v0).setCell ⟨b, o + 1, none⟩ v1).setCell ⟨b, o + 2, none⟩ v2).setCell ⟨b, o + 3, none⟩ v3).cell? ⟨b, o, none⟩ = some v0 ∧
    ((((W.setCell ⟨b, o, none⟩ v0).setCell ⟨b, o + 1, none⟩ v1).setCell ⟨b, o + 2, none⟩ v2).setCell ⟨b, o + 3, none⟩ v3).cell? ⟨b, o + 1, none⟩ = some v1 ∧
    ((((W.setCell ⟨b, o, none⟩ v0).setCell ⟨b, o + 1, none⟩ v1).setCell ⟨b, o + 2, none⟩ v2).setCell ⟨b, o + 3, none⟩ v3).cell? ⟨b, o + 2, none⟩ = some v2 ∧
    ((((W.setCell ⟨b, o, none⟩ v0).setCell ⟨b, o + 1, none⟩ v1).setCell ⟨b, o + 2, none⟩ v2).setCell ⟨b, o + 3, none⟩ v3).cell? ⟨b, o + 3, none⟩ = some v3 ∧
    ∀ j, j < o ∨ o + 4 ≤ j → ((((W.setCell ⟨b, o, none⟩ v0).setCell ⟨b, o + 1, none⟩ v1).setCell ⟨b, o + 2, none⟩ v2).setCell ⟨b, o + 3, none⟩ v3).cell? ⟨b, j, none⟩ = W.cell? ⟨b, j, none⟩ := by
  obtain ⟨cs, t, hb⟩ := h
  have a1 := heap_setCell_same W b o _ _ v0 hb
  have a2 := heap_setCell_same _ b (o + 1) _ _ v1 a1
  have a3 := heap_setCell_same _ b (o + 2) _ _ v2 a2
  have a4 := heap_setCell_same _ b (o + 3) _ _ v3 a3
  have hsz : o + 3 < cs.size := by
    have : W.cell? ⟨b, o + 3, none⟩ = cs[o + 3]? := by simp [World.cell?, hb]
    rw [this] at c3
    exact (Array.getElem?_eq_some_iff.1 c3).1
  generalize ((((W.setCell ⟨b, o, none⟩ v0).setCell ⟨b, o + 1, none⟩ v1).setCell ⟨b, o + 2, none⟩ v2).setCell ⟨b, o + 3, none⟩ v3) = W4 at a4
  refine ⟨⟨_, _, a4⟩, ?_, ?_, ?_, ?_, fun j hj => ?_⟩
  · simp [World.cell?, a4, Array.getElem?_setIfInBounds]; omega
  · simp [World.cell?, a4, Array.getElem?_setIfInBounds]; omega
  · simp [World.cell?, a4, Array.getElem?_setIfInBounds]; omega
  · simp [World.cell?, a4, Array.getElem?_setIfInBounds]; omega
  · rw [Lib.cell_of_heap a4 j, Lib.cell_of_heap hb j]
    simp only [Array.getElem?_setIfInBounds]
    rw [if_neg (by omega), if_neg (by omega), if_neg (by omega), if_neg (by omega)]
theorem atN_take : ∀ (p : List Nat) (n xx : Nd), atN n p = some xx → ∀ k, (h : k < p.length) → ∃ x z, atN n (p.take k) = some x ∧ x.kids[p[k]]? = some z
  | [], n, xx, _, k, h => by simp at h
  | i :: p, n, xx, hx, k, h => by
    simp only [atN] at hx
    cases hj : n.kids[i]? with
    | none => simp [hj] at hx
    | some y =>
      simp only [hj] at hx
      cases k with
      | zero => exact ⟨n, y, rfl, hj⟩
      | succ k =>
        obtain ⟨x, z, h1, h2⟩ := atN_take p y xx hx k (by simpa using h)
        exact ⟨x, z, by simp [atN, hj, h1], by simpa using h2⟩
theorem goR_at : ∀ (p : List Nat) (n x : Nd) (b b' : Nat), goR n (intL p) b = some (x, b') → atN n p = some x
  | [], n, x, b, b', h => by
    simp only [intL, List.map_nil, goR, Option.some.injEq, Prod.mk.injEq] at h
    simp [atN, h.1]
  | i :: p, n, x, b, b', h => by
    simp only [intL, List.map_cons] at h
    rw [goR_cons] at h
    split at h
    · cases h
    · simp only [Int.toNat_natCast] at h
      split at h
      · rename_i k hk
        simp only [atN, hk]
        exact goR_at p k x _ b' h
      · cases h
mutual
theorem putN_count : ∀ (n : Nd) (p : List Nat) (y : Nd), countN (putN n p y) ≤ countN n + countN y
  | n, [], y => by simp [putN]
  | .mk k t l, i :: p, y => by
    simp only [putN, Nd.kids, Nd.kind, Nd.tok]
    split
    · rename_i z hz
      have := putL_count l i p y z hz
      simp only [countN]; omega
    · omega
theorem putL_count : ∀ (l : List Nd) (i : Nat) (p : List Nat) (y z : Nd), l[i]? = some z → countL (l.set i (putN z p y)) ≤ countL l + countN y
  | [], i, p, y, z, h => by simp at h
  | x :: l, 0, p, y, z, h => by
    obtain rfl := Option.some.inj h
    have := putN_count x p y
    simp only [List.set_cons_zero, countL]; omega
  | x :: l, i + 1, p, y, z, h => by
    have := putL_count l i p y z (by simpa using h)
    simp only [List.set_cons_succ, countL]; omega
end

/-- what Put returns, where all is formed and there is something at the position -/
def PutPost (w : World) (m : Nd) (e : Ending) (w' : World) : Prop :=
  if formedB m = true then ∃ A c, e = .returned (.tuple #[.agg #[.int .i64 m.kind, .int .i64 m.tok.1, .string m.tok.2, .slice A m.kids.length c], .int .i64 0]) ∧ m.kids.length ≤ c ∧ KidsP (fun k => w.heap.size ≤ k) w' A m.kids ∧ OpenK (fun k => w.heap.size ≤ k) w' A m.kids.length else e = .returned (.tuple #[.agg zeroCells, .int .i64 4])

set_option maxRecDepth 100000 in
set_option maxHeartbeats 4000000 in
theorem Put_res (n x y : Nd) (p : List Nat) (bb : Nat) (v vy : Value) (Ap : Option Addr) (cp : Nat) (w : World) (hC2 : countN n + countN y ≤ 10000000) (hS : sumS n) (hT : Tabs w) (hV : NodeP (fun _ => True) w v n) (hVy : NodeV w vy y) (hl : (intL p).length ≤ 1000000000) (hP : IntsR w Ap (intL p)) (hf : formedB n = true) (hfy : formedB y = true) (hg : goR n (intL p) 0 = some (x, bb)) :
    Calls Tryd.prog 29 #[v, .slice Ap (intL p).length cp, vy] w fun e w' => PutPost w (putN n p y) e w' ∧ Below w.heap.size w w' := by
  obtain ⟨A, ca, rfl, hca, hkn⟩ := hV
  obtain ⟨By, cy, rfl, hky⟩ := hVy
  obtain ⟨w0, hw0⟩ : ∃ w0, w0 = ((w.alloc (.cells #[.int .i64 n.kind, .int .i64 n.tok.1, .string n.tok.2, .slice A n.kids.length ca] 26)).alloc (.cells #[.int .i64 y.kind, .int .i64 y.tok.1, .string y.tok.2, .slice By y.kids.length cy] 26)).alloc (.cells #[.int .i64 0, .int .i64 0, .string { data := #[] }, .slice none 0 0] 26) := ⟨_, rfl⟩
  have hB0 : Below w.heap.size w w0 := by rw [hw0]; exact (((Below.refl _ _).alloc (Nat.le_refl _) _).alloc (by simp) _).alloc (by simp; omega) _
  have hs0 : w0.heap.size = w.heap.size + 3 := by rw [hw0]; simp
  have h0 : w0.heap[w.heap.size]? = some (.cells (nodeCells n A ca) 26 (0, 0)) := by rw [hw0, alloc_old _ _ _ (by simp; omega), alloc_old _ _ _ (by simp)]; exact alloc_at _ _ _ rfl
  have h1 : w0.heap[w.heap.size + 1]? = some (.cells (nodeCells y By cy) 26 (0, 0)) := by rw [hw0, alloc_old _ _ _ (by simp)]; exact alloc_at _ _ _ (by simp)
  have h2 : w0.heap[w.heap.size + 2]? = some (.cells #[.int .i64 0, .int .i64 0, .string { data := #[] }, .slice none 0 0] 26 (0, 0)) := by rw [hw0]; exact alloc_at _ _ _ (by simp)
  have hCn : sizeN n := by unfold sizeN; omega
  have hCy : sizeN y := by unfold sizeN; omega
  have hIy := IsFormed_any y (.agg #[.int .i64 y.kind, .int .i64 y.tok.1, .string y.tok.2, .slice By y.kids.length cy]) w0 hCy (hT.below hB0) ⟨By, cy, rfl, hky.below hB0⟩
  rw [hfy] at hIy
  have hgo := fun W (hW : Below w0.heap.size w0 W) => (goTo_any n (.agg #[.int .i64 n.kind, .int .i64 n.tok.1, .string n.tok.2, .slice A n.kids.length ca]) (intL p) Ap cp W hCn hS ((hT.below hB0).below hW) ⟨A, ca, rfl, hca, (hkn.below hB0 (fun _ _ _ => trivial) (P' := fun _ => True)).below hW (fun _ _ _ => trivial)⟩ hl ((hP.below hB0).below hW)).mono fun e w' ⟨h1, h2⟩ => And.intro (goPost_ok h1 hf hg) h2
  have hcln := fun W (hW : Below w0.heap.size w0 W) => Clone_u (deepN n + 1) n (.agg #[.int .i64 n.kind, .int .i64 n.tok.1, .string n.tok.2, .slice A n.kids.length ca]) W (Nat.lt_succ_self _) hCn ⟨A, ca, rfl, ((hkn.below hB0 (fun _ _ _ => trivial) (P' := fun _ => True)).below hW (fun _ _ _ => trivial) (P' := fun _ => True)).kids⟩
  have hcly := fun W (hW : Below w0.heap.size w0 W) => Clone_u (deepN y + 1) y (.agg #[.int .i64 y.kind, .int .i64 y.tok.1, .string y.tok.2, .slice By y.kids.length cy]) W (Nat.lt_succ_self _) hCy ⟨By, cy, rfl, (hky.below hB0).below hW⟩
  have hpc := putN_count n p y
  have hat := goR_at p n x 0 bb hg
  have HIy := Lib.hid hIy
  have HGo := Lib.hid hgo
  have HCn := Lib.hid hcln
  have HCy := Lib.hid hcly
  have HW := Lib.hid hw0
  have HX := Lib.hid (show _ ∧ _ ∧ _ ∧ _ ∧ _ from ⟨hB0, hs0, h0, h1, h2⟩)
  have HM := Lib.hid (show _ ∧ _ ∧ _ ∧ _ from ⟨hT.below hB0, hP.below hB0, hat, hpc⟩)
  clear hIy hgo hcln hcly hw0 hB0 hs0 h0 h1 h2 hT hP hS hCn hCy hkn hky hca hf hfy hg hpc hat
  go_enter Tryd.func29, Tryd.ntmps29
  go_wp2_with fail
  rw [← HW.out]
  refine HIy.out.mono ?_
  rintro e w1 ⟨rfl, hb1⟩
  have B1 := Lib.hid hb1
  obtain ⟨q0, q1, q2, q3⟩ := cells_of_block (keepB HX.out.2.2.1 hb1)
  clear hb1
  go_wp2_with fail
  refine (HGo.out w1 B1.out).mono ?_
  rintro e w2 ⟨⟨Ax, cx, rfl, _, _⟩, hb2⟩
  have B2 := Lib.hid (B1.out.trans (hb2.mono B1.out.size))
  clear hb2 q0 q1 q2 q3
  obtain ⟨q0, q1, q2, q3⟩ := cells_of_block (keepB HX.out.2.2.1 B2.out)
  have hl2 : w.heap.size < w2.heap.size := by have := B2.out.size; have := HX.out.2.1; omega
  go_wp2_with fail
  obtain ⟨w3, hw3⟩ : ∃ u, u = w2.alloc (.cells #[.int .i64 x.kind, .int .i64 x.tok.1, .string x.tok.2, .slice Ax x.kids.length cx] 26) := ⟨_, rfl⟩
  have hb3 : Below w2.heap.size w2 w3 := by rw [hw3]; exact allocB _ _
  rw [← hw3]
  have B3 := Lib.hid (B2.out.trans (hb3.mono B2.out.size))
  clear hw3 hb3 q0 q1 q2 q3 hl2
  refine (HCn.out w3 B3.out).mono ?_
  rintro e w4 ⟨v4, rfl, ⟨hN4, ⟨A4, c4, rfl, hc4, hk4⟩⟩, hb4⟩
  have B4 := Lib.hid (B3.out.trans (hb4.mono B3.out.size))
  have HK4 := Lib.hid (show _ ∧ _ from ⟨hc4, hk4⟩)
  have hs34 := hb4.size
  clear hN4 hk4 hc4 hb4
  go_wp2_with fail
  obtain ⟨w5, hw5⟩ : ∃ u, u = w4.alloc (.cells (nodeCells n A4 c4) 26) := ⟨_, rfl⟩
  have hb5 : Below w4.heap.size w4 w5 := by rw [hw5]; exact allocB _ _
  have hr5 : w5.heap[w4.heap.size]? = some (.cells (nodeCells n A4 c4) 26 (0, 0)) := by rw [hw5]; exact alloc_at _ _ _ rfl
  rw [show w4.alloc (.cells #[.int .i64 n.kind, .int .i64 n.tok.1, .string n.tok.2, .slice A4 n.kids.length c4] 26) = w5 from hw5.symm]
  have hhole : Hole (fun k => w.heap.size + 3 ≤ k) w5 w4.heap.size n [] w4.heap.size 0 n A4 c4 (fun b => w3.heap.size ≤ b ∧ b < w4.heap.size) := Hole.root hr5 HK4.out.1 (HK4.out.2.kept hb5.size (fun k _ hk => hb5.block k hk)) (fun h => by omega) (by have := B4.out.size; have := HX.out.2.1; omega) (fun k hk => by have := B3.out.size; have := HX.out.2.1; omega)
  have B5 := Lib.hid (B4.out.trans (hb5.mono B4.out.size))
  obtain ⟨r, hr⟩ : ∃ r, r = w4.heap.size := ⟨_, rfl⟩
  rw [← hr] at hhole
  rw [← hr]
  have HH := Lib.hid hhole
  have hrl : w.heap.size + 3 ≤ r := by rw [hr]; have := B4.out.size; have := HX.out.2.1; omega
  have hr5l : r < w5.heap.size := by rw [hr]; exact (Array.getElem?_eq_some_iff.1 hr5).1
  clear hw5 hb5 hr5 hhole hr hs34
  go_loop [12, 34] (fun ptr i => ∃ (k b o : Nat) (z : Nd) (A' : Option Addr) (c' : Nat), ∃ S' : Nat → Prop, k ≤ p.length ∧ i = .int .i64 k ∧ ptr = .pointer (some ⟨b, o, none⟩) ∧ Hole (fun k => w.heap.size + 3 ≤ k) w5 r n (p.take k) b o z A' c' S') (fun _ i => p.length - (intOf i).toNat)
  case atStart => exact ⟨0, r, 0, n, A4, c4, _, Nat.zero_le _, rfl, rfl, HH.out⟩
  case round =>
    obtain ⟨k, b, o, z, A', c', S', hk, rfl, rfl, hh⟩ := hrel
    have hk0 : (0 : Int) ≤ (k : Int) := by omega
    have hpl : (intL p).length = p.length := by simp [intL]
    by_cases hlt : k < p.length
    · obtain ⟨z1, zk, g1, g2, -⟩ : ∃ x z, atN n (p.take k) = some x ∧ x.kids[p[k]]? = some z ∧ True := by
        obtain ⟨x, z, h1, h2⟩ := atN_take p n x HM.out.2.2.1 k hlt
        exact ⟨x, z, h1, h2, trivial⟩
      obtain rfl := Option.some.inj (hh.at_.symm.trans g1)
      obtain ⟨b', o', A1, c1, S1, rfl, hh2⟩ := hh.down g2
      have hi := (List.getElem?_eq_some_iff.1 g2).1
      obtain ⟨j, hj⟩ : ∃ j, j = p[k] := ⟨_, rfl⟩
      obtain ⟨bi, rfl, hbi, gi⟩ := HM.out.2.1 (by rw [hpl]; omega)
      have e1 := (B5.out.cell (p := ⟨bi, k, none⟩) hbi).trans (gi k (j : Int) (by simp [intL, hj, hlt]))
      have hh3 : Hole (fun k => w.heap.size + 3 ≤ k) w5 r n (p.take (k + 1)) b' (o' + p[k] * 4) zk A1 c1 S1 := by
        rw [List.take_succ_eq_append_getElem hlt]; exact hh2
      rw [← hj] at hh3 hi
      have hj1 : (j : Int) < (z.kids.length : Int) := by omega
      have hj0 : (0 : Int) ≤ (j : Int) := by omega
      have hk1 : (k : Int) < ((intL p).length : Int) := by omega
      have hc3 := hh.c3
      have H3 := Lib.hid hh3
      have e3 : IntKind.i64.wrap ((k : Int) + 1) = ((k + 1 : Nat) : Int) := by rw [IntWalk.i64_in _ (by omega)]; omega
      have HPL := Lib.hid hpl
      clear hh hh2 hh3 g1 g2 gi hj hpl
      go_wp2_with fail
      exact ⟨⟨k + 1, b', o' + j * 4, zk, A1, c1, S1, by omega, by go_num, rfl, H3.out⟩, by simp only [intOf]; omega⟩
    · have hke : k = p.length := by omega
      subst hke
      rw [List.take_length] at hh
      have hk2 : decide ((p.length : Int) < ((intL p).length : Int)) = false := by rw [hpl]; simp
      have hk3 : ¬ (p.length : Int) < ((intL p).length : Int) := by omega
      have HH2 := Lib.hid hh
      clear hh
      obtain ⟨q0, q1, q2, q3⟩ := cells_of_block (keepB HX.out.2.2.2.1 B5.out)
      go_wp2_with fail
      clear q0 q1 q2 q3
      refine (HCy.out w5 B5.out).mono ?_
      rintro e w6 ⟨v6, rfl, ⟨⟨B6, c6, rfl, hc6, hk6⟩, hu6⟩, hb6⟩
      have hu6 := nodeU_kids hu6
      have hh := HH2.out
      have hbl := hh.opn.lt
      have x0 := (hb6.cell (p := ⟨b, o, none⟩) hbl).trans hh.c0
      have x1 := (hb6.cell (p := ⟨b, o + 1, none⟩) hbl).trans hh.c1
      have x2 := (hb6.cell (p := ⟨b, o + 2, none⟩) hbl).trans hh.c2
      have x3 := (hb6.cell (p := ⟨b, o + 3, none⟩) hbl).trans hh.c3
      have ho6 : OpenB w6 b := hh.opn.same (hb6.block b hbl)
      obtain ⟨f0, f1, f2, f3⟩ : w6.frozen? ⟨b, o, none⟩ = false ∧ w6.frozen? ⟨b, o + 1, none⟩ = false ∧ w6.frozen? ⟨b, o + 2, none⟩ = false ∧ w6.frozen? ⟨b, o + 3, none⟩ = false := by
        obtain ⟨cs, t, h⟩ := ho6
        exact ⟨frozen_block h, frozen_block h, frozen_block h, frozen_block h⟩
      have hset := setAt (.int .i64 y.kind) (.int .i64 y.tok.1) (.string y.tok.2) (.slice B6 y.kids.length c6) ho6 x0 x3
      have hB6 := B5.out.trans (hb6.mono B5.out.size)
      have hpb : w.heap.size + 3 ≤ b := hh.pb
      have hs0 := HX.out.2.1
      have hoth : ∀ k, k ≠ b → ((((w6.setCell ⟨b, o, none⟩ (.int .i64 y.kind)).setCell ⟨b, o + 1, none⟩ (.int .i64 y.tok.1)).setCell ⟨b, o + 2, none⟩ (.string y.tok.2)).setCell ⟨b, o + 3, none⟩ (.slice B6 y.kids.length c6)).heap[k]? = w6.heap[k]? := fun k hk =>
        (block_other hk).trans ((block_other hk).trans ((block_other hk).trans (block_other hk)))
      have hB7 : Below w0.heap.size w0 ((((w6.setCell ⟨b, o, none⟩ (.int .i64 y.kind)).setCell ⟨b, o + 1, none⟩ (.int .i64 y.tok.1)).setCell ⟨b, o + 2, none⟩ (.string y.tok.2)).setCell ⟨b, o + 3, none⟩ (.slice B6 y.kids.length c6)) :=
        (((hB6.setCell (p := ⟨b, o, none⟩) (by rw [hs0]; exact hpb) _).setCell (p := ⟨b, o + 1, none⟩) (by rw [hs0]; exact hpb) _).setCell (p := ⟨b, o + 2, none⟩) (by rw [hs0]; exact hpb) _).setCell (p := ⟨b, o + 3, none⟩) (by rw [hs0]; exact hpb) _
      have hsz7 : ((((w6.setCell ⟨b, o, none⟩ (.int .i64 y.kind)).setCell ⟨b, o + 1, none⟩ (.int .i64 y.tok.1)).setCell ⟨b, o + 2, none⟩ (.string y.tok.2)).setCell ⟨b, o + 3, none⟩ (.slice B6 y.kids.length c6)).heap.size = w6.heap.size := by simp [World.setCell]
      have h56 := hb6.size
      have h05 := B5.out.size
      have htr : Turned (fun k => w.heap.size + 3 ≤ k) w5 ((((w6.setCell ⟨b, o, none⟩ (.int .i64 y.kind)).setCell ⟨b, o + 1, none⟩ (.int .i64 y.tok.1)).setCell ⟨b, o + 2, none⟩ (.string y.tok.2)).setCell ⟨b, o + 3, none⟩ (.slice B6 y.kids.length c6)) b o S' y B6 c6 :=
        ⟨by rw [hsz7]; exact h56, hset.1, fun k h1 h2 _ => (hoth k h2).trans (hb6.block k h1), fun j hj => (hset.2.2.2.2.2 j hj).trans (hb6.cell (p := ⟨b, j, none⟩) hbl), hset.2.1, hset.2.2.1, hset.2.2.2.1, hset.2.2.2.2.1, hc6,
          hk6.kept (by rw [hsz7]; exact Nat.le_refl _) (fun k hp hk => hoth k (by omega)) (fun k hp _ => by omega), (hu6.open_ (P := fun k => w5.heap.size ≤ k) (fun k h => h.1)).kept (fun k hp hk => hoth k (by omega)) (fun k hp => by omega)⟩
      obtain ⟨A9, c9, r0, r1, r2, r3, hc9, hk9, ho9⟩ := hh.wand _ y B6 c6 htr
      have HT7 := Lib.hid (show _ ∧ _ ∧ _ ∧ _ from ⟨hB7, hc9, hk9, ho9⟩)
      have hr7 : r < ((((w6.setCell ⟨b, o, none⟩ (.int .i64 y.kind)).setCell ⟨b, o + 1, none⟩ (.int .i64 y.tok.1)).setCell ⟨b, o + 2, none⟩ (.string y.tok.2)).setCell ⟨b, o + 3, none⟩ (.slice B6 y.kids.length c6)).heap.size := by rw [hsz7]; omega
      have HRt := Lib.hid (show _ ∧ _ ∧ _ ∧ _ from ⟨r0, r1, r2, r3⟩)
      clear hset hB6 hoth hB7 hsz7 htr hc9 hk9 ho9 hu6 r0 r1 r2 r3 hk6 hc6 hb6 hh ho6 h56
      go_upto_region 14 with fail
      obtain ⟨w7, hw7⟩ : ∃ u, u = ((((w6.setCell ⟨b, o, none⟩ (.int .i64 y.kind)).setCell ⟨b, o + 1, none⟩ (.int .i64 y.tok.1)).setCell ⟨b, o + 2, none⟩ (.string y.tok.2)).setCell ⟨b, o + 3, none⟩ (.slice B6 y.kids.length c6)) := ⟨_, rfl⟩
      rw [← hw7] at HT7 HRt hr7
      rw [← hw7]
      clear hw7 x0 x1 x2 x3 f0 f1 f2 f3
      obtain ⟨r0, r1, r2, r3⟩ := HRt.out
      have hform := IsFormed_any (putN n p y) (.agg #[.int .i64 (putN n p y).kind, .int .i64 (putN n p y).tok.1, .string (putN n p y).tok.2, .slice A9 (putN n p y).kids.length c9]) w7 (by have := HM.out.2.2.2; unfold sizeN; omega) (HM.out.1.below HT7.out.1) ⟨A9, c9, rfl, HT7.out.2.2.1.kids⟩
      have HT8 := Lib.hid HT7.out
      clear HT7 HRt
      obtain ⟨m, hm⟩ : ∃ m, m = putN n p y := ⟨_, rfl⟩
      rw [← hm] at HT8 hform r0 r1 r2 r3
      have HMm := Lib.hid hm
      clear hm
      have HFm := Lib.hid hform
      clear hform
      go_wp2_with fail
      refine HFm.out.mono ?_
      rintro e w8 ⟨rfl, hb8⟩
      have hB8 := HT8.out.1.trans (hb8.mono HT8.out.1.size)
      have hz8 := keepB HX.out.2.2.2.2 hB8
      have t0 := (hb8.cell (p := ⟨r, 0, none⟩) hr7).trans r0
      have t1 := (hb8.cell (p := ⟨r, 1, none⟩) hr7).trans r1
      have t2 := (hb8.cell (p := ⟨r, 2, none⟩) hr7).trans r2
      have t3 := (hb8.cell (p := ⟨r, 3, none⟩) hr7).trans r3
      have z0 := Lib.cell_of_heap hz8 0
      have z1 := Lib.cell_of_heap hz8 1
      have z2 := Lib.cell_of_heap hz8 2
      have z3 := Lib.cell_of_heap hz8 3
      have f0 := frozen_block (j := 0) hz8
      have f1 := frozen_block (j := 1) hz8
      have f2 := frozen_block (j := 2) hz8
      have f3 := frozen_block (j := 3) hz8
      have hk8 := HT8.out.2.2.1.below hb8 (P' := fun k => w.heap.size + 3 ≤ k) (fun _ h _ => h)
      have ho8 := HT8.out.2.2.2.kept (P' := fun k => w.heap.size + 3 ≤ k) (fun k _ hk => hb8.block k hk) (fun _ h => h)
      have hB9 := HX.out.1.trans (hB8.mono HX.out.1.size)
      have H8 := Lib.hid (show _ ∧ _ ∧ _ ∧ _ from ⟨hz8, hk8, hB9, ho8⟩)
      clear hB8 hz8 hk8 hb8 ho8 r0 r1 r2 r3 hB9
      cases hfm : formedB m with
      | true =>
        have HFF := Lib.hid hfm
        clear hfm
        go_wp2_with fail
        have hfin := set4 (v0 := .int .i64 m.kind) (v1 := .int .i64 m.tok.1) (v2 := .string m.tok.2) (v3 := .slice A9 m.kids.length c9) H8.out.1
        have s0 := Lib.cell_of_heap hfin 0
        have s1 := Lib.cell_of_heap hfin 1
        have s2 := Lib.cell_of_heap hfin 2
        have s3 := Lib.cell_of_heap hfin 3
        refine bodyPost_ret (by simp [results, Tryd.f29, go_sem, s0, s1, s2, s3]; try rfl) rfl ?_
        rw [← HMm.out]
        unfold PutPost
        rw [if_pos HFF.out]
        exact ⟨⟨A9, c9, rfl, HT8.out.2.1, H8.out.2.1.kept (by rw [size4]; exact Nat.le_refl _) (fun k hp _ => other4 (by omega)) (fun k hp _ => by omega), H8.out.2.2.2.kept (fun k hp _ => other4 (by omega)) (fun k hp => by omega)⟩, below4 H8.out.2.2.1 (by omega)⟩
      | false =>
        have HFF := Lib.hid hfm
        clear hfm
        go_wp2_with fail
        have hfin := set4 (v0 := .int .i64 0) (v1 := .int .i64 0) (v2 := .string { data := #[] }) (v3 := .slice none 0 0) H8.out.1
        have s0 := Lib.cell_of_heap hfin 0
        have s1 := Lib.cell_of_heap hfin 1
        have s2 := Lib.cell_of_heap hfin 2
        have s3 := Lib.cell_of_heap hfin 3
        refine bodyPost_ret (by simp [results, Tryd.f29, go_sem, s0, s1, s2, s3]; try rfl) rfl ?_
        rw [← HMm.out]
        unfold PutPost
        rw [if_neg (by rw [HFF.out]; decide)]
        exact ⟨rfl, below4 H8.out.2.2.1 (by omega)⟩

set_option maxRecDepth 100000 in
set_option maxHeartbeats 2000000 in
theorem Put_err (n y : Nd) (v vy : Value) (l : List Int) (Ap : Option Addr) (cp : Nat) (w : World) (c : Int) (hC : sizeN n) (hCy : sizeN y) (hS : sumS n) (hT : Tabs w) (hV : NodeP (fun _ => True) w v n) (hVy : NodeV w vy y) (hl : l.length ≤ 1000000000) (hP : IntsR w Ap l) (hc : (if formedB y = false then 4 else goErr n l) = c) (h0 : c ≠ 0) :
    Calls Tryd.prog 29 #[v, .slice Ap l.length cp, vy] w fun e w' => e = .returned (.tuple #[.agg zeroCells, .int .i64 c]) ∧ Below w.heap.size w w' := by
  obtain ⟨A, ca, rfl, hca, hkn⟩ := hV
  obtain ⟨By, cy, rfl, hky⟩ := hVy
  obtain ⟨w0, hw0⟩ : ∃ w0, w0 = ((w.alloc (.cells #[.int .i64 n.kind, .int .i64 n.tok.1, .string n.tok.2, .slice A n.kids.length ca] 26)).alloc (.cells #[.int .i64 y.kind, .int .i64 y.tok.1, .string y.tok.2, .slice By y.kids.length cy] 26)).alloc (.cells #[.int .i64 0, .int .i64 0, .string { data := #[] }, .slice none 0 0] 26) := ⟨_, rfl⟩
  have hB0 : Below w.heap.size w w0 := by rw [hw0]; exact (((Below.refl _ _).alloc (Nat.le_refl _) _).alloc (by simp) _).alloc (by simp; omega) _
  have hs0 : w0.heap.size = w.heap.size + 3 := by rw [hw0]; simp
  have h2 : w0.heap[w.heap.size + 2]? = some (.cells #[.int .i64 0, .int .i64 0, .string { data := #[] }, .slice none 0 0] 26 (0, 0)) := by rw [hw0]; exact alloc_at _ _ _ (by simp)
  have h1 : w0.heap[w.heap.size]? = some (.cells (nodeCells n A ca) 26 (0, 0)) := by rw [hw0, alloc_old _ _ _ (by simp; omega), alloc_old _ _ _ (by simp)]; exact alloc_at _ _ _ rfl
  have hIy := IsFormed_any y (.agg #[.int .i64 y.kind, .int .i64 y.tok.1, .string y.tok.2, .slice By y.kids.length cy]) w0 hCy (hT.below hB0) ⟨By, cy, rfl, hky.below hB0⟩
  have hgo := fun (hx : goErr n l = c) W (hW : Below w0.heap.size w0 W) => (goTo_any n (.agg #[.int .i64 n.kind, .int .i64 n.tok.1, .string n.tok.2, .slice A n.kids.length ca]) l Ap cp W hC hS ((hT.below hB0).below hW) ⟨A, ca, rfl, hca, (hkn.below hB0 (fun _ _ _ => trivial) (P' := fun _ => True)).below hW (fun _ _ _ => trivial)⟩ hl ((hP.below hB0).below hW)).mono fun e w' ⟨h1, h2⟩ => And.intro (goPost_err h1 hx h0) h2
  have HGo := Lib.hid hgo
  have HW := Lib.hid hw0
  have HX := Lib.hid (show _ ∧ _ ∧ _ ∧ _ from ⟨hB0, hs0, h2, h1⟩)
  clear hgo hw0 hB0 hs0 h2 hT hP hS hC hCy hkn hky hca h1
  have hne : (c != 0) = true := by simpa using h0
  cases hfy : formedB y with
  | false =>
    rw [hfy] at hIy
    rw [if_pos hfy] at hc
    have HIy := Lib.hid hIy
    subst hc
    clear hIy hfy
    go_enter Tryd.func29, Tryd.ntmps29
    go_wp2_with fail
    rw [← HW.out]
    refine HIy.out.mono ?_
    rintro e w1 ⟨rfl, hb1⟩
    have hz := keepB HX.out.2.2.1 hb1
    have z0 := Lib.cell_of_heap hz 0
    have z1 := Lib.cell_of_heap hz 1
    have z2 := Lib.cell_of_heap hz 2
    have z3 := Lib.cell_of_heap hz 3
    have f0 := frozen_block (j := 0) hz
    have f1 := frozen_block (j := 1) hz
    have f2 := frozen_block (j := 2) hz
    have f3 := frozen_block (j := 3) hz
    have H1 := Lib.hid (show _ ∧ _ from ⟨hz, HX.out.1.trans (hb1.mono HX.out.1.size)⟩)
    clear hz hb1
    go_wp2_with fail
    have hfin := set4 (v0 := .int .i64 0) (v1 := .int .i64 0) (v2 := .string { data := #[] }) (v3 := .slice none 0 0) H1.out.1
    have s0 := Lib.cell_of_heap hfin 0
    have s1 := Lib.cell_of_heap hfin 1
    have s2 := Lib.cell_of_heap hfin 2
    have s3 := Lib.cell_of_heap hfin 3
    refine bodyPost_ret (by simp [results, Tryd.f29, go_sem, s0, s1, s2, s3]; try rfl) rfl ?_
    exact ⟨rfl, below4 H1.out.2 (by omega)⟩
  | true =>
    rw [hfy] at hIy
    rw [if_neg (by rw [hfy]; decide)] at hc
    have HIy := Lib.hid hIy
    have HG2 := Lib.hid (HGo.out hc)
    clear hIy hfy hc
    go_enter Tryd.func29, Tryd.ntmps29
    go_wp2_with fail
    rw [← HW.out]
    refine HIy.out.mono ?_
    rintro e w1 ⟨rfl, hb1⟩
    have B1 := Lib.hid hb1
    obtain ⟨q0, q1, q2, q3⟩ := cells_of_block (keepB HX.out.2.2.2 hb1)
    clear hb1
    go_wp2_with fail
    refine (HG2.out w1 B1.out).mono ?_
    rintro e w2 ⟨rfl, hb2⟩
    have hB2 := B1.out.trans (hb2.mono B1.out.size)
    have hz := keepB HX.out.2.2.1 hB2
    have z0 := Lib.cell_of_heap hz 0
    have z1 := Lib.cell_of_heap hz 1
    have z2 := Lib.cell_of_heap hz 2
    have z3 := Lib.cell_of_heap hz 3
    have f0 := frozen_block (j := 0) hz
    have f1 := frozen_block (j := 1) hz
    have f2 := frozen_block (j := 2) hz
    have f3 := frozen_block (j := 3) hz
    have hlt2 : w.heap.size + 2 < w2.heap.size := (Array.getElem?_eq_some_iff.1 hz).1
    have hne2 : w.heap.size + 2 ≠ w2.heap.size := Nat.ne_of_lt hlt2
    have H1 := Lib.hid (show _ ∧ _ from ⟨hz, HX.out.1.trans (hB2.mono HX.out.1.size)⟩)
    clear hz hb2 hB2 q0 q1 q2 q3
    go_wp2_with fail
    have hF := set4 (v0 := .int .i64 0) (v1 := .int .i64 0) (v2 := .string { data := #[] }) (v3 := .slice none 0 0) H1.out.1
    obtain ⟨W, hWW⟩ : ∃ W, W = (((((w2).setCell ⟨w.heap.size + 2, 0, none⟩ (.int .i64 0)).setCell ⟨w.heap.size + 2, 1, none⟩ (.int .i64 0)).setCell ⟨w.heap.size + 2, 2, none⟩ (.string { data := #[] })).setCell ⟨w.heap.size + 2, 3, none⟩ (.slice none 0 0)).alloc (.cells #[.int .i64 0, .int .i64 0, .string { data := #[] }, .slice none 0 0] 26) := ⟨_, rfl⟩
    rw [show w.heap.size + 1 + 1 = w.heap.size + 2 by omega, ← hWW]
    have hA : W.heap[w.heap.size + 2]? = some (.cells #[.int .i64 0, .int .i64 0, .string { data := #[] }, .slice none 0 0] 26 (0, 0)) := by rw [hWW]; exact (alloc_old _ _ _ (by rw [size4]; exact hlt2)).trans hF
    have hBW : Below w.heap.size w W := by rw [hWW]; exact (below4 H1.out.2 (by omega)).alloc (by rw [size4]; omega) _
    have s0 := Lib.cell_of_heap hA 0
    have s1 := Lib.cell_of_heap hA 1
    have s2 := Lib.cell_of_heap hA 2
    have s3 := Lib.cell_of_heap hA 3
    refine bodyPost_ret (by simp [results, Tryd.f29, go_sem, s0, s1, s2, s3]; try rfl) rfl ?_
    exact ⟨rfl, hBW⟩
end Go.Proofs.YtpjlgahbbmlngaaDoor
