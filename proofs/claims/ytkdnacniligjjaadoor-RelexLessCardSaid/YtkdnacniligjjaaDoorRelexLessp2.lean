/-
  RelexLess: an edit in a line changes no tokens of the lines before it, and of those behind it none but a blank at the border. No condition: every input.
-/
import Derived.Test.YtkdnacniligjjaaDoorRelexCommonsp30
import Derived.Test.YtkdnacniligjjaaDoorRelexLessp1
import Derived.Test.YtkdnacniligjjaaDoorRelexCommonsp28
import Derived.BigRegion
namespace Go.Proofs.YtkdnacniligjjaaDoor.lawRelexLess
set_option linter.unusedVariables false
set_option linter.unusedSimpArgs false
open Go.ChangeShapes Go.WideShapes Go.RowKit
open Go.ChangeMaps (open_string shut_string)

theorem bel_alloc {B : Nat} {a W : World} {o : Obj} (h : Below B a W) (hB : B ≤ a.heap.size) : Below B a (W.alloc o) := h.alloc (Nat.le_trans hB h.size) _
theorem eds_at {X : World} {n : Nat} {d : Ed} (hn : X.heap.size = n) : EdsV (X.alloc (.cells #[.int .i64 d.f, .int .i64 d.t, .string d.s] 47)) (some ⟨n, 0, none⟩) [d] := by
  subst hn
  exact EdsV.block' (heap_alloc_new X _) rfl

theorem ed_kept {w4 W : World} {bb off : Nat} {u v x : Value} (h : Below w4.heap.size w4 W) (hb : bb < w4.heap.size) (f0 : w4.cell? ⟨bb, off, none⟩ = some u) (f1 : w4.cell? ⟨bb, off + 1, none⟩ = some v) (f2 : w4.cell? ⟨bb, off + 2, none⟩ = some x) :
    W.cell? ⟨bb, off, none⟩ = some u ∧ W.cell? ⟨bb, off + 1, none⟩ = some v ∧ W.cell? ⟨bb, off + 2, none⟩ = some x := by
  rw [h.cell hb, h.cell hb, h.cell hb]
  exact ⟨f0, f1, f2⟩

set_option maxRecDepth 100000 in
set_option maxHeartbeats 2000000 in
theorem walk (t1 : ByteArray) (ht1 : t1.size ≤ maxLen) (t2 : ByteArray) (ht2 : t2.size ≤ maxLen) (t3 : ByteArray) (ht3 : t3.size ≤ maxLen) (e0 : Ed) (hs0 : e0.s.size ≤ maxLen) (hw0 : (Lit.int .i64 e0.f).wf = true) (hu0 : (Lit.int .i64 e0.t).wf = true) (w : World) (hT : Tabs w) :
    Calls Tryd.prog 10 #[.string t1, .string t2, .string t3, .agg #[.int .i64 e0.f, .int .i64 e0.t, .string e0.s]] w fun e w' => e = .returned (.bool true) ∧ Below w.heap.size w w' := by
  obtain ⟨k1, hk1⟩ : ∃ k, k = min t1.size 4000 := ⟨_, rfl⟩
  obtain ⟨k2, hk2⟩ : ∃ k, k = min t2.size 4000 := ⟨_, rfl⟩
  obtain ⟨k3, hk3⟩ : ∃ k, k = min t3.size 4000 := ⟨_, rfl⟩
  have m1 : min (t1.size : Int) 4000 = (k1 : Int) := by omega
  have m2 : min (t2.size : Int) 4000 = (k2 : Int) := by omega
  have m3 : min (t3.size : Int) 4000 = (k3 : Int) := by omega
  have i1 : (if (4000 : Int) < (t1.size : Int) then (4000 : Int) else (t1.size : Int)) = (k1 : Int) := by split <;> omega
  have i2 : (if (4000 : Int) < (t2.size : Int) then (4000 : Int) else (t2.size : Int)) = (k2 : Int) := by split <;> omega
  have i3 : (if (4000 : Int) < (t3.size : Int) then (4000 : Int) else (t3.size : Int)) = (k3 : Int) := by split <;> omega
  have z1 : k1 ≤ t1.size := by omega
  have z2 : k2 ≤ t2.size := by omega
  have z3 : k3 ≤ t3.size := by omega
  have HK := Lib.hid (show k1 ≤ 4000 ∧ k2 ≤ 4000 ∧ k3 ≤ 4000 by omega)
  have HT := Lib.hid hT
  unfold maxLen at ht1 ht2 ht3
  clear hT hk1 hk2 hk3
  go_enter Tryd.func10, Tryd.ntmps10
  go_wp2_with fail
  go_quiet (fail)
  obtain ⟨P, hP⟩ : ∃ P, P = t1.extract 0 k1 := ⟨_, rfl⟩
  obtain ⟨m, hm⟩ : ∃ m, m = t2.extract 0 k2 := ⟨_, rfl⟩
  obtain ⟨Q, hQ⟩ : ∃ Q, Q = t3.extract 0 k3 := ⟨_, rfl⟩
  have zP : P.size ≤ 4000 := by rw [hP, ByteArray.size_extract]; have := HK.out; omega
  have zm : m.size ≤ 4000 := by rw [hm, ByteArray.size_extract]; have := HK.out; omega
  have zQ : Q.size ≤ 4000 := by rw [hQ, ByteArray.size_extract]; have := HK.out; omega
  rw [← hP, ← hm, ← hQ]
  obtain ⟨a, ha⟩ : ∃ a, a = P ++ { data := #[10] } := ⟨_, rfl⟩
  obtain ⟨b, hb⟩ : ∃ b, b = { data := #[10] } ++ Q := ⟨_, rfl⟩
  rw [← ha, ← hb]
  obtain ⟨w1, hw1⟩ : ∃ w1, w1 = (w.alloc (.cells #[.int .i64 e0.f, .int .i64 e0.t, .string e0.s] 47)).drewN nq := ⟨_, rfl⟩
  have hB1 : Below w.heap.size w w1 := by rw [hw1]; exact below_drewN ((Below.refl _ _).alloc (Nat.le_refl _) _) _
  have hx1 : w1.heap[w.heap.size]? = some (.cells #[.int .i64 e0.f, .int .i64 e0.t, .string e0.s] 47 (0, 0)) := by rw [hw1]; exact heap_alloc_new w _
  have c0 : w1.cell? ⟨w.heap.size, 0, none⟩ = some (.int .i64 e0.f) := Lib.cell_of_heap hx1 0
  have c1 : w1.cell? ⟨w.heap.size, 1, none⟩ = some (.int .i64 e0.t) := Lib.cell_of_heap hx1 1
  have c2 : w1.cell? ⟨w.heap.size, 2, none⟩ = some (.string e0.s) := Lib.cell_of_heap hx1 2
  rw [← hw1]
  have hcut := Cut_own 2000 1 (some ⟨w1.heap.size, 0, none⟩) [e0] (w1.alloc (.cells #[.int .i64 e0.f, .int .i64 e0.t, .string e0.s] 47)) (by unfold maxLen; simp) (fun e he => (List.mem_singleton.1 he) ▸ hs0) (EdsV.block' (heap_alloc_new w1 _) rfl)
  obtain ⟨d, hd⟩ : ∃ d, d = cutE 2000 e0 := ⟨_, rfl⟩
  have hcl : cutL 2000 [e0] = [d] := by rw [hd]; rfl
  have hds : d.s.size ≤ 2000 := by rw [hd]; simp only [cutE, ByteArray.size_extract]; omega
  rw [hcl] at hcut
  have Hcut : Hid (Calls Tryd.prog 24 #[.slice (some ⟨w1.heap.size, 0, none⟩) 1 1, .int .i64 2000] (w1.alloc (.cells #[.int .i64 e0.f, .int .i64 e0.t, .string e0.s] 47)) fun e w2 => ∃ bb off c', e = .returned (.slice (some ⟨bb, off, none⟩) 1 c') ∧ bb < w2.heap.size ∧ w2.cell? ⟨bb, off, none⟩ = some (.int .i64 d.f) ∧ w2.cell? ⟨bb, off + 1, none⟩ = some (.int .i64 d.t) ∧ w2.cell? ⟨bb, off + 2, none⟩ = some (.string d.s) ∧ Below w1.heap.size w1 w2) := Lib.hid (hcut.mono (by
    rintro e w2 ⟨v2, rfl, ho2, hb2⟩
    obtain ⟨A2, c2', rfl, hE2, _⟩ := EdsV.of_own ho2
    obtain ⟨bb, off, rfl, hbb, d0, d1, d2⟩ := hE2.get (k := 0) (by simp)
    simp only [Nat.zero_mul, Nat.add_zero, List.getElem_cons_zero] at d0 d1 d2
    exact ⟨bb, off, c2', rfl, hbb, d0, d1, d2, ((Below.refl w1.heap.size w1).alloc (Nat.le_refl _) _).trans (hb2.mono (by simp))⟩))
  have HB1 := Lib.hid hB1
  have HA := Lib.hid ha
  have HBb := Lib.hid hb
  clear hcut hB1 hx1 ha hb hP hm hQ hw1 i1 i2 i3 z1 z2 z3 m1 m2 m3 ht1 ht2 ht3 hcl hd
  by_cases n1 : d.f < 0
  · have q1 : decide (d.f < 0) = true := by simpa using n1
    go_wp2_with fail
    refine Hcut.out.mono ?_
    rintro e w2 ⟨bb, off, c2', rfl, hbb, d0, d1, d2, hb2⟩
    have HB2 := Lib.hid (HB1.out.trans (hb2.mono HB1.out.size))
    clear hb2 c0 c1 c2
    go_wp2_with fail
    go_quiet (fail)
    obtain ⟨w3, hw3⟩ : ∃ w3, w3 = w2.drewN nq := ⟨_, rfl⟩
    have HB3 : Hid (Below w.heap.size w w3) := Lib.hid (by rw [hw3]; exact below_drewN HB2.out _)
    rw [← hw3]
    clear hw3 d0 d1 d2
    go_wp2_with fail
    refine (alive4_any w3 (HT.out.below HB3.out)).mono ?_
    rintro e w4 ⟨rfl, hb4⟩
    go_wp2_with fail
    go_ret
    exact ⟨rfl, HB3.out.trans (hb4.mono HB3.out.size)⟩
  by_cases n2 : d.t < d.f
  · have q1 : decide (d.f < 0) = false := by simpa using n1
    have q2 : decide (d.t < d.f) = true := by simpa using n2
    go_wp2_with fail
    refine Hcut.out.mono ?_
    rintro e w2 ⟨bb, off, c2', rfl, hbb, d0, d1, d2, hb2⟩
    have HB2 := Lib.hid (HB1.out.trans (hb2.mono HB1.out.size))
    clear hb2 c0 c1 c2
    go_wp2_with fail
    go_quiet (fail)
    obtain ⟨w3, hw3⟩ : ∃ w3, w3 = w2.drewN nq := ⟨_, rfl⟩
    have HB3 : Hid (Below w.heap.size w w3) := Lib.hid (by rw [hw3]; exact below_drewN HB2.out _)
    rw [← hw3]
    clear hw3 d0 d1 d2
    go_wp2_with fail
    refine (alive4_any w3 (HT.out.below HB3.out)).mono ?_
    rintro e w4 ⟨rfl, hb4⟩
    go_wp2_with fail
    go_ret
    exact ⟨rfl, HB3.out.trans (hb4.mono HB3.out.size)⟩
  by_cases n3 : (m.size : Int) < d.t
  · have q1 : decide (d.f < 0) = false := by simpa using n1
    have q2 : decide (d.t < d.f) = false := by simpa using n2
    have q3 : decide ((m.size : Int) < d.t) = true := by simpa using n3
    go_wp2_with fail
    refine Hcut.out.mono ?_
    rintro e w2 ⟨bb, off, c2', rfl, hbb, d0, d1, d2, hb2⟩
    have HB2 := Lib.hid (HB1.out.trans (hb2.mono HB1.out.size))
    clear hb2 c0 c1 c2
    go_wp2_with fail
    go_quiet (fail)
    obtain ⟨w3, hw3⟩ : ∃ w3, w3 = w2.drewN nq := ⟨_, rfl⟩
    have HB3 : Hid (Below w.heap.size w w3) := Lib.hid (by rw [hw3]; exact below_drewN HB2.out _)
    rw [← hw3]
    clear hw3 d0 d1 d2
    go_wp2_with fail
    refine (alive4_any w3 (HT.out.below HB3.out)).mono ?_
    rintro e w4 ⟨rfl, hb4⟩
    go_wp2_with fail
    go_ret
    exact ⟨rfl, HB3.out.trans (hb4.mono HB3.out.size)⟩
  obtain ⟨f, t, N⟩ := d
  simp only at n1 n2 n3 hds Hcut
  obtain ⟨f, rfl⟩ : ∃ k : Nat, f = (k : Int) := ⟨f.toNat, by omega⟩
  obtain ⟨t, rfl⟩ : ∃ k : Nat, t = (k : Int) := ⟨t.toNat, by omega⟩
  have q1 : decide ((f : Int) < 0) = false := by simp
  have q2 : decide ((t : Int) < (f : Int)) = false := by simpa using n2
  have q2n : decide (t < f) = false := by simp; omega
  have q3 : decide ((m.size : Int) < (t : Int)) = false := by simpa using n3
  have q3n : decide (m.size < t) = false := by simp; omega
  obtain ⟨g1, g2, g3, g4, g5, X, Y, g6, g7, g8, g9⟩ := less_all P m Q N a b f t HA.out HBb.out (by omega) (by omega) zP zm zQ hds
  go_wp2_with fail
  refine Hcut.out.mono ?_
  rintro e w2 ⟨bb, off, c2', rfl, hbb, d0, d1, d2, hb2⟩
  have HB2 := Lib.hid (HB1.out.trans (hb2.mono HB1.out.size))
  clear hb2 c0 c1 c2
  go_wp2_with fail
  go_quiet (fail)
  obtain ⟨w3, hw3⟩ : ∃ w3, w3 = w2.drewN nq := ⟨_, rfl⟩
  have HB3 : Hid (Below w.heap.size w w3) := Lib.hid (by rw [hw3]; exact below_drewN HB2.out _)
  have hbb3 : bb < w3.heap.size := by rw [hw3]; exact hbb
  have e0 : w3.cell? ⟨bb, off, none⟩ = some (.int .i64 (f : Int)) := by rw [hw3]; exact d0
  have e1 : w3.cell? ⟨bb, off + 1, none⟩ = some (.int .i64 (t : Int)) := by rw [hw3]; exact d1
  have e2 : w3.cell? ⟨bb, off + 2, none⟩ = some (.string N) := by rw [hw3]; exact d2
  rw [← hw3]
  clear hw3 d0 d1 d2 hbb
  go_wp2_with fail
  refine (Lex_own (a ++ m ++ b) w3 g1 (HT.out.below HB3.out)).mono ?_
  rintro e w4 ⟨v4, rfl, ho4, hb4⟩
  obtain ⟨A4, c4, rfl, hE4, hc4, hn4, _⟩ := toks_full ho4
  have HB4 := Lib.hid (HB3.out.trans (hb4.mono HB3.out.size))
  have hbb4 : bb < w4.heap.size := Nat.lt_of_lt_of_le hbb3 hb4.size
  have f0 : w4.cell? ⟨bb, off, none⟩ = some (.int .i64 (f : Int)) := by rw [hb4.cell hbb3]; exact e0
  have f1 : w4.cell? ⟨bb, off + 1, none⟩ = some (.int .i64 (t : Int)) := by rw [hb4.cell hbb3]; exact e1
  have f2 : w4.cell? ⟨bb, off + 2, none⟩ = some (.string N) := by rw [hb4.cell hbb3]; exact e2
  have ee : (⟨((f + a.size : Nat) : Int), ((t + a.size : Nat) : Int), N⟩ : Ed) = ⟨(f : Int) + (a.size : Int), (t : Int) + (a.size : Int), N⟩ := by simp
  have HRX := fun (W : World) (x : Tabs W) (y : TksV W A4 (lexL (a ++ m ++ b))) (z : EdsV W (some ⟨w4.heap.size, 0, none⟩) [⟨(f : Int) + (a.size : Int), (t : Int) + (a.size : Int), N⟩]) => Relex_lex c4 1 A4 (some ⟨w4.heap.size, 0, none⟩) (a ++ m ++ b) [⟨((f + a.size : Nat) : Int), ((t + a.size : Nat) : Int), N⟩] W g1 g2 ⟨by simp, fun e he => by rw [List.mem_singleton.1 he]; simp only; omega⟩ x hc4 hn4 y (by rw [ee]; exact z)
  have lX := (lexL_max g1).1
  have lN := (lexL_max g3).1
  have cb := com_bounds (lexL (a ++ m ++ b)) (lexL (applyB (a ++ m ++ b) [⟨((f + a.size : Nat) : Int), ((t + a.size : Nat) : Int), N⟩]))
  have hT4 := HT.out.below HB4.out
  obtain ⟨S, hS⟩ : ∃ S, S = lexL (a ++ m ++ b) := ⟨_, rfl⟩
  obtain ⟨Z, hZ⟩ : ∃ Z, Z = lexL (applyB (a ++ m ++ b) [⟨((f + a.size : Nat) : Int), ((t + a.size : Nat) : Int), N⟩]) := ⟨_, rfl⟩
  rw [← hS] at HRX hE4 hc4 g8 g9 lX cb
  rw [← hZ] at HRX g8 g9 lN cb
  simp only [List.length_cons, List.length_nil, Nat.zero_add] at HRX
  have HRX := Lib.hid HRX
  have HE4 := Lib.hid hE4
  have HT4 := Lib.hid hT4
  have HG := Lib.hid (And.intro g8 g9)
  have HCB := Lib.hid cb
  rw [← hS]
  have s1 : IntKind.i64.wrap ((f : Int) + (a.size : Int)) = ((f + a.size : Nat) : Int) := by rw [IntWalk.i64_in _ (by omega)]; omega
  have s2 : IntKind.i64.wrap ((t : Int) + (a.size : Int)) = ((t + a.size : Nat) : Int) := by rw [IntWalk.i64_in _ (by omega)]; omega
  clear hS hZ hE4 hT4 g8 g9 cb ho4 hb4 e0 e1 e2 hbb3 g1 g2 g3 hn4 hc4
  go_wp2_with fail
  go_region_held3 (fun W => W.cell? ⟨bb, off, none⟩ = some (.int .i64 (f : Int)) ∧ W.cell? ⟨bb, off + 1, none⟩ = some (.int .i64 (t : Int)) ∧ W.cell? ⟨bb, off + 2, none⟩ = some (.string N))
    (exact ed_kept (by repeat (first | with_reducible exact Below.refl _ _ | with_reducible refine Below.drew ?_ | with_reducible refine below_drewN ?_ _ | with_reducible refine bel_alloc ?_ (Nat.le_refl _) | with_reducible refine below_callX ?_ (Nat.le_refl _) hb5)) hbb4 f0 f1 f2)
    ((go_at_call 25
      with_reducible refine (HRX.out _ ?_ ?_ ?_).mono ?_
      · exact HT4.out.below (by repeat (first | with_reducible exact Below.refl _ _ | with_reducible refine Below.drew ?_ | with_reducible refine below_drewN ?_ _ | with_reducible refine bel_alloc ?_ (Nat.le_refl _)))
      · exact HE4.out.below (by repeat (first | with_reducible exact Below.refl _ _ | with_reducible refine Below.drew ?_ | with_reducible refine below_drewN ?_ _ | with_reducible refine bel_alloc ?_ (Nat.le_refl _)))
      · exact eds_at rfl
      rintro e wA ⟨v5, f5, b5, rfl, ho5, hb5⟩))
  have hB5 : Below w4.heap.size w4 wA := (by repeat (first | with_reducible exact Below.refl _ _ | with_reducible refine Below.drew ?_ | with_reducible refine below_drewN ?_ _ | with_reducible refine bel_alloc ?_ (Nat.le_refl _) | with_reducible refine below_callX ?_ (Nat.le_refl _) hb5))
  obtain ⟨A5, c5, rfl, hE5, _⟩ := TksV.of_own ho5
  have HB5 := Lib.hid (HB4.out.trans (hB5.mono HB4.out.size))
  have HE5 := Lib.hid hE5
  have HE45 := Lib.hid (HE4.out.below hB5)
  clear ho5 hb5 hE5 hB5 f0 f1 f2 hbb4
  go_wp2_with fail
  refine (Common_ok c4 c5 A4 A5 S Z wA lX lN HE45.out HE5.out).mono ?_
  rintro e w6 ⟨rfl, n6, hw6⟩
  have HB6 : Hid (Below w.heap.size w w6) := Lib.hid (by subst hw6; exact below_drewN HB5.out _)
  have hcb := HCB.out
  have hg := HG.out
  generalize comF S Z = F at *
  generalize comT S Z = T at *
  clear hw6
  go_wp2_with fail
  refine (Lex_own a w6 (by omega) (HT.out.below HB6.out)).mono ?_
  rw [g6]
  rintro e w7 ⟨v7, rfl, ho7, hb7⟩
  have ho7' := own_shapeP ho7
  obtain ⟨A7, c7, rfl, _⟩ := ho7'
  have HB7 := Lib.hid (HB6.out.trans (hb7.mono HB6.out.size))
  clear ho7 hb7
  go_wp2_with fail
  refine (Lex_own b w7 (by omega) (HT.out.below HB7.out)).mono ?_
  rw [g7]
  rintro e w8 ⟨v8, rfl, ho8, hb8⟩
  obtain ⟨A8, c8, rfl, _⟩ := own_shapeP ho8
  have HB8 := Lib.hid (HB7.out.trans (hb8.mono HB7.out.size))
  clear ho8 hb8
  have hX : X ≤ F := hg.1
  have hXT : (X : Int) ≤ (F : Int) + (T : Int) := by omega
  have hM : min S.length (X + Y) ≤ F + T := hg.2
  have hFl : F ≤ 20000 := by omega
  have hTl : T ≤ 20000 := by omega
  have hXl : X ≤ 20000 := by omega
  have hSl : S.length ≤ 20000 := lX
  have hYl : Y ≤ 20000 := by have := (lexL_max (s := b) (by omega)).1; omega
  generalize S.length = n at *
  clear hg hcb HG HCB HE45 HE5 HE4 HT4 HRX lX lN ee s1 s2 g6 g7 zP zm zQ q1 q2 q2n q3 q3n n1 n2 n3
  go_wp2_with fail
  refine (alive4_any w8 (HT.out.below HB8.out)).mono ?_
  rintro e w9 ⟨rfl, hb9⟩
  go_wp2_with fail
  go_ret
  exact ⟨rfl, HB8.out.trans (hb9.mono HB8.out.size)⟩
end Go.Proofs.YtkdnacniligjjaaDoor.lawRelexLess
