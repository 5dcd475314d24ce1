/-
  The merger in memory: next.
-/
import Derived.Test.YtkdnacniligjjaaDoorRelexThenp6
import Derived.BigRegion
namespace Go.Proofs.YtkdnacniligjjaaDoor
set_option linter.unusedVariables false
set_option linter.unusedSimpArgs false
open Go.RowKit

theorem nx_S1 {w W : World} {b bF o1 o2 o3 k j : Nat} {X : ByteArray} {vf vs vp vm v1 v2 v3 : Value} {sh : Int} (h1 : W.heap[b]? = some (.cells (mgCells X vf vs vp k j sh vm) 98 (0, 0))) (h2 : W.heap[bF]? = w.heap[bF]?)
    (c1 : w.cell? ⟨bF, o1, none⟩ = some v1) (c2 : w.cell? ⟨bF, o2, none⟩ = some v2) (c3 : w.cell? ⟨bF, o3, none⟩ = some v3) :
    W.cell? ⟨b, 1, none⟩ = some vf ∧ W.cell? ⟨b, 4, none⟩ = some (.int .i64 (k : Int)) ∧ W.cell? ⟨bF, o1, none⟩ = some v1 ∧ W.cell? ⟨bF, o2, none⟩ = some v2 ∧ W.cell? ⟨bF, o3, none⟩ = some v3 := by
  have key : ∀ o, W.cell? ⟨bF, o, none⟩ = w.cell? ⟨bF, o, none⟩ := fun o => by simp only [World.cell?, h2]
  exact ⟨Lib.cell_of_heap h1 1, Lib.cell_of_heap h1 4, (key _).trans c1, (key _).trans c2, (key _).trans c3⟩
theorem nx_S2 {W : World} {b c k j : Nat} {X : ByteArray} {vf vs vp vm v1 v2 v3 : Value} {sh : Int} (h1 : W.heap[b]? = some (.cells (mgCells X vf vs vp k j sh vm) 98 (0, 0))) (h2 : W.heap[c]? = some (.cells #[v1, v2, v3] 47 (0, 0))) :
    W.cell? ⟨c, 0, none⟩ = some v1 ∧ W.cell? ⟨c, 1, none⟩ = some v2 ∧ W.cell? ⟨c, 2, none⟩ = some v3 ∧ W.cell? ⟨b, 6, none⟩ = some (.int .i64 sh) :=
  ⟨Lib.cell_of_heap h2 0, Lib.cell_of_heap h2 1, Lib.cell_of_heap h2 2, Lib.cell_of_heap h1 6⟩

/-- add, and what it leaves alone -/
theorem add_w (b ob : Nat) (X : ByteArray) (F G : List Ed) (A AG : Option Addr) (cf cg g base k j : Nat) (sh : Int) (ms : List Ed) (vm : Value) (e : Ed) (w0 w W : World) (hI : MgIn w0 b F G A AG g base) (hbo : b < ob) (hml : ms.length ≤ 100000)
    (hW : MgW w0 w b ob X F G A AG cf cg g k j sh ms vm) (hB : Below w.heap.size w W) :
    Calls Tryd.prog 99 #[.pointer (some ⟨b, 0, none⟩), .agg #[.int .i64 e.f, .int .i64 e.t, .string e.s]] W fun en w' => en = .returned (.tuple #[]) ∧ ∃ vm', MgW w0 w' b ob X F G A AG cf cg g k j sh (ms ++ [e]) vm' ∧ Below b w w' ∧ (∀ c, c < ob → c ≠ b → w'.heap[c]? = w.heap[c]?) ∧ ∀ c, c < W.heap.size → w.heap.size ≤ c → w'.heap[c]? = W.heap[c]? := by
  have hbl := lt_of_some hW.hb
  refine (add_any b ob X _ _ _ vm k j sh ms e W hbo (Nat.le_trans hW.obw hB.size) hml (ownsRow_below hW.own hB) ((hB.block b hbl).trans hW.hb)).mono ?_
  rintro en w' ⟨rfl, vm', h1, h2, h3, h4, h5⟩
  refine ⟨rfl, vm', ⟨(hW.old.trans (hB.mono hW.old.size)).trans (h3.mono hI.hb), h1, h2, Nat.le_trans (Nat.le_trans hW.obw hB.size) h3.size⟩, (hB.mono (Nat.le_of_lt hbl)).trans h3, fun c hc hne => (h4 c hc hne).trans (hB.block c (Nat.lt_of_lt_of_le hc hW.obw)), fun c hc hge => h5 c hc (by omega) (fun h => by have := (hW.own.lt _ h.symm).2; omega)⟩
theorem MgW.only {w0 w w' : World} {b ob : Nat} {X : ByteArray} {F G : List Ed} {A AG : Option Addr} {cf cg g k j k' j' : Nat} {sh sh' : Int} {ms : List Ed} {vm : Value} (h : MgW w0 w b ob X F G A AG cf cg g k j sh ms vm) (h0 : w0.heap.size ≤ b) (hbo : b < ob) (hO : Only b w w')
    (hb : w'.heap[b]? = some (.cells (mgCells X (.slice A F.length cf) (.slice AG G.length cg) (.slice (some ⟨g, 0, none⟩) F.length F.length) k' j' sh' vm) 98 (0, 0))) : MgW w0 w' b ob X F G A AG cf cg g k' j' sh' ms vm :=
  ⟨Only.old h0 h.old hO, hb, ownsRow_only h.own hbo hO, Nat.le_trans h.obw hO.2.1⟩
theorem MgW.blocks {w0 w w1 w2 : World} {b ob : Nat} {X : ByteArray} {F G : List Ed} {A AG : Option Addr} {cf cg g k j : Nat} {sh : Int} {ms : List Ed} {vm : Value} (h : MgW w0 w b ob X F G A AG cf cg g k j sh ms vm)
    (h1 : ∀ c, c < ob → c ≠ b → w1.heap[c]? = w.heap[c]?) (ho : ob ≤ w1.heap.size) (hO : Only b w1 w2) : ∀ c, c < ob → c ≠ b → w2.heap[c]? = w.heap[c]? :=
  fun c hc hne => (hO.2.2 c (Nat.lt_of_lt_of_le hc ho) hne).trans (h1 c hc hne)

set_option maxRecDepth 100000 in
set_option maxHeartbeats 1000000 in
theorem next_any (T X : ByteArray) (out : List UInt8) (F G : List Ed) (A AG : Option Addr) (cf cg g base b ob : Nat) (vm : Value) (ms : List Ed) (w0 w : World) (k j : Nat) (sh : Int)
    (hI : MgIn w0 b F G A AG g base) (hT : T.size ≤ 60000) (hX : X.size ≤ 60000) (hcg : G.length ≤ cg) (hbo : b < ob) (hS : SmAt T X out F G k j sh ms) (hW : MgW w0 w b ob X F G A AG cf cg g k j sh ms vm)
    (hmore : k < F.length ∨ j < G.length) :
    Calls Tryd.prog 65 #[.pointer (some ⟨b, 0, none⟩)] w fun e w' => e = .returned (.tuple #[]) ∧ ∃ (k' j' : Nat) (sh' : Int) (ms' : List Ed) (vm' : Value), k + j < k' + j' ∧
      SmAt T X out F G k' j' sh' ms' ∧ MgW w0 w' b ob X F G A AG cf cg g k' j' sh' ms' vm' ∧ Below b w w' ∧ ∀ c, c < ob → c ≠ b → w'.heap[c]? = w.heap[c]? := by
  have hbl := lt_of_some hW.hb
  have hlb : b < w.heap.size := hbl
  have hgl : g < w0.heap.size := (hI.sp.lt g rfl).2
  have hlg : g < w.heap.size := Nat.lt_of_lt_of_le hgl hW.old.size
  have hFl := hI.sF.1
  have hGl := hI.sG.1
  have hml := hS.hm
  have hk1 := hS.hk
  have hj1 := hS.hj
  have m1 : w.cell? ⟨b, 1, none⟩ = some (.slice A F.length cf) := Lib.cell_of_heap hW.hb 1
  have m2 : w.cell? ⟨b, 2, none⟩ = some (.slice AG G.length cg) := Lib.cell_of_heap hW.hb 2
  have m3 : w.cell? ⟨b, 3, none⟩ = some (.slice (some ⟨g, 0, none⟩) F.length F.length) := Lib.cell_of_heap hW.hb 3
  have m4 : w.cell? ⟨b, 4, none⟩ = some (.int .i64 (k : Int)) := Lib.cell_of_heap hW.hb 4
  have m5 : w.cell? ⟨b, 5, none⟩ = some (.int .i64 (j : Int)) := Lib.cell_of_heap hW.hb 5
  have m6 : w.cell? ⟨b, 6, none⟩ = some (.int .i64 sh) := Lib.cell_of_heap hW.hb 6
  have hshb : -60000 ≤ sh ∧ sh ≤ 60000 := by
    obtain ⟨a, p, hs⟩ := hS.semi
    have a1 := hs.hp
    have a2 := hs.ha
    have a3 := hs.hpX
    omega
  have HW := Lib.hid hW
  have HI := Lib.hid hI
  have HS := Lib.hid hS
  clear hW hI hS
  by_cases hj : j < G.length
  · obtain ⟨bG, oG, eG, hbG, c1, c2, c3⟩ := HI.out.eG.get hj
    obtain ⟨⟨Q, R, gs⟩, hG⟩ : ∃ x, x = G[j] := ⟨_, rfl⟩
    have x1 : w.cell? ⟨bG, oG + j * 3, none⟩ = some (.int .i64 Q) := by have h := (HW.out.old.cell hbG).trans c1; rw [← hG] at h; exact h
    have x2 : w.cell? ⟨bG, oG + j * 3 + 1, none⟩ = some (.int .i64 R) := by have h := (HW.out.old.cell hbG).trans c2; rw [← hG] at h; exact h
    have x3 : w.cell? ⟨bG, oG + j * 3 + 2, none⟩ = some (.string gs) := by have h := (HW.out.old.cell hbG).trans c3; rw [← hG] at h; exact h
    have hj2' : (j : Int) < (G.length : Int) := by omega
    have hjn : ((j : Int) == (G.length : Int)) = false := by simp; omega
    have hbGb : bG < b := Nat.lt_of_lt_of_le hbG HI.out.hb
    have HG := Lib.hid hG
    rw [eG] at m2
    clear c1 c2 c3 hG
    by_cases hk : k < F.length
    · obtain ⟨bF, oF, eA, hbF, c1, c2, c3⟩ := HI.out.eF.get hk
      have hkp : k < (placedL 0 F).length := by rw [placedL_length]; exact hk
      obtain ⟨z1, z2⟩ := sp_get HI.out.sp hkp
      have hpl := placedL_get 0 F k hk hkp
      rw [hpl, Int.zero_add, ← HS.out.hsh] at z1 z2
      obtain ⟨P1, hP1⟩ : ∃ P1, P1 = F[k].f + sh := ⟨_, rfl⟩
      obtain ⟨P2, hP2⟩ : ∃ P2, P2 = F[k].f + sh + F[k].s.size := ⟨_, rfl⟩
      obtain ⟨⟨ff, ft, fs⟩, hF⟩ : ∃ x, x = F[k] := ⟨_, rfl⟩
      have y1 : w.cell? ⟨bF, oF + k * 3, none⟩ = some (.int .i64 ff) := by have h := (HW.out.old.cell hbF).trans c1; rw [← hF] at h; exact h
      have y2 : w.cell? ⟨bF, oF + k * 3 + 1, none⟩ = some (.int .i64 ft) := by have h := (HW.out.old.cell hbF).trans c2; rw [← hF] at h; exact h
      have y3 : w.cell? ⟨bF, oF + k * 3 + 2, none⟩ = some (.string fs) := by have h := (HW.out.old.cell hbF).trans c3; rw [← hF] at h; exact h
      have d1 : w.cell? ⟨g, k * 2, none⟩ = some (.int .i64 P1) := by rw [hP1]; exact (HW.out.old.cell hgl).trans z1
      have d2 : w.cell? ⟨g, k * 2 + 1, none⟩ = some (.int .i64 P2) := by rw [hP2]; exact (HW.out.old.cell hgl).trans z2
      have hk2' : (k : Int) < (F.length : Int) := by omega
      have hkn : ((k : Int) == (F.length : Int)) = false := by simp; omega
      have hbFb : bF < b := Nat.lt_of_lt_of_le hbF HI.out.hb
      have HP1 := Lib.hid hP1
      have HP2 := Lib.hid hP2
      have HF := Lib.hid hF
      clear z1 z2 hpl c1 c2 c3 hP1 hP2 hF
      by_cases h1 : P2 < Q
      · have q1 : decide (P2 < Q) = true := decide_eq_true h1
        have hst : SmAt T X out F G (k + 1) j (sh + growE F[k]) (ms ++ [F[k]]) := HS.out.stepF hk (fun _ => by have a1 := HP2.out; have a2 := congrArg Ed.f HG.out; simp only at a2; omega)
        have had : ∀ W, Below w.heap.size w W → _ := fun W h => add_w b ob X F G A AG cf cg g base k j sh ms vm ⟨ff, ft, fs⟩ w0 w W HI.out hbo (by omega) HW.out h
        have HST := Lib.hid hst
        have HAD := Lib.hid had
        rw [eA] at m1
        clear hst had
        go_enter Tryd.func65, Tryd.ntmps65
        go_wp2_with fail
        go_quiet (fail)
        go_wp2_with fail
        go_region_held3 (fun W => W.cell? ⟨b, 1, none⟩ = some (.slice (some ⟨bF, oF, none⟩) F.length cf) ∧ W.cell? ⟨b, 4, none⟩ = some (.int .i64 (k : Int)) ∧ W.cell? ⟨bF, oF + k * 3, none⟩ = some (.int .i64 ff) ∧ W.cell? ⟨bF, oF + k * 3 + 1, none⟩ = some (.int .i64 ft) ∧ W.cell? ⟨bF, oF + k * 3 + 2, none⟩ = some (.string fs))
          (first | exact nx_S1 hbB hblkB y1 y2 y3 | exact nx_S1 (eA ▸ HW.out.hb) rfl y1 y2 y3)
          ((go_at_call 99
            with_reducible refine (HAD.out _ ?_).mono ?_
            · repeat (first | with_reducible exact Below.refl _ _ | with_reducible assumption | with_reducible refine Below.drew ?_ | with_reducible refine below_drewN ?_ _)
            rintro en wB ⟨rfl, vmB, hWB, hBB, hcB, hnB⟩
            have hblkB := hcB bF (by omega) (by omega)
            have hbB := eA ▸ hWB.hb))
        all_goals
          go_wp2_with fail
          with_reducible refine (takeFirst_any b X _ cf F _ _ vmB k j sh _ hk HI.out.sF HI.out.rF (by omega) (by omega) (eA ▸ HI.out.eF.below hWB.old) hbB).mono ?_
          rintro en w2 ⟨rfl, hb2, hO2⟩
          go_wp2_with fail
          go_end0
          have hW2 := hWB.only HI.out.hb hbo hO2 (eA.symm ▸ hb2)
          rw [HF.out] at hW2
          exact ⟨rfl, k + 1, j, _, _, vmB, by omega, HST.out, hW2, hBB.trans hO2.1, HW.out.blocks hcB hWB.obw hO2⟩
      · have q1 : decide (P2 < Q) = false := decide_eq_false h1
        by_cases h2 : R < P1
        · have q2 : decide (R < P1) = true := decide_eq_true h2
          have hst : SmAt T X out F G k (j + 1) sh (ms ++ [⟨G[j].f - sh, G[j].t - sh, G[j].s⟩]) := HS.out.stepG hj (fun _ => by have a1 := HP1.out; have a2 := congrArg Ed.t HG.out; simp only at a2; omega)
          have hQb := rising_get HI.out.rG hj
          rw [← HG.out] at hst hQb
          simp only at hst hQb
          have HST := Lib.hid hst
          clear hst
          go_enter Tryd.func65, Tryd.ntmps65
          go_wp2_with fail
          go_quiet (fail)
          obtain ⟨w1, hw1⟩ : ∃ w1, w1 = w.drewN nq := ⟨_, rfl⟩
          rw [← hw1]
          have e1 : ∀ a, w1.cell? a = w.cell? a := fun a => by rw [hw1]; rfl
          have hWa : MgW w0 w1 b ob X F G A AG cf cg g k j sh ms vm := by rw [hw1]; exact HW.out.only HI.out.hb hbo (Only.refl.drewN _) HW.out.hb
          have hWb : Below w.heap.size w w1 := by rw [hw1]; exact below_drewN (Below.refl _ _) _
          rw [← e1] at m2 m3 m4 m5 m6 x1 x2 x3 m1 d1 d2
          clear e1 hw1
          go_wp2_with fail
          go_quiet (fail)
          obtain ⟨w2, hw2⟩ : ∃ w2, w2 = w1.drewN nq := ⟨_, rfl⟩
          rw [← hw2]
          have e2 : ∀ a, w2.cell? a = w1.cell? a := fun a => by rw [hw2]; rfl
          have hWc : MgW w0 w2 b ob X F G A AG cf cg g k j sh ms vm := by rw [hw2]; exact hWa.only HI.out.hb hbo (Only.refl.drewN _) hWa.hb
          have hWd : Below w.heap.size w w2 := by rw [hw2]; exact below_drewN hWb _
          rw [← e2] at m2 m3 m4 m5 m6 x1 x2 x3 m1 d1 d2
          clear e2 hw2
          have had : ∀ vv (W : World), Below w2.heap.size w2 W → _ := fun (vv : ByteArray) (W : World) h => add_w b ob X F G A AG cf cg g base k j sh ms vm ⟨Q - sh, R - sh, vv⟩ w0 w2 W HI.out hbo (by omega) hWc h
          have HWc := Lib.hid hWc
          have HWd := Lib.hid hWd
          have HAD := Lib.hid had
          clear hWa hWb hWc hWd had
          have hbl2 := lt_of_some HWc.out.hb
          have hGl2 : bG < w2.heap.size := Nat.lt_of_lt_of_le hbG HWc.out.old.size
          have n1 : ¬ b = w2.heap.size := by omega
          have n2 : ¬ w2.heap.size = b := by omega
          have n5 : ¬ bG = w2.heap.size := by omega
          have n6 : ¬ w2.heap.size = bG := by omega
          have sQ : IntKind.i64.wrap (Q - sh) = Q - sh := IntWalk.i64_in _ (by omega)
          have sR : IntKind.i64.wrap (R - sh) = R - sh := IntWalk.i64_in _ (by omega)
          have sj1 : IntKind.i64.wrap ((j : Int) + 1) = ((j + 1 : Nat) : Int) := by rw [IntWalk.i64_in _ (by omega)]; omega
          go_wp2_with fail
          go_region
          obtain ⟨w3, hw3⟩ : ∃ w3, w3 = (w2.alloc (.cells #[.int .i64 Q, .int .i64 R, .string gs] 47)).drew := ⟨_, rfl⟩
          rw [← hw3]
          have hB3 : Below w2.heap.size w2 w3 := by rw [hw3]; exact Below.drew ((Below.refl _ _).alloc (Nat.le_refl _) _)
          have hE3 : w3.heap[w2.heap.size]? = some (.cells #[.int .i64 Q, .int .i64 R, .string gs] 47 (0, 0)) := by rw [hw3]; exact heap_alloc_new w2 _
          have hb3 := (hB3.block b hbl2).trans HWc.out.hb
          have l3 : w2.heap.size < w3.heap.size := lt_of_some hE3
          obtain ⟨p1, p2, p3, p4⟩ := nx_S2 hb3 hE3
          have Hb3 := Lib.hid hb3
          have HE3 := Lib.hid hE3
          clear hw3 hb3 hE3
          go_wp2_with fail
          go_region_held3 (fun W => W.cell? ⟨w2.heap.size, 0, none⟩ = some (.int .i64 Q) ∧ W.cell? ⟨w2.heap.size, 1, none⟩ = some (.int .i64 R) ∧ W.cell? ⟨w2.heap.size, 2, none⟩ = some (.string gs) ∧ W.cell? ⟨b, 6, none⟩ = some (.int .i64 sh))
            (first | exact nx_S2 hbB hEB | exact nx_S2 Hb3.out HE3.out)
            ((go_at_call 99
              with_reducible refine (HAD.out gs _ ?_).mono ?_
              · repeat (first | with_reducible exact hB3 | with_reducible refine Below.drew ?_ | with_reducible refine below_drewN ?_ _)
              rintro en wB ⟨rfl, vmB, hWB, hBB, hcB, hnB⟩
              have hbB := hWB.hb
              have hEB := (hnB w2.heap.size l3 (Nat.le_refl _)).trans HE3.out))
          all_goals
            have v5 : wB.cell? ⟨b, 5, none⟩ = some (.int .i64 (j : Int)) := Lib.cell_of_heap hbB 5
            have f5 : wB.frozen? ⟨b, 5, none⟩ = false := by simp [World.frozen?, hbB]
            have hW2 := hWB.only HI.out.hb hbo (Only.refl.set1 5 (.int .i64 ((j + 1 : Nat) : Int))) (mg_set5 (j' := j + 1) hbB)
            have HW2 := Lib.hid hW2
            clear hW2 hbB
            go_wp2_with fail
            go_end0
            refine ⟨rfl, k, j + 1, sh, _, vmB, by omega, HST.out, HW2.out, ((HWd.out.mono (Nat.le_of_lt hbl)).trans hBB).setCell (p := ⟨b, 5, none⟩) (Nat.le_refl _) _, fun c hc hne => ?_⟩
            rw [Below.heap_setCell _ _ _ _ hne]
            exact (hcB c hc hne).trans (HWd.out.block c (Nat.lt_of_lt_of_le hc HW.out.obw))
        · have q2 : decide (R < P1) = false := decide_eq_false h2
          have t1 : G[j].f ≤ F[k].f + sh + F[k].s.size := by have a1 := HP2.out; have a2 := congrArg Ed.f HG.out; simp only at a2; omega
          have t2 : F[k].f + sh ≤ G[j].t := by have a1 := HP1.out; have a2 := congrArg Ed.t HG.out; simp only at a2; omega
          have HT1 := Lib.hid t1
          have HT2 := Lib.hid t2
          clear t1 t2
          go_enter Tryd.func65, Tryd.ntmps65
          go_wp2_with fail
          go_quiet (fail)
          go_wp2_with fail
          go_quiet (fail)
          go_wp2_with fail
          have hWq : ∀ n, MgW w0 (w.drewN n) b ob X F G A AG cf cg g k j sh ms vm := fun n => HW.out.only HI.out.hb hbo (Only.refl.drewN n) HW.out.hb
          have HWq := Lib.hid hWq
          clear hWq
          with_reducible refine (addTouching_any T X out F G A AG cf cg g base b ob vm ms w0 _ k j sh HI.out hT hX hcg hbo HS.out (HWq.out _) hk hj HT1.out HT2.out).mono ?_
          rintro en w2 ⟨rfl, k', j', sh', ms', vm', h1, h2, h3, h4, h5⟩
          go_wp2_with fail
          go_end0
          exact ⟨rfl, k', j', sh', ms', vm', h1, h2, h3, (below_drewN (Below.refl _ _) _).trans h4, h5⟩
    · have hkn : ((k : Int) == (F.length : Int)) = true := by simp; omega
      have hst : SmAt T X out F G k (j + 1) sh (ms ++ [⟨G[j].f - sh, G[j].t - sh, G[j].s⟩]) := HS.out.stepG hj (fun h => absurd h hk)
      have hQb := rising_get HI.out.rG hj
      rw [← HG.out] at hst hQb
      simp only at hst hQb
      have HST := Lib.hid hst
      clear hst
      go_enter Tryd.func65, Tryd.ntmps65
      go_wp2_with fail
      go_quiet (fail)
      obtain ⟨w1, hw1⟩ : ∃ w1, w1 = w.drewN nq := ⟨_, rfl⟩
      rw [← hw1]
      have e1 : ∀ a, w1.cell? a = w.cell? a := fun a => by rw [hw1]; rfl
      have hWa : MgW w0 w1 b ob X F G A AG cf cg g k j sh ms vm := by rw [hw1]; exact HW.out.only HI.out.hb hbo (Only.refl.drewN _) HW.out.hb
      have hWb : Below w.heap.size w w1 := by rw [hw1]; exact below_drewN (Below.refl _ _) _
      rw [← e1] at m2 m3 m4 m5 m6 x1 x2 x3 m1
      clear e1 hw1
      go_wp2_with fail
      go_quiet (fail)
      obtain ⟨w2, hw2⟩ : ∃ w2, w2 = w1.drewN nq := ⟨_, rfl⟩
      rw [← hw2]
      have e2 : ∀ a, w2.cell? a = w1.cell? a := fun a => by rw [hw2]; rfl
      have hWc : MgW w0 w2 b ob X F G A AG cf cg g k j sh ms vm := by rw [hw2]; exact hWa.only HI.out.hb hbo (Only.refl.drewN _) hWa.hb
      have hWd : Below w.heap.size w w2 := by rw [hw2]; exact below_drewN hWb _
      rw [← e2] at m2 m3 m4 m5 m6 x1 x2 x3 m1
      clear e2 hw2
      have had : ∀ vv (W : World), Below w2.heap.size w2 W → _ := fun (vv : ByteArray) (W : World) h => add_w b ob X F G A AG cf cg g base k j sh ms vm ⟨Q - sh, R - sh, vv⟩ w0 w2 W HI.out hbo (by omega) hWc h
      have HWc := Lib.hid hWc
      have HWd := Lib.hid hWd
      have HAD := Lib.hid had
      clear hWa hWb hWc hWd had
      have hbl2 := lt_of_some HWc.out.hb
      have hGl2 : bG < w2.heap.size := Nat.lt_of_lt_of_le hbG HWc.out.old.size
      have n1 : ¬ b = w2.heap.size := by omega
      have n2 : ¬ w2.heap.size = b := by omega
      have n5 : ¬ bG = w2.heap.size := by omega
      have n6 : ¬ w2.heap.size = bG := by omega
      have sQ : IntKind.i64.wrap (Q - sh) = Q - sh := IntWalk.i64_in _ (by omega)
      have sR : IntKind.i64.wrap (R - sh) = R - sh := IntWalk.i64_in _ (by omega)
      have sj1 : IntKind.i64.wrap ((j : Int) + 1) = ((j + 1 : Nat) : Int) := by rw [IntWalk.i64_in _ (by omega)]; omega
      go_wp2_with fail
      go_region
      obtain ⟨w3, hw3⟩ : ∃ w3, w3 = (w2.alloc (.cells #[.int .i64 Q, .int .i64 R, .string gs] 47)).drew := ⟨_, rfl⟩
      rw [← hw3]
      have hB3 : Below w2.heap.size w2 w3 := by rw [hw3]; exact Below.drew ((Below.refl _ _).alloc (Nat.le_refl _) _)
      have hE3 : w3.heap[w2.heap.size]? = some (.cells #[.int .i64 Q, .int .i64 R, .string gs] 47 (0, 0)) := by rw [hw3]; exact heap_alloc_new w2 _
      have hb3 := (hB3.block b hbl2).trans HWc.out.hb
      have l3 : w2.heap.size < w3.heap.size := lt_of_some hE3
      obtain ⟨p1, p2, p3, p4⟩ := nx_S2 hb3 hE3
      have Hb3 := Lib.hid hb3
      have HE3 := Lib.hid hE3
      clear hw3 hb3 hE3
      go_wp2_with fail
      go_region_held3 (fun W => W.cell? ⟨w2.heap.size, 0, none⟩ = some (.int .i64 Q) ∧ W.cell? ⟨w2.heap.size, 1, none⟩ = some (.int .i64 R) ∧ W.cell? ⟨w2.heap.size, 2, none⟩ = some (.string gs) ∧ W.cell? ⟨b, 6, none⟩ = some (.int .i64 sh))
        (first | exact nx_S2 hbB hEB | exact nx_S2 Hb3.out HE3.out)
        ((go_at_call 99
          with_reducible refine (HAD.out gs _ ?_).mono ?_
          · repeat (first | with_reducible exact hB3 | with_reducible refine Below.drew ?_ | with_reducible refine below_drewN ?_ _)
          rintro en wB ⟨rfl, vmB, hWB, hBB, hcB, hnB⟩
          have hbB := hWB.hb
          have hEB := (hnB w2.heap.size l3 (Nat.le_refl _)).trans HE3.out))
      all_goals
        have v5 : wB.cell? ⟨b, 5, none⟩ = some (.int .i64 (j : Int)) := Lib.cell_of_heap hbB 5
        have f5 : wB.frozen? ⟨b, 5, none⟩ = false := by simp [World.frozen?, hbB]
        have hW2 := hWB.only HI.out.hb hbo (Only.refl.set1 5 (.int .i64 ((j + 1 : Nat) : Int))) (mg_set5 (j' := j + 1) hbB)
        have HW2 := Lib.hid hW2
        clear hW2 hbB
        go_wp2_with fail
        go_end0
        refine ⟨rfl, k, j + 1, sh, _, vmB, by omega, HST.out, HW2.out, ((HWd.out.mono (Nat.le_of_lt hbl)).trans hBB).setCell (p := ⟨b, 5, none⟩) (Nat.le_refl _) _, fun c hc hne => ?_⟩
        rw [Below.heap_setCell _ _ _ _ hne]
        exact (hcB c hc hne).trans (HWd.out.block c (Nat.lt_of_lt_of_le hc HW.out.obw))
  · have hk : k < F.length := by omega
    have hjn : ((j : Int) == (G.length : Int)) = true := by simp; omega
    obtain ⟨bF, oF, eA, hbF, c1, c2, c3⟩ := HI.out.eF.get hk
    have hkp : k < (placedL 0 F).length := by rw [placedL_length]; exact hk
    obtain ⟨z1, z2⟩ := sp_get HI.out.sp hkp
    have hpl := placedL_get 0 F k hk hkp
    rw [hpl, Int.zero_add, ← HS.out.hsh] at z1 z2
    obtain ⟨P1, hP1⟩ : ∃ P1, P1 = F[k].f + sh := ⟨_, rfl⟩
    obtain ⟨P2, hP2⟩ : ∃ P2, P2 = F[k].f + sh + F[k].s.size := ⟨_, rfl⟩
    obtain ⟨⟨ff, ft, fs⟩, hF⟩ : ∃ x, x = F[k] := ⟨_, rfl⟩
    have y1 : w.cell? ⟨bF, oF + k * 3, none⟩ = some (.int .i64 ff) := by have h := (HW.out.old.cell hbF).trans c1; rw [← hF] at h; exact h
    have y2 : w.cell? ⟨bF, oF + k * 3 + 1, none⟩ = some (.int .i64 ft) := by have h := (HW.out.old.cell hbF).trans c2; rw [← hF] at h; exact h
    have y3 : w.cell? ⟨bF, oF + k * 3 + 2, none⟩ = some (.string fs) := by have h := (HW.out.old.cell hbF).trans c3; rw [← hF] at h; exact h
    have d1 : w.cell? ⟨g, k * 2, none⟩ = some (.int .i64 P1) := by rw [hP1]; exact (HW.out.old.cell hgl).trans z1
    have d2 : w.cell? ⟨g, k * 2 + 1, none⟩ = some (.int .i64 P2) := by rw [hP2]; exact (HW.out.old.cell hgl).trans z2
    have hk2' : (k : Int) < (F.length : Int) := by omega
    have hkn : ((k : Int) == (F.length : Int)) = false := by simp; omega
    have hbFb : bF < b := Nat.lt_of_lt_of_le hbF HI.out.hb
    have HP1 := Lib.hid hP1
    have HP2 := Lib.hid hP2
    have HF := Lib.hid hF
    clear z1 z2 hpl c1 c2 c3 hP1 hP2 hF
    have hst : SmAt T X out F G (k + 1) j (sh + growE F[k]) (ms ++ [F[k]]) := HS.out.stepF hk (fun h => absurd h hj)
    have had : ∀ W, Below w.heap.size w W → _ := fun W h => add_w b ob X F G A AG cf cg g base k j sh ms vm ⟨ff, ft, fs⟩ w0 w W HI.out hbo (by omega) HW.out h
    have HST := Lib.hid hst
    have HAD := Lib.hid had
    rw [eA] at m1
    clear hst had
    go_enter Tryd.func65, Tryd.ntmps65
    go_wp2_with fail
    go_quiet (fail)
    go_wp2_with fail
    go_region_held3 (fun W => W.cell? ⟨b, 1, none⟩ = some (.slice (some ⟨bF, oF, none⟩) F.length cf) ∧ W.cell? ⟨b, 4, none⟩ = some (.int .i64 (k : Int)) ∧ W.cell? ⟨bF, oF + k * 3, none⟩ = some (.int .i64 ff) ∧ W.cell? ⟨bF, oF + k * 3 + 1, none⟩ = some (.int .i64 ft) ∧ W.cell? ⟨bF, oF + k * 3 + 2, none⟩ = some (.string fs))
      (first | exact nx_S1 hbB hblkB y1 y2 y3 | exact nx_S1 (eA ▸ HW.out.hb) rfl y1 y2 y3)
      ((go_at_call 99
        with_reducible refine (HAD.out _ ?_).mono ?_
        · repeat (first | with_reducible exact Below.refl _ _ | with_reducible assumption | with_reducible refine Below.drew ?_ | with_reducible refine below_drewN ?_ _)
        rintro en wB ⟨rfl, vmB, hWB, hBB, hcB, hnB⟩
        have hblkB := hcB bF (by omega) (by omega)
        have hbB := eA ▸ hWB.hb))
    all_goals
      go_wp2_with fail
      with_reducible refine (takeFirst_any b X _ cf F _ _ vmB k j sh _ hk HI.out.sF HI.out.rF (by omega) (by omega) (eA ▸ HI.out.eF.below hWB.old) hbB).mono ?_
      rintro en w2 ⟨rfl, hb2, hO2⟩
      go_wp2_with fail
      go_end0
      have hW2 := hWB.only HI.out.hb hbo hO2 (eA.symm ▸ hb2)
      rw [HF.out] at hW2
      exact ⟨rfl, k + 1, j, _, _, vmB, by omega, HST.out, hW2, hBB.trans hO2.1, HW.out.blocks hcB hWB.obw hO2⟩
end Go.Proofs.YtkdnacniligjjaaDoor
