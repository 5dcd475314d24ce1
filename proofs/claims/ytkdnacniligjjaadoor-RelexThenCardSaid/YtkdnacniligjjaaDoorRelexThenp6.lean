/-
  The merger in memory: addTouching.
-/
import Derived.Test.YtkdnacniligjjaaDoorRelexThenp4
import Derived.Test.YtkdnacniligjjaaDoorRelexThenp5
import Derived.Test.YtkdnacniligjjaaDoorRelexCommonsp20
import Derived.Deep.RegionLaw
namespace Go.Proofs.YtkdnacniligjjaaDoor
set_option linter.unusedVariables false
set_option linter.unusedSimpArgs false
open Go.RowKit

theorem ownsRow_only {b base e size n : Nat} {w w' : World} {v : Value} {xs : List Value} (h : w.ownsRow base e size v n xs) (hbb : b < base) (hO : Only b w w') : w'.ownsRow base e size v n xs := by
  refine ⟨h.1, ?_⟩
  rcases h.2 with h | ⟨g, cap, cur, hv, hg, hh, h1, h2, h3, h4⟩
  · exact .inl h
  · have hlt : g < w.heap.size := by
      rcases Nat.lt_or_ge g w.heap.size with h | h
      · exact h
      · rw [Array.getElem?_eq_none h] at hh; cases hh
    exact .inr ⟨g, cap, cur, hv, hg, (hO.2.2 g hlt (by omega)).trans hh, h1, h2, h3, h4⟩
theorem Only.setNew {b c i : Nat} {w w1 : World} (h : Only b w w1) (hbw : b < w.heap.size) (hc : w.heap.size ≤ c) (u : Value) : Only b w (w1.setCell ⟨c, i, none⟩ u) := by
  refine ⟨h.1.setCell (p := ⟨c, i, none⟩) (by simp; omega) u, Nat.le_trans h.2.1 (by simp [World.setCell]), fun x hx hne => ?_⟩
  rw [Below.heap_setCell _ _ _ _ (by simp; omega)]; exact h.2.2 x hx hne
theorem EdsV.part {w : World} {b off : Nat} {l : List Ed} (h : EdsV w (some ⟨b, off, none⟩) l) (s n : Nat) : EdsV w (some ⟨b, off + s * 3, none⟩) ((l.drop s).take n) := by
  intro hl
  have hl0 : 0 < l.length := by simp at hl; omega
  obtain ⟨b', off', e, hb, hg⟩ := h hl0
  injection e with e
  injection e with e1 e2
  subst e1 e2
  refine ⟨b, _, rfl, hb, fun i x hx => ?_⟩
  have hx' : l[s + i]? = some x := by
    rw [List.getElem?_take] at hx
    split at hx
    · rw [List.getElem?_drop] at hx; exact hx
    · cases hx
  obtain ⟨h1, h2, h3⟩ := hg (s + i) x hx'
  have ea : off + (s + i) * 3 = off + s * 3 + i * 3 := by omega
  rw [ea] at h1 h2 h3
  exact ⟨h1, h2, h3⟩

/-- the merger stands in block b, and the merged ones in memory of its own -/
structure MgW (w0 w : World) (b ob : Nat) (X : ByteArray) (F G : List Ed) (A AG : Option Addr) (cf cg g k j : Nat) (sh : Int) (ms : List Ed) (vm : Value) : Prop where
  old : Below w0.heap.size w0 w
  hb : w.heap[b]? = some (.cells (mgCells X (.slice A F.length cf) (.slice AG G.length cg) (.slice (some ⟨g, 0, none⟩) F.length F.length) k j sh vm) 98 (0, 0))
  own : w.ownsRow ob 47 3 vm ms.length (edsCells ms)
  obw : ob ≤ w.heap.size
theorem lt_of_some {w : World} {b : Nat} {o : Obj} (h : w.heap[b]? = some o) : b < w.heap.size := by
  rcases Nat.lt_or_ge b w.heap.size with h' | h'
  · exact h'
  · rw [Array.getElem?_eq_none h'] at h; cases h

def MgS (b c j : Nat) (X : ByteArray) (vs : Value) (x z sh : Int) (W : World) : Prop :=
  W.cell? ⟨c, 0, none⟩ = some (.int .i64 x) ∧ W.cell? ⟨c, 1, none⟩ = some (.int .i64 z) ∧ W.cell? ⟨b, 0, none⟩ = some (.string X) ∧ W.cell? ⟨b, 2, none⟩ = some vs ∧ W.cell? ⟨b, 5, none⟩ = some (.int .i64 (j : Int)) ∧ W.cell? ⟨b, 6, none⟩ = some (.int .i64 sh)
theorem at_S {W : World} {b c k j : Nat} {X : ByteArray} {vf vs vp vm : Value} {sh x z : Int} (h1 : W.heap[b]? = some (.cells (mgCells X vf vs vp k j sh vm) 98 (0, 0))) (h2 : W.heap[c]? = some (.cells #[.int .i64 x, .int .i64 z] 84 (0, 0))) :
    W.cell? ⟨c, 0, none⟩ = some (.int .i64 x) ∧ W.cell? ⟨c, 1, none⟩ = some (.int .i64 z) ∧ W.cell? ⟨b, 0, none⟩ = some (.string X) ∧ W.cell? ⟨b, 2, none⟩ = some vs ∧ W.cell? ⟨b, 5, none⟩ = some (.int .i64 (j : Int)) ∧ W.cell? ⟨b, 6, none⟩ = some (.int .i64 sh) :=
  ⟨Lib.cell_of_heap h2 0, Lib.cell_of_heap h2 1, Lib.cell_of_heap h1 0, Lib.cell_of_heap h1 2, Lib.cell_of_heap h1 5, Lib.cell_of_heap h1 6⟩

set_option maxRecDepth 100000 in
set_option maxHeartbeats 1000000 in
theorem addTouching_any (T X : ByteArray) (out : List UInt8) (F G : List Ed) (A AG : Option Addr) (cf cg g base b ob : Nat) (vm : Value) (ms : List Ed) (w0 w : World) (k j : Nat) (sh : Int)
    (hI : MgIn w0 b F G A AG g base) (hT : T.size ≤ 60000) (hX : X.size ≤ 60000) (hcg : G.length ≤ cg) (hbo : b < ob) (hS : SmAt T X out F G k j sh ms) (hW : MgW w0 w b ob X F G A AG cf cg g k j sh ms vm)
    (hk : k < F.length) (hj : j < G.length) (t1 : G[j].f ≤ F[k].f + sh + F[k].s.size) (t2 : F[k].f + sh ≤ G[j].t) :
    Calls Tryd.prog 101 #[.pointer (some ⟨b, 0, none⟩)] w fun e w' => e = .returned (.tuple #[]) ∧ ∃ (k' j' : Nat) (sh' : Int) (ms' : List Ed) (vm' : Value), k + j < k' + j' ∧
      SmAt T X out F G k' j' sh' ms' ∧ MgW w0 w' b ob X F G A AG cf cg g k' j' sh' ms' vm' ∧ Below b w w' ∧ ∀ c, c < ob → c ≠ b → w'.heap[c]? = w.heap[c]? := by
  obtain ⟨A0, fr, l1, l2, y, u, eA, eF, hTk, hfin⟩ := hS.start hk hj t1 t2
  have hbl := lt_of_some hW.hb
  have hlb : b < w.heap.size := hbl
  have hgl : g < w0.heap.size := (hI.sp.lt g rfl).2
  have hlg : g < w.heap.size := Nat.lt_of_lt_of_le hgl hW.old.size
  have hFl := hI.sF.1
  have hGl := hI.sG.1
  have hml := hS.hm
  have m1 : w.cell? ⟨b, 1, none⟩ = some (.slice A F.length cf) := Lib.cell_of_heap hW.hb 1
  have m2 : w.cell? ⟨b, 2, none⟩ = some (.slice AG G.length cg) := Lib.cell_of_heap hW.hb 2
  have m3 : w.cell? ⟨b, 3, none⟩ = some (.slice (some ⟨g, 0, none⟩) F.length F.length) := Lib.cell_of_heap hW.hb 3
  have m4 : w.cell? ⟨b, 4, none⟩ = some (.int .i64 (k : Int)) := Lib.cell_of_heap hW.hb 4
  have m5 : w.cell? ⟨b, 5, none⟩ = some (.int .i64 (j : Int)) := Lib.cell_of_heap hW.hb 5
  have m6 : w.cell? ⟨b, 6, none⟩ = some (.int .i64 sh) := Lib.cell_of_heap hW.hb 6
  obtain ⟨bG, oG, rfl, hbG, z1, z2, z3⟩ := hI.eG.get hj
  have hlG : bG < w.heap.size := Nat.lt_of_lt_of_le hbG hW.old.size
  have x1 : w.cell? ⟨bG, oG + j * 3, none⟩ = some (.int .i64 G[j].f) := (hW.old.cell hbG).trans z1
  have hkp : k < (placedL 0 F).length := by rw [placedL_length]; exact hk
  obtain ⟨c1, c2⟩ := sp_get hI.sp hkp
  have hpl := placedL_get 0 F k hk hkp
  rw [hpl, Int.zero_add, ← hS.hsh] at c1
  have d1 : w.cell? ⟨g, k * 2, none⟩ = some (.int .i64 (F[k].f + sh)) := (hW.old.cell hgl).trans c1
  have hk2' : (k : Int) < (F.length : Int) := by omega
  have hj2' : (j : Int) < (G.length : Int) := by omega
  have hshb : -60000 ≤ sh ∧ sh ≤ 60000 := by
    obtain ⟨a, p, hs⟩ := hS.semi
    have a1 := hs.hp
    have a2 := hs.ha
    have a3 := hs.hpX
    omega
  have hWo := Lib.hid hW.own
  have HTk := Lib.hid hTk
  have Hfin := Lib.hid hfin
  have HW := Lib.hid hW
  have HI := Lib.hid hI
  have HS := Lib.hid hS
  generalize hP : F[k].f + sh = P at eA d1
  generalize hQ : G[j].f = Q at eA x1
  have HPQ := Lib.hid (And.intro hP hQ)
  have hmin : min P Q = (A0 : Int) := eA.symm
  have sA : IntKind.i64.wrap ((A0 : Int) - sh) = (fr : Int) := by
    have a1 := HTk.out.mid.hfr
    have a2 := HTk.out.mid.hy
    rw [IntWalk.i64_in _ (by omega)]; omega
  have HEF := Lib.hid eF
  clear eF hP hQ t1 t2 hW hI hS hTk hfin c1 c2 z1 z2 z3 hpl eA
  go_enter Tryd.func101, Tryd.ntmps101
  go_wp2_with fail
  have n1 : ¬ b = w.heap.size := by omega
  have n2 : ¬ w.heap.size = b := by omega
  have n3 : ¬ g = w.heap.size := by omega
  have n4 : ¬ w.heap.size = g := by omega
  have n5 : ¬ bG = w.heap.size := by omega
  have n6 : ¬ w.heap.size = bG := by omega
  go_region_held3 (fun w' => w'.cell? ⟨b, 2, none⟩ = some (.slice (some ⟨bG, oG, none⟩) G.length cg) ∧ w'.cell? ⟨b, 3, none⟩ = some (.slice (some ⟨g, 0, none⟩) F.length F.length) ∧ w'.cell? ⟨b, 4, none⟩ = some (.int .i64 (k : Int)) ∧ w'.cell? ⟨b, 5, none⟩ = some (.int .i64 (j : Int)) ∧ w'.cell? ⟨g, k * 2, none⟩ = some (.int .i64 P) ∧ w'.cell? ⟨bG, oG + j * 3, none⟩ = some (.int .i64 Q))
    (first | (go_keep; done) | (refine ⟨?_, ?_, ?_, ?_, ?_, ?_⟩ <;> (go_keep; done))) (fail)
  all_goals
    go_wp2_with fail
    go_quiet (fail)
    go_wp2_with fail
    have hO1 : ∀ n, Only b w ((w.alloc (.cells #[.int .i64 (A0 : Int), .int .i64 0] 84)).drewN n) := fun n => ⟨below_drewN (((Below.refl _ _).alloc (Nat.le_refl _) _).mono (Nat.le_of_lt hbl)) n, by simp [World.drewN], fun c hc _ => (Below.alloc (Below.refl w.heap.size w) (Nat.le_refl _) _).block c hc⟩
    have hall1 : ∀ n, ((w.alloc (.cells #[.int .i64 (A0 : Int), .int .i64 0] 84)).drewN n).heap[w.heap.size]? = some (.cells #[.int .i64 (A0 : Int), .int .i64 0] 84 (0, 0)) := fun n => heap_alloc_new w _
    have hbb1 : ∀ n, ((w.alloc (.cells #[.int .i64 (A0 : Int), .int .i64 0] 84)).drewN n).heap[b]? = some (.cells (mgCells X (.slice A F.length cf) (.slice (some ⟨bG, oG, none⟩) G.length cg) (.slice (some ⟨g, 0, none⟩) F.length F.length) k j sh vm) 98 (0, 0)) := fun n => ((Below.alloc (Below.refl w.heap.size w) (Nat.le_refl _) _).block b hbl).trans HW.out.hb
    have HB1 := Lib.hid hbb1
    have HO1 := Lib.hid hO1
    have HA1 := Lib.hid hall1
    clear hO1 hall1 hbb1
    with_reducible refine (takeFirst_any b X A cf F _ _ vm k j sh _ hk HI.out.sF HI.out.rF (by omega) (by omega) (HI.out.eF.below (Only.old HI.out.hb HW.out.old (HO1.out _))) (HB1.out _)).mono ?_
    rintro e w2 ⟨rfl, hb2, hO2⟩
    have hO2w := (HO1.out _).trans hO2
    have hal2 := (hO2.2.2 w.heap.size (by simp [World.drewN]) (by omega)).trans (HA1.out _)
    have hl2 := lt_of_some hb2
    have v5 : w2.cell? ⟨b, 5, none⟩ = some (.int .i64 (j : Int)) := Lib.cell_of_heap hb2 5
    have f5 : w2.frozen? ⟨b, 5, none⟩ = false := by simp [World.frozen?, hb2]
    have sj1 : IntKind.i64.wrap ((j : Int) + 1) = ((j + 1 : Nat) : Int) := by rw [IntWalk.i64_in _ (by omega)]; omega
    go_wp2_with fail
    rw [show ((j : Int) + 1) = ((j + 1 : Nat) : Int) from rfl]
    with_reducible refine (takeTouching_any T X F G (G.drop j) A0 fr j A _ cf cg g base b vm w0 _ (k + 1) (j + 1) l1 l2 G[j] y u (sh + growE F[k]) HI.out hT hX HTk.out (Only.old HI.out.hb HW.out.old (hO2w.set1 5 _)) (mg_set5 hb2)).mono ?_
    rintro e w4 ⟨rfl, k', j', l1', l2', lg', y', u', sh', hkk, hT', hE', hb4, hO4⟩
    have hO4w := (hO2w.set1 5 _).trans hO4
    have hl4 := lt_of_some hb4
    have hal4 : w4.heap[w.heap.size]? = some (.cells #[.int .i64 (A0 : Int), .int .i64 0] 84 (0, 0)) := by
      refine (hO4.2.2 w.heap.size ?_ (by omega)).trans ?_
      · have := hO2w.2.1
        have h3 := lt_of_some hal2
        simp [World.setCell]; exact h3
      · rw [Below.heap_setCell _ _ _ _ (by simp; omega)]; exact hal2
    have hB4 := Only.old HI.out.hb HW.out.old hO4w
    have hk0 := hT'.hk0
    have hk1 := hT'.hk
    have hj0 := hT'.hj0
    have hj1 := hT'.hj
    obtain ⟨hjl, hjg⟩ := List.getElem?_eq_some_iff.1 hT'.hg
    obtain ⟨bG', oG', eG', _, z1, z2, z3⟩ := HI.out.eG.get hjl
    injection eG' with eG'
    injection eG' with eG1 eG2
    subst eG1 eG2
    rw [hjg, hT'.mid.hu] at z2
    have hkpl : k' - 1 < (placedL 0 F).length := by rw [placedL_length]; omega
    obtain ⟨a1, a2⟩ := sp_get HI.out.sp hkpl
    have hpk1 : (placedL 0 F)[k' - 1] = ((l1' : Int), (l2' : Int)) := by have h := hT'.hl; rw [List.getElem?_eq_getElem hkpl] at h; injection h
    rw [hpk1] at a2
    have q2 : w4.cell? ⟨b, 2, none⟩ = some (.slice (some ⟨bG, oG, none⟩) G.length cg) := Lib.cell_of_heap hb4 2
    have q3 : w4.cell? ⟨b, 3, none⟩ = some (.slice (some ⟨g, 0, none⟩) F.length F.length) := Lib.cell_of_heap hb4 3
    have q4 : w4.cell? ⟨b, 4, none⟩ = some (.int .i64 (k' : Int)) := Lib.cell_of_heap hb4 4
    have q5 : w4.cell? ⟨b, 5, none⟩ = some (.int .i64 (j' : Int)) := Lib.cell_of_heap hb4 5
    have q6 : w4.cell? ⟨g, (k' - 1) * 2 + 1, none⟩ = some (.int .i64 (l2' : Int)) := (hB4.cell hgl).trans a2
    have q7 : w4.cell? ⟨bG, oG + (j' - 1) * 3 + 1, none⟩ = some (.int .i64 (u' : Int)) := (hB4.cell hbG).trans z2
    have q8 : w4.cell? ⟨w.heap.size, 1, none⟩ = some (.int .i64 0) := Lib.cell_of_heap hal4 1
    have q9 : w4.frozen? ⟨w.heap.size, 1, none⟩ = false := by simp [World.frozen?, hal4]
    have sj : IntKind.i64.wrap ((j' : Int) - 1) = ((j' - 1 : Nat) : Int) := by rw [IntWalk.i64_in _ (by omega)]; omega
    have sk : IntKind.i64.wrap ((k' : Int) - 1) = ((k' - 1 : Nat) : Int) := by rw [IntWalk.i64_in _ (by omega)]; omega
    have hjl' : ((j' - 1 : Nat) : Int) < (G.length : Int) := by omega
    have hkl' : ((k' - 1 : Nat) : Int) < (F.length : Int) := by omega
    obtain ⟨Z, hZ⟩ : ∃ Z, Z = max l2' u' := ⟨_, rfl⟩
    have hmax : max (l2' : Int) (u' : Int) = (Z : Int) := by omega
    obtain ⟨a', ea', ha1, ha2, ha3, hSm⟩ := Hfin.out k' j' l1' l2' y' u' lg' sh' hT' hE' (by omega)
    rw [← hZ] at ea' ha1 ha2 ha3 hSm
    have HSm := Lib.hid hSm
    have HT' := Lib.hid hT'
    have HZ := Lib.hid hZ
    have HB4 := Lib.hid hb4
    have HO4w := Lib.hid hO4w
    have HAL4 := Lib.hid hal4
    have Hr := Lib.hid ha3
    clear hSm hT' hE' hO4 hO2w hO2 hb2 hb4 hO4w hal4 hal2 hZ a1 a2 z1 z2 z3 hpk1 v5 f5 m1 m2 m3 m4 m5 m6 x1 d1 ha3 hjg hmin
    go_wp2_with fail
    go_region_held3 (fun w' => w'.cell? ⟨b, 2, none⟩ = some (.slice (some ⟨bG, oG, none⟩) G.length cg) ∧ w'.cell? ⟨b, 3, none⟩ = some (.slice (some ⟨g, 0, none⟩) F.length F.length) ∧ w'.cell? ⟨b, 4, none⟩ = some (.int .i64 (k' : Int)) ∧ w'.cell? ⟨b, 5, none⟩ = some (.int .i64 (j' : Int)) ∧ w'.cell? ⟨g, (k' - 1) * 2 + 1, none⟩ = some (.int .i64 (l2' : Int)) ∧ w'.cell? ⟨bG, oG + (j' - 1) * 3 + 1, none⟩ = some (.int .i64 (u' : Int)))
      (first | (go_keep; done) | (refine ⟨?_, ?_, ?_, ?_, ?_, ?_⟩ <;> (go_keep; done))) (fail)
    go_wp2_with fail
    obtain ⟨w5, hw5⟩ : ∃ w5, w5 = (w4.setCell ⟨w.heap.size, 1, none⟩ (.int .i64 (Z : Int))).drew := ⟨_, rfl⟩
    rw [← hw5]
    have hO5 : Only b w w5 := by rw [hw5]; exact (HO4w.out.setNew hbl (Nat.le_refl _) _).drewN 1
    have hb5 : w5.heap[b]? = some (.cells (mgCells X (.slice A F.length cf) (.slice (some ⟨bG, oG, none⟩) G.length cg) (.slice (some ⟨g, 0, none⟩) F.length F.length) k' j' sh' vm) 98 (0, 0)) := by
      rw [hw5]
      refine Eq.trans (Below.heap_setCell _ _ _ _ (by simp; omega)) HB4.out
    have hal5 : w5.heap[w.heap.size]? = some (.cells #[.int .i64 (A0 : Int), .int .i64 (Z : Int)] 84 (0, 0)) := by
      rw [hw5]
      change (w4.setCell ⟨w.heap.size, 1, none⟩ (.int .i64 (Z : Int))).heap[w.heap.size]? = _
      unfold World.setCell
      simp only [Array.getElem?_modify, HAL4.out]
      simp
    have hown5 := ownsRow_only hWo.out hbo hO5
    have hl5 := lt_of_some hb5
    have hla5 := lt_of_some hal5
    have hB5 := Only.old HI.out.hb HW.out.old hO5
    have hTl : ((G.drop j).take (j' - j)).length = j' - j := by rw [List.length_take, List.length_drop]; omega
    have hE5 : EdsV w5 (some ⟨bG, oG + j * 3, none⟩) ((G.drop j).take (j' - j)) := (HI.out.eG.below hB5).part j (j' - j)
    have hTs : Small ((G.drop j).take (j' - j)) := (HI.out.sG.drop j).take _
    have hed : ∀ W c, EdsV W (some ⟨bG, oG + j * 3, none⟩) ((G.drop j).take (j' - j)) → Calls Tryd.prog 63 #[.string X, .agg #[.int .i64 A0, .int .i64 Z], .slice (some ⟨bG, oG + j * 3, none⟩) (j' - j) c] W fun e w' => e = .returned (.string (mkB (editedL X Z A0 ((G.drop j).take (j' - j))))) ∧ Below W.heap.size W w' := fun W c h => by
      have h2 := edited_any X A0 Z c _ _ W hTs hX ha1 ha2 Hr.out h
      rw [hTl] at h2; exact h2
    generalize mkB (editedL X Z A0 ((G.drop j).take (j' - j))) = NW at hed HSm
    have HED := Lib.hid hed
    have HB5 := Lib.hid hb5
    have HA5 := Lib.hid hal5
    have HOW := Lib.hid hown5
    have HE5 := Lib.hid hE5
    have HOB : Hid (ob ≤ w5.heap.size) := Lib.hid (Nat.le_trans HW.out.obw hO5.2.1)
    have HO5 := Lib.hid hO5
    have hs1 : (j : Int) ≤ (j' : Int) := by omega
    have hs2 : (j' : Int) ≤ (cg : Int) := by omega
    have sZ : IntKind.i64.wrap ((Z : Int) - sh') = (a' : Int) := by
      have a1 := HT'.out.mid.hl
      have a2 := HT'.out.mid.hy
      have a3 := HT'.out.mid.hlX
      rw [IntWalk.i64_in _ (by omega)]; omega
    have hml2 : ms.length ≤ 100000 := by omega
    have had : ∀ W, Below w5.heap.size w5 W → Calls Tryd.prog 99 #[.pointer (some ⟨b, 0, none⟩), .agg #[.int .i64 (fr : Int), .int .i64 (a' : Int), .string NW]] W fun e wB => e = .returned (.tuple #[]) ∧
        ∃ vm', wB.heap[b]? = some (.cells (mgCells X (.slice A F.length cf) (.slice (some ⟨bG, oG, none⟩) G.length cg) (.slice (some ⟨g, 0, none⟩) F.length F.length) k' j' sh' vm') 98 (0, 0)) ∧ wB.ownsRow ob 47 3 vm' (ms ++ [(⟨fr, a', NW⟩ : Ed)]).length (edsCells (ms ++ [(⟨fr, a', NW⟩ : Ed)])) ∧
          Below b w wB ∧ Below w0.heap.size w0 wB ∧ (∀ c, c < ob → c ≠ b → wB.heap[c]? = w.heap[c]?) ∧ wB.heap[w.heap.size]? = some (.cells #[.int .i64 (A0 : Int), .int .i64 (Z : Int)] 84 (0, 0)) ∧ ob ≤ wB.heap.size := fun W hW5 => by
      refine (add_any b ob X _ _ _ vm k' j' sh' ms ⟨fr, a', NW⟩ W hbo (Nat.le_trans HOB.out hW5.size) hml2 (ownsRow_below HOW.out hW5) ((hW5.block b hl5).trans HB5.out)).mono ?_
      rintro e wB ⟨rfl, vm', hbB, hownB, hBB, hoB, hcB⟩
      refine ⟨rfl, vm', hbB, hownB, (HO5.out.1.trans (hW5.mono (Nat.le_of_lt hl5))).trans hBB, (hB5.trans (hW5.mono hB5.size)).trans (hBB.mono HI.out.hb), fun c hc hne => ?_, ?_, Nat.le_trans (Nat.le_trans HOB.out hW5.size) hBB.size⟩
      · have hcw : c < w.heap.size := Nat.lt_of_lt_of_le hc HW.out.obw
        exact (hoB c hc hne).trans ((hW5.block c (Nat.lt_of_lt_of_le hcw HO5.out.2.1)).trans (HO5.out.2.2 c hcw hne))
      · exact (hcB w.heap.size (Nat.lt_of_lt_of_le hla5 hW5.size) (by omega) (fun h => by have := (hWo.out.lt _ h.symm).2; omega)).trans ((hW5.block _ hla5).trans HA5.out)
    have HAD := Lib.hid had
    have ncj : ¬ cg = j := by omega
    obtain ⟨p1, p2, p3, p4, p5, p6⟩ := at_S hb5 hal5
    clear had
    clear hw5 hO5 hb5 hal5 hown5 hE5 hTl hed hTs q2 q3 q4 q5 q6 q7 q8 q9 ea' hmax
    go_region_held3 (fun W => W.cell? ⟨w.heap.size, 0, none⟩ = some (.int .i64 (A0 : Int)) ∧ W.cell? ⟨w.heap.size, 1, none⟩ = some (.int .i64 (Z : Int)) ∧ W.cell? ⟨b, 0, none⟩ = some (.string X) ∧ W.cell? ⟨b, 2, none⟩ = some (.slice (some ⟨bG, oG, none⟩) G.length cg) ∧ W.cell? ⟨b, 5, none⟩ = some (.int .i64 (j' : Int)) ∧ W.cell? ⟨b, 6, none⟩ = some (.int .i64 sh'))
      (first | exact at_S hbB halB | (refine at_S ((Below.block (w := w5) (B := w5.heap.size) (by repeat (first | with_reducible exact Below.refl _ _ | with_reducible assumption | with_reducible refine Below.drew ?_ | with_reducible refine below_drewN ?_ _ | with_reducible refine below_callM ?_ (Nat.le_refl _) hbA)) b hl5).trans HB5.out) ((Below.block (w := w5) (B := w5.heap.size) (by repeat (first | with_reducible exact Below.refl _ _ | with_reducible assumption | with_reducible refine Below.drew ?_ | with_reducible refine below_drewN ?_ _ | with_reducible refine below_callM ?_ (Nat.le_refl _) hbA)) _ hla5).trans HA5.out)))
      ((first
       | (go_at_call 63
          with_reducible refine (HED.out _ _ ?_).mono ?_
          · exact HE5.out.below (by repeat (first | with_reducible exact Below.refl _ _ | with_reducible assumption | with_reducible refine Below.drew ?_ | with_reducible refine below_drewN ?_ _ | with_reducible refine below_callM ?_ (Nat.le_refl _) hbA))
          rintro e wA ⟨rfl, hbA⟩)
       | (go_at_call 99
          with_reducible refine (HAD.out _ ?_).mono ?_
          · repeat (first | with_reducible exact Below.refl _ _ | with_reducible assumption | with_reducible refine Below.drew ?_ | with_reducible refine below_drewN ?_ _ | with_reducible refine below_callM ?_ (Nat.le_refl _) hbA)
          rintro e wB ⟨rfl, vm', hbB, hownB, hBB, holdB, hoB, halB, hobB⟩)))
    all_goals
      go_wp2_with fail
      go_end0
      exact ⟨rfl, k', j', sh', _, vm', by omega, HSm.out, ⟨holdB, hbB, hownB, hobB⟩, hBB, hoB⟩
end Go.Proofs.YtkdnacniligjjaaDoor
