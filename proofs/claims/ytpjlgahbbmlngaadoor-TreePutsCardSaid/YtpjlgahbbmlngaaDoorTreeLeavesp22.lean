/-
  Trees: All.
-/
import Derived.Test.YtpjlgahbbmlngaaDoorTreeLeavesp16
import Derived.Test.YtpjlgahbbmlngaaDoorTreeLeavesp7
namespace Go.Proofs.YtpjlgahbbmlngaaDoor
set_option linter.unusedVariables false
set_option linter.unusedSimpArgs false
open Go Go.RowKit

attribute [local go_sem] Oper.semAt_some

/-- the positions of a kind among nodes -/
def kindW (kd : Int) (l : List (List Nat × Nd)) : List (List Nat) := (l.filter (fun x => decide (x.2.kind = kd))).map (·.1)
theorem kindW_yes {kd : Int} {l : List (List Nat × Nd)} {k : Nat} {p : List Nat} {x : Nd} (h : l[k]? = some (p, x)) (hk : x.kind = kd) : kindW kd (l.take (k + 1)) = kindW kd (l.take k) ++ [p] := by
  rw [take_snoc h]; simp [kindW, hk]
theorem kindW_no {kd : Int} {l : List (List Nat × Nd)} {k : Nat} {p : List Nat} {x : Nd} (h : l[k]? = some (p, x)) (hk : x.kind ≠ kd) : kindW kd (l.take (k + 1)) = kindW kd (l.take k) := by
  rw [take_snoc h]; simp [kindW, hk]
theorem kindW_le (kd : Int) (l : List (List Nat × Nd)) : (kindW kd l).length ≤ l.length := by
  unfold kindW; rw [List.length_map]; exact List.length_filter_le _ _
theorem infoInts : (Tryd.prog.info? 51).map (fun i => (i.zero, i.size, i.bytes)) = some (some (.slice none 0 0), 1, 24) := by kernel_rfl

theorem opIn_append {F : Fence} {n : Nat} {P : Program} {o : Oper} {a : Act} {w w' : World} {K : Act → World → Prop} {Q : Exit → Act → World → Prop} {v xv v' : Value} (s x : Operand) (t : TypeId) (hop : o.op = Op.call { callee := Callee.builtin Builtin.append, args := #[s, x], argTypes := #[t, t] })
    (hs : a.eval s = v) (hx : a.eval x = xv) (hrun : (Builtin.append_ #[t, t] o.type #[v, xv]).run P w = .ok v' w') (hK : K (a.put o.dst v') w') : Oper.wpIn F n P o a w K Q := by
  unfold Oper.wpIn
  refine ⟨?_, ?_⟩
  · simp [Oper.about, hop, resolve, Target.leads, Sem.run_pure]
  · rw [Oper.semAt_plain F _ _ (by rw [hop]; intro c hc'; cases hc')]
    simp [execOp, hop, resolve, invoke, builtin, hs, hx, hrun, Result.andThen]
    exact hK

theorem own_block_ne' {w : World} {base e e' size n k : Nat} {v : Value} {xs : List Value} {cs : Array Value} {fr : Nat × Nat} (h : w.ownsRow base e size v n xs) (hk : w.heap[k]? = some (.cells cs e' fr)) (hne : e ≠ e') : ∀ g, v.ownBlock = some g → g = k → False := by
  intro g hg hgk
  subst hgk
  rcases h.2 with ⟨rfl, _⟩ | ⟨g', cap, cur, rfl, _, hg', _⟩
  · simp [Value.ownBlock] at hg
  · simp only [Value.ownBlock, Option.some.injEq] at hg
    subst hg
    rw [hg'] at hk
    cases hk
    exact hne rfl
/-- a slice of positions that the call made: none of its blocks are others' -/
structure PossR (base : Nat) (O : Nat → Prop) (W : World) (v : Value) (ps : List (List Nat)) : Prop where
  vals : ∃ vs : List Value, W.ownsRow base 51 1 v ps.length vs ∧ vs.length = ps.length ∧ ∀ (i : Nat) (v' : Value) (p : List Nat), vs[i]? = some v' → ps[i]? = some p → W.ownsRow base 3 1 v' p.length (intCells p) ∧ ∀ g, v'.ownBlock = some g → ¬ O g
  own : ∀ g, v.ownBlock = some g → ¬ O g
theorem PossR.turns {base : Nat} {O O' : Nat → Prop} {W W' : World} {v : Value} {ps : List (List Nat)} (h : PossR base O W v ps) (ht : Turns O W W') (hg : ∀ b, O' b → O b ∨ W.heap.size ≤ b) : PossR base O' W' v ps := by
  obtain ⟨⟨vs, h1, h2, h3⟩, h4⟩ := h
  have no : ∀ {e size n : Nat} {u : Value} {xs : List Value}, W.ownsRow base e size u n xs → (∀ g, u.ownBlock = some g → ¬ O g) → ∀ g, u.ownBlock = some g → ¬ O' g := fun hr ho g e h => (hg g h).elim (ho g e) (fun h' => by have := (hr.lt g e).2; omega)
  exact ⟨⟨vs, own_same h1 (fun g e => ht.block g (h1.lt g e).2 (h4 g e)), h2, fun i v' p hi hp => ⟨own_same (h3 i v' p hi hp).1 (fun g e => ht.block g ((h3 i v' p hi hp).1.lt g e).2 ((h3 i v' p hi hp).2 g e)), no (h3 i v' p hi hp).1 (h3 i v' p hi hp).2⟩⟩, no h1 h4⟩


theorem all_end {w1 W2 w3 w9 : World} {O : Nat → Prop} {B g9 cap9 : Nat} {a2 av : Option Addr} {cap2 cv : Nat} {p : List Nat} {vs : List Value} {ps ps' : List (List Nat)} (hM : Mine B w1 O W2) (hq1 : W2.heap[w1.heap.size]? = some (.cells #[.slice a2 ps.length cap2] 72 (0, 0)))
    (hv1 : W2.ownsRow w1.heap.size 51 1 (.slice a2 ps.length cap2) ps.length vs) (hv2 : vs.length = ps.length) (hv3 : ∀ (i : Nat) (v' : Value) (p : List Nat), vs[i]? = some v' → ps[i]? = some p → W2.ownsRow w1.heap.size 3 1 v' p.length (intCells p) ∧ ∀ g, v'.ownBlock = some g → ¬ O g)
    (hv4 : ∀ g, (Value.slice a2 ps.length cap2).ownBlock = some g → ¬ O g) (hst : ps' = ps ++ [p]) (hOs : ∀ b, O b → b < W2.heap.size)
    (hown : w3.ownsRow W2.drew.heap.size 3 1 (.slice av p.length cv) p.length (intCells p)) (hb3 : Below W2.drew.heap.size W2.drew w3)
    (hrow9 : w9.ownsRow w1.heap.size 51 1 (.slice (some ⟨g9, 0, none⟩) (ps.length + 1) cap9) (ps.length + 1) (vs ++ [.slice av p.length cv])) (hgr9 : (w3.alloc (.cells #[.slice av p.length cv] 51)).grownBy w9 (Value.slice a2 ps.length cap2).ownBlock)
    (hat9 : (Value.slice a2 ps.length cap2).ownBlock = some g9 ∨ g9 = w3.heap.size + 1) (hbk9 : w9.heap[w1.heap.size]? = some (.cells #[.slice a2 ps.length cap2] 72 (0, 0))) (hwB : w1.heap.size < B := by omega) :
    Keep w1.heap.size O W2 (w9.setCell ⟨w1.heap.size, 0, none⟩ (.slice (some ⟨g9, 0, none⟩) (ps.length + 1) cap9)) ∧ Mine B w1 O (w9.setCell ⟨w1.heap.size, 0, none⟩ (.slice (some ⟨g9, 0, none⟩) (ps.length + 1) cap9)) ∧
      ∃ v, (w9.setCell ⟨w1.heap.size, 0, none⟩ (.slice (some ⟨g9, 0, none⟩) (ps.length + 1) cap9)).heap[w1.heap.size]? = some (.cells #[v] 72 (0, 0)) ∧ PossR w1.heap.size O (w9.setCell ⟨w1.heap.size, 0, none⟩ (.slice (some ⟨g9, 0, none⟩) (ps.length + 1) cap9)) v ps' := by
  have hs3 : W2.heap.size ≤ w3.heap.size := hb3.size
  have hs9 : w3.heap.size + 1 ≤ w9.heap.size := by have := hgr9.size; simpa using this
  have hw2 := hM.below.size
  have hrlt : ∀ g, (Value.slice a2 ps.length cap2).ownBlock = some g → w1.heap.size ≤ g ∧ g < W2.heap.size := fun g e => hv1.lt g e
  have hrne : ∀ g, (Value.slice a2 ps.length cap2).ownBlock = some g → g ≠ w1.heap.size := fun g e h => own_block_ne' hv1 hq1 (by decide) g e h
  have key : ∀ k, k < w3.heap.size → k ≠ w1.heap.size → (Value.slice a2 ps.length cap2).ownBlock ≠ some k → (w9.setCell ⟨w1.heap.size, 0, none⟩ (.slice (some ⟨g9, 0, none⟩) (ps.length + 1) cap9)).heap[k]? = w3.heap[k]? := fun k h1 h2 h3 =>
    (block_other h2).trans ((hgr9.block k (by simp; omega) (fun e => h3 e.symm)).trans (alloc_old _ _ _ h1))
  have key2 : ∀ k, k < W2.heap.size → k ≠ w1.heap.size → (Value.slice a2 ps.length cap2).ownBlock ≠ some k → (w9.setCell ⟨w1.heap.size, 0, none⟩ (.slice (some ⟨g9, 0, none⟩) (ps.length + 1) cap9)).heap[k]? = W2.heap[k]? := fun k h1 h2 h3 =>
    (key k (by omega) h2 h3).trans (hb3.block k h1)
  have hsz : (w9.setCell ⟨w1.heap.size, 0, none⟩ (.slice (some ⟨g9, 0, none⟩) (ps.length + 1) cap9)).heap.size = w9.heap.size := by simp [World.setCell]
  have hBl : Below w1.heap.size W2 (w9.setCell ⟨w1.heap.size, 0, none⟩ (.slice (some ⟨g9, 0, none⟩) (ps.length + 1) cap9)) :=
    ⟨hgr9.os.trans hb3.os, hgr9.tape.trans hb3.tape, hgr9.output.trans hb3.output, by rw [hsz]; omega, fun k hk => key2 k (by omega) (by omega) (fun e => by have := (hrlt k e).1; omega)⟩
  have hg9 : g9 ≠ w1.heap.size := hat9.elim (fun e => hrne g9 e) (fun e => by omega)
  have hMs := hM.size
  refine ⟨⟨hBl, fun b hb => key2 b (hOs b hb) (by have := hM.far b hb; omega) (fun e => hv4 b e hb)⟩, ⟨hM.far, hM.below.trans hBl, by rw [hsz]; omega, hM.base⟩, _, set_block hbk9, ⟨vs ++ [.slice av p.length cv], ?_, by rw [hst]; simp [hv2], fun i v' q hi hq => ?_⟩, fun g hg ho => ?_⟩
  · have hl : ps'.length = ps.length + 1 := by rw [hst]; simp
    rw [hl]
    exact own_same hrow9 (fun g e => by
      have e' : g9 = g := by simpa [Value.ownBlock] using e
      exact block_other (by omega))
  · rcases Nat.lt_or_ge i vs.length with hlt | hge
    · rw [List.getElem?_append_left hlt] at hi
      rw [hst, List.getElem?_append_left (by omega)] at hq
      obtain ⟨r1, r2⟩ := hv3 i v' q hi hq
      refine ⟨own_same r1 (fun g e => key2 g (r1.lt g e).2 (fun h => own_block_ne' r1 hq1 (by decide) g e h) (fun h => ?_)), r2⟩
      rcases own_two r1 hv1 (by decide) with h' | h'
      · rw [h'] at e; cases e
      · exact h' (by rw [e, h])
    · have hi0 : i = vs.length := by
        have := (List.getElem?_eq_some_iff.1 hi).1
        simp at this; omega
      subst hi0
      rw [List.getElem?_append_right (Nat.le_refl _)] at hi
      rw [hst, hv2, List.getElem?_append_right (Nat.le_refl _)] at hq
      simp only [Nat.sub_self, List.getElem?_cons_zero, Option.some.injEq] at hi hq
      subst hi
      subst hq
      have hlo : ∀ g, (Value.slice av p.length cv).ownBlock = some g → W2.heap.size ≤ g ∧ g < w3.heap.size := fun g e => hown.lt g e
      refine ⟨own_le (own_same hown (fun g e => key g (hlo g e).2 (by have := (hlo g e).1; omega) (fun h => by have h1 := (hlo g e).1; have h2 := (hrlt g h).2; omega))) (show w1.heap.size ≤ W2.drew.heap.size from hw2), fun g e ho => by have h1 := (hlo g e).1; have h2 := hOs g ho; omega⟩
  · have e' : g9 = g := by simpa [Value.ownBlock] using hg
    subst e'
    rcases hat9 with h | h
    · exact hv4 g9 h ho
    · have := hOs g9 ho; omega

set_option maxRecDepth 100000 in
set_option maxHeartbeats 2000000 in
theorem All_any (n : Nd) (kd : Int) (v : Value) (w : World) (hC : sizeN n) (hT : Tabs w) (hV : NodeV w v n) :
    Calls Tryd.prog 46 #[v, .int .i64 kd] w fun e w' => (if formedB n then ∃ v', e = .returned (.tuple #[v', .int .i64 0]) ∧ PossR w.heap.size (fun _ => False) w' v' (kindW kd (walkN [] n)) else e = .returned (.tuple #[.slice none 0 0, .int .i64 4])) ∧ Below w.heap.size w w' := by
  have hV0 := hV
  obtain ⟨A, c, rfl, hk⟩ := hV
  obtain ⟨wA, hwA⟩ : ∃ wA, wA = (w.alloc (.cells (nodeCells n A c) 26)).alloc (.cells #[.int .i64 kd] 3) := ⟨_, rfl⟩
  have hBA : Below w.heap.size w wA := by rw [hwA]; exact ((Below.refl _ _).alloc (Nat.le_refl _) _).alloc (by simp) _
  have hsA : wA.heap.size = w.heap.size + 2 := by rw [hwA]; simp
  have a0 : wA.heap[w.heap.size]? = some (.cells (nodeCells n A c) 26 (0, 0)) := by rw [hwA, alloc_old _ _ _ (by simp), alloc_at _ _ _ rfl]
  have a1 : wA.heap[w.heap.size + 1]? = some (.cells #[.int .i64 kd] 3 (0, 0)) := by rw [hwA, alloc_at _ _ _ (by simp)]
  have hIF := IsFormed_any n _ wA hC (hT.below hBA) (hV0.below hBA)
  have HA := Lib.hid (show _ ∧ _ ∧ _ ∧ _ ∧ _ ∧ _ from ⟨hBA, hsA, a0, a1, hk, hC⟩)
  have hgoA : ∀ (P : World → Prop), P wA → P ((w.alloc (.cells (nodeCells n A c) 26)).alloc (.cells #[.int .i64 kd] 3)) := fun P h => by rw [← hwA]; exact h
  clear hBA hsA a0 a1 hT hV0 hk hC hwA
  cases hf : formedB n with
  | false =>
    rw [hf] at hIF
    clear hf
    refine (callsIn_wide (n := 9)).1 ?_
    refine callsIn_of_wp_marks Tryd.func46 rfl trivial ?_ rfl
    simp only [Tryd.ntmps46, List.size_toArray, List.length_cons, List.length_nil, Nat.reduceAdd, Nat.reduceSub, Array.replicate_succ, Array.replicate_zero, List.push_toArray, List.append_toArray, List.nil_append, List.cons_append]
    refine wpIn_wide.2 ?_
    go_wp2_with (go_at_call 21; fail)
    refine hgoA (fun W => Calls Tryd.prog 21 _ W _) ?_
    refine hIF.mono ?_
    clear hIF hgoA
    rintro e w1 ⟨rfl, hb1⟩
    have hs1 : w.heap.size + 2 ≤ w1.heap.size := by have := hb1.size; rw [HA.out.2.1] at this; exact this
    have b0 := (hb1.block (w.heap.size) (by rw [HA.out.2.1]; omega)).trans HA.out.2.2.1
    have b1 := (hb1.block (w.heap.size + 1) (by rw [HA.out.2.1]; omega)).trans HA.out.2.2.2.1
    have hBw1 : Below w.heap.size w w1 := HA.out.1.trans (hb1.mono HA.out.1.size)
    obtain ⟨n0, n1, n2, n3⟩ := cells_of_block b0
    have HB1 := Lib.hid (show _ ∧ _ ∧ _ from ⟨hBw1, hs1, b1⟩)
    have k0 : w.heap.size < w1.heap.size := by omega
    clear b0 b1 hBw1 hb1
    clear hs1
    dsimp only
    go_wp2_with fail
    exact ⟨.tuple #[.slice none 0 0, .int .i64 4], by simp [results, Tryd.f46, go_sem], by simp, HB1.out.1⟩
  | true =>
    rw [hf] at hIF
    clear hf
    refine (callsIn_wide (n := 9)).1 ?_
    refine callsIn_of_wp_marks Tryd.func46 rfl trivial ?_ rfl
    simp only [Tryd.ntmps46, List.size_toArray, List.length_cons, List.length_nil, Nat.reduceAdd, Nat.reduceSub, Array.replicate_succ, Array.replicate_zero, List.push_toArray, List.append_toArray, List.nil_append, List.cons_append]
    refine wpIn_wide.2 ?_
    go_wp2_with (go_at_call 21; fail)
    refine hgoA (fun W => Calls Tryd.prog 21 _ W _) ?_
    refine hIF.mono ?_
    clear hIF hgoA
    rintro e w1 ⟨rfl, hb1⟩
    have hs1 : w.heap.size + 2 ≤ w1.heap.size := by have := hb1.size; rw [HA.out.2.1] at this; exact this
    have b0 := (hb1.block (w.heap.size) (by rw [HA.out.2.1]; omega)).trans HA.out.2.2.1
    have b1 := (hb1.block (w.heap.size + 1) (by rw [HA.out.2.1]; omega)).trans HA.out.2.2.2.1
    have hBw1 : Below w.heap.size w w1 := HA.out.1.trans (hb1.mono HA.out.1.size)
    obtain ⟨n0, n1, n2, n3⟩ := cells_of_block b0
    have HB1 := Lib.hid (show _ ∧ _ ∧ _ from ⟨hBw1, hs1, b1⟩)
    have k0 : w.heap.size < w1.heap.size := by omega
    clear b0 b1 hBw1 hb1
    clear hs1
    dsimp only
    go_wp2_with (go_at_call 62; refine (walk_any n A c _).mono ?_; rintro e w' ⟨rfl, rfl⟩)
    obtain ⟨hBw1, hs1, b1⟩ := HB1.out
    obtain ⟨_, _, _, _, hk, hC⟩ := HA.out
    have hk1 : KidsV w1 A n.kids := hk.below hBw1
    obtain ⟨W0, hW0⟩ : ∃ W0, W0 = (w1.alloc (.cells #[.slice none 0 0] 72)).alloc (.cells (nodeCells n A c) 26) := ⟨_, rfl⟩
    have hB0 : Below w1.heap.size w1 W0 := by rw [hW0]; exact ((Below.refl _ _).alloc (Nat.le_refl _) _).alloc (by simp) _
    have hs0 : W0.heap.size = w1.heap.size + 2 := by rw [hW0]; simp
    have hb2 : W0.heap[w1.heap.size]? = some (.cells #[.slice none 0 0] 72 (0, 0)) := by rw [hW0, alloc_old _ _ _ (by simp), alloc_at _ _ _ rfl]
    have hb4 : W0.heap[w1.heap.size + 1]? = some (.cells (nodeCells n A c) 26 (0, 0)) := by rw [hW0, alloc_at _ _ _ (by simp)]
    obtain ⟨c0, c1, c2, c3⟩ := cells_of_block hb4
    have hM0 : Mine (w1.heap.size + 2) w1 (fun _ => False) W0 := ⟨fun b hb => hb.elim, hB0, by omega, by omega⟩
    refine (wpIn_wide (n := 9)).1 ?_
    have hgo : ∀ (Q : Exit → Act → World → Prop) (a : Act) (g : Operand) (ps : Array Tmp) (assign body : Code), (Code.rangeFunc g ps assign body).wpIn Fence.wide 9 Tryd.prog Q a W0 → (Code.rangeFunc g ps assign body).wpIn Fence.wide 9 Tryd.prog Q a ((w1.alloc (.cells #[.slice none 0 0] 72)).alloc (.cells (nodeCells n A c) 26)) := fun _ _ _ _ _ _ h => by rw [← hW0]; exact h
    refine hgo _ _ _ _ _ _ ?_
    clear hgo hW0
    refine wpIn_rangeT rfl (by decide) (gf := 84) (lb := #[.pointer (some ⟨w1.heap.size + 1, 0, none⟩)]) rfl trivial (enters_of Tryd.func84 (by kernel_rfl) rfl)
      (walk1_gives w1 n hC (w1.heap.size + 1) A c (9 - 1) (by decide) W0 hB0 (by omega) c0 c1 c2 c3 hk1) (Below.refl _ _) hB0.size EnW.keep (fun O x W args h => EnW.size O x W args h)
      (fun k O W => Mine (w1.heap.size + 2) w1 O W ∧ ∃ v, W.heap[w1.heap.size]? = some (.cells #[v] 72 (0, 0)) ∧ PossR w1.heap.size O W v (kindW kd ((walkN [] n).take k)))
      (fun _ _ _ _ => False)
      (fun k O O' W W' h ht hg => ⟨h.1.turns ht hg, by
        obtain ⟨v, h1, h2⟩ := h.2
        exact ⟨v, (h.1.block ht (by omega)).trans h1, h2.turns ht hg⟩⟩)
      (fun _ _ _ _ _ _ h _ _ => h)
      ⟨hM0, .slice none 0 0, hb2, ⟨⟨[], by simpa [kindW] using World.ownsRow_nil W0 w1.heap.size 51 1, by simp [kindW], fun i v' p h => by simp at h⟩, fun g h => by simp [Value.ownBlock] at h⟩⟩ ?round ?done ?stop
    case round =>
      rintro l k O ⟨p, x⟩ args W hO hn ⟨hM, v, hr1, hpr⟩ hx ⟨pv, Ak, ck, rfl, hkv, hpos, hpo⟩
      simp only at hpos hkv
      obtain ⟨a0, cp, rfl⟩ := own_slice hpos
      gi_wp2
      refine ⟨(Below.refl _ _).alloc (Nat.le_refl _) _, fun W2 hT2 hs2 hi2 he2 => ?_⟩
      have hbx : W2.heap[W.heap.size]? = some (.cells (nodeCells x Ak ck) 26 (0, 0)) := (hT2.block _ (by simp) (fun h => Nat.lt_irrefl _ (hO _ h))).trans (alloc_at _ _ _ rfl)
      obtain ⟨d0, d1, d2, d3⟩ := cells_of_block hbx
      obtain ⟨hM2, v2, hq1, hpr2⟩ := hi2
      have hkd : W2.heap[w.heap.size + 1]? = some (.cells #[.int .i64 kd] 3 (0, 0)) := (hM2.below.block _ (by omega)).trans b1
      have l1 : W2.cell? ⟨w.heap.size + 1, 0, none⟩ = some (.int .i64 kd) := Lib.cell_of_heap hkd 0
      have hOs : ∀ b, O b → b < W2.heap.size := fun b hb => by have := hO b hb; rw [hs2]; simp; omega
      by_cases hk1 : x.kind = kd
      · have hst := kindW_yes hx hk1
        have hpl : p.length ≤ 10000000 := by
          have h1 := longW_mem (List.mem_of_getElem? hx)
          have h2 := (atN_small_len n)
          rw [longW_walkN] at h1
          simp at h1
          unfold sizeN at hC
          omega
        have hpv : ∃ pv', (Value.slice a0 p.length cp) = pv' ∧ W2.ownsRow 0 3 1 pv' p.length (intCells p) := by
          obtain ⟨pv', A2', c2', he, _, hp2, _⟩ := he2
          exact ⟨pv', by have := congrArg (fun a => a[0]?) he; simpa using this, hp2⟩
        have hpos2 : W2.drew.ownsRow 0 3 1 (.slice a0 p.length cp) p.length (intCells p) := by
          obtain ⟨pv', he, hp2⟩ := hpv
          rw [he]; exact hp2
        have hcl := CloneInts_any p _ W2.drew hpl hpos2
        obtain ⟨⟨vs, hv1, hv2, hv3⟩, hv4⟩ := hpr2
        obtain ⟨a2, cap2, rfl⟩ := own_slice hv1
        have hkl : (kindW kd ((walkN [] n).take k)).length < 10000000 := by
          have h1 := kindW_le kd ((walkN [] n).take k)
          have h2 := (List.getElem?_eq_some_iff.1 hx).1
          rw [List.length_take] at h1
          rw [walkN_length] at h2 h1
          unfold sizeN at hC
          omega
        obtain ⟨i1, hi1, hx1⟩ := Option.map_eq_some_iff.1 infoInts
        simp only [Prod.mk.injEq] at hx1
        obtain ⟨hz3, hz4, hz5⟩ := hx1
        have hblt : w1.heap.size < W2.heap.size := (Array.getElem?_eq_some_iff.1 hq1).1
        have hap : ∀ (w3 : World) (av : Option Addr) (m cv : Nat), Below W2.drew.heap.size W2.drew w3 → ∃ g9 cap9 w9, (Builtin.append_ #[72, 72] 72 #[.slice a2 (kindW kd ((walkN [] n).take k)).length cap2, .slice (some ⟨w3.heap.size, 0, none⟩) 1 1]).run Tryd.prog (w3.alloc (.cells #[.slice av m cv] 51)) = .ok (.slice (some ⟨g9, 0, none⟩) ((kindW kd ((walkN [] n).take k)).length + 1) cap9) w9 ∧
            w9.ownsRow w1.heap.size 51 1 (.slice (some ⟨g9, 0, none⟩) ((kindW kd ((walkN [] n).take k)).length + 1) cap9) ((kindW kd ((walkN [] n).take k)).length + 1) (vs ++ [.slice av m cv]) ∧ (w3.alloc (.cells #[.slice av m cv] 51)).grownBy w9 (Value.slice a2 (kindW kd ((walkN [] n).take k)).length cap2).ownBlock ∧
            ((Value.slice a2 (kindW kd ((walkN [] n).take k)).length cap2).ownBlock = some g9 ∨ g9 = w3.heap.size + 1) ∧ w9.cell? ⟨w1.heap.size, 0, none⟩ = some (.slice a2 (kindW kd ((walkN [] n).take k)).length cap2) ∧ w9.frozen? ⟨w1.heap.size, 0, none⟩ = false ∧ w9.heap[w1.heap.size]? = some (.cells #[.slice a2 (kindW kd ((walkN [] n).take k)).length cap2] 72 (0, 0)) := fun w3 av m cv hb3 => by
          have hs3 : W2.heap.size ≤ w3.heap.size := hb3.size
          have hr3 : w3.ownsRow w1.heap.size 51 1 (.slice a2 (kindW kd ((walkN [] n).take k)).length cap2) (kindW kd ((walkN [] n).take k)).length vs := own_same hv1 (fun g e => hb3.block g (hv1.lt g e).2)
          obtain ⟨g9, cap9, w9, hrun, h1, h2, h3, _⟩ := run_append_lies (P := Tryd.prog) (w3.alloc (.cells #[.slice av m cv] 51)) 72 72 w1.heap.size 51 i1 _ 1 24 Tryd.underlying72 hi1 hz3 hz4 hz5 rfl (by decide) _ _ _ (hr3.alloc _) ⟨w3.heap.size, 0, none⟩ 1 1 [.slice av m cv] rfl (cell_one_new _ _ _) (by intro u hu; simp at hu; subst hu; rfl) (by decide) (by unfold maxLen; omega) (by omega) (by simp; omega) (w3.heap.size + 1) (by simp)
          have hne9 : (Value.slice a2 (kindW kd ((walkN [] n).take k)).length cap2).ownBlock ≠ some w1.heap.size := fun e => own_block_ne' hv1 hq1 (by decide) _ e rfl
          have hbk : w9.heap[w1.heap.size]? = some (.cells #[.slice a2 (kindW kd ((walkN [] n).take k)).length cap2] 72 (0, 0)) := by
            rw [h2.block _ (by simp; omega) (fun e => hne9 e.symm), alloc_old _ _ _ (by omega)]
            exact (hb3.block _ hblt).trans hq1
          exact ⟨g9, cap9, w9, hrun, h1, h2, h3, Lib.cell_of_heap hbk 0, frozen_block hbk, hbk⟩
        have hc3 : ∀ w3 : World, Below W2.drew.heap.size W2.drew w3 → w3.cell? ⟨w1.heap.size, 0, none⟩ = some (.slice a2 (kindW kd ((walkN [] n).take k)).length cap2) ∧ w1.heap.size < w3.heap.size := fun w3 hb3 => ⟨Lib.cell_of_heap ((hb3.block _ hblt).trans hq1) 0, Nat.lt_of_lt_of_le hblt hb3.size⟩
        have l6 : W2.cell? ⟨w1.heap.size, 0, none⟩ = some (.slice a2 (kindW kd ((walkN [] n).take k)).length cap2) := Lib.cell_of_heap hq1 0
        have hmix : Tryd.prog.follows .mixedOrders = true := by kernel_rfl
        have HX := Lib.hid (show _ ∧ _ ∧ _ ∧ _ ∧ _ ∧ _ ∧ _ ∧ _ from ⟨hM2, hq1, hv1, hv2, hv3, hv4, hst, hOs⟩)
        have HCl := Lib.hid hcl
        have HAP := Lib.hid (And.intro hap hc3)
        clear hM2 hq1 hv1 hv2 hv3 hv4 hst hOs hcl hap hc3 hpv hpos2 hkd hT2 hs2 he2 hbx hM hr1 hpr hpos hpo hkv hx hO hn hB0 hs0 hb2 hb4 hM0 c0 c1 c2 c3 hk hC hBw1 hs1 b1 n0 n1 n2 n3 k0 hpl hkl hi1 hz3 hz4 hz5
        gi_wp2_with fail
        refine wpIn_region_any hmix ?_
        change wpAnyIn _ _ _ _ _ _ _ _ _ (World.drew _)
        refine wpAnyIn_ready (rs := [0, 1]) (by kernel_rfl) (by simp) ?_
        refine AllReadyIn.cons rfl (fun K hK => ?_) ?_
        · go_simp
          refine hK _ _ ?_
          clear hK K
          refine wpAnyIn_ready (rs := [1]) (by kernel_rfl) (by simp) ?_
          refine AllReadyIn.cons rfl (fun K hK => ?_) ?_
          · go_simp
            refine hK _ _ ?_
            clear hK K
            refine wpAnyIn_ready (rs := [2]) (by kernel_rfl) (by simp) ?_
            refine AllReadyIn.cons rfl (fun K hK => ?_) ?_
            · go_simp
              gi_wp2_with (first | (gi_at_call 74; refine (CallsIn.inRound l ((callsIn_wide (n := 6)).2 HCl.out)).mono ?_; rintro e w3 ⟨v', rfl, hown, hb3⟩; obtain ⟨av, cv, rfl⟩ := own_slice hown; obtain ⟨g9, cap9, w9, hrun, hrow9, hgr9, hat9, c9, f9, hbk9⟩ := HAP.out.1 w3 av p.length cv hb3; obtain ⟨c3', k3'⟩ := HAP.out.2 w3 hb3) | (refine And.intro (show Fence.wide.fn 74 from trivial) ?_))
              refine wpAnyIn_ready (rs := [3]) (by kernel_rfl) (by simp) ?_
              refine AllReadyIn.cons rfl (fun K hK => ?_) ?_
              · go_simp
                refine hK _ _ ?_
                clear hK K
                refine wpAnyIn_ready (rs := [4]) (by kernel_rfl) (by simp) ?_
                refine AllReadyIn.cons rfl (fun K hK => ?_) ?_
                · rw [if_pos (by rfl)]
                  refine opIn_append _ _ _ rfl rfl rfl hrun ?_
                  simp only [Act.put, List.setIfInBounds_toArray, List.set_cons_zero, List.set_cons_succ]
                  refine hK _ _ ?_
                  clear hK K
                  refine wpAnyIn_ready (rs := [5]) (by kernel_rfl) (by simp) ?_
                  refine AllReadyIn.cons rfl (fun K hK => ?_) ?_
                  · go_simp
                    refine hK _ _ ?_
                    clear hK K
                    refine wpAnyIn_done (by kernel_rfl) ?_ _
                    exact all_end HX.out.1 HX.out.2.1 HX.out.2.2.1 HX.out.2.2.2.1 HX.out.2.2.2.2.1 HX.out.2.2.2.2.2.1 HX.out.2.2.2.2.2.2.1 HX.out.2.2.2.2.2.2.2 hown hb3 hrow9 hgr9 hat9 hbk9
                  exact AllReadyIn.nil
                exact AllReadyIn.nil
              exact AllReadyIn.nil
            exact AllReadyIn.nil
          exact AllReadyIn.nil
        refine AllReadyIn.cons rfl (fun K hK => ?_) ?_
        · go_simp
          refine hK _ _ ?_
          clear hK K
          refine wpAnyIn_ready (rs := [0, 2]) (by kernel_rfl) (by simp) ?_
          refine AllReadyIn.cons rfl (fun K hK => ?_) ?_
          · go_simp
            refine hK _ _ ?_
            clear hK K
            refine wpAnyIn_ready (rs := [2]) (by kernel_rfl) (by simp) ?_
            refine AllReadyIn.cons rfl (fun K hK => ?_) ?_
            · go_simp
              gi_wp2_with (first | (gi_at_call 74; refine (CallsIn.inRound l ((callsIn_wide (n := 6)).2 HCl.out)).mono ?_; rintro e w3 ⟨v', rfl, hown, hb3⟩; obtain ⟨av, cv, rfl⟩ := own_slice hown; obtain ⟨g9, cap9, w9, hrun, hrow9, hgr9, hat9, c9, f9, hbk9⟩ := HAP.out.1 w3 av p.length cv hb3; obtain ⟨c3', k3'⟩ := HAP.out.2 w3 hb3) | (refine And.intro (show Fence.wide.fn 74 from trivial) ?_))
              refine wpAnyIn_ready (rs := [3]) (by kernel_rfl) (by simp) ?_
              refine AllReadyIn.cons rfl (fun K hK => ?_) ?_
              · go_simp
                refine hK _ _ ?_
                clear hK K
                refine wpAnyIn_ready (rs := [4]) (by kernel_rfl) (by simp) ?_
                refine AllReadyIn.cons rfl (fun K hK => ?_) ?_
                · rw [if_pos (by rfl)]
                  refine opIn_append _ _ _ rfl rfl rfl hrun ?_
                  simp only [Act.put, List.setIfInBounds_toArray, List.set_cons_zero, List.set_cons_succ]
                  refine hK _ _ ?_
                  clear hK K
                  refine wpAnyIn_ready (rs := [5]) (by kernel_rfl) (by simp) ?_
                  refine AllReadyIn.cons rfl (fun K hK => ?_) ?_
                  · go_simp
                    refine hK _ _ ?_
                    clear hK K
                    refine wpAnyIn_done (by kernel_rfl) ?_ _
                    exact all_end HX.out.1 HX.out.2.1 HX.out.2.2.1 HX.out.2.2.2.1 HX.out.2.2.2.2.1 HX.out.2.2.2.2.2.1 HX.out.2.2.2.2.2.2.1 HX.out.2.2.2.2.2.2.2 hown hb3 hrow9 hgr9 hat9 hbk9
                  exact AllReadyIn.nil
                exact AllReadyIn.nil
              exact AllReadyIn.nil
            exact AllReadyIn.nil
          refine AllReadyIn.cons rfl (fun K hK => ?_) ?_
          · go_simp
            gi_wp2_with (first | (gi_at_call 74; refine (CallsIn.inRound l ((callsIn_wide (n := 6)).2 HCl.out)).mono ?_; rintro e w3 ⟨v', rfl, hown, hb3⟩; obtain ⟨av, cv, rfl⟩ := own_slice hown; obtain ⟨g9, cap9, w9, hrun, hrow9, hgr9, hat9, c9, f9, hbk9⟩ := HAP.out.1 w3 av p.length cv hb3; obtain ⟨c3', k3'⟩ := HAP.out.2 w3 hb3) | (refine And.intro (show Fence.wide.fn 74 from trivial) ?_))
            refine wpAnyIn_ready (rs := [0, 3]) (by kernel_rfl) (by simp) ?_
            refine AllReadyIn.cons rfl (fun K hK => ?_) ?_
            · go_simp
              refine hK _ _ ?_
              clear hK K
              refine wpAnyIn_ready (rs := [3]) (by kernel_rfl) (by simp) ?_
              refine AllReadyIn.cons rfl (fun K hK => ?_) ?_
              · go_simp
                refine hK _ _ ?_
                clear hK K
                refine wpAnyIn_ready (rs := [4]) (by kernel_rfl) (by simp) ?_
                refine AllReadyIn.cons rfl (fun K hK => ?_) ?_
                · rw [if_pos (by rfl)]
                  refine opIn_append _ _ _ rfl rfl rfl hrun ?_
                  simp only [Act.put, List.setIfInBounds_toArray, List.set_cons_zero, List.set_cons_succ]
                  refine hK _ _ ?_
                  clear hK K
                  refine wpAnyIn_ready (rs := [5]) (by kernel_rfl) (by simp) ?_
                  refine AllReadyIn.cons rfl (fun K hK => ?_) ?_
                  · go_simp
                    refine hK _ _ ?_
                    clear hK K
                    refine wpAnyIn_done (by kernel_rfl) ?_ _
                    exact all_end HX.out.1 HX.out.2.1 HX.out.2.2.1 HX.out.2.2.2.1 HX.out.2.2.2.2.1 HX.out.2.2.2.2.2.1 HX.out.2.2.2.2.2.2.1 HX.out.2.2.2.2.2.2.2 hown hb3 hrow9 hgr9 hat9 hbk9
                  exact AllReadyIn.nil
                exact AllReadyIn.nil
              exact AllReadyIn.nil
            refine AllReadyIn.cons rfl (fun K hK => ?_) ?_
            · go_simp
              refine hK _ _ ?_
              clear hK K
              refine wpAnyIn_ready (rs := [0]) (by kernel_rfl) (by simp) ?_
              refine AllReadyIn.cons rfl (fun K hK => ?_) ?_
              · go_simp
                refine hK _ _ ?_
                clear hK K
                refine wpAnyIn_ready (rs := [4]) (by kernel_rfl) (by simp) ?_
                refine AllReadyIn.cons rfl (fun K hK => ?_) ?_
                · rw [if_pos (by rfl)]
                  refine opIn_append _ _ _ rfl rfl rfl hrun ?_
                  simp only [Act.put, List.setIfInBounds_toArray, List.set_cons_zero, List.set_cons_succ]
                  refine hK _ _ ?_
                  clear hK K
                  refine wpAnyIn_ready (rs := [5]) (by kernel_rfl) (by simp) ?_
                  refine AllReadyIn.cons rfl (fun K hK => ?_) ?_
                  · go_simp
                    refine hK _ _ ?_
                    clear hK K
                    refine wpAnyIn_done (by kernel_rfl) ?_ _
                    exact all_end HX.out.1 HX.out.2.1 HX.out.2.2.1 HX.out.2.2.2.1 HX.out.2.2.2.2.1 HX.out.2.2.2.2.2.1 HX.out.2.2.2.2.2.2.1 HX.out.2.2.2.2.2.2.2 hown hb3 hrow9 hgr9 hat9 hbk9
                  exact AllReadyIn.nil
                exact AllReadyIn.nil
              exact AllReadyIn.nil
            exact AllReadyIn.nil
          exact AllReadyIn.nil
        exact AllReadyIn.nil
      · have hkb : (x.kind == kd) = false := by simpa using hk1
        have hst := kindW_no hx hk1
        have HX := Lib.hid (show _ ∧ _ ∧ _ ∧ _ from ⟨hM2, hq1, hpr2, hst⟩)
        clear hM2 hq1 hpr2 hst hkd hOs hT2 hs2 he2 hbx hM hr1 hpr hpos hpo hkv hx hO hn hB0 hs0 hb2 hb4 hM0 c0 c1 c2 c3 hk hC hBw1 hs1 b1 n0 n1 n2 n3 k0
        gi_wp2
        exact ⟨Keep.refl _ _ _, HX.out.1, v2, HX.out.2.1, by rw [HX.out.2.2.2]; exact HX.out.2.2.1⟩
    case done =>
      rintro D O W hD hOD ⟨hM, v, hq1, hpr⟩ hKD
      rw [List.take_length] at hpr
      have l1 := Lib.cell_of_heap hq1 0
      have hfin : PossR w.heap.size (fun _ => False) (W.putObj D (.deferred none)) v (kindW kd (walkN [] n)) := by
        have h1 := hpr.turns (O' := fun _ => False) (Turns.putObj (.deferred none) hOD) (fun b h => h.elim)
        obtain ⟨⟨vs, g1, g2, g3⟩, g4⟩ := h1
        exact ⟨⟨vs, own_le g1 hBw1.size, g2, fun i v' p hi hp => ⟨own_le (g3 i v' p hi hp).1 hBw1.size, (g3 i v' p hi hp).2⟩⟩, g4⟩
      have HFN := Lib.hid hfin
      obtain ⟨av, nv, cv, rfl⟩ : ∃ a m c, v = .slice a m c := by
        obtain ⟨⟨vs, g1, _⟩, _⟩ := hpr
        obtain ⟨a, c, h⟩ := own_slice g1
        exact ⟨a, _, c, h⟩
      clear hfin hpr hq1
      go_wp2_with fail
      try go_quiet (fail)
      try go_wp2_with fail
      refine ⟨by simp, .inl ⟨_, _, rfl, run_takeDeferred (by first | exact hKD | exact (show (W.drewN _).heap[D]? = _ from hKD)), ?_⟩⟩
      exact ⟨.tuple #[.slice av nv cv, .int .i64 0], by simp [results, Tryd.f46, go_sem], ⟨_, rfl, HFN.out⟩, hBw1.trans ((hM.below.mono hBw1.size).trans ⟨rfl, rfl, rfl, by simp, fun b hb => World.putObj_heap_other (by have := hBw1.size; omega)⟩)⟩
    case stop =>
      rintro D O cd k W hD _ hkl h hKD
      exact h.elim
end Go.Proofs.YtpjlgahbbmlngaaDoor
