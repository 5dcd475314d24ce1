/-
  Trees: Cover.
-/
import Derived.Test.YtpjlgahbbmlngaaDoorTreeLeavesp15
import Derived.Test.YtpjlgahbbmlngaaDoorTreeLeavesp16
import Derived.Laws.AppendOwnNone
import Derived.BigQuiet
namespace Go.Proofs.YtpjlgahbbmlngaaDoor
set_option linter.unusedVariables false
set_option linter.unusedSimpArgs false
open Go Go.RowKit

attribute [local go_sem] Oper.semAt_some

/-- the last of the first k nodes whose span holds a span -/
def covK (L : List (List Nat × Nd)) (sp : List (Nat × Nat)) (s1 s2 : Int) : Nat → List Nat
  | 0 => []
  | k + 1 => match L[k]?, sp[k]? with
    | some x, some s => if decide ((s.1 : Int) ≤ s1) && decide (s2 ≤ (s.2 : Int)) then x.1 else covK L sp s1 s2 k
    | _, _ => covK L sp s1 s2 k
def coverR (n : Nd) (s1 s2 : Int) : Int × List Nat :=
  if formedB n = false then (4, [])
  else if s1 < 0 ∨ s2 < s1 ∨ (totN n : Int) < s2 then (2, [])
  else (0, covK (walkN [] n) (spansN 0 n) s1 s2 (walkN [] n).length)

theorem run_append_ints (w : World) (ty base : Nat) (v : Value) (n : Nat) (xs : List Value) (hown : w.ownsRow base 3 1 v n xs) (pv : Value) (p : List Nat) (hp : w.ownsRow 0 3 1 pv p.length (intCells p)) (hb : base ≤ w.heap.size) (hs : n + p.length ≤ 100000000) :
    ∃ v' w', (Builtin.append_ #[51, 51] ty #[v, pv]).run Tryd.prog w = .ok v' w' ∧ w'.ownsRow base 3 1 v' (n + p.length) (xs ++ intCells p) ∧ w.grownBy w' v.ownBlock ∧ (v'.ownBlock = v.ownBlock ∨ v'.ownBlock = some w.heap.size) := by
  obtain ⟨i0, hi0, hx0⟩ := Option.map_eq_some_iff.1 infoInt
  simp only [Prod.mk.injEq] at hx0
  obtain ⟨hz0, hz1, hz2⟩ := hx0
  rcases hp.2 with ⟨rfl, hn⟩ | ⟨g, cap, cur, rfl, _⟩
  · have hp0 : p = [] := List.eq_nil_of_length_eq_zero hn
    subst hp0
    exact ⟨v, w, run_append_owned_none (P := Tryd.prog) (w := w) base 51 ty 3 i0 1 Tryd.underlying51 hi0 v n xs hown, by simpa [intCells] using hown, ⟨rfl, rfl, rfl, Nat.le_refl _, fun _ _ _ => rfl⟩, .inl rfl⟩
  · obtain ⟨v', w', h1, h2, h3, _, h5⟩ := run_append_own_at (P := Tryd.prog) w base 51 ty 3 i0 _ 1 8 Tryd.underlying51 hi0 hz0 hz1 hz2 rfl (by decide) v n xs hown ⟨g, 0, none⟩ p.length cap (intCells p) (by simp [intCells]) (hp.cells rfl) (intCells_one p) (by unfold maxLen; omega) (by omega) hb
    exact ⟨v', w', h1, h2, h3, h5⟩
theorem wpListIn_append_run {F : Fence} {n : Nat} {P : Program} {w w' : World} {ops : Array Oper} {rest : List Oper} {o : Oper} {a : Act} {Q : Exit → Act → World → Prop} {v xv v' : Value} (hg : o.guard = none) (s x : Operand) (t : TypeId)
    (hop : o.op = Op.call { callee := Callee.builtin Builtin.append, args := #[s, x], argTypes := #[t, t] }) (hs : a.eval s = v) (hx : a.eval x = xv) (hrun : (Builtin.append_ #[t, t] o.type #[v, xv]).run P w = .ok v' w') (hK : wpListIn F n P ops Q rest (a.put o.dst v') w') : wpListIn F n P ops Q (o :: rest) a w := by
  refine wpListIn_plain hg fun K hK' => ?_
  unfold Oper.wpIn
  refine ⟨?_, ?_⟩
  · simp [Oper.about, hop, resolve, Target.leads, Sem.run_pure]
  · rw [Oper.semAt_plain F _ _ (by rw [hop]; intro c hc'; cases hc')]
    simp [execOp, hop, resolve, invoke, builtin, hs, hx, hrun, Result.andThen]
    exact hK' _ _ hK
theorem Below.drewN' {B : Nat} {a w : World} {k : Nat} (h : Below B a w) : Below B a (w.drewN k) := ⟨h.os, h.tape, h.output, h.size, h.block⟩
theorem cut_zero {w : World} {base n c : Nat} {a : Option Addr} {xs : List Value} (h : w.ownsRow base 3 1 (.slice a n c) n xs) :
    (∀ W : World, (Instr.slice 51 (.slice a n c) none (some (.int .i64 0)) none).run Tryd.prog W = .ok (.slice a 0 c) W) ∧ w.ownsRow base 3 1 (.slice a 0 c) 0 [] := by
  rcases h.2 with ⟨h1, h2⟩ | ⟨g, cap, cur, h1, hb, hg, h3, h4, h5, h6⟩
  · cases h1
    refine ⟨fun W => ?_, World.ownsRow_nil _ _ _ _⟩
    rw [run_slice_h W 51 _ _ _ undInts .i64 _ (by omega) (by omega), sizeInts]
    simp [Result.andThen, sliced]
  · cases h1
    refine ⟨fun W => ?_, ⟨by simp, .inr ⟨g, c, cur, rfl, hb, hg, Nat.zero_le _, h4, h5, by simp⟩⟩⟩
    rw [run_slice_h W 51 _ _ _ undInts .i64 _ (by omega) (by omega), sizeInts]
    simp [Result.andThen, sliced, Addr.add]
theorem spansN_head (n : Nd) : (spansN 0 n)[0]? = some (0, totN n) := by rw [spansN_eq]; simp

set_option maxRecDepth 100000 in
set_option maxHeartbeats 2000000 in
theorem Cover_any (n : Nd) (s1 s2 : Int) (v : Value) (w : World) (hC : countN n ≤ 10000000) (hE : totN n ≤ 1000000000000) (hT : Tabs w) (hV : NodeV w v n) :
    Calls Tryd.prog 45 #[v, .agg #[.int .i64 s1, .int .i64 s2]] w fun e w' => ∃ v', e = .returned (.tuple #[v', .int .i64 (coverR n s1 s2).1]) ∧ w'.ownsRow w.heap.size 3 1 v' (coverR n s1 s2).2.length (intCells (coverR n s1 s2).2) ∧ Below w.heap.size w w' := by
  have hV0 := hV
  obtain ⟨A, c, rfl, hk⟩ := hV
  obtain ⟨wA, hwA⟩ : ∃ wA, wA = (w.alloc (.cells (nodeCells n A c) 26)).alloc (.cells #[.int .i64 s1, .int .i64 s2] 62) := ⟨_, rfl⟩
  have hBA : Below w.heap.size w wA := by rw [hwA]; exact ((Below.refl _ _).alloc (Nat.le_refl _) _).alloc (by simp) _
  have hsA : wA.heap.size = w.heap.size + 2 := by rw [hwA]; simp
  have a0 : wA.heap[w.heap.size]? = some (.cells (nodeCells n A c) 26 (0, 0)) := by rw [hwA, alloc_old _ _ _ (by simp), alloc_at _ _ _ rfl]
  have a1 : wA.heap[w.heap.size + 1]? = some (.cells #[.int .i64 s1, .int .i64 s2] 62 (0, 0)) := by rw [hwA, alloc_at _ _ _ (by simp)]
  have hIF := IsFormed_any n _ wA hC (hT.below hBA) (hV0.below hBA)
  have hSp := fun w1 (h : Below wA.heap.size wA w1) => allSpans_any n _ w1 hC hE (hV0.below (hBA.trans (h.mono hBA.size)))
  have HA := Lib.hid (show _ ∧ _ ∧ _ ∧ _ ∧ _ ∧ _ ∧ _ from ⟨hBA, hsA, a0, a1, hk, hC, hE⟩)
  have HSp := Lib.hid hSp
  have hgoA : ∀ (P : World → Prop), P wA → P ((w.alloc (.cells (nodeCells n A c) 26)).alloc (.cells #[.int .i64 s1, .int .i64 s2] 62)) := fun P h => by rw [← hwA]; exact h
  clear hBA hsA a0 a1 hT hV0 hk hC hE hSp hwA
  refine (callsIn_wide (n := 9)).1 ?_
  refine callsIn_of_wp_marks Tryd.func45 rfl trivial ?_ rfl
  simp only [Tryd.ntmps45, List.size_toArray, List.length_cons, List.length_nil, Nat.reduceAdd, Nat.reduceSub, Array.replicate_succ, Array.replicate_zero, List.push_toArray, List.append_toArray, List.nil_append, List.cons_append]
  refine wpIn_wide.2 ?_
  go_wp2_with (go_at_call 21; fail)
  refine hgoA (fun W => Calls Tryd.prog 21 _ W _) ?_
  refine hIF.mono ?_
  clear hIF hgoA
  rintro e w1 ⟨rfl, hb1⟩
  have hs1 : w.heap.size + 2 ≤ w1.heap.size := by have := hb1.size; rw [HA.out.2.1] at this; exact this
  have b0 := (hb1.block (w.heap.size) (by rw [HA.out.2.1]; omega)).trans HA.out.2.2.1
  have b1 := (hb1.block (w.heap.size + 1) (by rw [HA.out.2.1]; omega)).trans HA.out.2.2.2.1
  have hBw1 : Below w.heap.size w w1 := HA.out.1.trans (hb1.mono HA.out.1.size)
  obtain ⟨n0, n1, n2, n3⟩ := cells_of_block b0
  have HB1 := Lib.hid (show _ ∧ _ ∧ _ ∧ _ ∧ _ from ⟨hBw1, hs1, b0, b1, hb1⟩)
  clear b0 b1 hBw1 hb1 hs1
  dsimp only
  cases hf : formedB n with
  | false =>
    have hr : coverR n s1 s2 = (4, []) := by simp [coverR, hf]
    have HR := Lib.hid hr
    clear hr hf
    go_wp2_with fail
    rw [HR.out]
    exact ⟨.tuple #[.slice none 0 0, .int .i64 4], by simp [results, Tryd.f45, go_sem], _, rfl, World.ownsRow_nil _ _ _ _, HB1.out.1⟩
  | true =>
    have HF := Lib.hid hf
    clear hf
    go_wp2_with (go_at_call 75; fail)
    refine (HSp.out w1 HB1.out.2.2.2.2).mono ?_
    rintro e w2 ⟨sv, rfl, hsr, hb2⟩
    obtain ⟨gs, cs, rfl, hgs1, hgs2⟩ := hsr.form (by rw [spansN_length]; exact countN_pos n)
    have hs2 : w1.heap.size ≤ w2.heap.size := hb2.size
    have hs1 := HB1.out.2.1
    have b0 := (hb2.block w.heap.size (by omega)).trans HB1.out.2.2.1
    have b1 := (hb2.block (w.heap.size + 1) (by omega)).trans HB1.out.2.2.2.1
    obtain ⟨n0', n1', n2', n3'⟩ := cells_of_block b0
    have m1 : w2.cell? ⟨w.heap.size + 1, 0, none⟩ = some (.int .i64 s1) := Lib.cell_of_heap b1 0
    have m2 : w2.cell? ⟨w.heap.size + 1, 1, none⟩ = some (.int .i64 s2) := Lib.cell_of_heap b1 1
    have z1 : w2.cell? ⟨gs, 1, none⟩ = some (.int .i64 (totN n : Nat)) := (hsr.cellAt 1 (by rw [spansN_length]; have := countN_pos n; omega)).trans (by have := (spCells_get _ 0 _ (spansN_head n)).2; simpa using this)
    have hlen0 : (0 : Int) < ((spansN 0 n).length : Int) := by rw [spansN_length]; have := countN_pos n; omega
    have k0 : w.heap.size < w2.heap.size := by omega
    have k1 : w.heap.size + 1 < w2.heap.size := by omega
    have hBw2 : Below w.heap.size w w2 := HB1.out.1.trans (hb2.mono HB1.out.1.size)
    have HSZ := Lib.hid hs2
    have HB2 := Lib.hid (show _ ∧ _ ∧ _ ∧ _ from ⟨hBw2, hsr, b0, b1⟩)
    clear hBw2 hsr b0 b1 hb2 hs2 hs1 n0 n1 n2 n3 hgs1
    dsimp only
    by_cases hlo : s1 < 0
    · have hr : coverR n s1 s2 = (2, []) := by simp [coverR, HF.out, hlo]
      have hd1 : decide (s1 < 0) = true := decide_eq_true hlo
      have HR := Lib.hid hr
      clear hr hlo
      go_wp2_with fail
      go_quiet (fail)
      go_wp2_with fail
      rw [HR.out]
      refine ⟨.tuple #[.slice none 0 0, .int .i64 2], by simp [results, Tryd.f45, go_sem], _, rfl, World.ownsRow_nil _ _ _ _, ?_⟩
      first | exact (HB2.out.1.alloc HB2.out.1.size _) | exact Below.drewN' (HB2.out.1.alloc HB2.out.1.size _)
    have hd1 : decide (s1 < 0) = false := decide_eq_false hlo
    by_cases hor : s2 < s1
    · have hr : coverR n s1 s2 = (2, []) := by simp [coverR, HF.out, hor]
      have hd2 : decide (s2 < s1) = true := decide_eq_true hor
      have HR := Lib.hid hr
      clear hr hlo hor
      go_wp2_with fail
      go_quiet (fail)
      go_wp2_with fail
      rw [HR.out]
      refine ⟨.tuple #[.slice none 0 0, .int .i64 2], by simp [results, Tryd.f45, go_sem], _, rfl, World.ownsRow_nil _ _ _ _, ?_⟩
      first | exact (HB2.out.1.alloc HB2.out.1.size _) | exact Below.drewN' (HB2.out.1.alloc HB2.out.1.size _)
    have hd2 : decide (s2 < s1) = false := decide_eq_false hor
    by_cases hhi : (totN n : Int) < s2
    · have hr : coverR n s1 s2 = (2, []) := by simp [coverR, HF.out, hhi]
      have hd3 : decide ((totN n : Int) < s2) = true := decide_eq_true hhi
      have HR := Lib.hid hr
      clear hr hlo hor hhi
      go_wp2_with fail
      go_quiet (fail)
      go_wp2_with fail
      rw [HR.out]
      refine ⟨.tuple #[.slice none 0 0, .int .i64 2], by simp [results, Tryd.f45, go_sem], _, rfl, World.ownsRow_nil _ _ _ _, ?_⟩
      first | exact (HB2.out.1.alloc HB2.out.1.size _) | exact Below.drewN' (HB2.out.1.alloc HB2.out.1.size _)
    have hd3 : decide ((totN n : Int) < s2) = false := decide_eq_false hhi
    have hr : coverR n s1 s2 = (0, covK (walkN [] n) (spansN 0 n) s1 s2 (walkN [] n).length) := by simp [coverR, HF.out, hhi, hor, hlo]
    have HR := Lib.hid hr
    clear hr hlo hor hhi
    go_wp2_with fail
    go_quiet (fail)
    obtain ⟨w3, hw3⟩ : ∃ w3, w3 = (w2.alloc (.cells #[(.slice (some ⟨gs, 0, none⟩) (spansN 0 n).length cs)] 114)).drewN nq := ⟨_, rfl⟩
    rw [← hw3]
    have hh3 : w3.heap = (w2.alloc (.cells #[(.slice (some ⟨gs, 0, none⟩) (spansN 0 n).length cs)] 114)).heap := by rw [hw3]; rfl
    have hB23 : Below w2.heap.size w2 w3 := by rw [hw3]; exact Below.drewN' ((Below.refl _ _).alloc (Nat.le_refl _) _)
    have hs3 : w3.heap.size = w2.heap.size + 1 := by rw [hh3]; simp
    obtain ⟨hBw2, hsr, b0, b1⟩ := HB2.out
    have q0 : w3.heap[w.heap.size]? = some (.cells (nodeCells n A c) 26 (0, 0)) := (hB23.block _ k0).trans b0
    have q1 : w3.heap[w.heap.size + 1]? = some (.cells #[.int .i64 s1, .int .i64 s2] 62 (0, 0)) := (hB23.block _ k1).trans b1
    have q2 : w3.heap[w2.heap.size]? = some (.cells #[(.slice (some ⟨gs, 0, none⟩) (spansN 0 n).length cs)] 114 (0, 0)) := by rw [hh3]; exact alloc_at _ _ _ rfl
    obtain ⟨o0, o1, o2, o3⟩ := cells_of_block q0
    have k3 : w.heap.size < w3.heap.size := by omega
    have H3 := Lib.hid (show _ ∧ _ ∧ _ ∧ _ from ⟨hB23, hs3, q1, q2⟩)
    clear hw3 hh3 hB23 hs3 q0 q1 q2 n0' n1' n2' n3' m1 m2 z1 b0 b1 hBw2 hsr hlen0 k0 k1 hd1 hd2 hd3
    go_wp2_with (go_at_call 62; refine (walk_any n A c _).mono ?_; rintro e w' ⟨rfl, rfl⟩)
    obtain ⟨hB23, hs3, q1, q2⟩ := H3.out
    obtain ⟨hBw2, hsr, _, _⟩ := HB2.out
    obtain ⟨_, _, _, _, hk, hC, hE⟩ := HA.out
    obtain ⟨W0, hW0⟩ : ∃ W0, W0 = ((w3.alloc (.cells #[.slice none 0 0] 51)).alloc (.cells #[.int .i64 0] 3)).alloc (.cells (nodeCells n A c) 26) := ⟨_, rfl⟩
    have hB30 : Below w3.heap.size w3 W0 := by rw [hW0]; exact (((Below.refl _ _).alloc (Nat.le_refl _) _).alloc (by simp) _).alloc (by simp; omega) _
    have hB0 : Below w2.heap.size w2 W0 := hB23.trans (hB30.mono (by omega))
    have hs0 : W0.heap.size = w2.heap.size + 4 := by rw [hW0]; simp; omega
    have e2 : W0.heap[w2.heap.size]? = some (.cells #[(.slice (some ⟨gs, 0, none⟩) (spansN 0 n).length cs)] 114 (0, 0)) := (hB30.block _ (by omega)).trans q2
    have e3 : W0.heap[w2.heap.size + 1]? = some (.cells #[.slice none 0 0] 51 (0, 0)) := by rw [hW0, alloc_old _ _ _ (by simp; omega), alloc_old _ _ _ (by simp; omega), alloc_at _ _ _ (by omega)]
    have e4 : W0.heap[w2.heap.size + 2]? = some (.cells #[.int .i64 0] 3 (0, 0)) := by rw [hW0, alloc_old _ _ _ (by simp; omega), alloc_at _ _ _ (by simp; omega)]
    have e5 : W0.heap[w2.heap.size + 3]? = some (.cells (nodeCells n A c) 26 (0, 0)) := by rw [hW0, alloc_at _ _ _ (by simp; omega)]
    obtain ⟨c0, c1, c2, c3⟩ := cells_of_block e5
    have hM0 : Mine (w2.heap.size + 4) w2 (fun _ => False) W0 := ⟨fun b hb => hb.elim, hB0, by omega, by omega⟩
    have hk2 : KidsV w2 A n.kids := hk.below hBw2
    refine (wpIn_wide (n := 9)).1 ?_
    have hgo : ∀ (Q : Exit → Act → World → Prop) (a : Act) (g : Operand) (ps : Array Tmp) (assign body : Code), (Code.rangeFunc g ps assign body).wpIn Fence.wide 9 Tryd.prog Q a W0 → (Code.rangeFunc g ps assign body).wpIn Fence.wide 9 Tryd.prog Q a (((w3.alloc (.cells #[.slice none 0 0] 51)).alloc (.cells #[.int .i64 0] 3)).alloc (.cells (nodeCells n A c) 26)) := fun _ _ _ _ _ _ h => by rw [← hW0]; exact h
    refine hgo _ _ _ _ _ _ ?_
    clear hgo hW0
    rw [hs3]
    have HCN := Lib.hid hC
    clear hs3 H3 hB23 hB30 q1 q2
    have hk1lt : w.heap.size + 1 < w2.heap.size := by have h1 := HB1.out.2.1; have h2 := HSZ.out; omega
    refine wpIn_rangeT rfl (by decide) (gf := 84) (lb := #[.pointer (some ⟨w2.heap.size + 3, 0, none⟩)]) rfl trivial (enters_of Tryd.func84 (by kernel_rfl) rfl)
      (walk1_gives w2 n hC (w2.heap.size + 3) A c (9 - 1) (by decide) W0 hB0 (by omega) c0 c1 c2 c3 hk2) (Below.refl _ _) hB0.size EnW.keep (fun O x W args h => EnW.size O x W args h)
      (fun k O W => Mine (w2.heap.size + 4) w2 O W ∧ W.heap[w2.heap.size]? = some (.cells #[(.slice (some ⟨gs, 0, none⟩) (spansN 0 n).length cs)] 114 (0, 0)) ∧ W.heap[w2.heap.size + 2]? = some (.cells #[.int .i64 (k : Nat)] 3 (0, 0)) ∧ ∃ fv, W.heap[w2.heap.size + 1]? = some (.cells #[fv] 51 (0, 0)) ∧ W.ownsRow (w2.heap.size + 4) 3 1 fv (covK (walkN [] n) (spansN 0 n) s1 s2 k).length (intCells (covK (walkN [] n) (spansN 0 n) s1 s2 k)) ∧ ∀ g, fv.ownBlock = some g → ¬ O g)
      (fun _ _ _ _ => False)
      (fun k O O' W W' h ht hg => ⟨h.1.turns ht hg, (h.1.block ht (by omega)).trans h.2.1, (h.1.block ht (by omega)).trans h.2.2.1, by
        obtain ⟨fv, h1, h2, h3⟩ := h.2.2.2
        exact ⟨fv, (h.1.block ht (by omega)).trans h1, own_same h2 (fun g e => ht.block g (h2.lt g e).2 (h3 g e)), fun g e ho => (hg g ho).elim (h3 g e) (fun h' => by have := (h2.lt g e).2; omega)⟩⟩)
      (fun _ _ _ _ _ _ h _ _ => h)
      ⟨hM0, e2, by rw [e4]; simp, .slice none 0 0, e3, by simpa [covK, intCells] using World.ownsRow_nil W0 (w2.heap.size + 4) 3 1, fun g h => by simp [Value.ownBlock] at h⟩ ?round ?done ?stop
    case round =>
      rintro l k O ⟨p, x⟩ args W hO hn ⟨hM, r1, r2, fv, r3, r4, r5⟩ hx ⟨pv, Ak, ck, rfl, hkv, hpos, hpo⟩
      simp only at hpos hkv
      obtain ⟨a0, cp, rfl⟩ := own_slice hpos
      gi_wp2
      refine ⟨Below.refl _ _, fun W2 hT2 hs2' hi2 he2 => ?_⟩
      obtain ⟨hM2, u1, u2, fv2, u3, u4, u5⟩ := hi2
      obtain ⟨af, cf, rfl⟩ := own_slice u4
      have hpv : W2.ownsRow 0 3 1 (.slice a0 p.length cp) p.length (intCells p) := by
        obtain ⟨pv', A2', c2', he, _, hp2, _⟩ := he2
        have : (Value.slice a0 p.length cp) = pv' := by have := congrArg (fun a => a[0]?) he; simpa using this
        rw [this]; exact hp2
      have hkl : k < countN n := by
        have := (List.getElem?_eq_some_iff.1 hx).1
        rwa [walkN_length] at this
      obtain ⟨⟨sa, sb⟩, hsk⟩ : ∃ sk, (spansN 0 n)[k]? = some sk := ⟨_, List.getElem?_eq_getElem (by rw [spansN_length]; exact hkl)⟩
      have hsr2 : W2.ownsRow w1.heap.size 62 2 (.slice (some ⟨gs, 0, none⟩) (spansN 0 n).length cs) (spansN 0 n).length (spCells (spansN 0 n)) := own_same hsr (fun g e => hM2.below.block g (hsr.lt g e).2)
      have y1 := (hsr2.cellAt (k * 2) (by rw [spansN_length]; omega)).trans (spCells_get _ k _ hsk).1
      have y2 := (hsr2.cellAt (k * 2 + 1) (by rw [spansN_length]; omega)).trans (spCells_get _ k _ hsk).2
      have v1 : W2.heap[w.heap.size + 1]? = some (.cells #[.int .i64 s1, .int .i64 s2] 62 (0, 0)) := (hM2.below.block _ hk1lt).trans HB2.out.2.2.2
      have m1 : W2.cell? ⟨w.heap.size + 1, 0, none⟩ = some (.int .i64 s1) := Lib.cell_of_heap v1 0
      have m2 : W2.cell? ⟨w.heap.size + 1, 1, none⟩ = some (.int .i64 s2) := Lib.cell_of_heap v1 1
      have l1 : W2.cell? ⟨w2.heap.size, 0, none⟩ = some (.slice (some ⟨gs, 0, none⟩) (spansN 0 n).length cs) := Lib.cell_of_heap u1 0
      have l2 : W2.cell? ⟨w2.heap.size + 1 + 1, 0, none⟩ = some (.int .i64 (k : Nat)) := Lib.cell_of_heap u2 0
      have f2 : W2.frozen? ⟨w2.heap.size + 1 + 1, 0, none⟩ = false := frozen_block u2
      have l3 := Lib.cell_of_heap u3 0
      have hltB := hM2.size
      have z1 : w2.heap.size < W2.heap.size := by omega
      have z2 : w2.heap.size + 1 < W2.heap.size := by omega
      have z3 : w2.heap.size + 1 + 1 < W2.heap.size := by omega
      have z4 : w.heap.size + 1 < W2.heap.size := by omega
      have hki : (k : Int) < ((spansN 0 n).length : Int) := by rw [spansN_length]; omega
      have hwk : wrap64 ((k : Int) + 1) = (k : Int) + 1 := w64a hkl hC
      have HX := Lib.hid (show _ ∧ _ ∧ _ ∧ _ ∧ _ ∧ _ ∧ _ ∧ _ ∧ _ ∧ _ from ⟨hM2, u1, u2, u3, u4, u5, hpv, hsk, hx, hs2'⟩)
      have HO := Lib.hid hO
      clear hM2 u1 u2 u3 u4 u5 hpv hsk hx hs2' hO hsr2 v1 hkl hltB hT2 he2 hM r1 r2 r3 r4 r5 hpos hpo hkv hn c0 c1 c2 c3 e2 e3 e4 e5 hM0 hk2 hk hC hE hB0 hs0 hBw2 hsr HR o0 o1 o2 o3 k3
      have hmiss : covK (walkN [] n) (spansN 0 n) s1 s2 (k + 1) = covK (walkN [] n) (spansN 0 n) s1 s2 k → Keep w2.heap.size O W2 ((W2.setCell ⟨w2.heap.size + 1 + 1, 0, none⟩ (.int .i64 ((k : Int) + 1))).alloc (.cells #[.int .i64 (sa : Int), .int .i64 (sb : Int)] 62)) ∧ Mine (w2.heap.size + 4) w2 O ((W2.setCell ⟨w2.heap.size + 1 + 1, 0, none⟩ (.int .i64 ((k : Int) + 1))).alloc (.cells #[.int .i64 (sa : Int), .int .i64 (sb : Int)] 62)) ∧ ((W2.setCell ⟨w2.heap.size + 1 + 1, 0, none⟩ (.int .i64 ((k : Int) + 1))).alloc (.cells #[.int .i64 (sa : Int), .int .i64 (sb : Int)] 62)).heap[w2.heap.size]? = some (.cells #[(.slice (some ⟨gs, 0, none⟩) (spansN 0 n).length cs)] 114 (0, 0)) ∧ ((W2.setCell ⟨w2.heap.size + 1 + 1, 0, none⟩ (.int .i64 ((k : Int) + 1))).alloc (.cells #[.int .i64 (sa : Int), .int .i64 (sb : Int)] 62)).heap[w2.heap.size + 2]? = some (.cells #[.int .i64 ((k + 1 : Nat) : Int)] 3 (0, 0)) ∧ ∃ fv, ((W2.setCell ⟨w2.heap.size + 1 + 1, 0, none⟩ (.int .i64 ((k : Int) + 1))).alloc (.cells #[.int .i64 (sa : Int), .int .i64 (sb : Int)] 62)).heap[w2.heap.size + 1]? = some (.cells #[fv] 51 (0, 0)) ∧ ((W2.setCell ⟨w2.heap.size + 1 + 1, 0, none⟩ (.int .i64 ((k : Int) + 1))).alloc (.cells #[.int .i64 (sa : Int), .int .i64 (sb : Int)] 62)).ownsRow (w2.heap.size + 4) 3 1 fv (covK (walkN [] n) (spansN 0 n) s1 s2 (k + 1)).length (intCells (covK (walkN [] n) (spansN 0 n) s1 s2 (k + 1))) ∧ ∀ g, fv.ownBlock = some g → ¬ O g := fun hcv => by
        obtain ⟨hM2, u1, u2, u3, u4, u5, hpv, hsk, hx, hs2'⟩ := HX.out
        have s1' := hM2.set (b := w2.heap.size + 2) (j := 0) (.int .i64 ((k : Int) + 1)) (by omega) (by omega)
        have hBl : Below (W2.setCell ⟨w2.heap.size + 1 + 1, 0, none⟩ (.int .i64 ((k : Int) + 1))).heap.size (W2.setCell ⟨w2.heap.size + 1 + 1, 0, none⟩ (.int .i64 ((k : Int) + 1))) ((W2.setCell ⟨w2.heap.size + 1 + 1, 0, none⟩ (.int .i64 ((k : Int) + 1))).alloc (.cells #[.int .i64 (sa : Int), .int .i64 (sb : Int)] 62)) := (Below.refl _ _).alloc (Nat.le_refl _) _
        have hsz : (W2.setCell ⟨w2.heap.size + 1 + 1, 0, none⟩ (.int .i64 ((k : Int) + 1))).heap.size = W2.heap.size := by simp [World.setCell]
        have hOb : ∀ b, O b → b < W2.heap.size := fun b hb => by rw [hs2']; exact HO.out b hb
        rw [hcv]
        refine ⟨s1'.2.trans (Keep.of_below hBl s1'.1.below.size (fun b hb => by rw [hsz]; exact hOb b hb)), s1'.1.call hBl, ?_, ?_, .slice af _ cf, ?_, ?_, u5⟩
        · exact (alloc_old _ _ _ (by rw [hsz]; exact z1)).trans ((block_other (by omega)).trans u1)
        · rw [alloc_old _ _ _ (by rw [hsz]; exact z3)]
          have := set_block (v := .int .i64 ((k : Int) + 1)) u2
          simpa using this
        · exact (alloc_old _ _ _ (by rw [hsz]; exact z2)).trans ((block_other (by omega)).trans u3)
        · exact World.ownsRow.alloc (own_same u4 (fun g e => block_other (by have := (u4.lt g e).1; omega))) _
      have HMI := Lib.hid hmiss
      clear hmiss
      by_cases hca : (sa : Int) ≤ s1
      · have hda : decide ((sa : Int) ≤ s1) = true := decide_eq_true hca
        by_cases hcb : s2 ≤ (sb : Int)
        · have hdb : decide (s2 ≤ (sb : Int)) = true := decide_eq_true hcb
          have hcv : covK (walkN [] n) (spansN 0 n) s1 s2 (k + 1) = p := by simp only [covK, HX.out.2.2.2.2.2.2.2.1, HX.out.2.2.2.2.2.2.2.2.1, hda, hdb]; simp
          have hpl : p.length ≤ 10000000 := by
            have h1 := longW_mem (List.mem_of_getElem? HX.out.2.2.2.2.2.2.2.2.1)
            have h2 := atN_small_len n
            rw [longW_walkN] at h1
            simp at h1
            have := HCN.out
            omega
          obtain ⟨hcut, ho0⟩ := cut_zero HX.out.2.2.2.2.1
          obtain ⟨v', w5, hrun, g1, g2, g3⟩ := run_append_ints (W2.alloc (.cells #[.int .i64 (sa : Int), .int .i64 (sb : Int)] 62)) 51 (w2.heap.size + 4) (.slice af 0 cf) 0 [] (World.ownsRow.alloc ho0 _) _ p (World.ownsRow.alloc HX.out.2.2.2.2.2.2.1 _) (by have := HX.out.1.size; simp; omega) (by omega)
          rw [Nat.zero_add] at g1
          obtain ⟨av, cv, rfl⟩ := own_slice g1
          have hown0 : ∀ g, (Value.slice af 0 cf).ownBlock = some g → w2.heap.size + 4 ≤ g ∧ g < W2.heap.size := fun g e => ho0.lt g e
          have hb5 : ∀ b, b < w2.heap.size + 4 → w5.heap[b]? = W2.heap[b]? := fun b hb => by
            have := HX.out.1.size
            exact (g2.block b (by simp; omega) (fun e => by have := (hown0 b e.symm).1; omega)).trans (alloc_old _ _ _ (by omega))
          have t1 := (hb5 _ (by omega)).trans HX.out.2.1
          have t2 := (hb5 _ (by omega)).trans HX.out.2.2.1
          have t3 := (hb5 _ (by omega)).trans HX.out.2.2.2.1
          have x1 := Lib.cell_of_heap t3 0
          have x2 : w5.cell? ⟨w2.heap.size + 1 + 1, 0, none⟩ = some (.int .i64 (k : Nat)) := Lib.cell_of_heap t2 0
          have x3 := frozen_block (j := 0) t3
          have x4 : w5.frozen? ⟨w2.heap.size + 1 + 1, 0, none⟩ = false := frozen_block t2
          have x5 : w2.heap.size + 1 + 1 ≠ w2.heap.size + 1 := by omega
          have HH := Lib.hid (show _ ∧ _ ∧ _ ∧ _ ∧ _ ∧ _ ∧ _ ∧ _ from ⟨hcv, g1, g2, g3, hown0, t1, t2, t3⟩)
          clear hcv hca hcb hpl ho0 g1 g2 g3 hown0 hb5 t1 t2 t3
          gi_wp2_with (gi_at_builtin; refine wpListIn_append_run rfl _ _ 51 rfl rfl rfl hrun ?_)
          obtain ⟨hcv, g1, g2, g3, hown0, t1, t2, t3⟩ := HH.out
          obtain ⟨hM2, u1, u2, u3, u4, u5, hpv, hsk, hx, hs2'⟩ := HX.out
          have hOb : ∀ b, O b → b < W2.heap.size := fun b hb => by rw [hs2']; exact HO.out b hb
          have hob : (Value.slice af 0 cf).ownBlock = (Value.slice af (covK (walkN [] n) (spansN 0 n) s1 s2 k).length cf).ownBlock := by cases af <;> rfl
          have hsz5 : W2.heap.size ≤ w5.heap.size := by have := g2.size; simp at this; omega
          have hMs := hM2.size
          have h5 : ∀ b, b < W2.heap.size → (Value.slice af 0 cf).ownBlock ≠ some b → w5.heap[b]? = W2.heap[b]? := fun b h1 h2 => (g2.block b (by simp; omega) (fun e => h2 e.symm)).trans (alloc_old _ _ _ h1)
          have hBl5 : Below w2.heap.size W2 w5 := ⟨g2.os, g2.tape, g2.output, hsz5, fun b hb => h5 b (by omega) (fun e => by have := (hown0 b e).1; omega)⟩
          have hK5 : Keep w2.heap.size O W2 w5 := ⟨hBl5, fun b hb => h5 b (hOb b hb) (fun e => u5 b (by rw [← hob]; exact e) hb)⟩
          have hM5 : Mine (w2.heap.size + 4) w2 O w5 := ⟨hM2.far, hM2.below.trans hBl5, Nat.le_trans hMs hsz5, hM2.base⟩
          have m1' := hM5.set (b := w2.heap.size + 1) (j := 0) (.slice av p.length cv) (by omega) (by omega)
          have m2' := m1'.1.set (b := w2.heap.size + 2) (j := 0) (.int .i64 ((k : Int) + 1)) (by omega) (by omega)
          have hne12 : w2.heap.size + 2 ≠ w2.heap.size + 1 := by omega
          have q2' := set_block (v := .int .i64 ((k : Int) + 1)) ((block_other (j := 0) (v := .slice av p.length cv) hne12).trans t2)
          have q3' := (block_other (j := 0) (v := .int .i64 ((k : Int) + 1)) (Ne.symm hne12)).trans (set_block (v := .slice av p.length cv) t3)
          have hfar : ∀ g, (Value.slice av p.length cv).ownBlock = some g → w2.heap.size + 4 ≤ g := fun g e => (g1.lt g e).1
          refine ⟨(hK5.trans m1'.2).trans m2'.2, m2'.1, (block_other (by omega)).trans ((block_other (by omega)).trans t1), by rw [q2']; simp, _, q3', ?_, fun g e ho => ?_⟩
          · rw [hcv]
            exact own_same g1 (fun g e => (block_other (by have := hfar g e; omega)).trans (block_other (by have := hfar g e; omega)))
          · rcases g3 with h | h
            · exact u5 g (by rw [← hob, ← h]; exact e) ho
            · rw [h] at e
              have h1 := hOb g ho
              simp at e
              omega
        · have hdb : decide (s2 ≤ (sb : Int)) = false := decide_eq_false hcb
          have hcv : covK (walkN [] n) (spansN 0 n) s1 s2 (k + 1) = covK (walkN [] n) (spansN 0 n) s1 s2 k := by simp only [covK, HX.out.2.2.2.2.2.2.2.1, HX.out.2.2.2.2.2.2.2.2.1, hda, hdb]; simp
          have HC := Lib.hid hcv
          clear hcv hca hcb
          gi_wp2
          exact HMI.out HC.out
      · have hda : decide ((sa : Int) ≤ s1) = false := decide_eq_false hca
        have hcv : covK (walkN [] n) (spansN 0 n) s1 s2 (k + 1) = covK (walkN [] n) (spansN 0 n) s1 s2 k := by simp only [covK, HX.out.2.2.2.2.2.2.2.1, HX.out.2.2.2.2.2.2.2.2.1, hda]; simp
        have HC := Lib.hid hcv
        clear hcv hca
        gi_wp2
        exact HMI.out HC.out
    case done =>
      rintro D O W hD hOD ⟨hM, q1', q2', fv, q3', q4', q5'⟩ hKD
      have l3 : W.cell? ⟨w2.heap.size + 1, 0, none⟩ = some fv := Lib.cell_of_heap q3' 0
      obtain ⟨af, cf, rfl⟩ := own_slice q4'
      have hfin : (W.putObj D (.deferred none)).ownsRow w.heap.size 3 1 (.slice af (covK (walkN [] n) (spansN 0 n) s1 s2 (walkN [] n).length).length cf) (covK (walkN [] n) (spansN 0 n) s1 s2 (walkN [] n).length).length (intCells (covK (walkN [] n) (spansN 0 n) s1 s2 (walkN [] n).length)) := own_le (own_same q4' (fun g e => World.putObj_heap_other (fun h => q5' g e (by rw [h]; exact hOD)))) (by have := hBw2.size; omega)
      have HFN := Lib.hid hfin
      clear hfin q1' q2' q3' q4'
      go_wp2_with fail
      rw [HR.out]
      refine ⟨by simp, .inl ⟨_, _, rfl, run_takeDeferred hKD, ?_⟩⟩
      exact ⟨.tuple #[.slice af (covK (walkN [] n) (spansN 0 n) s1 s2 (walkN [] n).length).length cf, .int .i64 0], by simp [results, Tryd.f45, go_sem], _, rfl, HFN.out, hBw2.trans ((hM.below.mono hBw2.size).trans ⟨rfl, rfl, rfl, by simp, fun b hb => World.putObj_heap_other (by have := hBw2.size; omega)⟩)⟩
    case stop =>
      rintro D O cd k W hD _ hkl h hKD
      exact h.elim
end Go.Proofs.YtpjlgahbbmlngaaDoor
