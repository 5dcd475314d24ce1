/-
  Trees: the specification's All. (gen_iue.py)
-/
import Derived.Test.YtpjlgahbbmlngaaDoorTreeLeavesp34
import Derived.Test.YtpjlgahbbmlngaaDoorTreeLeavesp22
import Derived.Test.YtpjlgahbbmlngaaDoorTreeLeavesp27
import Derived.Deep.RegionHeld3
namespace Go.Proofs.YtpjlgahbbmlngaaDoor
set_option linter.unusedVariables false
set_option linter.unusedSimpArgs false
open Go Go.RowKit

theorem kindW_append (kd : Int) (a b : List (List Nat × Nd)) : kindW kd (a ++ b) = kindW kd a ++ kindW kd b := by simp [kindW]
def hereK (k kd : Int) (here : List Nat) : List (List Nat) := if k = kd then [here] else []
theorem hereK_len (k kd : Int) (here : List Nat) : (hereK k kd here).length ≤ 1 := by unfold hereK; split <;> simp
theorem kindW_node (kd : Int) (pos : List Nat) (k : Int) (t : Tok) (l : List Nd) : kindW kd (walkN pos (.mk k t l)) = hereK k kd pos ++ kindW kd (walkK pos 0 l) := by
  simp only [walkN, hereK]
  by_cases h : k = kd
  · simp [kindW, Nd.kind, h]
  · simp [kindW, Nd.kind, h]
theorem walkK_app (pos : List Nat) : ∀ (a b : List Nd) (i : Nat), walkK pos i (a ++ b) = walkK pos i a ++ walkK pos (i + a.length) b
  | [], b, i => by simp [walkK]
  | y :: a, b, i => by
    rw [List.cons_append, walkK, walkK_app pos a b (i + 1), walkK, List.append_assoc]
    simp [Nat.add_assoc, Nat.add_comm 1]
theorem walkK_next (pos : List Nat) {l : List Nd} {k : Nat} {y : Nd} (h : l[k]? = some y) : walkK pos 0 (l.take (k + 1)) = walkK pos 0 (l.take k) ++ walkN (pos ++ [k]) y := by
  have hk := (List.getElem?_eq_some_iff.1 h).1
  rw [take_snoc h, walkK_app]
  simp [walkK, List.length_take, Nat.min_eq_left (Nat.le_of_lt hk)]

/-- a slice of positions, its own and theirs from a block on -/
structure PossQ (base : Nat) (W : World) (v : Value) (ps : List (List Nat)) : Prop where
  vals : ∃ vs : List Value, W.ownsRow base 51 1 v ps.length vs ∧ ∀ (i : Nat) (u : Value) (p : List Nat), vs[i]? = some u → ps[i]? = some p → W.ownsRow base 3 1 u p.length (intCells p)
theorem PossQ.nil (base : Nat) (W : World) : PossQ base W (.slice none 0 0) [] := ⟨⟨[], World.ownsRow_nil W base 51 1, fun i u p h => by simp at h⟩⟩
theorem PossQ.lt {base : Nat} {W : World} {v : Value} {ps : List (List Nat)} (h : PossQ base W v ps) : ∀ g, v.ownBlock = some g → base ≤ g ∧ g < W.heap.size := fun g e => by
  obtain ⟨vs, h1, _⟩ := h.vals
  exact h1.lt g e
theorem PossQ.call {base : Nat} {W W' : World} {v : Value} {ps : List (List Nat)} (h : PossQ base W v ps) (hb : Below W.heap.size W W') : PossQ base W' v ps := by
  obtain ⟨vs, h1, h2⟩ := h.vals
  exact ⟨⟨vs, own_same h1 (fun g e => hb.block g (h1.lt g e).2), fun i u p hi hp => own_same (h2 i u p hi hp) (fun g e => hb.block g ((h2 i u p hi hp).lt g e).2)⟩⟩
/-- one position more -/
theorem PossQ.step {base g cap : Nat} {W W' : World} {v u : Value} {ps : List (List Nat)} {p : List Nat} {vs : List Value} (h1 : W.ownsRow base 51 1 v ps.length vs) (h2 : ∀ (i : Nat) (u : Value) (p : List Nat), vs[i]? = some u → ps[i]? = some p → W.ownsRow base 3 1 u p.length (intCells p))
    (hu : W.ownsRow base 3 1 u p.length (intCells p)) (hown : W'.ownsRow base 51 1 (.slice (some ⟨g, 0, none⟩) (ps.length + 1) cap) (ps.length + 1) (vs ++ [u])) (hgr : W.grownBy W' v.ownBlock) : PossQ base W' (.slice (some ⟨g, 0, none⟩) (ps.length + 1) cap) (ps ++ [p]) := by
  have hk : ∀ (q : List Nat) (y : Value), W.ownsRow base 3 1 y q.length (intCells q) → W'.ownsRow base 3 1 y q.length (intCells q) := fun q y hy => own_same hy (fun b e => hgr.block b (hy.lt b e).2 (fun h => by
    rcases own_two hy h1 (by decide) with h' | h'
    · rw [h'] at e; cases e
    · exact h' (by rw [e, h])))
  have hl : vs.length = ps.length := by have := h1.1; omega
  refine ⟨⟨vs ++ [u], by rw [List.length_append]; exact hown, fun i y q hi hq => ?_⟩⟩
  rcases Nat.lt_or_ge i vs.length with hlt | hge
  · rw [List.getElem?_append_left hlt] at hi
    rw [List.getElem?_append_left (by omega)] at hq
    exact hk q y (h2 i y q hi hq)
  · have hi0 : i = vs.length := by
      have := (List.getElem?_eq_some_iff.1 hi).1
      simp at this; omega
    subst hi0
    rw [List.getElem?_append_right (Nat.le_refl _)] at hi
    rw [hl, List.getElem?_append_right (Nat.le_refl _)] at hq
    simp only [Nat.sub_self, List.getElem?_cons_zero, Option.some.injEq] at hi hq
    subst hi
    subst hq
    exact hk _ _ hu
theorem wpList_append_run {P : Program} {w w' : World} {ops : Array Oper} {rest : List Oper} {o : Oper} {a : Act} {Q : Exit → Act → World → Prop} {v xv v' : Value} (hg : o.guard = none) (s x : Operand) (t : TypeId)
    (hop : o.op = Op.call { callee := Callee.builtin Builtin.append, args := #[s, x], argTypes := #[t, t] }) (hs : a.eval s = v) (hx : a.eval x = xv) (hrun : (Builtin.append_ #[t, t] o.type #[v, xv]).run P w = .ok v' w') (hK : wpList P ops Q rest (a.put o.dst v') w') : wpList P ops Q (o :: rest) a w := by
  refine wpList_plain hg fun K hK' => ?_
  unfold Oper.wp
  simp [execOp, hop, resolve, invoke, builtin, hs, hx, hrun, Result.andThen]
  exact hK' _ _ hK

set_option maxRecDepth 100000 in
set_option maxHeartbeats 4000000 in
theorem RAll_rec (wt : World) (base : Nat) (kd : Int) (hbt : wt.heap.size ≤ base) : ∀ (m : Nat) (n : Nd) (v : Value) (here : List Nat) (hv : Value) (ps : List (List Nat)) (sv : Value) (w : World), deepN n < m → Below wt.heap.size wt w → base ≤ w.heap.size → NodeV wt v n →
    w.ownsRow 0 3 1 hv here.length (intCells here) → PossQ base w sv ps → ps.length + countN n ≤ 10000000 → here.length + m ≤ 10000000 →
    Calls Tryd.prog 76 #[v, .int .i64 kd, hv, sv] w fun e w' => ∃ sv', e = .returned sv' ∧ PossQ base w' sv' (ps ++ kindW kd (walkN here n)) ∧ RowTo sv sv' w w'
  | 0, n, v, here, hv, ps, sv, w, h, _, _, _, _, _, _, _ => absurd h (Nat.not_lt_zero _)
  | m + 1, .mk kn (tk, tx) l, v, here, hv, ps, sv, w, hm, hwt, hbw, hV, hhe, hps, hlen, hhl => by
    have IH := RAll_rec wt base kd hbt m
    have hV : ∃ A c, v = .agg #[.int .i64 kn, .int .i64 tk, .string tx, .slice A l.length c] ∧ KidsV wt A l := hV
    obtain ⟨A, c, rfl, hk⟩ := hV
    obtain ⟨w0, hw0⟩ : ∃ w0, w0 = w.alloc (.cells #[.int .i64 kn, .int .i64 tk, .string tx, .slice A l.length c] 26) := ⟨_, rfl⟩
    have hB0 : Below w.heap.size w w0 := by rw [hw0]; exact (Below.refl _ _).alloc (Nat.le_refl _) _
    have hb0 : w0.heap[w.heap.size]? = some (.cells #[.int .i64 kn, .int .i64 tk, .string tx, .slice A l.length c] 26 (0, 0)) := by rw [hw0]; exact heap_alloc_new w _
    have hs0 : w0.heap.size = w.heap.size + 1 := by rw [hw0]; simp
    have p0 : w0.cell? ⟨w.heap.size, 0, none⟩ = some (.int .i64 kn) := Lib.cell_of_heap hb0 0
    have p3 : w0.cell? ⟨w.heap.size, 3, none⟩ = some (.slice A l.length c) := Lib.cell_of_heap hb0 3
    have hps0 := hps.call hB0
    have hhe0 : w0.ownsRow 0 3 1 hv here.length (intCells here) := own_same hhe (fun g e => hB0.block g (hhe.lt g e).2)
    have hm : deepL l < m + 1 := hm
    have hn : ps.length + (1 + countL l) ≤ 10000000 := hlen
    have hlc := countL_len l
    have hl1 : l.length ≤ 10000000 := by omega
    have hwt0 : Below wt.heap.size wt w0 := hwt.trans (hB0.mono hwt.size)
    have hkn := kindW_node kd here kn (tk, tx) l
    have hW := Lib.hid hw0
    have HX := Lib.hid (show _ ∧ _ ∧ _ ∧ _ ∧ _ from ⟨hB0, hb0, hs0, hps0, hhe0⟩)
    have HIH := Lib.hid IH
    have HN := Lib.hid (show _ ∧ _ ∧ _ from ⟨hm, hn, hhl⟩)
    have HT := Lib.hid (show _ ∧ _ ∧ _ ∧ _ from ⟨hwt0, hk, hbt, hbw⟩)
    rw [hkn]
    clear IH hm hn hlen hk hps0 hhe0 hB0 hlc hwt hwt0 hps hhe hkn hb0 hw0 hs0 hhl hbt hbw
    go_enter Tryd.func76, Tryd.ntmps76
    go_upto_if 15 with fail
    rw [← hW.out]
    go_cut [9] (fun s9 W => ∃ (sv1 : Value), sv1 = s9 ∧ PossQ base W sv1 (ps ++ hereK kn kd here) ∧ RowTo sv sv1 w0 W ∧ W.heap[w.heap.size]? = some (.cells #[.int .i64 kn, .int .i64 tk, .string tx, .slice A l.length c] 26 (0, 0)) ∧ W.ownsRow 0 3 1 hv here.length (intCells here))
    case first =>
      by_cases h1 : kn = kd
      · subst h1
        obtain ⟨W1, hW1⟩ : ∃ W1, W1 = w0.alloc (.cells #[] 3) := ⟨_, rfl⟩
        have hB1 : Below w0.heap.size w0 W1 := by rw [hW1]; exact allocB _ _
        have hz1 : W1.ownsRow w0.heap.size 3 1 (.slice (some ⟨w0.heap.size, 0, none⟩) 0 0) 0 [] := ⟨rfl, .inr ⟨w0.heap.size, 0, #[], rfl, Nat.le_refl _, by rw [hW1]; exact World.alloc_heap_new w0 _, Nat.le_refl _, Nat.zero_le _, rfl, rfl⟩⟩
        obtain ⟨u, W2, hrun, hu, hgr, hat⟩ := run_append_ints W1 51 w0.heap.size _ 0 [] hz1 hv here (own_same HX.out.2.2.2.2 (fun g e => hB1.block g (HX.out.2.2.2.2.lt g e).2)) hB1.size (by have := HN.out.2.2; omega)
        have hB2 : Below w0.heap.size w0 W2 := hB1.grown hgr hB1.size (fun g e => (hz1.lt g e).1)
        obtain ⟨aU, cU, rfl⟩ := own_slice hu
        simp only [Nat.zero_add, List.nil_append] at hu
        rw [Nat.zero_add] at hrun
        have hps2 := HX.out.2.2.2.1.call hB2
        obtain ⟨i1, hi1, hx1⟩ := Option.map_eq_some_iff.1 infoInts
        simp only [Prod.mk.injEq] at hx1
        obtain ⟨hy0, hy1, hy2⟩ := hx1
        have hB3 : Below w0.heap.size w0 (W2.alloc (.cells #[.slice aU here.length cU] 51)) := hB2.alloc hB2.size _
        obtain ⟨vs, hv1, hv2⟩ := (hps2.call (allocB W2 (.cells #[.slice aU here.length cU] 51))).vals
        have hnews := World.news_of_block (w := W2.alloc (.cells #[.slice aU here.length cU] 51)) (B := W2.heap.size) (cs := #[.slice aU here.length cU]) (t := 51) (fr := (0, 0)) (alloc_at W2 _ _ rfl)
        have h63 : ps.length + 1 ≤ maxLen := by have := HN.out.2.1; unfold maxLen; omega
        have hby : (ps.length + 1) * 24 ≤ 140737488355328 := by have := HN.out.2.1; omega
        have hbs2 : base ≤ (W2.alloc (.cells #[.slice aU here.length cU] 51)).heap.size := by have h1 := hB3.size; have h2 := HT.out.2.2.2; have h3 := HX.out.2.2.1; omega
        rw [hW1] at hrun
        have HU := Lib.hid (show _ ∧ _ ∧ _ ∧ _ from ⟨hu, hv2, hB3, hB2⟩)
        have HV1 := Lib.hid hv1
        have HRun := Lib.hid hrun
        clear hu hv2 hB3 hB2 hB1 hz1 hrun hgr hat hps2 hv1 hW1
        have g1 : (kn == kn) = true := by simp
        go_wp2_with (at_builtin; first
          | (refine wpList_append_run rfl _ _ _ rfl rfl rfl HRun.out ?_)
          | (refine wpList_append_lies _ rfl _ _ 72 rfl base 51 i1 _ 1 24 Tryd.underlying72 hi1 hy0 hy1 hy2 rfl (by decide) _ _ _ rfl HV1.out ⟨W2.heap.size, 0, none⟩ 1 1 [.slice aU here.length cU] rfl rfl hnews (by intro u hu; simp at hu; subst hu; rfl) (by decide) h63 hby hbs2 (W2.heap.size + 1) (by simp) ?_; intro g cap W3 hown3 hgr3 hat3 hlt3))
        go_meet
        have hu3 : (W2.alloc (.cells #[.slice aU here.length cU] 51)).ownsRow base 3 1 (.slice aU here.length cU) here.length (intCells here) := own_le (HU.out.1.alloc _) (by have := HT.out.2.2.2; have := HX.out.2.2.1; omega)
        have hR3 : RowTo sv (.slice (some ⟨g, 0, none⟩) (ps.length + 1) cap) w0 W3 := (RowTo.call HU.out.2.2.1).trans (RowTo.grown hgr3 (hat3.imp id (fun h => by rw [h]; simp)))
        have hnb : sv.ownBlock ≠ some w.heap.size := fun e => by have h1 := (HX.out.2.2.2.1.lt _ e).2; obtain ⟨vs0, hq, _⟩ := HX.out.2.2.2.1.vals; exact own_ne hq HX.out.2.1 (by decide) e
        have hhv : ∀ b, hv.ownBlock = some b → sv.ownBlock ≠ some b := fun b e h => by
          obtain ⟨vs0, hq, _⟩ := HX.out.2.2.2.1.vals
          rcases own_two HX.out.2.2.2.2 hq (by decide) with h' | h'
          · rw [h'] at e; cases e
          · exact h' (by rw [e, h])
        refine ⟨_, rfl, ?_, hR3, (hR3.same _ (by have := HX.out.2.2.1; omega) hnb).trans HX.out.2.1, own_same HX.out.2.2.2.2 (fun b e => hR3.same b (HX.out.2.2.2.2.lt b e).2 (hhv b e))⟩
        rw [show hereK kn kn here = [here] from if_pos rfl]
        exact PossQ.step HV1.out HU.out.2.1 hu3 hown3 hgr3
      · have g1 : (kn == kd) = false := by simpa using h1
        go_wp2_with fail
        go_meet
        rw [show hereK kn kd here = [] from if_neg h1]
        exact ⟨_, rfl, by simpa using HX.out.2.2.2.1, RowTo.refl _ _, HX.out.2.1, HX.out.2.2.2.2⟩
    case rest =>
      obtain ⟨sv1, rfl, hps1, hR1, hbx, hh1⟩ := hcut
      have hlq : (ps ++ hereK kn kd here).length + countL l ≤ 10000000 := by
        have := HN.out.2.1
        have h2 := hereK_len kn kd here
        rw [List.length_append]; omega
      obtain ⟨qs, hqs⟩ : ∃ qs, qs = ps ++ hereK kn kd here := ⟨_, rfl⟩
      rw [← hqs] at hps1 hlq
      have HQ := Lib.hid hqs
      clear hqs
      have hBc : Below wt.heap.size wt wc := HT.out.1.trans (hR1.below (fun g e => by have h1 := (HX.out.2.2.2.1.lt g e).1; have h2 := HT.out.2.2.1; omega) (by have h2 := HT.out.2.2.1; have h3 := HT.out.2.2.2; have h4 := HX.out.2.2.1; omega))
      have hwc : w.heap.size < wc.heap.size := (Array.getElem?_eq_some_iff.1 hbx).1
      have HC := Lib.hid (show _ ∧ _ ∧ _ ∧ _ ∧ _ ∧ _ from ⟨hps1, hR1, hbx, hh1, hlq, hBc⟩)
      clear hps1 hR1 hbx hh1 hlq hBc p0 p3
      go_wp2_with fail
      go_loopw [9, 10] (fun a0 i wr => ∃ (k : Nat) (a : Value), a = a0 ∧ k ≤ l.length ∧ i = .int .i64 k ∧ PossQ base wr a (qs ++ kindW kd (walkK here 0 (l.take k))) ∧ RowTo sv1 a wc wr) (fun _ i _ => l.length - (intOf i).toNat)
      case atStart => exact ⟨0, _, rfl, Nat.zero_le _, rfl, by simpa [walkK, kindW] using HC.out.1, RowTo.refl _ _⟩
      case round =>
        obtain ⟨k, a, rfl, hk, rfl, hpa, hR⟩ := hrel
        have hne1 : ∀ b, (wc.heap[b]? = some (.cells #[.int .i64 kn, .int .i64 tk, .string tx, .slice A l.length c] 26 (0, 0))) → sv1.ownBlock ≠ some b := fun b hb e => by obtain ⟨vs0, hq, _⟩ := HC.out.1.vals; exact own_ne hq hb (by decide) e
        have hbr := (hR.same w.heap.size hwc (hne1 _ HC.out.2.2.1)).trans HC.out.2.2.1
        have q3 := Lib.cell_of_heap hbr 3
        have hhv : ∀ b, hv.ownBlock = some b → sv1.ownBlock ≠ some b := fun b e h => by
          obtain ⟨vs0, hq, _⟩ := HC.out.1.vals
          rcases own_two HC.out.2.2.2.1 hq (by decide) with h' | h'
          · rw [h'] at e; cases e
          · exact h' (by rw [e, h])
        have hhr : wr.ownsRow 0 3 1 hv here.length (intCells here) := own_same HC.out.2.2.2.1 (fun b e => hR.same b (HC.out.2.2.2.1.lt b e).2 (hhv b e))
        have hRs : RowTo sv a w wr := ((RowTo.call HX.out.1).trans HC.out.2.1).trans hR
        by_cases hlt : k < l.length
        · have hk0 : (0 : Int) ≤ (k : Int) := by omega
          have hk1 : (k : Int) < (l.length : Int) := by omega
          have hx0 : l[k]? = some l[k] := List.getElem?_eq_getElem hlt
          have hBt : Below wt.heap.size wt wr := HC.out.2.2.2.2.2.trans (hR.below (fun g e => by have h1 := (HC.out.1.lt g e).1; have h2 := HT.out.2.2.1; omega) (by have h2 := HC.out.2.2.2.2.2.size; omega))
          obtain ⟨b, o, rfl, n0⟩ := HT.out.2.1 (by omega)
          have n1 := n0.kept hBt
          obtain ⟨x, hx⟩ : ∃ x, x = l[k] := ⟨_, rfl⟩
          rw [← hx] at hx0
          obtain ⟨B2, d2, s2, y0, y1, y2, y3, yk⟩ := n0.get hx0
          have x0 := (hBt.cell (p := ⟨b, o + k * 4, none⟩) s2).trans y0
          have x1 := (hBt.cell (p := ⟨b, o + k * 4 + 1, none⟩) s2).trans y1
          have x2 := (hBt.cell (p := ⟨b, o + k * 4 + 2, none⟩) s2).trans y2
          have x3 := (hBt.cell (p := ⟨b, o + k * 4 + 3, none⟩) s2).trans y3
          have hcn : kindW kd (walkK here 0 (l.take (k + 1))) = kindW kd (walkK here 0 (l.take k)) ++ kindW kd (walkN (here ++ [k]) x) := by rw [walkK_next here hx0, kindW_append]
          have hle := kindW_le kd (walkK here 0 (l.take k))
          rw [walkK_length] at hle
          have hxc := countL_next hx0
          have hxd := countL_cut l (k + 1)
          have hdx := deepL_at hx0
          have halts : ∀ g, a.ownBlock = some g → base ≤ g := fun g e => (hpa.lt g e).1
          have hnea : a.ownBlock ≠ some w.heap.size := fun e => by obtain ⟨vs0, hq, _⟩ := hpa.vals; exact own_ne hq hbr (by decide) e
          have hkp : ∀ (W : World) (b' : Value), RowTo a b' wr W → (W.cell? ⟨w.heap.size, 3, none⟩ = some (.slice (some ⟨b, o, none⟩) l.length c)) ∧ W.cell? ⟨b, o + k * 4, none⟩ = some (.int .i64 x.kind) ∧ W.cell? ⟨b, o + k * 4 + 1, none⟩ = some (.int .i64 x.tok.1) ∧ W.cell? ⟨b, o + k * 4 + 2, none⟩ = some (.string x.tok.2) ∧ W.cell? ⟨b, o + k * 4 + 3, none⟩ = some (.slice B2 x.kids.length d2) := fun W b' h => by
            have hb1 := h.same w.heap.size (Array.getElem?_eq_some_iff.1 hbr).1 hnea
            have hb2 := h.same b (by have := hBt.size; omega) (fun e => by have h1 := halts b e; have h2 := HT.out.2.2.1; omega)
            exact ⟨(World.cell?_of_block (w := wr) (a := ⟨w.heap.size, 3, none⟩) hb1).trans q3, (World.cell?_of_block (w := wr) (a := ⟨b, o + k * 4, none⟩) hb2).trans x0, (World.cell?_of_block (w := wr) (a := ⟨b, o + k * 4 + 1, none⟩) hb2).trans x1, (World.cell?_of_block (w := wr) (a := ⟨b, o + k * 4 + 2, none⟩) hb2).trans x2, (World.cell?_of_block (w := wr) (a := ⟨b, o + k * 4 + 3, none⟩) hb2).trans x3⟩
          have hall : ∀ W v f g, PkSt wr k (here ++ [k]) v f g W → Calls Tryd.prog 76 #[.agg #[.int .i64 x.kind, .int .i64 x.tok.1, .string x.tok.2, .slice B2 x.kids.length d2], .int .i64 kd, v, a] W fun e w' => ∃ sv2, e = .returned sv2 ∧ PossQ base w' sv2 (qs ++ kindW kd (walkK here 0 (l.take (k + 1)))) ∧ RowTo a sv2 wr w' := fun W v f g st => by
            have h2 := HT.out.2.2.1
            have h3 := HT.out.2.2.2
            have h4 := HX.out.2.2.1
            have h5 := hR.size
            have h6 := st.below.size
            have h7 := HN.out
            have h8 := HC.out.2.2.2.2.1
            have := HIH.out x (.agg #[.int .i64 x.kind, .int .i64 x.tok.1, .string x.tok.2, .slice B2 x.kids.length d2]) (here ++ [k]) v (qs ++ kindW kd (walkK here 0 (l.take k))) a W (by omega) (hBt.trans (st.below.mono hBt.size)) (by omega) ⟨B2, d2, rfl, yk⟩ (own_le st.row (Nat.zero_le _)) (hpa.call st.below) (by rw [List.length_append]; omega) (by simp; omega)
            refine this.mono fun e w' ⟨sv2, e1, e2, e3⟩ => ⟨sv2, e1, ?_, (RowTo.call st.below).trans e3⟩
            rw [hcn, ← List.append_assoc]
            exact e2
          have HKp := Lib.hid hkp
          have HAll := Lib.hid hall
          have HHe := Lib.hid hhr
          have HR := Lib.hid hR
          have hhl2 : here.length + (m + 1) ≤ 10000000 := HN.out.2.2
          clear hx hx0 n0 n1 yk hcn hle hxc hxd hdx hBt hpa hR hkp hall hhr hRs y0 y1 y2 y3 halts hnea hhv hbr hne1
          have e3 : IntKind.i64.wrap ((k : Int) + 1) = ((k + 1 : Nat) : Int) := by rw [IntWalk.i64_in _ (by omega)]; omega
          go_wp2_with fail
          refine wp_region_held_drew (S := (fun W => (W.cell? ⟨w.heap.size, 3, none⟩ = some (.slice (some ⟨b, o, none⟩) l.length c)) ∧ W.cell? ⟨b, o + k * 4, none⟩ = some (.int .i64 x.kind) ∧ W.cell? ⟨b, o + k * 4 + 1, none⟩ = some (.int .i64 x.tok.1) ∧ W.cell? ⟨b, o + k * 4 + 2, none⟩ = some (.string x.tok.2) ∧ W.cell? ⟨b, o + k * 4 + 3, none⟩ = some (.slice B2 x.kids.length d2))) (by kernel_rfl) ?_ (fun hHeld => ?_)
          · exact HKp.out _ _ (RowTo.call (Below.drew (Below.refl _ _)))
          have st := PkSt.init wr k
          obtain ⟨W0, hw⟩ : ∃ u, u = wr.drew := ⟨_, rfl⟩
          rw [← hw] at st hHeld
          rw [← hw]
          clear hw
          refine wpAnyH_take (i := 0) (oi := ⟨some 29, _, _, _, _, _⟩) (v := ?_) rfl (by kernel_rfl) (by kernel_rfl) (by kernel_rfl) (fun _ _ _ h => h) (Or.inl ⟨by rfl, ?hy⟩) (by assumption) ?_
          case hy => (intro w hSw; (try dsimp only at hSw); go_simp; (try with_reducible rfl))
          try simp only [Act.put, List.setIfInBounds_toArray, List.set_cons_zero, List.set_cons_succ]
          refine wpAnyH_take (i := 1) (oi := ⟨some 30, _, _, _, _, _⟩) (v := ?_) rfl (by kernel_rfl) (by kernel_rfl) (by kernel_rfl) (fun _ _ _ h => h) (Or.inl ⟨by rfl, ?hy⟩) (by assumption) ?_
          case hy => (intro w hSw; (try dsimp only at hSw); go_simp; (try with_reducible rfl))
          try simp only [Act.put, List.setIfInBounds_toArray, List.set_cons_zero, List.set_cons_succ]
          refine wpAnyH_take (i := 2) (oi := ⟨some 31, _, _, _, _, _⟩) (v := ?_) rfl (by kernel_rfl) (by kernel_rfl) (by kernel_rfl) (fun _ _ _ h => h) (Or.inl ⟨by rfl, ?hy⟩) (by assumption) ?_
          case hy => (intro w hSw; (try dsimp only at hSw); go_simp; (try with_reducible rfl))
          try simp only [Act.put, List.setIfInBounds_toArray, List.set_cons_zero, List.set_cons_succ]
          refine wpAnyH_take (i := 3) (oi := ⟨some 32, _, _, _, _, _⟩) (v := ?_) rfl (by kernel_rfl) (by kernel_rfl) (by kernel_rfl) (fun _ _ _ h => h) (Or.inl ⟨by rfl, ?hy⟩) (by assumption) ?_
          case hy => (intro w hSw; (try dsimp only at hSw); go_simp; (try with_reducible rfl))
          try simp only [Act.put, List.setIfInBounds_toArray, List.set_cons_zero, List.set_cons_succ]
          refine wpAnyH_take (i := 4) (oi := ⟨some 33, _, _, _, _, _⟩) (v := ?_) rfl (by kernel_rfl) (by kernel_rfl) (by kernel_rfl) (fun _ _ _ h => h) (Or.inl ⟨by rfl, ?hy⟩) (by assumption) ?_
          case hy => (intro w hSw; (try dsimp only at hSw); go_simp; (try with_reducible rfl))
          try simp only [Act.put, List.setIfInBounds_toArray, List.set_cons_zero, List.set_cons_succ]
          refine wpAnyH_take (i := 5) (oi := ⟨some 34, _, _, _, _, _⟩) (v := ?_) rfl (by kernel_rfl) (by kernel_rfl) (by kernel_rfl) (fun _ _ _ h => h) (Or.inl ⟨by rfl, ?hy⟩) (by assumption) ?_
          case hy => (intro w hSw; (try dsimp only at hSw); go_simp; (try with_reducible rfl))
          try simp only [Act.put, List.setIfInBounds_toArray, List.set_cons_zero, List.set_cons_succ]
          refine wpAnyH_take (i := 7) (oi := ⟨some 36, _, _, _, _, _⟩) (v := ?_) rfl (by kernel_rfl) (by kernel_rfl) (by kernel_rfl) (fun _ _ _ h => h) (Or.inl ⟨by rfl, ?hy⟩) (by assumption) ?_
          case hy => (intro w hSw; (try dsimp only at hSw); go_simp; (try with_reducible rfl))
          try simp only [Act.put, List.setIfInBounds_toArray, List.set_cons_zero, List.set_cons_succ]
          refine wpAnyH_take (i := 9) (oi := ⟨some 38, _, _, _, _, _⟩) (v := ?_) rfl (by kernel_rfl) (by kernel_rfl) (by kernel_rfl) (fun _ _ _ h => h) (Or.inl ⟨by rfl, ?hy⟩) (by assumption) ?_
          case hy => (intro w hSw; (try dsimp only at hSw); go_simp; (try with_reducible rfl))
          try simp only [Act.put, List.setIfInBounds_toArray, List.set_cons_zero, List.set_cons_succ]
          refine wpAnyH_take (i := 12) (oi := ⟨some 41, _, _, _, _, _⟩) (v := ?_) rfl (by kernel_rfl) (by kernel_rfl) (by kernel_rfl) (fun _ _ _ h => h) (Or.inl ⟨by rfl, ?hy⟩) (by assumption) ?_
          case hy => (intro w hSw; (try dsimp only at hSw); go_simp; (try with_reducible rfl))
          try simp only [Act.put, List.setIfInBounds_toArray, List.set_cons_zero, List.set_cons_succ]
          refine wpAnyH_ready (rs := [6, 10]) (by kernel_rfl) (by simp) ?_
          refine AllReadyH.cons (o := ⟨some 35, _, _, _, _, _⟩) rfl (fun K hK => ?_) (AllReadyH.cons (o := ⟨some 39, _, _, _, _, _⟩) rfl (fun K hK => ?_) AllReadyH.nil)
          · go_simp
            have sn := st.zero
            refine hK.out _ _ ?_ (fun hHeld => ?_)
            · exact HKp.out _ _ (RowTo.call sn.below)
            clear hK K st
            try simp only [Act.put, List.setIfInBounds_toArray, List.set_cons_zero, List.set_cons_succ]
            obtain ⟨bz, hc⟩ : ∃ u, u = W0.heap.size := ⟨_, rfl⟩
            obtain ⟨W1, hw⟩ : ∃ u, u = W0.alloc (.cells #[] 3) := ⟨_, rfl⟩
            rw [← hw] at sn hHeld
            rw [← hw]
            rw [← hc] at sn
            rw [← hc]
            obtain ⟨vz, hv⟩ : ∃ u : Value, u = .slice (some ⟨bz, 0, none⟩) 0 0 := ⟨_, rfl⟩
            rw [← hv] at sn
            rw [← hv]
            clear hv
            clear hw hc
            have st := sn
            clear sn
            refine wpAnyH_ready (rs := [8, 10]) (by kernel_rfl) (by simp) ?_
            refine AllReadyH.cons (o := ⟨some 37, _, _, _, _, _⟩) rfl (fun K hK => ?_) (AllReadyH.cons (o := ⟨some 39, _, _, _, _, _⟩) rfl (fun K hK => ?_) AllReadyH.nil)
            · obtain ⟨va, W2, hrun, sn⟩ := st.app 51 (own_below HHe.out st.below) (by simp; omega)
              rw [List.nil_append] at sn
              refine opH_append rfl _ _ _ rfl rfl rfl hrun ?_
              refine hK.out _ _ ?_ (fun hHeld => ?_)
              · exact HKp.out _ _ (RowTo.call sn.below)
              clear hK K hrun st
              try simp only [Act.put, List.setIfInBounds_toArray, List.set_cons_zero, List.set_cons_succ]
              have st := sn
              clear sn
              refine wpAnyH_ready (rs := [10]) (by kernel_rfl) (by simp) ?_
              refine AllReadyH.cons (o := ⟨some 39, _, _, _, _, _⟩) rfl (fun K hK => ?_) AllReadyH.nil
              go_simp
              have sn := st.one
              refine hK.out _ _ ?_ (fun hHeld => ?_)
              · exact HKp.out _ _ (RowTo.call sn.below)
              clear hK K st
              try simp only [Act.put, List.setIfInBounds_toArray, List.set_cons_zero, List.set_cons_succ]
              obtain ⟨bo, hc⟩ : ∃ u, u = W2.heap.size := ⟨_, rfl⟩
              obtain ⟨W3, hw⟩ : ∃ u, u = W2.alloc (.cells #[.int .i64 (k : Nat)] 3) := ⟨_, rfl⟩
              rw [← hw] at sn hHeld
              rw [← hw]
              rw [← hc] at sn
              rw [← hc]
              clear hw hc
              have st := sn
              clear sn
              refine wpAnyH_ready (rs := [11]) (by kernel_rfl) (by simp) ?_
              refine AllReadyH.cons (o := ⟨some 40, _, _, _, _, _⟩) rfl (fun K hK => ?_) AllReadyH.nil
              obtain ⟨vb, W4, hrun, sn⟩ := st.app 51 st.oneRow (by simp; omega)
              refine opH_append rfl _ _ _ rfl rfl rfl hrun ?_
              refine hK.out _ _ ?_ (fun hHeld => ?_)
              · exact HKp.out _ _ (RowTo.call sn.below)
              clear hK K hrun st
              try simp only [Act.put, List.setIfInBounds_toArray, List.set_cons_zero, List.set_cons_succ]
              have st := sn
              clear sn
              refine wpAnyH_ready (rs := [13]) (by kernel_rfl) (by simp) ?_
              refine AllReadyH.cons (o := ⟨some 42, _, _, _, _, _⟩) rfl (fun K hK => ?_) AllReadyH.nil
              go_simp
              go_at_call 76
              with_reducible refine (HAll.out _ _ _ _ st).mono ?_
              rintro e W5 ⟨sv2, rfl, sn⟩
              refine hK.out _ _ ?_ (fun hHeld => ?_)
              · exact HKp.out _ _ sn.2
              clear hK K st
              try simp only [Act.put, List.setIfInBounds_toArray, List.set_cons_zero, List.set_cons_succ]
              refine wpAnyH_take (i := 14) (oi := ⟨some 9, _, _, _, _, _⟩) (v := ?_) rfl (by kernel_rfl) (by kernel_rfl) (by kernel_rfl) (fun _ _ _ h => h) (Or.inl ⟨by rfl, ?hy⟩) (by assumption) ?_
              case hy => (intro w hSw; (try dsimp only at hSw); go_simp; (try with_reducible rfl))
              try simp only [Act.put, List.setIfInBounds_toArray, List.set_cons_zero, List.set_cons_succ]
              refine wpAnyH_done (by kernel_rfl) ?_ _
              go_wp2_with fail
              exact ⟨⟨k + 1, _, rfl, by omega, by go_num, sn.1, HR.out.trans sn.2⟩, by simp [intOf]; omega⟩
            · go_simp
              have sn := st.one
              refine hK.out _ _ ?_ (fun hHeld => ?_)
              · exact HKp.out _ _ (RowTo.call sn.below)
              clear hK K st
              try simp only [Act.put, List.setIfInBounds_toArray, List.set_cons_zero, List.set_cons_succ]
              obtain ⟨bo, hc⟩ : ∃ u, u = W1.heap.size := ⟨_, rfl⟩
              obtain ⟨W6, hw⟩ : ∃ u, u = W1.alloc (.cells #[.int .i64 (k : Nat)] 3) := ⟨_, rfl⟩
              rw [← hw] at sn hHeld
              rw [← hw]
              rw [← hc] at sn
              rw [← hc]
              clear hw hc
              have st := sn
              clear sn
              refine wpAnyH_ready (rs := [8]) (by kernel_rfl) (by simp) ?_
              refine AllReadyH.cons (o := ⟨some 37, _, _, _, _, _⟩) rfl (fun K hK => ?_) AllReadyH.nil
              obtain ⟨va, W7, hrun, sn⟩ := st.app 51 (own_below HHe.out st.below) (by simp; omega)
              rw [List.nil_append] at sn
              refine opH_append rfl _ _ _ rfl rfl rfl hrun ?_
              refine hK.out _ _ ?_ (fun hHeld => ?_)
              · exact HKp.out _ _ (RowTo.call sn.below)
              clear hK K hrun st
              try simp only [Act.put, List.setIfInBounds_toArray, List.set_cons_zero, List.set_cons_succ]
              have st := sn
              clear sn
              refine wpAnyH_ready (rs := [11]) (by kernel_rfl) (by simp) ?_
              refine AllReadyH.cons (o := ⟨some 40, _, _, _, _, _⟩) rfl (fun K hK => ?_) AllReadyH.nil
              obtain ⟨vb, W8, hrun, sn⟩ := st.app 51 st.oneRow (by simp; omega)
              refine opH_append rfl _ _ _ rfl rfl rfl hrun ?_
              refine hK.out _ _ ?_ (fun hHeld => ?_)
              · exact HKp.out _ _ (RowTo.call sn.below)
              clear hK K hrun st
              try simp only [Act.put, List.setIfInBounds_toArray, List.set_cons_zero, List.set_cons_succ]
              have st := sn
              clear sn
              refine wpAnyH_ready (rs := [13]) (by kernel_rfl) (by simp) ?_
              refine AllReadyH.cons (o := ⟨some 42, _, _, _, _, _⟩) rfl (fun K hK => ?_) AllReadyH.nil
              go_simp
              go_at_call 76
              with_reducible refine (HAll.out _ _ _ _ st).mono ?_
              rintro e W9 ⟨sv2, rfl, sn⟩
              refine hK.out _ _ ?_ (fun hHeld => ?_)
              · exact HKp.out _ _ sn.2
              clear hK K st
              try simp only [Act.put, List.setIfInBounds_toArray, List.set_cons_zero, List.set_cons_succ]
              refine wpAnyH_take (i := 14) (oi := ⟨some 9, _, _, _, _, _⟩) (v := ?_) rfl (by kernel_rfl) (by kernel_rfl) (by kernel_rfl) (fun _ _ _ h => h) (Or.inl ⟨by rfl, ?hy⟩) (by assumption) ?_
              case hy => (intro w hSw; (try dsimp only at hSw); go_simp; (try with_reducible rfl))
              try simp only [Act.put, List.setIfInBounds_toArray, List.set_cons_zero, List.set_cons_succ]
              refine wpAnyH_done (by kernel_rfl) ?_ _
              go_wp2_with fail
              exact ⟨⟨k + 1, _, rfl, by omega, by go_num, sn.1, HR.out.trans sn.2⟩, by simp [intOf]; omega⟩
          · go_simp
            have sn := st.one
            refine hK.out _ _ ?_ (fun hHeld => ?_)
            · exact HKp.out _ _ (RowTo.call sn.below)
            clear hK K st
            try simp only [Act.put, List.setIfInBounds_toArray, List.set_cons_zero, List.set_cons_succ]
            obtain ⟨bo, hc⟩ : ∃ u, u = W0.heap.size := ⟨_, rfl⟩
            obtain ⟨W10, hw⟩ : ∃ u, u = W0.alloc (.cells #[.int .i64 (k : Nat)] 3) := ⟨_, rfl⟩
            rw [← hw] at sn hHeld
            rw [← hw]
            rw [← hc] at sn
            rw [← hc]
            clear hw hc
            have st := sn
            clear sn
            refine wpAnyH_ready (rs := [6]) (by kernel_rfl) (by simp) ?_
            refine AllReadyH.cons (o := ⟨some 35, _, _, _, _, _⟩) rfl (fun K hK => ?_) AllReadyH.nil
            go_simp
            have sn := st.zero
            refine hK.out _ _ ?_ (fun hHeld => ?_)
            · exact HKp.out _ _ (RowTo.call sn.below)
            clear hK K st
            try simp only [Act.put, List.setIfInBounds_toArray, List.set_cons_zero, List.set_cons_succ]
            obtain ⟨bz, hc⟩ : ∃ u, u = W10.heap.size := ⟨_, rfl⟩
            obtain ⟨W11, hw⟩ : ∃ u, u = W10.alloc (.cells #[] 3) := ⟨_, rfl⟩
            rw [← hw] at sn hHeld
            rw [← hw]
            rw [← hc] at sn
            rw [← hc]
            obtain ⟨vz, hv⟩ : ∃ u : Value, u = .slice (some ⟨bz, 0, none⟩) 0 0 := ⟨_, rfl⟩
            rw [← hv] at sn
            rw [← hv]
            clear hv
            clear hw hc
            have st := sn
            clear sn
            refine wpAnyH_ready (rs := [8]) (by kernel_rfl) (by simp) ?_
            refine AllReadyH.cons (o := ⟨some 37, _, _, _, _, _⟩) rfl (fun K hK => ?_) AllReadyH.nil
            obtain ⟨va, W12, hrun, sn⟩ := st.app 51 (own_below HHe.out st.below) (by simp; omega)
            rw [List.nil_append] at sn
            refine opH_append rfl _ _ _ rfl rfl rfl hrun ?_
            refine hK.out _ _ ?_ (fun hHeld => ?_)
            · exact HKp.out _ _ (RowTo.call sn.below)
            clear hK K hrun st
            try simp only [Act.put, List.setIfInBounds_toArray, List.set_cons_zero, List.set_cons_succ]
            have st := sn
            clear sn
            refine wpAnyH_ready (rs := [11]) (by kernel_rfl) (by simp) ?_
            refine AllReadyH.cons (o := ⟨some 40, _, _, _, _, _⟩) rfl (fun K hK => ?_) AllReadyH.nil
            obtain ⟨vb, W13, hrun, sn⟩ := st.app 51 st.oneRow (by simp; omega)
            refine opH_append rfl _ _ _ rfl rfl rfl hrun ?_
            refine hK.out _ _ ?_ (fun hHeld => ?_)
            · exact HKp.out _ _ (RowTo.call sn.below)
            clear hK K hrun st
            try simp only [Act.put, List.setIfInBounds_toArray, List.set_cons_zero, List.set_cons_succ]
            have st := sn
            clear sn
            refine wpAnyH_ready (rs := [13]) (by kernel_rfl) (by simp) ?_
            refine AllReadyH.cons (o := ⟨some 42, _, _, _, _, _⟩) rfl (fun K hK => ?_) AllReadyH.nil
            go_simp
            go_at_call 76
            with_reducible refine (HAll.out _ _ _ _ st).mono ?_
            rintro e W14 ⟨sv2, rfl, sn⟩
            refine hK.out _ _ ?_ (fun hHeld => ?_)
            · exact HKp.out _ _ sn.2
            clear hK K st
            try simp only [Act.put, List.setIfInBounds_toArray, List.set_cons_zero, List.set_cons_succ]
            refine wpAnyH_take (i := 14) (oi := ⟨some 9, _, _, _, _, _⟩) (v := ?_) rfl (by kernel_rfl) (by kernel_rfl) (by kernel_rfl) (fun _ _ _ h => h) (Or.inl ⟨by rfl, ?hy⟩) (by assumption) ?_
            case hy => (intro w hSw; (try dsimp only at hSw); go_simp; (try with_reducible rfl))
            try simp only [Act.put, List.setIfInBounds_toArray, List.set_cons_zero, List.set_cons_succ]
            refine wpAnyH_done (by kernel_rfl) ?_ _
            go_wp2_with fail
            exact ⟨⟨k + 1, _, rfl, by omega, by go_num, sn.1, HR.out.trans sn.2⟩, by simp [intOf]; omega⟩
        · have hke : k = l.length := by omega
          subst hke
          rw [List.take_length] at hpa
          have H2 := Lib.hid (show _ ∧ _ from ⟨hpa, hRs⟩)
          clear hpa hR hRs hhr hbr
          go_wp2_with fail
          go_ret
          refine ⟨a, rfl, ?_, H2.out.2⟩
          rw [← List.append_assoc, ← HQ.out]
          exact H2.out.1

/-- the specification's All -/
theorem RAll_any (n : Nd) (kd : Int) (v : Value) (w : World) (hn : countN n ≤ 1000000) (hV : NodeV w v n) :
    Calls Tryd.prog 49 #[v, .int .i64 kd] w fun e w' => ∃ v', e = .returned v' ∧ PossQ w.heap.size w' v' (kindW kd (walkN [] n)) ∧ Below w.heap.size w w' := by
  have hdn := atN_small_len n
  have hG := fun W (hb : Below w.heap.size w W) => RAll_rec w w.heap.size kd (Nat.le_refl _) (deepN n + 1) n v [] (.slice none 0 0) [] (.slice none 0 0) W (Nat.lt_succ_self _) hb hb.size hV (by simpa [intCells] using World.ownsRow_nil W 0 3 1) (PossQ.nil _ _) (by simp; omega) (by simp; omega)
  obtain ⟨A, c, rfl, hk⟩ := hV
  have HG := Lib.hid hG
  clear hG hk hdn
  have hB0 : Below w.heap.size w (w.alloc (.cells #[.int .i64 n.kind, .int .i64 n.tok.1, .string n.tok.2, .slice A n.kids.length c] 26)) := allocB _ _
  have hb0 : (w.alloc (.cells #[.int .i64 n.kind, .int .i64 n.tok.1, .string n.tok.2, .slice A n.kids.length c] 26)).heap[w.heap.size]? = some (.cells #[.int .i64 n.kind, .int .i64 n.tok.1, .string n.tok.2, .slice A n.kids.length c] 26 (0, 0)) := alloc_at _ _ _ rfl
  have p0 := Lib.cell_of_heap hb0 0
  have p1 := Lib.cell_of_heap hb0 1
  have p2 := Lib.cell_of_heap hb0 2
  have p3 := Lib.cell_of_heap hb0 3
  have HB := Lib.hid hB0
  clear hB0 hb0
  go_enter Tryd.func49, Tryd.ntmps49
  go_wp2_with fail
  refine (HG.out _ HB.out).mono ?_
  rintro e w2 ⟨sv', rfl, hr, hR⟩
  have H2 := Lib.hid (show _ ∧ _ from ⟨hr, HB.out.trans (hR.below (fun g e => by simp [Value.ownBlock] at e) HB.out.size)⟩)
  clear hr hR
  go_wp2_with fail
  go_ret
  exact ⟨_, rfl, by simpa using H2.out.1, H2.out.2⟩
end Go.Proofs.YtpjlgahbbmlngaaDoor
