/-
  Trees: Leaves (slices.Collect of the leaves).; Trees: the statements' leaf.
-/
import Derived.Test.YtpjlgahbbmlngaaDoorTreeLeavesp21
import Derived.Test.YtpjlgahbbmlngaaDoorTreeLeavesp22
import Derived.Test.YtpjlgahbbmlngaaDoorTreeLeavesp5
import Derived.OwnWalkIn
import Derived.Test.YtpjlgahbbmlngaaDoorTreeLeavesp15
import Derived.Test.YtpjlgahbbmlngaaDoorTreeLeavesp13
namespace Go.Proofs.YtpjlgahbbmlngaaDoor
set_option linter.unusedVariables false
set_option linter.unusedSimpArgs false
open Go Go.RowKit

attribute [local go_sem] Oper.semAt_some

/-- the row so far -/
structure TksSt (b : Nat) (O : Nat → Prop) (l : List Tok) (sv : Value) (W : World) : Prop where
  box : W.heap[b]? = some (.cells #[sv] 34 (0, 0))
  row : W.ownsRow b 23 2 sv l.length (tkCells l)
  far : ∀ g, sv.ownBlock = some g → ¬ O g
theorem TksSt.ne {b : Nat} {O : Nat → Prop} {l : List Tok} {sv : Value} {W : World} (h : TksSt b O l sv W) : sv.ownBlock ≠ some b := fun e => own_block_ne' h.row h.box (by decide) b e rfl
theorem take_tok {l : List Tok} {k : Nat} {x : Tok} (h : l[k]? = some x) : l.take (k + 1) = l.take k ++ [x] := take_snoc h

set_option maxRecDepth 100000 in
set_option maxHeartbeats 2000000 in
theorem AppendSeq_toks (n : Nd) (A : Option Addr) (c b : Nat) (w : World) (hC : sizeN n) (hb : b < w.heap.size) (hbk : w.heap[b]? = some (.cells (nodeCells n A c) 26 (0, 0))) (hk : KidsV w A n.kids) :
    Calls Tryd.prog 83 #[.slice none 0 0, .func (.func 81) #[] #[.pointer (some ⟨b, 0, none⟩)]] w fun e w' => ∃ sv, e = .returned sv ∧ w'.ownsRow w.heap.size 23 2 sv (leavesN n).length (tkCells (leavesN n)) ∧ Below w.heap.size w w' := by
  obtain ⟨W0, hW0⟩ : ∃ W0, W0 = w.alloc (.cells #[.slice none 0 0] 34) := ⟨_, rfl⟩
  have hB0 : Below w.heap.size w W0 := by rw [hW0]; exact (Below.refl _ _).alloc (Nat.le_refl _) _
  have hs0 : W0.heap.size = w.heap.size + 1 := by rw [hW0]; simp
  have hb0 : W0.heap[w.heap.size]? = some (.cells #[.slice none 0 0] 34 (0, 0)) := by rw [hW0]; exact alloc_at _ _ _ rfl
  obtain ⟨c0, c1, c2, c3⟩ := cells_of_block ((hB0.block b hb).trans hbk)
  have hM0 : Mine (w.heap.size + 1) w (fun _ => False) W0 := ⟨fun b hb => hb.elim, hB0, by omega, by omega⟩
  obtain ⟨i0, hi0, hz0, hz1, hz2⟩ := info_parts infoTok
  have hlen : (leavesN n).length ≤ 10000000 := by
    have h1 := leavesW_le (walkN [] n)
    rw [leavesW_walkN, walkN_length] at h1
    unfold sizeN at hC
    omega
  refine (callsIn_wide (n := 9)).1 ?_
  refine callsIn_of_wp_marks Tryd.func83 rfl trivial ?_ rfl
  simp only [Tryd.ntmps83, List.size_toArray, List.length_cons, List.length_nil, Nat.reduceAdd, Nat.reduceSub, Array.replicate_succ, Array.replicate_zero, List.push_toArray, List.append_toArray, List.nil_append, List.cons_append]
  refine wpIn_wide.2 ?_
  go_wp2_with fail
  refine (wpIn_wide (n := 9)).1 ?_
  have hgo : ∀ (Q : Exit → Act → World → Prop) (a : Act) (g : Operand) (ps : Array Tmp) (assign body : Code), (Code.rangeFunc g ps assign body).wpIn Fence.wide 9 Tryd.prog Q a W0 → (Code.rangeFunc g ps assign body).wpIn Fence.wide 9 Tryd.prog Q a (w.alloc (.cells #[.slice none 0 0] 34)) := fun _ _ _ _ _ _ h => by rw [← hW0]; exact h
  refine hgo _ _ _ _ _ _ ?_
  clear hgo hW0
  refine wpIn_rangeT rfl (by decide) (gf := 81) (lb := #[.pointer (some ⟨b, 0, none⟩)]) rfl trivial (enters_of Tryd.func81 (by kernel_rfl) rfl)
    (leaves1_gives w n hC b A c W0 hB0 (by omega) c0 c1 c2 c3 hk) (Below.refl _ _) hB0.size EnL.keep (fun O x W args h => EnL.size O x W args h)
    (fun k O W => Mine (w.heap.size + 1) w O W ∧ ∃ sv, TksSt w.heap.size O ((leavesN n).take k) sv W)
    (fun _ _ _ _ => False)
    (fun k O O' W W' h ht hg => ⟨h.1.turns ht hg, by
      obtain ⟨sv, h1⟩ := h.2
      exact ⟨sv, (h.1.block ht (Nat.lt_succ_self _)).trans h1.box, own_same h1.row (fun g e => ht.block g (h1.row.lt g e).2 (h1.far g e)), fun g e ho => (hg g ho).elim (h1.far g e) (fun h' => by have := (h1.row.lt g e).2; omega)⟩⟩)
    (fun _ _ _ _ _ _ h _ _ => h)
    ⟨hM0, .slice none 0 0, hb0, by simpa [tkCells] using World.ownsRow_nil W0 w.heap.size 23 2, fun g h => by simp [Value.ownBlock] at h⟩ ?round ?done ?stop
  case round =>
    rintro l k O x args W hO hn ⟨hM, sv, hst⟩ hx rfl
    gi_wp2
    refine ⟨(Below.refl _ _).alloc (Nat.le_refl _) _, fun W2 hT2 hs2 hi2 he2 => ?_⟩
    have hbx : W2.heap[W.heap.size]? = some (.cells #[.int .i64 x.1, .string x.2] 23 (0, 0)) := (hT2.block _ (by simp) (fun h => Nat.lt_irrefl _ (hO _ h))).trans (alloc_at _ _ _ rfl)
    obtain ⟨hM2, sv2, hst2⟩ := hi2
    have hst := take_tok hx
    obtain ⟨T, hTk⟩ : ∃ T, T = (leavesN n).take k := ⟨_, rfl⟩
    have hTl : T.length ≤ 10000000 := by rw [hTk, List.length_take]; omega
    rw [← hTk] at hst2 hst
    clear hTk
    obtain ⟨a2, cap2, rfl⟩ := own_slice hst2.row
    have d0 : W2.cell? ⟨W.heap.size, 0, none⟩ = some (.int .i64 x.1) := Lib.cell_of_heap hbx 0
    have d1 : W2.cell? ⟨W.heap.size, 1, none⟩ = some (.string x.2) := Lib.cell_of_heap hbx 1
    have l2 : W2.cell? ⟨w.heap.size, 0, none⟩ = some (.slice a2 T.length cap2) := Lib.cell_of_heap hst2.box 0
    have hOs : ∀ b, O b → b < W2.heap.size := fun b h => by rw [hs2]; simp; have := hO b h; omega
    have hkl := (List.getElem?_eq_some_iff.1 hx).1
    have hrow2 := hst2.row.alloc (.cells #[.int .i64 x.1, .string x.2] 23)
    have hnews := World.news_of_block (w := W2.alloc (.cells #[.int .i64 x.1, .string x.2] 23)) (B := W2.heap.size) (cs := #[.int .i64 x.1, .string x.2]) (t := 23) (fr := (0, 0)) (alloc_at _ _ _ rfl)
    have h63 : T.length + 1 ≤ maxLen := by unfold maxLen; omega
    have hby : (T.length + 1) * 24 ≤ 140737488355328 := by omega
    have hbs : w.heap.size ≤ (W2.alloc (.cells #[.int .i64 x.1, .string x.2] 23)).heap.size := by simp; have := hM2.below.size; omega
    have hwlt : w.heap.size < W2.heap.size := (Array.getElem?_eq_some_iff.1 hst2.box).1
    have hsW : W.heap.size < W2.heap.size := by rw [hs2]; simp
    have HX := Lib.hid (show _ ∧ _ ∧ _ ∧ _ ∧ _ from ⟨hM2, hst2, hst, hOs, hs2⟩)
    clear hM2 hst2 hst hOs hs2 hbx hT2 he2 hM hO hn hx hB0 hs0 hb0 c0 c1 c2 c3 hM0 hk hC hbk
    gi_wp2_with (gi_at_builtin; refine wpListIn_append_lies _ rfl _ _ 34 rfl w.heap.size 23 i0 _ 2 24 Tryd.underlying34 hi0 hz0 hz1 hz2 rfl (by decide) _ _ _ rfl hrow2 ⟨W2.heap.size, 0, none⟩ 1 1 [.int .i64 x.1, .string x.2] rfl rfl hnews (by intro u hu; simp at hu; rcases hu with rfl | rfl <;> rfl) (by decide) h63 hby hbs (W2.heap.size + 1) (by simp) ?_)
    intro g9 cap9 w9 hrow9 hgr9 hat9 hlt9
    obtain ⟨hM2, hst2, hst, hOs, hs2⟩ := HX.out
    have hlt2 := fun g e => hst2.row.lt g e
    have g8 : w9.heap[w.heap.size]? = some (.cells #[.slice a2 T.length cap2] 34 (0, 0)) :=
      (hgr9.block w.heap.size (by simp; omega) (fun e => hst2.ne e.symm)).trans ((alloc_old _ _ _ hwlt).trans hst2.box)
    have g80 := Lib.cell_of_heap g8 0
    have f80 : w9.frozen? ⟨w.heap.size, 0, none⟩ = false := frozen_block g8
    have hs9 : W2.heap.size + 1 ≤ w9.heap.size := by have := hgr9.size; simpa using this
    have hsx : ∀ v, (w9.setCell ⟨w.heap.size, 0, none⟩ v).heap.size = w9.heap.size := fun v => by simp [World.setCell]
    have hne9 : g9 ≠ w.heap.size := hat9.elim (fun e h => hst2.ne (by rw [e, h])) (fun e => by omega)
    have key : ∀ v b, b < W2.heap.size → b ≠ w.heap.size → (Value.slice a2 T.length cap2).ownBlock ≠ some b → (w9.setCell ⟨w.heap.size, 0, none⟩ v).heap[b]? = W2.heap[b]? := fun v b h1 h2 h3 =>
      (block_other h2).trans ((hgr9.block b (by simp; omega) (fun e => h3 e.symm)).trans (alloc_old _ _ _ h1))
    have hBl : Below w.heap.size W2 (w9.setCell ⟨w.heap.size, 0, none⟩ (.slice (some ⟨g9, 0, none⟩) (T.length + 1) cap9)) :=
      ⟨hgr9.os, hgr9.tape, hgr9.output, by rw [hsx]; omega, fun b hb => key _ b (by omega) (by omega) (fun e => by have := (hlt2 b e).1; omega)⟩
    have hfin : Keep w.heap.size O W2 (w9.setCell ⟨w.heap.size, 0, none⟩ (.slice (some ⟨g9, 0, none⟩) (T.length + 1) cap9)) ∧ Mine (w.heap.size + 1) w O (w9.setCell ⟨w.heap.size, 0, none⟩ (.slice (some ⟨g9, 0, none⟩) (T.length + 1) cap9)) ∧
        ∃ sv, TksSt w.heap.size O ((leavesN n).take (k + 1)) sv (w9.setCell ⟨w.heap.size, 0, none⟩ (.slice (some ⟨g9, 0, none⟩) (T.length + 1) cap9)) := by
      refine ⟨⟨hBl, fun b hb => key _ b (hOs b hb) (fun e => by have := hM2.far b hb; omega) (fun e => hst2.far b e hb)⟩, ⟨hM2.far, hM2.below.trans hBl, by rw [hsx]; have := hM2.size; omega, hM2.base⟩, _, set_block g8, ?_, fun g e ho => ?_⟩
      · rw [hst, List.length_append, List.length_singleton, tkCells_append]
        exact own_same hrow9 (fun g e => block_other (by
          have e' : g9 = g := by simpa [Value.ownBlock] using e
          omega))
      · have e' : g9 = g := by simpa [Value.ownBlock] using e
        subst e'
        rcases hat9 with h | h
        · exact hst2.far g9 h ho
        · have := hOs g9 ho; omega
    have HF := Lib.hid hfin
    clear hM2 hst2 hst hOs hs2 hlt2 g8 hs9 hsx hne9 key hBl hfin hrow9 hgr9 hat9 hlt9 hrow2 hnews h63 hby hbs
    gi_wp2
    exact HF.out
  case done =>
    rintro D O W hD _ ⟨hM, sv, hst⟩ hKD
    rw [List.take_length] at hst
    have l1 := Lib.cell_of_heap hst.box 0
    have hB := hM.below
    have HS := Lib.hid (show _ ∧ _ from ⟨hst, hB⟩)
    clear hst hB hM
    go_wp2_with fail
    refine ⟨by simp, .inl ⟨_, _, rfl, run_takeDeferred hKD, ?_⟩⟩
    exact ⟨sv, by simp [results, Tryd.f83, go_sem], sv, rfl, own_same HS.out.1.row (fun g e => World.putObj_heap_other (fun hg => by
      rcases HS.out.1.row.2 with ⟨rfl, _⟩ | ⟨g', cap, cur, rfl, _, hg', _⟩
      · simp [Value.ownBlock] at e
      · have e' : g' = g := by simpa [Value.ownBlock] using e
        rw [e', hg, hKD] at hg'
        cases hg')), HS.out.2.trans ⟨rfl, rfl, rfl, by simp, fun b hb => World.putObj_heap_other (by omega)⟩⟩
  case stop =>
    rintro D O cd k W hD _ hkl h hKD
    exact h.elim

set_option maxRecDepth 100000 in
set_option maxHeartbeats 2000000 in
theorem Collect_toks (n : Nd) (A : Option Addr) (c b : Nat) (w : World) (hC : sizeN n) (hb : b < w.heap.size) (hbk : w.heap[b]? = some (.cells (nodeCells n A c) 26 (0, 0))) (hk : KidsV w A n.kids) :
    Calls Tryd.prog 61 #[.func (.func 81) #[] #[.pointer (some ⟨b, 0, none⟩)]] w fun e w' => ∃ sv, e = .returned sv ∧ w'.ownsRow w.heap.size 23 2 sv (leavesN n).length (tkCells (leavesN n)) ∧ Below w.heap.size w w' := by
  have HA := Lib.hid (AppendSeq_toks n A c b w hC hb hbk hk)
  clear hC hb hbk hk
  go_enter Tryd.func61, Tryd.ntmps61
  go_wp2_with fail
  refine HA.out.mono ?_
  rintro e w1 ⟨sv, rfl, h1, h2⟩
  have H1 := Lib.hid (show _ ∧ _ from ⟨h1, h2⟩)
  clear h1 h2
  go_wp2_with fail
  go_ret
  exact ⟨_, rfl, H1.out.1, H1.out.2⟩

set_option maxRecDepth 100000 in
set_option maxHeartbeats 2000000 in
theorem Leaves_any (n : Nd) (v : Value) (w : World) (hC : sizeN n) (hT : Tabs w) (hV : NodeV w v n) :
    Calls Tryd.prog 19 #[v] w fun e w' => (if formedB n then ∃ sv, e = .returned (.tuple #[sv, .int .i64 0]) ∧ w'.ownsRow w.heap.size 23 2 sv (leavesN n).length (tkCells (leavesN n)) else e = .returned (.tuple #[.slice none 0 0, .int .i64 4])) ∧ Below w.heap.size w w' := by
  have hV0 := hV
  obtain ⟨A, c, rfl, hk⟩ := hV
  have hIF := IsFormed_any n _ (w.alloc (.cells (nodeCells n A c) 26)) hC (hT.below ((Below.refl _ _).alloc (Nat.le_refl _) _)) (hV0.alloc _)
  have hBa : Below w.heap.size w (w.alloc (.cells (nodeCells n A c) 26)) := (Below.refl _ _).alloc (Nat.le_refl _) _
  have HB := Lib.hid (show _ ∧ _ ∧ _ from ⟨hBa, hk, hC⟩)
  clear hBa hT hV0 hk hC
  cases hf : formedB n with
  | false =>
    rw [hf] at hIF
    clear hf
    have HIF := Lib.hid hIF
    clear hIF
    go_enter Tryd.func19, Tryd.ntmps19
    go_wp2_with (go_at_call 21; refine HIF.out.mono ?_; rintro e w1 ⟨rfl, hb1⟩)
    refine bodyPost_ret (by simp [results, Tryd.f19, go_sem]; try rfl) rfl ?_
    exact ⟨by simp, HB.out.1.trans (hb1.mono HB.out.1.size)⟩
  | true =>
    rw [hf] at hIF
    clear hf
    have HIF := Lib.hid hIF
    clear hIF
    go_enter Tryd.func19, Tryd.ntmps19
    go_wp2_with (first
      | (go_at_call 21; refine HIF.out.mono ?_; rintro e w1 ⟨rfl, hb1⟩; obtain ⟨e0, e1, e2, e3⟩ := cells_of_block (cells_later hb1); have hlt : w.heap.size < w1.heap.size := Nat.lt_of_lt_of_le (by simp) hb1.size; have hne : w.heap.size ≠ w1.heap.size := Nat.ne_of_lt hlt)
      | (go_at_call 57; refine (leaves_any n A c _).mono ?_; rintro e w' ⟨rfl, rfl⟩)
      | (go_at_call 61; refine (Collect_toks n A c w1.heap.size (w1.alloc (.cells (nodeCells n A c) 26)) HB.out.2.2 (by simp) (alloc_at _ _ _ rfl) (HB.out.2.1.below ((HB.out.1.trans (hb1.mono HB.out.1.size)).alloc (Nat.le_of_lt hlt) _))).mono ?_; rintro e w2 ⟨sv, rfl, hr2, hb2⟩))
    refine bodyPost_ret (by simp [results, Tryd.f19, go_sem]; try rfl) rfl ?_
    have hB1 := HB.out.1.trans (hb1.mono HB.out.1.size)
    refine ⟨?_, (hB1.alloc (Nat.le_of_lt hlt) _).trans (hb2.mono (by simp; omega))⟩
    exact ⟨sv, rfl, own_le hr2 (by simp; omega)⟩
end Go.Proofs.YtpjlgahbbmlngaaDoor

namespace Go.Proofs.YtpjlgahbbmlngaaDoor
set_option linter.unusedVariables false
set_option linter.unusedSimpArgs false
open Go Go.RowKit

/-- a leaf of a string that is one token -/
theorem leaf_any (s : ByteArray) (w : World) (h0 : 0 < s.size) (hs : s.size ≤ 60000) :
    Calls Tryd.prog 28 #[.string s] w fun e w' => e = .returned (.agg #[.int .i64 1, .int .i64 (firstT s).1, .string (firstT s).2, .slice none 0 0]) ∧ Below w.heap.size w w' := by
  have hB0 : Below w.heap.size w (w.alloc (.cells #[.int .i64 0, .int .i64 0, .string ByteArray.empty, .slice none 0 0] 26)) := (Below.refl _ _).alloc (Nat.le_refl _) _
  have hnx : Calls Tryd.prog 67 #[.string s, .int .i64 0] (w.alloc (.cells #[.int .i64 0, .int .i64 0, .string ByteArray.empty, .slice none 0 0] 26)) fun e w' => e = .returned (.agg #[.int .i64 (firstT s).1, .string (firstT s).2]) ∧ Below (w.heap.size + 1) (w.alloc (.cells #[.int .i64 0, .int .i64 0, .string ByteArray.empty, .slice none 0 0] 26)) w' := by
    have := Next_any s 0 (w.alloc (.cells #[.int .i64 0, .int .i64 0, .string ByteArray.empty, .slice none 0 0] 26)) hs h0
    unfold nextR at this
    rw [all_head] at this
    rw [World.size_alloc] at this
    exact this
  generalize firstT s = ft at hnx
  obtain ⟨fk, fx⟩ := ft
  have HN := Lib.hid hnx
  have HB := Lib.hid hB0
  clear hnx hB0
  go_enter Tryd.func28, Tryd.ntmps28
  go_wp2_with (go_at_call 67; refine HN.out.mono ?_; rintro e w1 ⟨rfl, hb1⟩; have hbk := (hb1.block w.heap.size (Nat.lt_succ_self _)).trans (World.alloc_heap_new w _); have p0 := Lib.cell_of_heap hbk 0; have p1 := Lib.cell_of_heap hbk 1; have p2 := Lib.cell_of_heap hbk 2; have p3 := Lib.cell_of_heap hbk 3; have f0 := frozen_block (j := 0) hbk; have f1 := frozen_block (j := 1) hbk; have f2 := frozen_block (j := 2) hbk; have f3 := frozen_block (j := 3) hbk)
  have hb4 : ((((w1.setCell ⟨w.heap.size, 0, none⟩ (.int .i64 1)).setCell ⟨w.heap.size, 1, none⟩ (.int .i64 fk)).setCell ⟨w.heap.size, 2, none⟩ (.string fx)).setCell ⟨w.heap.size, 3, none⟩ (.slice none 0 0)).heap[w.heap.size]? = some (.cells #[.int .i64 1, .int .i64 fk, .string fx, .slice none 0 0] 26 (0, 0)) := by
    have a1 := heap_setCell_same w1 w.heap.size 0 _ _ (.int .i64 1) hbk
    have a2 := heap_setCell_same _ w.heap.size 1 _ _ (.int .i64 fk) a1
    have a3 := heap_setCell_same _ w.heap.size 2 _ _ (.string fx) a2
    have a4 := heap_setCell_same _ w.heap.size 3 _ _ (.slice none 0 0) a3
    simpa using a4
  have q0 := Lib.cell_of_heap hb4 0
  have q1 := Lib.cell_of_heap hb4 1
  have q2 := Lib.cell_of_heap hb4 2
  have q3 := Lib.cell_of_heap hb4 3
  have hBl : Below w.heap.size w1 ((((w1.setCell ⟨w.heap.size, 0, none⟩ (.int .i64 1)).setCell ⟨w.heap.size, 1, none⟩ (.int .i64 fk)).setCell ⟨w.heap.size, 2, none⟩ (.string fx)).setCell ⟨w.heap.size, 3, none⟩ (.slice none 0 0)) :=
    ((((Below.refl _ _).setCell (p := ⟨w.heap.size, 0, none⟩) (Nat.le_refl _) _).setCell (p := ⟨w.heap.size, 1, none⟩) (Nat.le_refl _) _).setCell (p := ⟨w.heap.size, 2, none⟩) (Nat.le_refl _) _).setCell (p := ⟨w.heap.size, 3, none⟩) (Nat.le_refl _) _
  refine bodyPost_ret (by simp [results, Tryd.f28, go_sem, q0, q1, q2, q3]; try rfl) rfl ?_
  exact ⟨rfl, HB.out.trans ((hb1.mono (Nat.le_succ _)).trans hBl)⟩
end Go.Proofs.YtpjlgahbbmlngaaDoor
