/-
  Trees: tree.leaves as what a range goes over.; Trees: width.; Trees: Count.
-/
import Derived.Test.YtgihkojlpaebiaaDoorTreeAtsp14
import Derived.BigQuiet
namespace Go.Proofs.YtgihkojlpaebiaaDoor
set_option linter.unusedVariables false
set_option linter.unusedSimpArgs false
open Go Go.RowKit

attribute [local go_sem] Oper.semAt_some

/-- what a round over leaves is handed -/
def EnL (O : Nat → Prop) (t : Tok) (W : World) (args : Array Value) : Prop := args = #[.agg #[.int .i64 t.1, .string t.2]]
theorem EnL.keep {n₀ : Nat} (O O' : Nat → Prop) (x : Tok) (W W' : World) (args : Array Value) (h : EnL O x W args) (_ : ∀ k, O k → O' k) (_ : ∀ k, O k → W'.heap[k]? = W.heap[k]?) (_ : Below n₀ W W') : EnL O' x W' args := h
theorem EnL.size (O : Nat → Prop) (x : Tok) (W : World) (args : Array Value) (h : EnL O x W args) : args.size = 1 := by
  rw [show args = _ from h]; rfl

theorem leaves_any (n : Nd) (A : Option Addr) (c : Nat) (w : World) : Calls Tryd.prog 57 #[.agg #[.int .i64 n.kind, .int .i64 n.tok.1, .string n.tok.2, .slice A n.kids.length c]] w fun e w' =>
    e = .returned (.func (.func 81) #[] #[.pointer (some ⟨w.heap.size, 0, none⟩)]) ∧ w' = w.alloc (.cells (nodeCells n A c) 26) := by
  go_enter Tryd.func57, Tryd.ntmps57
  go_wp2_with fail
  go_ret
  exact ⟨rfl, rfl⟩
theorem leaf_get {T x : Nd} {k : Nat} {p : List Nat} (h : (walkN [] T)[k]? = some (p, x)) (hk : x.kind = 1) : (leavesN T)[leafK T k]? = some x.tok := by
  obtain ⟨hlt, he⟩ := List.getElem?_eq_some_iff.1 h
  have h1 : walkN [] T = (walkN [] T).take k ++ (p, x) :: (walkN [] T).drop (k + 1) := by
    rw [← he, ← List.drop_eq_getElem_cons hlt, List.take_append_drop]
  rw [← leavesW_walkN [] T]
  unfold leafK
  rw [show leavesW (walkN [] T) = leavesW ((walkN [] T).take k) ++ leavesW ((p, x) :: (walkN [] T).drop (k + 1)) by rw [← leavesW_append, ← h1]]
  rw [List.getElem?_append_right (Nat.le_refl _), Nat.sub_self]
  simp [leavesW, leafOf, hk]
theorem leafK_all (T : Nd) : leafK T (walkN [] T).length = (leavesN T).length := by
  unfold leafK; rw [List.take_length, leavesW_walkN]
theorem leafK_mono (T : Nd) (k : Nat) : leafK T k ≤ (leavesN T).length := by
  unfold leafK
  rw [← leavesW_walkN [] T]
  conv => rhs; rw [← List.take_append_drop k (walkN [] T), leavesW_append, List.length_append]
  omega
theorem RoundIn.anyD {m m' : Nat} {P : Program} {l l' : Nat} {f : FuncId} {tmps : Array Value} {assign body : Code} {w : World} {R : Ending → World → Prop}
    (h : RoundIn Fence.wide m P l f tmps assign body w R) : RoundIn (Fence.wide.inRound l') m' P l f tmps assign body w R := ⟨h.1, fun c cs _ => h.2 c cs (fun d h => by cases h)⟩

set_option maxRecDepth 100000 in
set_option maxHeartbeats 2000000 in
theorem leaves1_gives (w0 : World) (T : Nd) (hC : sizeN T) (b : Nat) (A : Option Addr) (c : Nat) (w : World) (hw0 : Below w0.heap.size w0 w) (hb : b < w.heap.size)
    (c0 : w.cell? ⟨b, 0, none⟩ = some (.int .i64 T.kind)) (c1 : w.cell? ⟨b, 1, none⟩ = some (.int .i64 T.tok.1)) (c2 : w.cell? ⟨b, 2, none⟩ = some (.string T.tok.2)) (c3 : w.cell? ⟨b, 3, none⟩ = some (.slice A T.kids.length c)) (hk : KidsV w0 A T.kids) :
    Gives Fence.wide 8 Tryd.prog 81 #[.pointer (some ⟨b, 0, none⟩)] EnL w0.heap.size (leavesN T) w := by
  intro l J Jx W hW hJ hJx hY h0
  rw [← hW.cell hb] at c0 c1 c2 c3
  have hB0 := hw0.trans (hW.mono hw0.size)
  refine callsIn_of_wp_marks Tryd.func81 rfl trivial ?_ rfl
  simp only [Tryd.ntmps81, List.size_toArray, List.length_cons, List.length_nil, Nat.reduceAdd, Nat.reduceSub, Array.replicate_succ, Array.replicate_zero, List.push_toArray, List.append_toArray, List.nil_append, List.cons_append]
  refine wpIn_wide.2 ?_
  have HY := Lib.hid hY
  have HJ := Lib.hid (show _ ∧ _ ∧ _ from ⟨hJ, hJx, h0⟩)
  clear hY hJ hJx h0
  have hbW : b < W.heap.size := Nat.lt_of_lt_of_le hb hW.size
  have hne : b ≠ W.heap.size := Nat.ne_of_lt hbW
  go_wp2_with (go_at_call 62; refine (walk_any T A c _).mono ?_; rintro e w' ⟨rfl, rfl⟩)
  obtain ⟨W0, hW0⟩ : ∃ W0, W0 = (W.alloc (.cells #[.func (.yield l) #[] #[]] 112)).alloc (.cells (nodeCells T A c) 26) := ⟨_, rfl⟩
  have hBW : Below W.heap.size W W0 := by rw [hW0]; exact ((Below.refl _ _).alloc (Nat.le_refl _) _).alloc (by simp) _
  have hs0 : W0.heap.size = W.heap.size + 2 := by rw [hW0]; simp
  have hb1 : W0.heap[W.heap.size]? = some (.cells #[.func (.yield l) #[] #[]] 112 (0, 0)) := by rw [hW0, alloc_old _ _ _ (by simp), alloc_at _ _ _ rfl]
  have hb3 : W0.heap[W.heap.size + 1]? = some (.cells (nodeCells T A c) 26 (0, 0)) := by rw [hW0, alloc_at _ _ _ (by simp)]
  obtain ⟨c0', c1', c2', c3'⟩ := cells_of_block hb3
  have hn0 : w0.heap.size ≤ W.heap.size := hB0.size
  have hB1 : Below w0.heap.size w0 W0 := hB0.trans (hBW.mono hn0)
  refine (wpIn_wide (n := 8)).1 ?_
  have hgo : ∀ (Q : Exit → Act → World → Prop) (a : Act) (g : Operand) (ps : Array Tmp) (assign body : Code), (Code.rangeFunc g ps assign body).wpIn Fence.wide 8 Tryd.prog Q a W0 → (Code.rangeFunc g ps assign body).wpIn Fence.wide 8 Tryd.prog Q a ((W.alloc (.cells #[.func (.yield l) #[] #[]] 112)).alloc (.cells (nodeCells T A c) 26)) := fun _ _ _ _ _ _ h => by rw [← hW0]; exact h
  refine hgo _ _ _ _ _ _ ?_
  clear hgo hW0
  have hJ0 : J 0 (fun b => b = W.heap.size) W0 := HJ.out.1 0 _ _ W W0 HJ.out.2.2 (Turns.of_below hBW) (fun b h => .inr (by omega))
  refine wpIn_rangeT rfl (by decide) (gf := 84) (lb := #[.pointer (some ⟨W.heap.size + 1, 0, none⟩)]) rfl trivial (enters_of Tryd.func84 (by kernel_rfl) rfl)
    (walk1_gives w0 T hC (W.heap.size + 1) A c (8 - 1) (by decide) W0 hB1 (by omega) c0' c1' c2' c3' hk) (Below.refl _ _) hB1.size EnW.keep (fun O x W args h => EnW.size O x W args h)
    (fun k O V => J (leafK T k) (fun b => O b ∨ b = W.heap.size) V ∧ V.heap[W.heap.size]? = some (.cells #[.func (.yield l) #[] #[]] 112 (0, 0)) ∧ (∀ b, O b → W.heap.size + 2 ≤ b) ∧ W.heap.size + 2 ≤ V.heap.size)
    (fun cd k O V => (cd = .ret ∧ Jx (leafK T k) (fun b => O b ∨ b = W.heap.size) V) ∧ (∀ b, O b → W.heap.size + 2 ≤ b) ∧ W.heap.size + 2 ≤ V.heap.size)
    ?ab1 ?ab2 ⟨by rw [show leafK T 0 = 0 by simp [leafK, leavesW]]; exact HJ.out.1 0 _ _ W0 W0 hJ0 (Turns.refl _ _) (fun b h => h.elim (fun h' => h'.elim) .inl), hb1, fun b h => h.elim, by omega⟩ ?round ?done ?stop
  case ab1 =>
    rintro k O O' V V' ⟨h1, h2, h3, h4⟩ ht hg
    refine ⟨HJ.out.1 _ _ _ V V' h1 (ht.mono fun _ h => .inl h) (fun b hb => hb.elim (fun h => (hg b h).imp .inl id) (fun h => .inl (.inr h))), (ht.block _ (by omega) (fun h => by have := h3 _ h; omega)).trans h2, fun b hb => (hg b hb).elim (h3 b) (fun h => Nat.le_trans h4 h), Nat.le_trans h4 ht.size⟩
  case ab2 =>
    rintro cd k O O' V V' ⟨⟨rfl, h1⟩, h3, h4⟩ ht hg
    refine ⟨⟨rfl, HJ.out.2.1 _ _ _ V V' h1 (ht.mono fun _ h => .inl h) (fun b hb => hb.elim (fun h => (hg b h).imp .inl id) (fun h => .inl (.inr h)))⟩, fun b hb => (hg b hb).elim (h3 b) (fun h => Nat.le_trans h4 h), Nat.le_trans h4 ht.size⟩
  case round =>
    rintro l' k O ⟨p, x⟩ args V hO hn ⟨hj, hr1, hfar, hsz⟩ hx ⟨pv, Ak, ck, rfl, hkv, hpos, hpo⟩
    simp only at hpos hkv
    obtain ⟨a0, cp, rfl⟩ := own_slice hpos
    gi_wp2
    refine ⟨(Below.refl _ _).alloc (Nat.le_refl _) _, fun W2 hT2 hs2 hi2 he2 => ?_⟩
    have hbx : W2.heap[V.heap.size]? = some (.cells (nodeCells x Ak ck) 26 (0, 0)) := (hT2.block _ (by simp) (fun h => Nat.lt_irrefl _ (hO _ h))).trans (alloc_at _ _ _ rfl)
    obtain ⟨d0, d1, d2, d3⟩ := cells_of_block hbx
    obtain ⟨hj2, hq1, _, hsz2⟩ := hi2
    have hOs : ∀ b, O b → b < W2.heap.size := fun b hb => by have := hO b hb; rw [hs2]; simp; omega
    have l1 : W2.cell? ⟨W.heap.size, 0, none⟩ = some (.func (.yield l) #[] #[]) := Lib.cell_of_heap hq1 0
    by_cases hk1 : x.kind = 1
    · have hnx := leafK_yes hx hk1
      obtain ⟨fn, tmps, assign, body, hy1, hR⟩ := HY.out (leafK T k) _ W2 #[.agg #[.int .i64 x.tok.1, .string x.tok.2]] x.tok hj2 (fun b hb => hb.elim (hOs b) (fun h => by omega)) (leaf_get hx hk1) rfl
      have HX := Lib.hid (show _ ∧ _ ∧ _ ∧ _ ∧ _ ∧ _ from ⟨hnx, hfar, hq1, hsz2, hT2, hn⟩)
      clear hnx hfar hq1 hsz2 hT2 hs2 he2 hj hr1 hsz hpos hpo hkv hx hO hn hbx hj2 hOs hJ0 hB1 hb1 hb3 c0 c1 c2 c3 c0' c1' c2' c3' hBW hs0
      gi_wp2
      refine (RoundIn.anyD hR).mono ?_
      clear hy1 hR
      rintro e W3 (⟨rfl, hj3, hk3⟩ | ⟨rfl, hjx, hk3⟩)
      · dsimp only
        have HK := Lib.hid (And.intro hj3 hk3)
        clear hj3 hk3
        gi_wp2
        exact ⟨⟨HK.out.2.below, fun b hb => HK.out.2.own b (.inl hb)⟩, by rw [HX.out.1]; exact HK.out.1, (HK.out.2.own _ (.inr rfl)).trans HX.out.2.2.1, HX.out.2.1, Nat.le_trans HX.out.2.2.2.1 HK.out.2.below.size⟩
      · dsimp only
        have HK := Lib.hid (And.intro hjx hk3)
        clear hjx hk3
        gi_wp2
        exact ⟨⟨HK.out.2.below, fun b hb => HK.out.2.own b (.inl hb)⟩, ⟨rfl, by rw [HX.out.1]; exact HK.out.1⟩, HX.out.2.1, Nat.le_trans HX.out.2.2.2.1 HK.out.2.below.size⟩
    · have hnx := leafK_no hx hk1
      have hkb : (x.kind == 1) = false := by simpa using hk1
      have HX := Lib.hid (show _ ∧ _ ∧ _ ∧ _ ∧ _ from ⟨hnx, hfar, hq1, hsz2, hj2⟩)
      clear hnx hfar hq1 hsz2 hT2 hs2 he2 hj hr1 hsz hpos hpo hkv hx hO hn hbx hj2 hOs hJ0 hB1 hb1 hb3 c0 c1 c2 c3 c0' c1' c2' c3' hBW hs0
      gi_wp2
      refine ⟨fun f hf => (by cases hf), ?_⟩
      gi_wp2
      exact ⟨Keep.refl _ _ _, by rw [HX.out.1]; exact HX.out.2.2.2.2, HX.out.2.2.1, HX.out.2.1, HX.out.2.2.2.1⟩
  case done =>
    rintro D O V hD hOD ⟨hj, hr1, hfar, hsz⟩ hKD
    have hj2 := HJ.out.1 _ _ (fun b => O b ∨ b = W.heap.size) V (V.putObj D (.deferred none)) hj (Turns.putObj _ (.inl hOD)) (fun b hb => .inl hb)
    rw [leafK_all] at hj2
    have HJ2 := Lib.hid hj2
    clear hj hj2 hr1 hfar hsz hOD
    gi_wp2
    refine ⟨by simp, .inl ⟨_, _, rfl, run_takeDeferred hKD, ?_⟩⟩
    exact ⟨_, results_none rfl _ _ _, ⟨_, rfl⟩, .inl ⟨_, HJ2.out⟩⟩
  case stop =>
    rintro D O cd k V hD hOD hkl ⟨⟨rfl, hj⟩, hfar, hsz⟩ hKD
    have hj2 := HJ.out.2.1 _ _ (fun b => O b ∨ b = W.heap.size) V (V.putObj D (.deferred none)) hj (Turns.putObj _ (.inl hOD)) (fun b hb => .inl hb)
    have hlm := leafK_mono T k
    have HJ2 := Lib.hid hj2
    clear hj hj2 hfar hsz hOD
    gi_wp2
    refine ⟨by simp, .inl ⟨_, _, rfl, run_takeDeferred hKD, ?_⟩⟩
    exact ⟨_, results_none rfl _ _ _, ⟨_, rfl⟩, .inr ⟨_, _, hlm, HJ2.out⟩⟩
end Go.Proofs.YtgihkojlpaebiaaDoor

namespace Go.Proofs.YtgihkojlpaebiaaDoor
set_option linter.unusedVariables false
set_option linter.unusedSimpArgs false
open Go Go.RowKit

attribute [local go_sem] Oper.semAt_some

/-- how many bytes tokens have -/
def sumT : List Tok → Nat
  | [] => 0
  | t :: l => t.2.size + sumT l
theorem sumT_append : ∀ a b : List Tok, sumT (a ++ b) = sumT a + sumT b
  | [], b => by simp [sumT]
  | t :: a, b => by simp only [List.cons_append, sumT, sumT_append a b]; omega
theorem sumT_take {l : List Tok} {k : Nat} {x : Tok} (h : l[k]? = some x) : sumT (l.take (k + 1)) = sumT (l.take k) + x.2.size := by
  rw [take_snoc h, sumT_append]; simp [sumT]
theorem sumT_le (l : List Tok) (k : Nat) : sumT (l.take k) ≤ sumT l := by
  conv => rhs; rw [← List.take_append_drop k l, sumT_append]
  omega
def sumS (n : Nd) : Prop := sumT (leavesN n) ≤ 1000000000000
theorem wrapSum {a b c : Nat} (h : a + b ≤ c) (hc : c ≤ 1000000000000) : wrap64 ((a : Int) + (b : Int)) = (a : Int) + (b : Int) := by unfold wrap64; omega

set_option maxRecDepth 100000 in
set_option maxHeartbeats 2000000 in
theorem width_any (n : Nd) (v : Value) (w : World) (hC : sizeN n) (hS : sumS n) (hV : NodeV w v n) :
    Calls Tryd.prog 60 #[v] w fun e w' => e = .returned (.int .i64 (sumT (leavesN n) : Nat)) ∧ Below w.heap.size w w' := by
  obtain ⟨A, c, rfl, hk⟩ := hV
  refine (callsIn_wide (n := 9)).1 ?_
  refine callsIn_of_wp_marks Tryd.func60 rfl trivial ?_ rfl
  simp only [Tryd.ntmps60, List.size_toArray, List.length_cons, List.length_nil, Nat.reduceAdd, Nat.reduceSub, Array.replicate_succ, Array.replicate_zero, List.push_toArray, List.append_toArray, List.nil_append, List.cons_append]
  refine wpIn_wide.2 ?_
  go_wp2_with (go_at_call 57; refine (leaves_any n A c _).mono ?_; rintro e w' ⟨rfl, rfl⟩)
  obtain ⟨W0, hW0⟩ : ∃ W0, W0 = ((w.alloc (.cells (nodeCells n A c) 26)).alloc (.cells #[.int .i64 0] 3)).alloc (.cells (nodeCells n A c) 26) := ⟨_, rfl⟩
  have hB0 : Below w.heap.size w W0 := by rw [hW0]; exact (((Below.refl _ _).alloc (Nat.le_refl _) _).alloc (by simp) _).alloc (by simp; omega) _
  have hs0 : W0.heap.size = w.heap.size + 3 := by rw [hW0]; simp
  have hb2 : W0.heap[w.heap.size + 1]? = some (.cells #[.int .i64 0] 3 (0, 0)) := by rw [hW0, alloc_old _ _ _ (by simp), alloc_at _ _ _ (by simp)]
  have hb3 : W0.heap[w.heap.size + 2]? = some (.cells (nodeCells n A c) 26 (0, 0)) := by rw [hW0, alloc_at _ _ _ (by simp)]
  obtain ⟨c0, c1, c2, c3⟩ := cells_of_block hb3
  have hM0 : Mine (w.heap.size + 3) w (fun _ => False) W0 := ⟨fun b hb => hb.elim, hB0, by omega, by omega⟩
  refine (wpIn_wide (n := 9)).1 ?_
  have hgo : ∀ (Q : Exit → Act → World → Prop) (a : Act) (g : Operand) (ps : Array Tmp) (assign body : Code), (Code.rangeFunc g ps assign body).wpIn Fence.wide 9 Tryd.prog Q a W0 → (Code.rangeFunc g ps assign body).wpIn Fence.wide 9 Tryd.prog Q a (((w.alloc (.cells (nodeCells n A c) 26)).alloc (.cells #[.int .i64 0] 3)).alloc (.cells (nodeCells n A c) 26)) := fun _ _ _ _ _ _ h => by rw [← hW0]; exact h
  refine hgo _ _ _ _ _ _ ?_
  clear hgo hW0
  refine wpIn_rangeT rfl (by decide) (gf := 81) (lb := #[.pointer (some ⟨w.heap.size + 2, 0, none⟩)]) rfl trivial (enters_of Tryd.func81 (by kernel_rfl) rfl)
    (leaves1_gives w n hC (w.heap.size + 2) A c W0 hB0 (by omega) c0 c1 c2 c3 hk) (Below.refl _ _) hB0.size EnL.keep (fun O x W args h => EnL.size O x W args h)
    (fun k O W => Mine (w.heap.size + 3) w O W ∧ W.heap[w.heap.size + 1]? = some (.cells #[.int .i64 (sumT ((leavesN n).take k) : Nat)] 3 (0, 0)))
    (fun _ _ _ _ => False)
    (fun k O O' W W' h ht hg => ⟨h.1.turns ht hg, (h.1.block ht (by omega)).trans h.2⟩)
    (fun _ _ _ _ _ _ h _ _ => h)
    ⟨hM0, by rw [hb2]; simp [sumT]⟩ ?round ?done ?stop
  case round =>
    rintro l k O x args W hO hn ⟨hM, hr2⟩ hx rfl
    gi_wp2
    refine ⟨(Below.refl _ _).alloc (Nat.le_refl _) _, fun W2 hT2 hs2 hi2 he2 => ?_⟩
    have hbx : W2.heap[W.heap.size]? = some (.cells #[.int .i64 x.1, .string x.2] 23 (0, 0)) := (hT2.block _ (by simp) (fun h => Nat.lt_irrefl _ (hO _ h))).trans (alloc_at _ _ _ rfl)
    obtain ⟨hM2, hq2⟩ := hi2
    have d1 : W2.cell? ⟨W.heap.size, 1, none⟩ = some (.string x.2) := Lib.cell_of_heap hbx 1
    have l2 : W2.cell? ⟨w.heap.size + 1, 0, none⟩ = some (.int .i64 (sumT ((leavesN n).take k) : Nat)) := Lib.cell_of_heap hq2 0
    have f2 : W2.frozen? ⟨w.heap.size + 1, 0, none⟩ = false := frozen_block hq2
    have hst := sumT_take hx
    have hw : wrap64 ((sumT ((leavesN n).take k) : Int) + (x.2.size : Int)) = (sumT ((leavesN n).take k) : Int) + (x.2.size : Int) := wrapSum (by rw [← hst]; exact sumT_le _ _) hS
    have hM3 := hM2.set (b := w.heap.size + 1) (j := 0) (.int .i64 ((sumT ((leavesN n).take k) : Int) + (x.2.size : Int))) (by omega) (by omega)
    have hq3 := set_block (v := .int .i64 ((sumT ((leavesN n).take k) : Int) + (x.2.size : Int))) hq2
    have HX := Lib.hid (show _ ∧ _ ∧ _ from ⟨hM3, hq3, hst⟩)
    clear hM3 hq3 hst hM2 hq2 hbx hT2 hs2 he2 hM hr2 hO hn hx hB0 hs0 hb2 hb3 c0 c1 c2 c3 hM0 hC hS
    gi_wp2
    exact ⟨HX.out.1.2, HX.out.1.1, by rw [HX.out.2.1, HX.out.2.2]; simp⟩
  case done =>
    rintro D O W hD _ ⟨hM, hq1⟩ hKD
    rw [List.take_length] at hq1
    have l1 := Lib.cell_of_heap hq1 0
    clear hq1
    go_wp2_with fail
    refine ⟨by simp, .inl ⟨_, _, rfl, run_takeDeferred hKD, ?_⟩⟩
    exact ⟨.int .i64 (sumT (leavesN n) : Nat), by simp [results, Tryd.f60, go_sem], rfl, hM.below.trans ⟨rfl, rfl, rfl, by simp, fun b hb => World.putObj_heap_other (by omega)⟩⟩
  case stop =>
    rintro D O cd k W hD _ hkl h hKD
    exact h.elim
end Go.Proofs.YtgihkojlpaebiaaDoor

namespace Go.Proofs.YtgihkojlpaebiaaDoor
set_option linter.unusedVariables false
set_option linter.unusedSimpArgs false
open Go Go.RowKit

attribute [local go_sem] Oper.semAt_some

theorem longW_take {l : List (List Nat × Nd)} {k : Nat} {x : List Nat × Nd} (h : l[k]? = some x) : longW (l.take (k + 1)) = max (longW (l.take k)) x.1.length := by
  rw [take_snoc h, longW_append]; simp [longW]
theorem NodeV.alloc {w : World} {n : Nd} {v : Value} (h : NodeV w v n) (o : Obj) : NodeV (w.alloc o) v n := h.below ((Below.refl _ _).alloc (Nat.le_refl _) _)
theorem cells_later {w w1 : World} {n : Nd} {A : Option Addr} {c t : Nat} (hb : Below (w.alloc (.cells (nodeCells n A c) t)).heap.size (w.alloc (.cells (nodeCells n A c) t)) w1) :
    w1.heap[w.heap.size]? = some (.cells (nodeCells n A c) t (0, 0)) := (hb.block _ (by simp)).trans (alloc_at _ _ _ rfl)

set_option maxRecDepth 100000 in
set_option maxHeartbeats 2000000 in
theorem Count_any (n : Nd) (v : Value) (w : World) (hC : sizeN n) (hT : Tabs w) (hV : NodeV w v n) :
    Calls Tryd.prog 20 #[v] w fun e w' => e = .returned (if formedB n then .tuple #[.int .i64 (countN n : Nat), .int .i64 (deepN n : Nat), .int .i64 0] else .tuple #[.int .i64 0, .int .i64 0, .int .i64 4]) ∧ Below w.heap.size w w' := by
  have hV0 := hV
  obtain ⟨A, c, rfl, hk⟩ := hV
  have hIF := IsFormed_any n _ (w.alloc (.cells (nodeCells n A c) 26)) hC (hT.below ((Below.refl _ _).alloc (Nat.le_refl _) _)) (hV0.alloc _)
  have hBa : Below w.heap.size w (w.alloc (.cells (nodeCells n A c) 26)) := (Below.refl _ _).alloc (Nat.le_refl _) _
  have HB := Lib.hid (show _ ∧ _ ∧ _ from ⟨hBa, hk, hC⟩)
  clear hBa hT hV0 hk hC
  refine (callsIn_wide (n := 9)).1 ?_
  refine callsIn_of_wp_marks Tryd.func20 rfl trivial ?_ rfl
  simp only [Tryd.ntmps20, List.size_toArray, List.length_cons, List.length_nil, Nat.reduceAdd, Nat.reduceSub, Array.replicate_succ, Array.replicate_zero, List.push_toArray, List.append_toArray, List.nil_append, List.cons_append]
  refine wpIn_wide.2 ?_
  cases hf : formedB n with
  | false =>
    rw [hf] at hIF
    clear hf
    have HIF := Lib.hid hIF
    clear hIF
    go_wp2_with (go_at_call 21; refine HIF.out.mono ?_; rintro e w1 ⟨rfl, hb1⟩)
    exact ⟨.tuple #[.int .i64 0, .int .i64 0, .int .i64 4], by simp [results, Tryd.f20, go_sem], by simp, HB.out.1.trans (hb1.mono HB.out.1.size)⟩
  | true =>
    rw [hf] at hIF
    clear hf
    have HIF := Lib.hid hIF
    clear hIF
    go_wp2_with (first
      | (go_at_call 21; refine HIF.out.mono ?_; rintro e w1 ⟨rfl, hb1⟩; obtain ⟨e0, e1, e2, e3⟩ := cells_of_block (cells_later hb1); have hlt : w.heap.size < w1.heap.size := Nat.lt_of_lt_of_le (by simp) hb1.size; have hne : w.heap.size ≠ w1.heap.size := Nat.ne_of_lt hlt; have hne2 : w.heap.size ≠ w1.heap.size + 1 := by omega)
      | (go_at_call 62; refine (walk_any n A c _).mono ?_; rintro e w' ⟨rfl, rfl⟩))
    obtain ⟨hBa, hk, hC⟩ := HB.out
    have hBw : Below w.heap.size w w1 := hBa.trans (hb1.mono hBa.size)
    have hk1 : KidsV w1 A n.kids := hk.below hBw
    obtain ⟨W0, hW0⟩ : ∃ W0, W0 = ((w1.alloc (.cells #[.int .i64 0] 3)).alloc (.cells #[.int .i64 0] 3)).alloc (.cells (nodeCells n A c) 26) := ⟨_, rfl⟩
    have hB0 : Below w1.heap.size w1 W0 := by rw [hW0]; exact (((Below.refl _ _).alloc (Nat.le_refl _) _).alloc (by simp) _).alloc (by simp; omega) _
    have hs0 : W0.heap.size = w1.heap.size + 3 := by rw [hW0]; simp
    have hb2 : W0.heap[w1.heap.size]? = some (.cells #[.int .i64 0] 3 (0, 0)) := by rw [hW0, alloc_old _ _ _ (by simp; omega), alloc_old _ _ _ (by simp), alloc_at _ _ _ rfl]
    have hb3 : W0.heap[w1.heap.size + 1]? = some (.cells #[.int .i64 0] 3 (0, 0)) := by rw [hW0, alloc_old _ _ _ (by simp), alloc_at _ _ _ (by simp)]
    have hb4 : W0.heap[w1.heap.size + 2]? = some (.cells (nodeCells n A c) 26 (0, 0)) := by rw [hW0, alloc_at _ _ _ (by simp)]
    obtain ⟨c0, c1, c2, c3⟩ := cells_of_block hb4
    have hM0 : Mine (w1.heap.size + 3) w1 (fun _ => False) W0 := ⟨fun b hb => hb.elim, hB0, by omega, by omega⟩
    refine (wpIn_wide (n := 9)).1 ?_
    have hgo : ∀ (Q : Exit → Act → World → Prop) (a : Act) (g : Operand) (ps : Array Tmp) (assign body : Code), (Code.rangeFunc g ps assign body).wpIn Fence.wide 9 Tryd.prog Q a W0 → (Code.rangeFunc g ps assign body).wpIn Fence.wide 9 Tryd.prog Q a (((w1.alloc (.cells #[.int .i64 0] 3)).alloc (.cells #[.int .i64 0] 3)).alloc (.cells (nodeCells n A c) 26)) := fun _ _ _ _ _ _ h => by rw [← hW0]; exact h
    refine hgo _ _ _ _ _ _ ?_
    clear hgo hW0
    have HBW := Lib.hid (And.intro hBw hC)
    refine wpIn_rangeT rfl (by decide) (gf := 84) (lb := #[.pointer (some ⟨w1.heap.size + 2, 0, none⟩)]) rfl trivial (enters_of Tryd.func84 (by kernel_rfl) rfl)
      (walk1_gives w1 n hC (w1.heap.size + 2) A c (9 - 1) (by decide) W0 hB0 (by omega) c0 c1 c2 c3 hk1) (Below.refl _ _) hB0.size EnW.keep (fun O x W args h => EnW.size O x W args h)
      (fun k O W => Mine (w1.heap.size + 3) w1 O W ∧ W.heap[w1.heap.size]? = some (.cells #[.int .i64 (k : Nat)] 3 (0, 0)) ∧ W.heap[w1.heap.size + 1]? = some (.cells #[.int .i64 (longW ((walkN [] n).take k) : Nat)] 3 (0, 0)))
      (fun _ _ _ _ => False)
      (fun k O O' W W' h ht hg => ⟨h.1.turns ht hg, (h.1.block ht (by omega)).trans h.2.1, (h.1.block ht (by omega)).trans h.2.2⟩)
      (fun _ _ _ _ _ _ h _ _ => h)
      ⟨hM0, by rw [hb2]; simp, by rw [hb3]; simp [longW]⟩ ?round ?done ?stop
    case round =>
      rintro l k O ⟨p, x⟩ args W hO hn ⟨hM, hr1, hr2⟩ hx ⟨pv, Ak, ck, rfl, hkv, hpos, hpo⟩
      simp only at hpos hkv
      obtain ⟨a0, cp, rfl⟩ := own_slice hpos
      gi_wp2
      refine ⟨Below.refl _ _, fun W2 hT2 hs2 hi2 he2 => ?_⟩
      obtain ⟨hM2, hq1, hq2⟩ := hi2
      have hkl : k < countN n := by
        have := (List.getElem?_eq_some_iff.1 hx).1
        rwa [walkN_length] at this
      have hw : wrap64 ((k : Int) + 1) = (k : Int) + 1 := w64a hkl hC
      have l1 : W2.cell? ⟨w1.heap.size, 0, none⟩ = some (.int .i64 (k : Nat)) := Lib.cell_of_heap hq1 0
      have l2 : W2.cell? ⟨w1.heap.size + 1, 0, none⟩ = some (.int .i64 (longW ((walkN [] n).take k) : Nat)) := Lib.cell_of_heap hq2 0
      have f1 : W2.frozen? ⟨w1.heap.size, 0, none⟩ = false := frozen_block hq1
      have f2 : W2.frozen? ⟨w1.heap.size + 1, 0, none⟩ = false := frozen_block hq2
      have hn1 : w1.heap.size + 1 ≠ w1.heap.size := by omega
      have hn2 : w1.heap.size ≠ w1.heap.size + 1 := by omega
      have hst := longW_take hx
      have HX := Lib.hid (show _ ∧ _ ∧ _ ∧ _ from ⟨hM2, hq1, hq2, hst⟩)
      clear hM2 hq1 hq2 hst hT2 hs2 he2 hM hr1 hr2 hpos hpo hkv hx hO hn hB0 hs0 hb2 hb3 hb4 c0 c1 c2 c3 hM0 hC hkl e0 e1 e2 e3 hlt hne hne2 hb1 hk1 hk hBw hBa
      have hend : ∀ d : Nat, longW ((walkN [] n).take (k + 1)) = d → postT w1.heap.size (fun k O W => Mine (w1.heap.size + 3) w1 O W ∧ W.heap[w1.heap.size]? = some (.cells #[.int .i64 (k : Nat)] 3 (0, 0)) ∧ W.heap[w1.heap.size + 1]? = some (.cells #[.int .i64 (longW ((walkN [] n).take k) : Nat)] 3 (0, 0))) (fun _ _ _ _ => False) O (k + 1) W2 .normal { tmps := #[], defers := [] } ((W2.setCell ⟨w1.heap.size, 0, none⟩ (.int .i64 ((k : Int) + 1))).setCell ⟨w1.heap.size + 1, 0, none⟩ (.int .i64 (d : Int))) := fun d hd => by
        obtain ⟨hM2, hq1, hq2, _⟩ := HX.out
        have s1 := hM2.set (b := w1.heap.size) (j := 0) (.int .i64 ((k : Int) + 1)) (by omega) (Nat.le_refl _)
        have s2 := s1.1.set (b := w1.heap.size + 1) (j := 0) (.int .i64 (d : Int)) (by omega) (by omega)
        refine ⟨s1.2.trans s2.2, s2.1, (block_other (by omega)).trans ((set_block hq1).trans (by simp)), ?_⟩
        rw [hd]
        exact set_block ((block_other (by omega)).trans hq2)
      have HE := Lib.hid hend
      clear hend
      by_cases hmx : longW ((walkN [] n).take k) < p.length
      · have hd : longW ((walkN [] n).take (k + 1)) = p.length := by rw [HX.out.2.2.2]; exact Nat.max_eq_right (Nat.le_of_lt hmx)
        have HD := Lib.hid hd
        clear hd
        gi_wp2
        exact HE.out _ HD.out
      · have hd : longW ((walkN [] n).take (k + 1)) = longW ((walkN [] n).take k) := by rw [HX.out.2.2.2]; exact Nat.max_eq_left (Nat.le_of_not_lt hmx)
        have HD := Lib.hid hd
        clear hd
        gi_wp2
        exact HE.out _ HD.out
    case done =>
      rintro D O W hD _ ⟨hM, hq1, hq2⟩ hKD
      rw [walkN_length] at hq1
      rw [List.take_length, longW_walkN, List.length_nil, Nat.zero_add] at hq2
      have l1 := Lib.cell_of_heap hq1 0
      have l2 := Lib.cell_of_heap hq2 0
      clear hq1 hq2
      go_wp2_with fail
      go_quiet (fail)
      go_wp2_with fail
      refine ⟨by simp, .inl ⟨_, _, rfl, run_takeDeferred (show (W.drewN _).heap[D]? = _ from hKD), ?_⟩⟩
      exact ⟨.tuple #[.int .i64 (countN n : Nat), .int .i64 (deepN n : Nat), .int .i64 0], by simp [results, Tryd.f20, go_sem], rfl, hBw.trans ((hM.below.mono hBw.size).trans ⟨rfl, rfl, rfl, by simp, fun b hb => World.putObj_heap_other (by have := hBw.size; omega)⟩)⟩
    case stop =>
      rintro D O cd k W hD _ hkl h hKD
      exact h.elim
end Go.Proofs.YtgihkojlpaebiaaDoor
