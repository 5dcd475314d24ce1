/-
  Trees: tree.walk as what a range goes over; IsFormed.
-/
import Derived.Test.YtpjlgahbbmlngaaDoorTreeLeavesp7
import Derived.Test.YtpjlgahbbmlngaaDoorTreeLeavesp13
import Derived.RangeFuncLeaves
namespace Go.Proofs.YtpjlgahbbmlngaaDoor
set_option linter.unusedVariables false
set_option linter.unusedSimpArgs false
open Go Go.RowKit

attribute [local go_sem] Oper.semAt_some

/-- a node's four cells in a block -/
def nodeCells (n : Nd) (A : Option Addr) (c : Nat) : Array Value := #[.int .i64 n.kind, .int .i64 n.tok.1, .string n.tok.2, .slice A n.kids.length c]
theorem cells_of_block {w : World} {b t : Nat} {n : Nd} {A : Option Addr} {c : Nat} (h : w.heap[b]? = some (.cells (nodeCells n A c) t (0, 0))) :
    w.cell? ⟨b, 0, none⟩ = some (.int .i64 n.kind) ∧ w.cell? ⟨b, 1, none⟩ = some (.int .i64 n.tok.1) ∧ w.cell? ⟨b, 2, none⟩ = some (.string n.tok.2) ∧ w.cell? ⟨b, 3, none⟩ = some (.slice A n.kids.length c) :=
  ⟨Lib.cell_of_heap h 0, Lib.cell_of_heap h 1, Lib.cell_of_heap h 2, Lib.cell_of_heap h 3⟩

/-- tree.walk: a box, and the closure over it -/
theorem walk_any (n : Nd) (A : Option Addr) (c : Nat) (w : World) : Calls Tryd.prog 62 #[.agg #[.int .i64 n.kind, .int .i64 n.tok.1, .string n.tok.2, .slice A n.kids.length c]] w fun e w' =>
    e = .returned (.func (.func 84) #[] #[.pointer (some ⟨w.heap.size, 0, none⟩)]) ∧ w' = w.alloc (.cells (nodeCells n A c) 26) := by
  go_enter Tryd.func62, Tryd.ntmps62
  go_wp2_with fail
  go_ret
  exact ⟨rfl, rfl⟩
theorem alloc_at (w : World) (o : Obj) (b : Nat) (h : b = w.heap.size) : (w.alloc o).heap[b]? = some o := by rw [h]; exact World.alloc_heap_new w o
theorem alloc_old (w : World) (o : Obj) (b : Nat) (h : b < w.heap.size) : (w.alloc o).heap[b]? = w.heap[b]? := Below.heap_alloc w o b h
theorem frozen_block {w : World} {b j t : Nat} {cs : Array Value} (h : w.heap[b]? = some (.cells cs t (0, 0))) : w.frozen? ⟨b, j, none⟩ = false := by simp [World.frozen?, h]
/-- what a caller of a range owns: all below B but what lay in w is its own -/
structure Mine (B : Nat) (w : World) (O : Nat → Prop) (W : World) : Prop where
  far : ∀ b, O b → B ≤ b
  below : Below w.heap.size w W
  size : B ≤ W.heap.size
  base : w.heap.size ≤ B
theorem Mine.block {B : Nat} {w W W' : World} {O : Nat → Prop} (h : Mine B w O W) (ht : Turns O W W') {b : Nat} (hb : b < B) : W'.heap[b]? = W.heap[b]? :=
  ht.block b (Nat.lt_of_lt_of_le hb h.size) (fun ho => absurd (h.far b ho) (by omega))
theorem Mine.turns {B : Nat} {w W W' : World} {O O' : Nat → Prop} (h : Mine B w O W) (ht : Turns O W W') (hg : ∀ b, O' b → O b ∨ W.heap.size ≤ b) : Mine B w O' W' :=
  ⟨fun b hb => (hg b hb).elim (h.far b) (fun h' => Nat.le_trans h.size h'), h.below.trans ⟨ht.os, ht.tape, ht.output, ht.size, fun k hk => h.block ht (Nat.lt_of_lt_of_le hk h.base)⟩, Nat.le_trans h.size ht.size, h.base⟩
theorem Mine.set {B : Nat} {w W : World} {O : Nat → Prop} (h : Mine B w O W) {b j : Nat} (v : Value) (hb : b < B) (hw : w.heap.size ≤ b) : Mine B w O (W.setCell ⟨b, j, none⟩ v) ∧ Keep w.heap.size O W (W.setCell ⟨b, j, none⟩ v) :=
  ⟨⟨h.far, h.below.setCell (p := ⟨b, j, none⟩) hw v, by rw [show (W.setCell ⟨b, j, none⟩ v).heap.size = W.heap.size by simp [World.setCell]]; exact h.size, h.base⟩, Keep.setCell (p := ⟨b, j, none⟩) v hw (fun ho => absurd (h.far b ho) (by simp; omega))⟩
theorem Mine.call {B : Nat} {w W W' : World} {O : Nat → Prop} (h : Mine B w O W) (hb : Below W.heap.size W W') : Mine B w O W' :=
  ⟨h.far, h.below.trans (hb.mono (Nat.le_trans h.base h.size)), Nat.le_trans h.size hb.size, h.base⟩
/-- one cell in a block of its own -/
theorem set_block {W : World} {b : Nat} {u v : Value} {t : Nat} (h : W.heap[b]? = some (.cells #[u] t (0, 0))) : (W.setCell ⟨b, 0, none⟩ v).heap[b]? = some (.cells #[v] t (0, 0)) := by
  have := heap_setCell_same W b 0 #[u] t v h
  simpa using this
theorem block_other {W : World} {b b' j : Nat} {v : Value} (hne : b ≠ b') : (W.setCell ⟨b', j, none⟩ v).heap[b]? = W.heap[b]? := Below.heap_setCell W ⟨b', j, none⟩ v b hne

theorem partR_eq (x : Nd) : partR x.kind x.tok x.kids.length = isPartN x := by
  obtain ⟨k, tk, l⟩ := x
  simp only [partR, isPartN, Nd.kind, Nd.tok, Nd.kids]
  cases l with
  | nil => by_cases h1 : k = 1 <;> by_cases h2 : k = 28 <;> simp [h1, h2, Bool.and_assoc]
  | cons y l => by_cases h1 : k = 1 <;> by_cases h2 : k = 28 <;> simp [h1, h2, Bool.and_assoc]
/-- how many leaves there are among the first k nodes -/
def leafK (n : Nd) (k : Nat) : Nat := (leavesW ((walkN [] n).take k)).length
theorem take_snoc {α : Type} {l : List α} {k : Nat} {x : α} (h : l[k]? = some x) : l.take (k + 1) = l.take k ++ [x] := by
  obtain ⟨hlt, rfl⟩ := List.getElem?_eq_some_iff.1 h
  rw [List.take_succ_eq_append_getElem hlt]
theorem leafK_yes {n x : Nd} {k : Nat} {p : List Nat} (h : (walkN [] n)[k]? = some (p, x)) (hk : x.kind = 1) : leafK n (k + 1) = leafK n k + 1 := by
  simp [leafK, take_snoc h, leavesW_append, leavesW, leafOf, hk]
theorem leafK_no {n x : Nd} {k : Nat} {p : List Nat} (h : (walkN [] n)[k]? = some (p, x)) (hk : x.kind ≠ 1) : leafK n (k + 1) = leafK n k := by
  simp [leafK, take_snoc h, leavesW_append, leavesW, leafOf, hk]
theorem leavesW_le : ∀ l : List (List Nat × Nd), (leavesW l).length ≤ l.length
  | [] => Nat.zero_le _
  | x :: l => by
    have := leavesW_le l
    simp only [leavesW, List.flatMap_cons, List.length_append, List.length_cons] at this ⊢
    have h2 : (leafOf x).length ≤ 1 := by unfold leafOf; split <;> simp
    omega
theorem leafK_le (n : Nd) (k : Nat) : leafK n k ≤ countN n := by
  have h1 := leavesW_le ((walkN [] n).take k)
  have h2 : ((walkN [] n).take k).length ≤ countN n := by rw [← walkN_length [] n, List.length_take]; exact Nat.min_le_right _ _
  exact Nat.le_trans h1 h2
/-- what IsFormed has seen of the first k nodes -/
def seenOk (n : Nd) (k : Nat) : Prop := okW ((walkN [] n).take k) ∧ leafK n k ≤ 20000
theorem seenOk.next {n x : Nd} {k : Nat} {p : List Nat} (h : seenOk n k) (hx : (walkN [] n)[k]? = some (p, x)) (h1 : p.length ≤ 1000) (h2 : leafK n (k + 1) ≤ 20000) (h3 : isPartN x = true) : seenOk n (k + 1) := by
  refine ⟨?_, h2⟩
  rw [take_snoc hx]
  intro y hy
  rcases List.mem_append.1 hy with hy | hy
  · exact h.1 y hy
  · simp only [List.mem_cons, List.not_mem_nil, or_false] at hy; subst hy; exact ⟨h1, h3⟩
theorem seenOk.all {n : Nd} (h : seenOk n (walkN [] n).length) : formedB n = true := by
  have h1 := h.1
  have h2 := h.2
  unfold leafK at h2
  rw [List.take_length] at h1 h2
  exact formedB_of h1 h2
theorem not_formed {n x : Nd} {k : Nat} {p : List Nat} (hx : (walkN [] n)[k]? = some (p, x)) (h : 1000 < p.length ∨ 20000 < leafK n (k + 1) ∨ isPartN x = false) : formedB n = false := by
  obtain ⟨hlt, he⟩ := List.getElem?_eq_some_iff.1 hx
  have h1 : walkN [] n = (walkN [] n).take k ++ (p, x) :: (walkN [] n).drop (k + 1) := by
    rw [← he, ← List.drop_eq_getElem_cons hlt, List.take_append_drop]
  refine not_formedB h1 ?_
  unfold leafK at h
  rw [take_snoc hx] at h
  exact h

theorem fail_end {B b : Nat} {w W2 W : World} {O : Nat → Prop} {t : Nat} {P : Prop} (hM : Mine B w O W) (hK : Keep w.heap.size O W2 W) (hq : W.heap[b]? = some (.cells #[.bool false] t (0, 0))) (h1 : b < B) (h2 : w.heap.size ≤ b) (hp : P) :
    Keep w.heap.size O W2 (W.setCell ⟨b, 0, none⟩ (.bool false)) ∧ Mine B w O (W.setCell ⟨b, 0, none⟩ (.bool false)) ∧ (W.setCell ⟨b, 0, none⟩ (.bool false)).heap[b]? = some (.cells #[.bool false] t (0, 0)) ∧ Code.ret = Code.ret ∧ P :=
  ⟨hK.trans (hM.set _ h1 h2).2, (hM.set _ h1 h2).1, set_block hq, rfl, hp⟩

set_option maxRecDepth 100000 in
set_option maxHeartbeats 2000000 in
theorem IsFormed_any (n : Nd) (v : Value) (w : World) (hC : sizeN n) (hT : Tabs w) (hV : NodeV w v n) :
    Calls Tryd.prog 21 #[v] w fun e w' => e = .returned (.bool (formedB n)) ∧ Below w.heap.size w w' := by
  obtain ⟨A, c, rfl, hk⟩ := hV
  refine (callsIn_wide (n := 9)).1 ?_
  refine callsIn_of_wp_marks Tryd.func21 rfl trivial ?_ rfl
  simp only [Tryd.ntmps21, List.size_toArray, List.length_cons, List.length_nil, Nat.reduceAdd, Nat.reduceSub, Array.replicate_succ, Array.replicate_zero, List.push_toArray, List.append_toArray, List.nil_append, List.cons_append]
  refine wpIn_wide.2 ?_
  go_wp2_with (go_at_call 62; refine (walk_any n A c _).mono ?_; rintro e w' ⟨rfl, rfl⟩)
  obtain ⟨W0, hW0⟩ : ∃ W0, W0 = (((w.alloc (.cells (nodeCells n A c) 26)).alloc (.cells #[.bool false] 4)).alloc (.cells #[.int .i64 0] 3)).alloc (.cells (nodeCells n A c) 26) := ⟨_, rfl⟩
  have hB0 : Below w.heap.size w W0 := by rw [hW0]; exact ((((Below.refl _ _).alloc (Nat.le_refl _) _).alloc (by simp) _).alloc (by simp; omega) _).alloc (by simp; omega) _
  have hs0 : W0.heap.size = w.heap.size + 4 := by rw [hW0]; simp
  have hb1 : W0.heap[w.heap.size + 1]? = some (.cells #[.bool false] 4 (0, 0)) := by rw [hW0, alloc_old _ _ _ (by simp), alloc_old _ _ _ (by simp), alloc_at _ _ _ (by simp)]
  have hb2 : W0.heap[w.heap.size + 2]? = some (.cells #[.int .i64 0] 3 (0, 0)) := by rw [hW0, alloc_old _ _ _ (by simp), alloc_at _ _ _ (by simp)]
  have hb3 : W0.heap[w.heap.size + 3]? = some (.cells (nodeCells n A c) 26 (0, 0)) := by rw [hW0, alloc_at _ _ _ (by simp)]
  obtain ⟨c0, c1, c2, c3⟩ := cells_of_block hb3
  have hM0 : Mine (w.heap.size + 4) w (fun _ => False) W0 := ⟨fun b hb => hb.elim, hB0, by omega, by omega⟩
  refine (wpIn_wide (n := 9)).1 ?_
  have hgo : ∀ (Q : Exit → Act → World → Prop) (a : Act) (g : Operand) (ps : Array Tmp) (assign body : Code), (Code.rangeFunc g ps assign body).wpIn Fence.wide 9 Tryd.prog Q a W0 → (Code.rangeFunc g ps assign body).wpIn Fence.wide 9 Tryd.prog Q a ((((w.alloc (.cells (nodeCells n A c) 26)).alloc (.cells #[.bool false] 4)).alloc (.cells #[.int .i64 0] 3)).alloc (.cells (nodeCells n A c) 26)) := fun _ _ _ _ _ _ h => by rw [← hW0]; exact h
  refine hgo _ _ _ _ _ _ ?_
  clear hgo hW0
  refine wpIn_rangeT rfl (by decide) (gf := 84) (lb := #[.pointer (some ⟨w.heap.size + 3, 0, none⟩)]) rfl trivial (enters_of Tryd.func84 (by kernel_rfl) rfl)
    (walk1_gives w n hC (w.heap.size + 3) A c (9 - 1) (by decide) W0 hB0 (by omega) c0 c1 c2 c3 hk) (Below.refl _ _) hB0.size EnW.keep (fun O x W args h => EnW.size O x W args h)
    (fun k O W => Mine (w.heap.size + 4) w O W ∧ W.heap[w.heap.size + 1]? = some (.cells #[.bool false] 4 (0, 0)) ∧ W.heap[w.heap.size + 2]? = some (.cells #[.int .i64 (leafK n k : Nat)] 3 (0, 0)) ∧ seenOk n k)
    (fun cd k O W => Mine (w.heap.size + 4) w O W ∧ W.heap[w.heap.size + 1]? = some (.cells #[.bool false] 4 (0, 0)) ∧ cd = .ret ∧ formedB n = false)
    (fun k O O' W W' h ht hg => ⟨h.1.turns ht hg, (h.1.block ht (by omega)).trans h.2.1, (h.1.block ht (by omega)).trans h.2.2.1, h.2.2.2⟩)
    (fun cd k O O' W W' h ht hg => ⟨h.1.turns ht hg, (h.1.block ht (by omega)).trans h.2.1, h.2.2⟩)
    ⟨hM0, hb1, by rw [hb2]; simp [leafK, leavesW], fun x hx => by simp at hx, by simp [leafK, leavesW]⟩ ?round ?done ?stop
  case round =>
    rintro l k O ⟨p, x⟩ args W hO hn ⟨hM, hr1, hr2, hok⟩ hx ⟨pv, Ak, ck, rfl, hkv, hpos, hpo⟩
    simp only at hpos hkv
    obtain ⟨a0, cp, rfl⟩ := own_slice hpos
    gi_wp2
    refine ⟨(Below.refl _ _).alloc (Nat.le_refl _) _, fun W2 hT2 hs2 hi2 he2 => ?_⟩
    have hbx : W2.heap[W.heap.size]? = some (.cells (nodeCells x Ak ck) 26 (0, 0)) := (hT2.block _ (by simp) (fun h => Nat.lt_irrefl _ (hO _ h))).trans (alloc_at _ _ _ rfl)
    obtain ⟨d0, d1, d2, d3⟩ := cells_of_block hbx
    obtain ⟨hM2, hq1, hq2, _⟩ := hi2
    have l2 : W2.cell? ⟨w.heap.size + 1 + 1, 0, none⟩ = some (.int .i64 (leafK n k : Nat)) := Lib.cell_of_heap hq2 0
    have f2 : W2.frozen? ⟨w.heap.size + 1 + 1, 0, none⟩ = false := frozen_block hq2
    have hlk := leafK_le n k
    have hw : wrap64 ((leafK n k : Int) + 1) = ((leafK n k + 1 : Nat) : Int) := by unfold sizeN at hC; unfold wrap64; omega
    have hsz2 : W.heap.size < W2.heap.size := by rw [hs2]; simp
    have hB4 : w.heap.size + 4 ≤ W.heap.size := hM.size
    have hne1 : W.heap.size ≠ w.heap.size + 1 + 1 := by omega
    have hne2 : W.heap.size ≠ w.heap.size + 1 := by omega
    by_cases hk1 : x.kind = 1
    · have hnx := leafK_yes hx hk1
      have hM3 := hM2.set (b := w.heap.size + 2) (j := 0) (.int .i64 ((leafK n k : Int) + 1)) (by omega) (by omega)
      have hq13 := (block_other (W := W2) (b := w.heap.size + 1) (b' := w.heap.size + 2) (j := 0) (v := .int .i64 ((leafK n k : Int) + 1)) (by omega)).trans hq1
      have hq23 := set_block (v := .int .i64 ((leafK n k : Int) + 1)) hq2
      have hPart := isPart_any x.kind x.tok.1 x.tok.2 Ak x.kids.length ck _ (hT.below hM3.1.below)
      rw [show partR x.kind (x.tok.1, x.tok.2) x.kids.length = isPartN x from partR_eq x] at hPart
      rw [hk1] at hPart
      have hOs : ∀ b, O b → b < (W2.setCell ⟨w.heap.size + 2, 0, none⟩ (.int .i64 ((leafK n k : Int) + 1))).heap.size := fun b hb => by have h1 := hO b hb; simp [World.setCell]; omega
      have hsq : w.heap.size ≤ (W2.setCell ⟨w.heap.size + 2, 0, none⟩ (.int .i64 ((leafK n k : Int) + 1))).heap.size := hM3.1.below.size
      have HX := Lib.hid (show _ ∧ _ ∧ _ ∧ _ ∧ _ ∧ _ ∧ _ ∧ _ from ⟨hM3, hq13, hq23, hok, hx, hnx, hOs, hsq⟩)
      have HP := Lib.hid hPart
      have HF := Lib.hid (fun h => not_formed hx h)
      have hf1 : (W2.setCell ⟨w.heap.size + 2, 0, none⟩ (.int .i64 ((leafK n k : Int) + 1))).frozen? ⟨w.heap.size + 1, 0, none⟩ = false := by rw [World.frozen?_setCell]; exact frozen_block hq1
      clear hM3 hq13 hq23 hOs hsq hok hx hnx hPart hM2 hq1 hq2 hT2 hs2 he2 hM hr1 hr2 hpos hpo hkv hO hn hB0 hs0 hb1 hb2 hb3 c0 c1 c2 c3 hM0 hlk hC hT hsz2 hB4 hbx
      have hl1 := Lib.cell_of_heap HX.out.2.1 0
      by_cases h1 : 1000 < p.length
      · have hd1 : decide ((1000 : Int) < (p.length : Int)) = true := decide_eq_true (by omega)
        have hnf : formedB n = false := HF.out (.inl h1)
        clear h1
        gi_wp2_with (first | (refine And.intro (show Fence.wide.fn 63 from trivial) ?_))
        exact fail_end HX.out.1.1 HX.out.1.2 HX.out.2.1 (by omega) (by omega) hnf
      have hd1 : decide ((1000 : Int) < (p.length : Int)) = false := decide_eq_false (by omega)
      by_cases h2 : 20000 < leafK n k + 1
      · have hd2 : decide ((20000 : Int) < ((leafK n k : Int) + 1)) = true := decide_eq_true (by omega)
        have hnf : formedB n = false := HF.out (.inr (.inl (by rw [HX.out.2.2.2.2.2.1]; exact h2)))
        clear h1 h2
        gi_wp2_with (first | (refine And.intro (show Fence.wide.fn 63 from trivial) ?_))
        exact fail_end HX.out.1.1 HX.out.1.2 HX.out.2.1 (by omega) (by omega) hnf
      have hd2 : decide ((20000 : Int) < ((leafK n k : Int) + 1)) = false := decide_eq_false (by omega)
      have HN := Lib.hid (And.intro (Nat.le_of_not_lt h1) (Nat.le_of_not_lt h2))
      clear h1 h2
      by_cases hp : isPartN x = true
      · rw [hp] at HP
        have HPt := Lib.hid hp
        clear hp
        gi_wp2_with (first | (gi_at_call 63; refine (CallsIn.inRound l ((callsIn_wide (n := 6)).2 HP.out)).mono ?_; rintro e wp ⟨rfl, hbp⟩) | (refine And.intro (show Fence.wide.fn 63 from trivial) ?_))
        have hMc := HX.out.1.1.call hbp
        have hblk : ∀ b, b < w.heap.size + 4 → wp.heap[b]? = (W2.setCell ⟨w.heap.size + 2, 0, none⟩ (.int .i64 ((leafK n k : Int) + 1))).heap[b]? := fun b hb => hbp.block b (Nat.lt_of_lt_of_le hb HX.out.1.1.size)
        exact ⟨HX.out.1.2.trans (Keep.of_below hbp HX.out.2.2.2.2.2.2.2 HX.out.2.2.2.2.2.2.1), hMc, (hblk _ (by omega)).trans HX.out.2.1, (hblk _ (by omega)).trans (by rw [HX.out.2.2.1, HX.out.2.2.2.2.2.1]; try simp), HX.out.2.2.2.1.next HX.out.2.2.2.2.1 HN.out.1 (by rw [HX.out.2.2.2.2.2.1]; exact HN.out.2) HPt.out⟩
      · rw [show isPartN x = false by simpa using hp] at HP
        have hnf : formedB n = false := HF.out (.inr (.inr (by simpa using hp)))
        have HNF := Lib.hid hnf
        clear hp hnf
        have hff : ∀ wp : World, Below (W2.setCell ⟨w.heap.size + 2, 0, none⟩ (.int .i64 ((leafK n k : Int) + 1))).heap.size (W2.setCell ⟨w.heap.size + 2, 0, none⟩ (.int .i64 ((leafK n k : Int) + 1))) wp → wp.frozen? ⟨w.heap.size + 1, 0, none⟩ = false := fun wp h => frozen_block ((h.block (w.heap.size + 1) (Nat.lt_of_lt_of_le (by omega) HX.out.1.1.size)).trans HX.out.2.1)
        have hcc : ∀ wp : World, Below (W2.setCell ⟨w.heap.size + 2, 0, none⟩ (.int .i64 ((leafK n k : Int) + 1))).heap.size (W2.setCell ⟨w.heap.size + 2, 0, none⟩ (.int .i64 ((leafK n k : Int) + 1))) wp → wp.cell? ⟨w.heap.size + 1, 0, none⟩ = some (.bool false) := fun wp h => Lib.cell_of_heap ((h.block (w.heap.size + 1) (Nat.lt_of_lt_of_le (by omega) HX.out.1.1.size)).trans HX.out.2.1) 0
        have HFF := Lib.hid (And.intro hff hcc)
        clear hff hcc
        gi_wp2_with (first | (gi_at_call 63; refine (CallsIn.inRound l ((callsIn_wide (n := 6)).2 HP.out)).mono ?_; rintro e wp ⟨rfl, hbp⟩; have g1 := HFF.out.1 wp hbp; have g2 := HFF.out.2 wp hbp) | (refine And.intro (show Fence.wide.fn 63 from trivial) ?_))
        have hMc := HX.out.1.1.call hbp
        have hblk : ∀ b, b < w.heap.size + 4 → wp.heap[b]? = (W2.setCell ⟨w.heap.size + 2, 0, none⟩ (.int .i64 ((leafK n k : Int) + 1))).heap[b]? := fun b hb => hbp.block b (Nat.lt_of_lt_of_le hb HX.out.1.1.size)
        exact fail_end hMc (HX.out.1.2.trans (Keep.of_below hbp HX.out.2.2.2.2.2.2.2 HX.out.2.2.2.2.2.2.1)) ((hblk _ (by omega)).trans HX.out.2.1) (by omega) (by omega) HNF.out
    have hk0 : x.kind ≠ 1 := hk1
    · have hnx := leafK_no hx hk1
      have hM3 := And.intro hM2 (Keep.refl w.heap.size O W2)
      have hq13 := hq1
      have hq23 := hq2
      have hPart := isPart_any x.kind x.tok.1 x.tok.2 Ak x.kids.length ck _ (hT.below hM3.1.below)
      rw [show partR x.kind (x.tok.1, x.tok.2) x.kids.length = isPartN x from partR_eq x] at hPart
      have hOs : ∀ b, O b → b < W2.heap.size := fun b hb => by have h1 := hO b hb; simp [World.setCell]; omega
      have hsq : w.heap.size ≤ W2.heap.size := hM3.1.below.size
      have HX := Lib.hid (show _ ∧ _ ∧ _ ∧ _ ∧ _ ∧ _ ∧ _ ∧ _ from ⟨hM3, hq13, hq23, hok, hx, hnx, hOs, hsq⟩)
      have HP := Lib.hid hPart
      have HF := Lib.hid (fun h => not_formed hx h)
      have hf1 : W2.frozen? ⟨w.heap.size + 1, 0, none⟩ = false := frozen_block hq1
      clear hM3 hq13 hq23 hOs hsq hok hx hnx hPart hM2 hq1 hq2 hT2 hs2 he2 hM hr1 hr2 hpos hpo hkv hO hn hB0 hs0 hb1 hb2 hb3 c0 c1 c2 c3 hM0 hlk hC hT hsz2 hB4 hbx
      have hl1 := Lib.cell_of_heap HX.out.2.1 0
      by_cases h1 : 1000 < p.length
      · have hd1 : decide ((1000 : Int) < (p.length : Int)) = true := decide_eq_true (by omega)
        have hnf : formedB n = false := HF.out (.inl h1)
        clear h1
        gi_wp2_with (first | (refine And.intro (show Fence.wide.fn 63 from trivial) ?_))
        exact fail_end HX.out.1.1 HX.out.1.2 HX.out.2.1 (by omega) (by omega) hnf
      have hd1 : decide ((1000 : Int) < (p.length : Int)) = false := decide_eq_false (by omega)
      by_cases h2 : 20000 < leafK n k
      · have hd2 : decide ((20000 : Int) < (leafK n k : Int)) = true := decide_eq_true (by omega)
        have hnf : formedB n = false := HF.out (.inr (.inl (by rw [HX.out.2.2.2.2.2.1]; exact h2)))
        clear h1 h2
        gi_wp2_with (first | (refine And.intro (show Fence.wide.fn 63 from trivial) ?_))
        exact fail_end HX.out.1.1 HX.out.1.2 HX.out.2.1 (by omega) (by omega) hnf
      have hd2 : decide ((20000 : Int) < (leafK n k : Int)) = false := decide_eq_false (by omega)
      have HN := Lib.hid (And.intro (Nat.le_of_not_lt h1) (Nat.le_of_not_lt h2))
      clear h1 h2
      by_cases hp : isPartN x = true
      · rw [hp] at HP
        have HPt := Lib.hid hp
        clear hp
        gi_wp2_with (first | (gi_at_call 63; refine (CallsIn.inRound l ((callsIn_wide (n := 6)).2 HP.out)).mono ?_; rintro e wp ⟨rfl, hbp⟩) | (refine And.intro (show Fence.wide.fn 63 from trivial) ?_))
        have hMc := HX.out.1.1.call hbp
        have hblk : ∀ b, b < w.heap.size + 4 → wp.heap[b]? = W2.heap[b]? := fun b hb => hbp.block b (Nat.lt_of_lt_of_le hb HX.out.1.1.size)
        exact ⟨HX.out.1.2.trans (Keep.of_below hbp HX.out.2.2.2.2.2.2.2 HX.out.2.2.2.2.2.2.1), hMc, (hblk _ (by omega)).trans HX.out.2.1, (hblk _ (by omega)).trans (by rw [HX.out.2.2.1, HX.out.2.2.2.2.2.1]; try simp), HX.out.2.2.2.1.next HX.out.2.2.2.2.1 HN.out.1 (by rw [HX.out.2.2.2.2.2.1]; exact HN.out.2) HPt.out⟩
      · rw [show isPartN x = false by simpa using hp] at HP
        have hnf : formedB n = false := HF.out (.inr (.inr (by simpa using hp)))
        have HNF := Lib.hid hnf
        clear hp hnf
        have hff : ∀ wp : World, Below W2.heap.size W2 wp → wp.frozen? ⟨w.heap.size + 1, 0, none⟩ = false := fun wp h => frozen_block ((h.block (w.heap.size + 1) (Nat.lt_of_lt_of_le (by omega) HX.out.1.1.size)).trans HX.out.2.1)
        have hcc : ∀ wp : World, Below W2.heap.size W2 wp → wp.cell? ⟨w.heap.size + 1, 0, none⟩ = some (.bool false) := fun wp h => Lib.cell_of_heap ((h.block (w.heap.size + 1) (Nat.lt_of_lt_of_le (by omega) HX.out.1.1.size)).trans HX.out.2.1) 0
        have HFF := Lib.hid (And.intro hff hcc)
        clear hff hcc
        gi_wp2_with (first | (gi_at_call 63; refine (CallsIn.inRound l ((callsIn_wide (n := 6)).2 HP.out)).mono ?_; rintro e wp ⟨rfl, hbp⟩; have g1 := HFF.out.1 wp hbp; have g2 := HFF.out.2 wp hbp) | (refine And.intro (show Fence.wide.fn 63 from trivial) ?_))
        have hMc := HX.out.1.1.call hbp
        have hblk : ∀ b, b < w.heap.size + 4 → wp.heap[b]? = W2.heap[b]? := fun b hb => hbp.block b (Nat.lt_of_lt_of_le hb HX.out.1.1.size)
        exact fail_end hMc (HX.out.1.2.trans (Keep.of_below hbp HX.out.2.2.2.2.2.2.2 HX.out.2.2.2.2.2.2.1)) ((hblk _ (by omega)).trans HX.out.2.1) (by omega) (by omega) HNF.out
  case done =>
    rintro D O W hD _ ⟨hM, hq1, hq2, hok⟩ hKD
    have hf := hok.all
    have l1 := Lib.cell_of_heap hq1 0
    have f1 := frozen_block (j := 0) hq1
    have hM1 := hM.set (b := w.heap.size + 1) (j := 0) (.bool true) (by omega) (by omega)
    have hq3 := set_block (v := .bool true) hq1
    have hKD2 : (W.setCell ⟨w.heap.size + 1, 0, none⟩ (.bool true)).heap[D]? = some (.deferred (some [])) := (block_other (by omega)).trans hKD
    have hlt : D < (W.setCell ⟨w.heap.size + 1, 0, none⟩ (.bool true)).heap.size := (Array.getElem?_eq_some_iff.1 hKD2).1
    clear hM hq2 hok
    go_wp2_with fail
    refine ⟨by simp, .inl ⟨_, _, rfl, run_takeDeferred hKD2, ?_⟩⟩
    have hc5 : ((W.setCell ⟨w.heap.size + 1, 0, none⟩ (.bool true)).putObj D (.deferred none)).cell? ⟨w.heap.size + 1, 0, none⟩ = some (.bool true) := Lib.cell_of_heap ((World.putObj_heap_other (by omega)).trans hq3) 0
    exact ⟨.bool true, by simp [results, Tryd.f21, go_sem, hc5], by rw [hf], hM1.1.below.trans ⟨rfl, rfl, rfl, by simp, fun b hb => World.putObj_heap_other (by omega)⟩⟩
  case stop =>
    rintro D O cd k W hD _ hkl ⟨hM, hq1, rfl, hf⟩ hKD
    have l1 := Lib.cell_of_heap hq1 0
    gi_wp2
    refine ⟨by simp, .inl ⟨_, _, rfl, run_takeDeferred hKD, ?_⟩⟩
    have hc5 : (W.putObj D (.deferred none)).cell? ⟨w.heap.size + 1, 0, none⟩ = some (.bool false) := Lib.cell_of_heap ((World.putObj_heap_other (by omega)).trans hq1) 0
    exact ⟨.bool false, by simp [results, Tryd.f21, go_sem, hc5], by rw [hf], hM.below.trans ⟨rfl, rfl, rfl, by simp, fun b hb => World.putObj_heap_other (by omega)⟩⟩
end Go.Proofs.YtpjlgahbbmlngaaDoor
