/-
  Walks of trees: how the iterator's state turns at each of its steps.
-/
import Derived.Test.YtgihkojlpaebiaaDoorTreeFormsp6
namespace Go.Proofs.YtgihkojlpaebiaaDoor
set_option linter.unusedVariables false
set_option linter.unusedSimpArgs false
open Go Go.RowKit

section
variable {w0 : World} {T : Nd} {base : Nat} {J : Nat → (Nat → Prop) → World → Prop} {W : World} {k : Nat} {p q : List Nat} {i : Nat} {x : Nd} {path : List Pn} {pv qv : Value} {more : List Value}

theorem J_append (hJ : AbidesT J) {O O' : Nat → Prop} {W3 W5 : World} {o : Obj} {pv : Value} {g : Nat} (h : J k O W3) (hg : (W3.alloc o).grownBy W5 pv.ownBlock) (hp : ∀ b, pv.ownBlock = some b → O b)
    (hl : pv.ownBlock = some g ∨ g = (W3.alloc o).heap.size) (hO : ∀ b, O' b → O b ∨ b = g) : J k O' W5 :=
  hJ k O O' W3 W5 h ((Turns.alloc _ _ _).trans (Turns.grown hg hp)) (fun b hb => (hO b hb).elim .inl (fun e => hl.elim (fun h' => .inl (hp _ (by rw [e]; exact h'))) (fun h' => .inr (by simp at h'; omega))))

theorem WalkSt.first (hJ : AbidesT J) {w : World} {A : Option Addr} {c : Nat} (h0 : J 0 (fun _ => False) w) (hk : KidsV w0 A T.kids) (hb : base ≤ w.heap.size) :
    WalkSt w0 T base J (w.alloc (.cells (cells4 (T, A, c)).toArray 26)) 0 [] T [(T, A, c)] (.slice none 0 0) (.slice (some ⟨w.heap.size, 0, none⟩) 1 1) := by
  refine ⟨by rw [List.drop_zero, restN, List.append_nil], rfl, rfl, ?_, World.ownsRow_nil _ _ _ _, ?_, ?_⟩
  · intro d y hd
    cases d with
    | zero => obtain rfl := Option.some.inj hd; exact ⟨rfl, hk⟩
    | succ d => simp at hd
  · have := World.ownsRow_lit (base := base) (e := 26) (size := 4) w (cells4 (T, A, c)).toArray 1 hb (by decide) (by simp [cells4])
    simpa [pathCells, cells4] using this
  · exact hJ 0 _ _ w _ h0 (Turns.alloc _ _ _) (fun b hb => by
      rcases hb with hb | hb
      · simp [Value.ownBlock] at hb
      · simp only [Value.ownBlock, Option.some.injEq] at hb; exact .inr (by omega))

theorem WalkSt.elem (h : WalkSt w0 T base J W k p x path pv qv) : (walkN [] T)[k]? = some (p, x) ∧ (walkN [] T).drop (k + 1) = walkK p 0 x.kids ++ restN [] T p := by
  have h1 := h.here
  rw [walkN_eq p x] at h1
  have hlt : k < (walkN [] T).length := by
    rcases Nat.lt_or_ge k (walkN [] T).length with h' | h'
    · exact h'
    · rw [List.drop_eq_nil_of_le h'] at h1; cases h1
  rw [List.drop_eq_getElem_cons hlt] at h1
  simp only [List.cons_append, List.cons.injEq] at h1
  exact ⟨by rw [List.getElem?_eq_getElem hlt, h1.1], h1.2⟩
theorem WalkSt.rows (h : WalkSt w0 T base J W k p x path pv qv) {n₀ : Nat} {W3 : World} (hk : Keep n₀ (fun b => pv.ownBlock = some b ∨ qv.ownBlock = some b) W W3) :
    W3.ownsRow base 3 1 pv p.length (intCells p) ∧ W3.ownsRow base 26 4 qv path.length (pathCells path) :=
  ⟨own_same h.pos (fun g hg => hk.own g (.inl hg)), own_same h.row (fun g hg => hk.own g (.inr hg))⟩
/-- the append of -1 -/
theorem WalkSt.up (h : WalkSt w0 T base J W k p x path pv qv) (hJ : AbidesT J) (hne : 26 ≠ 3) {W3 W5 : World} {o : Obj} {g cap : Nat}
    (hrow : W3.ownsRow base 26 4 qv path.length (pathCells path)) (hpos : W3.ownsRow base 3 1 pv p.length (intCells p)) (hj : J (k + 1) (fun b => pv.ownBlock = some b ∨ qv.ownBlock = some b) W3)
    (hown : W5.ownsRow base 3 1 (.slice (some ⟨g, 0, none⟩) (p.length + 1) cap) (p.length + 1) (intCells p ++ [.int .i64 (-1)])) (hgr : (W3.alloc o).grownBy W5 pv.ownBlock) (hl : pv.ownBlock = some g ∨ g = (W3.alloc o).heap.size) :
    WalkUp w0 T base J W5 (k + 1) p 0 [] x path (.slice (some ⟨g, 0, none⟩) (p.length + 1) cap) qv := by
  refine ⟨by rw [List.drop_zero]; exact h.elem.2, Nat.zero_le _, h.at_, by rw [h.plen]; omega, ?_, ?_, ?_, ?_⟩
  · intro d y hd hy
    exact h.nodes d y hy
  · simpa using hown
  · exact (hrow.alloc o).kept hgr (own_two hrow hpos hne)
  · exact J_append hJ hj hgr (fun b hb => .inl hb) hl (fun b hb => by
      rcases hb with hb | hb
      · simp only [Value.ownBlock, Option.some.injEq] at hb; exact .inr hb.symm
      · exact .inl (.inr hb))
/-- the position cut and its last number raised -/
theorem WalkUp.raise (h : WalkUp w0 T base J W k q i more x path pv qv) (hJ : AbidesT J) (hne : 26 ≠ 3) {g cap : Nat} (hv : pv = .slice (some ⟨g, 0, none⟩) (q.length + 1 + more.length) cap) :
    (W.setCell ⟨g, q.length, none⟩ (.int .i64 i)).ownsRow base 3 1 (.slice (some ⟨g, 0, none⟩) (q.length + 1) cap) (q.length + 1) (intCells (q ++ [i])) ∧
    (W.setCell ⟨g, q.length, none⟩ (.int .i64 i)).ownsRow base 26 4 qv path.length (pathCells path) ∧
    J k (fun b => b = g ∨ qv.ownBlock = some b) (W.setCell ⟨g, q.length, none⟩ (.int .i64 i)) ∧ W.cell? ⟨g, q.length, none⟩ = some (.int .i64 ((i : Int) - 1)) := by
  subst hv
  have hp := own_take h.pos (m := q.length + 1) (by omega)
  rw [Nat.mul_one, List.take_left' (by simp [intCells])] at hp
  obtain ⟨h1, h2⟩ := hp.stored q.length (.int .i64 i)
  refine ⟨?_, h.row.kept h2 (by
    have := own_two h.row h.pos hne
    simpa [Value.ownBlock] using this), ?_, ?_⟩
  · have e : (intCells q ++ [Value.int .i64 ((i : Int) - 1)]).set q.length (.int .i64 i) = intCells (q ++ [i]) := by
      rw [List.set_append_right _ _ (by simp [intCells])]
      simp [intCells]
    rw [e] at h1
    exact h1
  · exact hJ k _ _ W _ h.inv (Turns.grown h2 (fun b e => .inl (by simpa [Value.ownBlock] using e))) (fun b hb => by
      rcases hb with rfl | hb
      · exact .inl (.inl rfl)
      · exact .inl (.inr hb))
  · rw [hp.cellAt q.length (by omega), List.getElem?_append_right (by simp [intCells])]
    simp [intCells]
theorem WalkUp.node (h : WalkUp w0 T base J W k q i more x path pv qv) : ∃ A c g cap, path[q.length]? = some (x, A, c) ∧ KidsV w0 A x.kids ∧ qv = .slice (some ⟨g, 0, none⟩) path.length cap := by
  obtain ⟨⟨y, A, c⟩, hy⟩ : ∃ y, path[q.length]? = some y := ⟨_, List.getElem?_eq_getElem h.plen⟩
  obtain ⟨h1, h2⟩ := h.nodes q.length _ (Nat.le_refl _) hy
  rw [List.take_length, h.at_] at h1
  obtain rfl := Option.some.inj h1
  obtain ⟨g, cap, hv, _⟩ := h.row.form (by have := h.plen; omega)
  exact ⟨A, c, g, cap, hy, h2, hv⟩
/-- a kid is there: the path takes it -/
theorem WalkUp.down (h : WalkUp w0 T base J W k q i more x path pv qv) (hJ : AbidesT J) (hne : 26 ≠ 3) {W4 W5 : World} {o : Obj} {g g' cap cap' : Nat} {kid : Nd} {A : Option Addr} {c gq capq : Nat}
    (hq : qv = .slice (some ⟨gq, 0, none⟩) path.length capq) (hkid : x.kids[i]? = some kid) (hkv : KidsV w0 A kid.kids)
    (hpos : W4.ownsRow base 3 1 (.slice (some ⟨g, 0, none⟩) (q.length + 1) cap) (q.length + 1) (intCells (q ++ [i]))) (hrow : W4.ownsRow base 26 4 qv path.length (pathCells path)) (hj : J k (fun b => b = g ∨ qv.ownBlock = some b) W4)
    (hown : W5.ownsRow base 26 4 (.slice (some ⟨g', 0, none⟩) (q.length + 1 + 1) cap') (q.length + 1 + 1) (pathCells (path.take (q.length + 1)) ++ cells4 (kid, A, c))) (hgr : (W4.alloc o).grownBy W5 (some gq)) (hl : gq = g' ∨ g' = (W4.alloc o).heap.size) :
    WalkSt w0 T base J W5 k (q ++ [i]) kid (path.take (q.length + 1) ++ [(kid, A, c)]) (.slice (some ⟨g, 0, none⟩) (q.length + 1) cap) (.slice (some ⟨g', 0, none⟩) (q.length + 1 + 1) cap') := by
  have hpl := h.plen
  subst hq
  refine ⟨?_, atN_snoc _ _ _ _ _ h.at_ hkid, by simp; omega, ?_, ?_, ?_, ?_⟩
  · rw [h.here, walkK_kid hkid, restN_snoc q [] T x i h.at_, List.nil_append, List.append_assoc]
  · intro d y hy
    rcases Nat.lt_or_ge d (q.length + 1) with hd | hd
    · rw [List.getElem?_append_left (by simp; omega), List.getElem?_take_of_lt hd] at hy
      have := h.nodes d y (by omega) hy
      rw [List.take_append_of_le_length (by omega)]
      exact this
    · have hd' : d = q.length + 1 := by
        have : d < (path.take (q.length + 1) ++ [(kid, A, c)]).length := (List.getElem?_eq_some_iff.1 hy).1
        simp at this; omega
      subst hd'
      rw [List.getElem?_append_right (by simp; omega)] at hy
      simp only [List.length_take, Nat.min_eq_left (show q.length + 1 ≤ path.length by omega), Nat.sub_self, List.getElem?_cons_zero, Option.some.injEq] at hy
      subst hy
      rw [List.take_of_length_le (by simp)]
      exact ⟨atN_snoc _ _ _ _ _ h.at_ hkid, hkv⟩
  · simp only [List.length_append, List.length_cons, List.length_nil, Nat.zero_add]
    refine (hpos.alloc o).kept hgr ?_
    have := own_two hpos hrow (Ne.symm hne)
    simpa [Value.ownBlock] using this
  · have e : (path.take (q.length + 1) ++ [(kid, A, c)]).length = q.length + 1 + 1 := by simp; omega
    rw [e, pathCells_append]
    simpa [pathCells] using hown
  · exact J_append (pv := .slice (some ⟨gq, 0, none⟩) path.length capq) hJ hj hgr (fun b hb => .inr hb) (hl.imp (fun e => by rw [e]; rfl) id) (fun b hb => by
      rcases hb with hb | hb
      · simp only [Value.ownBlock, Option.some.injEq] at hb; exact .inl (.inl hb.symm)
      · simp only [Value.ownBlock, Option.some.injEq] at hb; exact .inr hb.symm)
/-- no kid is there: one up -/
theorem WalkUp.back {W4 : World} {g cap : Nat} (h : WalkUp w0 T base J W k q i more x path pv qv) (hno : x.kids.length ≤ i)
    (hpos : W4.ownsRow base 3 1 (.slice (some ⟨g, 0, none⟩) (q.length + 1) cap) (q.length + 1) (intCells (q ++ [i]))) (hrow : W4.ownsRow base 26 4 qv path.length (pathCells path)) (hj : J k (fun b => b = g ∨ qv.ownBlock = some b) W4) :
    (q = [] ∧ (walkN [] T).drop k = []) ∨ ∃ q' j x', q = q' ++ [j] ∧ WalkUp w0 T base J W4 k q' (j + 1) [.int .i64 i] x' path (.slice (some ⟨g, 0, none⟩) (q.length + 1) cap) qv := by
  have hh := h.here
  rw [walkK_end hno, List.nil_append] at hh
  rcases List.eq_nil_or_concat q with rfl | ⟨q', j, rfl⟩
  · exact .inl ⟨rfl, by rw [hh, restN]⟩
  · right
    rw [List.concat_eq_append] at *
    have hpl := h.plen
    simp only [List.length_append, List.length_cons, List.length_nil, Nat.zero_add] at hpl
    obtain ⟨⟨y, A, c⟩, hy⟩ : ∃ y, path[q'.length]? = some y := ⟨_, List.getElem?_eq_getElem (by omega)⟩
    obtain ⟨h1, h2⟩ := h.nodes q'.length _ (by simp) hy
    rw [List.take_append_of_le_length (Nat.le_refl _), List.take_length] at h1
    refine ⟨q', j, y, rfl, ?_, (List.getElem?_eq_some_iff.1 (atN_last _ _ _ _ _ h.at_ h1)).1, h1, by omega, ?_, ?_, hrow, ?_⟩
    · rw [hh, restN_snoc q' [] T y j h1, List.nil_append]
    · intro d z hd hz
      have := h.nodes d z (by simp; omega) hz
      rwa [List.take_append_of_le_length hd] at this
    · have e : intCells (q' ++ [j] ++ [i]) = intCells q' ++ [Value.int .i64 ((j + 1 : Nat) - 1 : Int)] ++ [.int .i64 i] := by
        simp [intCells]
      rw [e] at hpos
      simpa using hpos
    · simpa [Value.ownBlock, eq_comm] using hj
end
end Go.Proofs.YtgihkojlpaebiaaDoor
