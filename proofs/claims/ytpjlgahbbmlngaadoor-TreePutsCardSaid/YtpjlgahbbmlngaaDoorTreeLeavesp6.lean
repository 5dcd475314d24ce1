/-
  Walks of trees: what is read off the list of all nodes.; Walks of trees: what the iterator keeps in memory (its position, its path), and what a round is handed.; Walks of trees: how the iterator's state turns at each of its steps.
-/
import Derived.Test.YtpjlgahbbmlngaaDoorTreeLeavesp5
import Derived.Test.YtpjlgahbbmlngaaDoorTreeLeavesp1
import Derived.Deep.AppendLies
namespace Go.Proofs.YtpjlgahbbmlngaaDoor
set_option linter.unusedVariables false
set_option linter.unusedSimpArgs false

/-- the leaves' tokens of a list of nodes with positions -/
def leafOf (x : List Nat × Nd) : List Tok := if x.2.kind = 1 then [x.2.tok] else []
def leavesW (l : List (List Nat × Nd)) : List Tok := l.flatMap leafOf
theorem leavesW_append (a b : List (List Nat × Nd)) : leavesW (a ++ b) = leavesW a ++ leavesW b := by simp [leavesW]
mutual
theorem leavesW_walkN (pos : List Nat) : ∀ n : Nd, leavesW (walkN pos n) = leavesN n
  | .mk k t l => by
    have h := leavesW_walkK pos 0 l
    simp only [walkN, leavesN]
    rw [show (pos, Nd.mk k t l) :: walkK pos 0 l = [(pos, Nd.mk k t l)] ++ walkK pos 0 l from rfl, leavesW_append, h]
    by_cases hk : k = 1 <;> simp [leavesW, leafOf, Nd.kind, Nd.tok, hk]
theorem leavesW_walkK (pos : List Nat) (i : Nat) : ∀ l : List Nd, leavesW (walkK pos i l) = leavesL l
  | [] => rfl
  | n :: l => by rw [walkK, leavesL, leavesW_append, leavesW_walkN _ n, leavesW_walkK pos (i + 1) l]
end
mutual
theorem parts_walkN (pos : List Nat) : ∀ n : Nd, (walkN pos n).all (fun x => isPartN x.2) = partsN n
  | .mk k t l => by
    have h := parts_walkK pos 0 l
    simp only [walkN, partsN, List.all_cons, h]
theorem parts_walkK (pos : List Nat) (i : Nat) : ∀ l : List Nd, (walkK pos i l).all (fun x => isPartN x.2) = partsL l
  | [] => rfl
  | n :: l => by rw [walkK, partsL, List.all_append, parts_walkN _ n, parts_walkK pos (i + 1) l]
end
/-- how long the longest position is -/
def longW : List (List Nat × Nd) → Nat
  | [] => 0
  | x :: l => max x.1.length (longW l)
theorem longW_append : ∀ a b : List (List Nat × Nd), longW (a ++ b) = max (longW a) (longW b)
  | [], b => by simp [longW]
  | x :: a, b => by simp only [List.cons_append, longW, longW_append a b]; omega
mutual
theorem longW_walkN (pos : List Nat) : ∀ n : Nd, longW (walkN pos n) = pos.length + deepN n
  | .mk k t l => by
    have h := longW_walkK pos 0 l
    simp only [walkN, longW, deepN, h]
    cases l with
    | nil => simp [deepL]
    | cons x l => simp [deepL]
theorem longW_walkK (pos : List Nat) (i : Nat) : ∀ l : List Nd, longW (walkK pos i l) = (if l.isEmpty then 0 else pos.length + deepL l)
  | [] => rfl
  | n :: l => by
    have h1 := longW_walkN (pos ++ [i]) n
    have h2 := longW_walkK pos (i + 1) l
    rw [walkK, longW_append, h1, h2]
    cases l with
    | nil => simp [deepL]; omega
    | cons x l => simp [deepL]; omega
end
theorem longW_mem {l : List (List Nat × Nd)} {x : List Nat × Nd} (h : x ∈ l) : x.1.length ≤ longW l := by
  induction l with
  | nil => cases h
  | cons y l ih =>
    simp only [longW]
    rcases List.mem_cons.1 h with rfl | h
    · omega
    · have := ih h; omega
theorem longW_all {d : Nat} : ∀ {l : List (List Nat × Nd)}, (∀ x ∈ l, x.1.length ≤ d) → longW l ≤ d
  | [], _ => Nat.zero_le _
  | x :: l, h => by
    have h1 := h x (List.mem_cons_self ..)
    have h2 := longW_all (l := l) (fun y hy => h y (List.mem_cons_of_mem _ hy))
    simp only [longW]; omega
/-- what IsFormed asks of the first k nodes -/
def okW (l : List (List Nat × Nd)) : Prop := ∀ x ∈ l, x.1.length ≤ 1000 ∧ isPartN x.2 = true
theorem formedB_of {n : Nd} (h : okW (walkN [] n)) (hl : (leavesW (walkN [] n)).length ≤ 20000) : formedB n = true := by
  have h1 : partsN n = true := by
    rw [← parts_walkN [] n, List.all_eq_true]
    exact fun x hx => (h x hx).2
  have h2 : deepN n ≤ 1000 := by
    have := longW_walkN [] n
    have h3 := longW_all (fun x hx => (h x hx).1)
    simp only [List.length_nil, Nat.zero_add] at this
    omega
  rw [leavesW_walkN] at hl
  simp [formedB, h1, h2, hl]
theorem not_formedB {n : Nd} {pre : List (List Nat × Nd)} {x : List Nat × Nd} {post : List (List Nat × Nd)} (he : walkN [] n = pre ++ x :: post)
    (h : 1000 < x.1.length ∨ 20000 < (leavesW (pre ++ [x])).length ∨ isPartN x.2 = false) : formedB n = false := by
  cases hf : formedB n with
  | false => rfl
  | true =>
    simp only [formedB, Bool.and_eq_true, decide_eq_true_eq] at hf
    obtain ⟨⟨h1, h2⟩, h3⟩ := hf
    have hx : x ∈ walkN [] n := by rw [he]; simp
    exfalso
    rcases h with h | h | h
    · have := longW_mem hx
      rw [longW_walkN] at this
      simp at this
      omega
    · rw [← leavesW_walkN [] n, he, show pre ++ x :: post = (pre ++ [x]) ++ post by simp, leavesW_append, List.length_append] at h3
      omega
    · rw [← parts_walkN [] n, List.all_eq_true] at h1
      have := h1 x hx
      simp only [h] at this
      cases this
end Go.Proofs.YtpjlgahbbmlngaaDoor

namespace Go.Proofs.YtpjlgahbbmlngaaDoor
set_option linter.unusedVariables false
set_option linter.unusedSimpArgs false
open Go Go.RowKit

abbrev Pn := Nd × Option Addr × Nat
def cells4 (y : Pn) : List Value := [.int .i64 y.1.kind, .int .i64 y.1.tok.1, .string y.1.tok.2, .slice y.2.1 y.1.kids.length y.2.2]
def pathCells (l : List Pn) : List Value := l.flatMap cells4
def intCells (l : List Nat) : List Value := l.map fun (i : Nat) => .int .i64 (i : Int)
theorem pathCells_length (l : List Pn) : (pathCells l).length = l.length * 4 := by
  induction l with
  | nil => rfl
  | cons y l ih => simp only [pathCells, List.flatMap_cons, List.length_append] at *; simp [cells4, ih]; omega
theorem pathCells_append (a b : List Pn) : pathCells (a ++ b) = pathCells a ++ pathCells b := by simp [pathCells]
theorem pathCells_get : ∀ (l : List Pn) (d : Nat) (y : Pn), l[d]? = some y → (pathCells l)[d * 4]? = some (.int .i64 y.1.kind) ∧ (pathCells l)[d * 4 + 1]? = some (.int .i64 y.1.tok.1) ∧ (pathCells l)[d * 4 + 2]? = some (.string y.1.tok.2) ∧ (pathCells l)[d * 4 + 3]? = some (.slice y.2.1 y.1.kids.length y.2.2)
  | [], _, _, h => by simp at h
  | x :: l, 0, y, h => by
    obtain rfl := Option.some.inj h
    simp [pathCells, cells4]
  | x :: l, d + 1, y, h => by
    have := pathCells_get l d y (by simpa using h)
    simp only [pathCells, List.flatMap_cons, cells4] at this ⊢
    rw [show (d + 1) * 4 = d * 4 + 4 by omega, show d * 4 + 4 + 1 = (d * 4 + 1) + 4 by omega, show d * 4 + 4 + 2 = (d * 4 + 2) + 4 by omega, show d * 4 + 4 + 3 = (d * 4 + 3) + 4 by omega]
    simpa using this
theorem pathCells_take (l : List Pn) (d : Nat) : (pathCells l).take (d * 4) = pathCells (l.take d) := by
  induction l generalizing d with
  | nil => simp [pathCells]
  | cons y l ih =>
    cases d with
    | zero => simp [pathCells]
    | succ d =>
      have := ih d
      simp only [pathCells, List.flatMap_cons, List.take_succ_cons] at this ⊢
      rw [← this, show (d + 1) * 4 = d * 4 + 4 by omega]
      simp [cells4]
theorem pathCells_one (l : List Pn) : ∀ u ∈ pathCells l, u.oneCell' = true := by
  intro u hu
  simp only [pathCells, List.mem_flatMap] at hu
  obtain ⟨y, _, hy⟩ := hu
  simp only [cells4, List.mem_cons, List.not_mem_nil, or_false] at hy
  rcases hy with rfl | rfl | rfl | rfl <;> rfl
theorem intCells_one (l : List Nat) : ∀ u ∈ intCells l, u.oneCell' = true := by
  intro u hu
  simp only [intCells, List.mem_map] at hu
  obtain ⟨i, _, rfl⟩ := hu
  rfl
theorem intCells_length (l : List Nat) : (intCells l).length = l.length := by simp [intCells]

/-- a row that nobody has turned -/
theorem own_same {w w' : World} {base e size n : Nat} {v : Value} {xs : List Value} (h : w.ownsRow base e size v n xs) (hs : ∀ g, v.ownBlock = some g → w'.heap[g]? = w.heap[g]?) : w'.ownsRow base e size v n xs := by
  refine ⟨h.1, ?_⟩
  rcases h.2 with hn | ⟨g, cap, cur, rfl, hb, hg, rest⟩
  · exact .inl hn
  · exact .inr ⟨g, cap, cur, rfl, hb, (hs g rfl).trans hg, rest⟩
/-- a row's first part, as a slice expression gives it -/
theorem own_take {w : World} {base e size n m g cap : Nat} {xs : List Value} (h : w.ownsRow base e size (.slice (some ⟨g, 0, none⟩) n cap) n xs) (hm : m ≤ n) : w.ownsRow base e size (.slice (some ⟨g, 0, none⟩) m cap) m (xs.take (m * size)) := by
  have hmn : m * size ≤ n * size := Nat.mul_le_mul_right _ hm
  refine ⟨by rw [List.length_take, h.1]; omega, ?_⟩
  rcases h.2 with ⟨hn, _⟩ | ⟨g', cap', cur, hv, hb, hg, h1, h2, h3, h4⟩
  · cases hn
  · simp only [Value.slice.injEq, Option.some.injEq, Addr.mk.injEq, and_true, true_and] at hv
    obtain ⟨rfl, rfl⟩ := hv
    exact .inr ⟨g, cap, cur, rfl, hb, hg, Nat.le_trans hm h1, h2, h3, by rw [← h4, List.take_take, Nat.min_eq_left hmn]⟩
theorem own_cap {w : World} {base e size n g cap : Nat} {xs : List Value} (h : w.ownsRow base e size (.slice (some ⟨g, 0, none⟩) n cap) n xs) : n ≤ cap := by
  rcases h.2 with ⟨hn, _⟩ | ⟨g', cap', cur, hv, hb, hg, h1, h2, h3, h4⟩
  · cases hn
  · simp only [Value.slice.injEq, Option.some.injEq, Addr.mk.injEq, and_true, true_and] at hv
    obtain ⟨rfl, rfl⟩ := hv
    exact h1
/-- rows of different types are different blocks -/
theorem own_two {w : World} {b1 b2 e1 e2 s1 s2 n1 n2 : Nat} {v1 v2 : Value} {x1 x2 : List Value} (h1 : w.ownsRow b1 e1 s1 v1 n1 x1) (h2 : w.ownsRow b2 e2 s2 v2 n2 x2) (hne : e1 ≠ e2) : v1.ownBlock = none ∨ v1.ownBlock ≠ v2.ownBlock := by
  rcases h1.2 with ⟨rfl, _⟩ | ⟨g, cap, cur, rfl, _, hg, _⟩
  · exact .inl rfl
  · right
    rcases h2.2 with ⟨rfl, _⟩ | ⟨g', cap', cur', rfl, _, hg', _⟩
    · simp [Value.ownBlock]
    · intro e
      simp only [Value.ownBlock, Option.some.injEq] at e
      subst e
      rw [hg] at hg'
      cases hg'
      exact hne rfl

/-- what a round of a walk is handed -/
def EnW (w0 : World) (O : Nat → Prop) (x : List Nat × Nd) (W : World) (args : Array Value) : Prop :=
  ∃ pv A c, args = #[pv, .agg #[.int .i64 x.2.kind, .int .i64 x.2.tok.1, .string x.2.tok.2, .slice A x.2.kids.length c]] ∧ KidsV w0 A x.2.kids ∧ W.ownsRow 0 3 1 pv x.1.length (intCells x.1) ∧ ∀ g, pv.ownBlock = some g → O g
theorem EnW.keep {w0 : World} {n₀ : Nat} (O O' : Nat → Prop) (x : List Nat × Nd) (W W' : World) (args : Array Value) (h : EnW w0 O x W args) (ho : ∀ k, O k → O' k) (hs : ∀ k, O k → W'.heap[k]? = W.heap[k]?) (_ : Below n₀ W W') : EnW w0 O' x W' args := by
  obtain ⟨pv, A, c, rfl, hk, hr, hb⟩ := h
  exact ⟨pv, A, c, rfl, hk, own_same hr (fun g hg => hs g (hb g hg)), fun g hg => ho g (hb g hg)⟩
theorem EnW.size {w0 : World} (O : Nat → Prop) (x : List Nat × Nd) (W : World) (args : Array Value) (h : EnW w0 O x W args) : args.size = 2 := by
  obtain ⟨pv, A, c, rfl, _⟩ := h
  rfl

/-- the iterator's state ahead of a round: at position p, the node x; k nodes have come -/
structure WalkSt (w0 : World) (T : Nd) (base : Nat) (J : Nat → (Nat → Prop) → World → Prop) (W : World) (k : Nat) (p : List Nat) (x : Nd) (path : List Pn) (pv qv : Value) : Prop where
  here : (walkN [] T).drop k = walkN p x ++ restN [] T p
  at_ : atN T p = some x
  plen : path.length = p.length + 1
  nodes : ∀ d y, path[d]? = some y → atN T (p.take d) = some y.1 ∧ KidsV w0 y.2.1 y.1.kids
  pos : W.ownsRow base 3 1 pv p.length (intCells p)
  row : W.ownsRow base 26 4 qv path.length (pathCells path)
  inv : J k (fun b => pv.ownBlock = some b ∨ qv.ownBlock = some b) W
/-- .. in the inner loop: the kids of the node at q from i on are to come -/
structure WalkUp (w0 : World) (T : Nd) (base : Nat) (J : Nat → (Nat → Prop) → World → Prop) (W : World) (k : Nat) (q : List Nat) (i : Nat) (more : List Value) (x : Nd) (path : List Pn) (pv qv : Value) : Prop where
  here : (walkN [] T).drop k = walkK q i (x.kids.drop i) ++ restN [] T q
  ile : i ≤ x.kids.length
  at_ : atN T q = some x
  plen : q.length < path.length
  nodes : ∀ d y, d ≤ q.length → path[d]? = some y → atN T (q.take d) = some y.1 ∧ KidsV w0 y.2.1 y.1.kids
  pos : W.ownsRow base 3 1 pv (q.length + 1 + more.length) (intCells q ++ [.int .i64 ((i : Int) - 1)] ++ more)
  row : W.ownsRow base 26 4 qv path.length (pathCells path)
  inv : J k (fun b => pv.ownBlock = some b ∨ qv.ownBlock = some b) W
end Go.Proofs.YtpjlgahbbmlngaaDoor

namespace Go.Proofs.YtpjlgahbbmlngaaDoor
set_option linter.unusedVariables false
set_option linter.unusedSimpArgs false
open Go Go.RowKit

section
variable {w0 : World} {T : Nd} {base : Nat} {J : Nat → (Nat → Prop) → World → Prop} {W : World} {k : Nat} {p q : List Nat} {i : Nat} {x : Nd} {path : List Pn} {pv qv : Value} {more : List Value}

theorem J_append (hJ : AbidesT J) {O O' : Nat → Prop} {W3 W5 : World} {o : Obj} {pv : Value} {g : Nat} (h : J k O W3) (hg : (W3.alloc o).grownBy W5 pv.ownBlock) (hp : ∀ b, pv.ownBlock = some b → O b)
    (hl : pv.ownBlock = some g ∨ g = (W3.alloc o).heap.size) (hO : ∀ b, O' b → O b ∨ b = g) : J k O' W5 :=
  hJ k O O' W3 W5 h ((Turns.alloc _ _ _).trans (Turns.grown hg hp)) (fun b hb => (hO b hb).elim .inl (fun e => hl.elim (fun h' => .inl (hp _ (by rw [e]; exact h'))) (fun h' => .inr (by simp at h'; omega))))

theorem WalkSt.first (hJ : AbidesT J) {w : World} {A : Option Addr} {c : Nat} (h0 : J 0 (fun _ => False) w) (hk : KidsV w0 A T.kids) (hb : base ≤ w.heap.size) :
    WalkSt w0 T base J (w.alloc (.cells (cells4 (T, A, c)).toArray 26)) 0 [] T [(T, A, c)] (.slice none 0 0) (.slice (some ⟨w.heap.size, 0, none⟩) 1 1) := by
  refine ⟨by rw [List.drop_zero, restN, List.append_nil], rfl, rfl, ?_, World.ownsRow_nil _ _ _ _, ?_, ?_⟩
  · intro d y hd
    cases d with
    | zero => obtain rfl := Option.some.inj hd; exact ⟨rfl, hk⟩
    | succ d => simp at hd
  · have := World.ownsRow_lit (base := base) (e := 26) (size := 4) w (cells4 (T, A, c)).toArray 1 hb (by decide) (by simp [cells4])
    simpa [pathCells, cells4] using this
  · exact hJ 0 _ _ w _ h0 (Turns.alloc _ _ _) (fun b hb => by
      rcases hb with hb | hb
      · simp [Value.ownBlock] at hb
      · simp only [Value.ownBlock, Option.some.injEq] at hb; exact .inr (by omega))

theorem WalkSt.elem (h : WalkSt w0 T base J W k p x path pv qv) : (walkN [] T)[k]? = some (p, x) ∧ (walkN [] T).drop (k + 1) = walkK p 0 x.kids ++ restN [] T p := by
  have h1 := h.here
  rw [walkN_eq p x] at h1
  have hlt : k < (walkN [] T).length := by
    rcases Nat.lt_or_ge k (walkN [] T).length with h' | h'
    · exact h'
    · rw [List.drop_eq_nil_of_le h'] at h1; cases h1
  rw [List.drop_eq_getElem_cons hlt] at h1
  simp only [List.cons_append, List.cons.injEq] at h1
  exact ⟨by rw [List.getElem?_eq_getElem hlt, h1.1], h1.2⟩
theorem WalkSt.rows (h : WalkSt w0 T base J W k p x path pv qv) {n₀ : Nat} {W3 : World} (hk : Keep n₀ (fun b => pv.ownBlock = some b ∨ qv.ownBlock = some b) W W3) :
    W3.ownsRow base 3 1 pv p.length (intCells p) ∧ W3.ownsRow base 26 4 qv path.length (pathCells path) :=
  ⟨own_same h.pos (fun g hg => hk.own g (.inl hg)), own_same h.row (fun g hg => hk.own g (.inr hg))⟩
/-- the append of -1 -/
theorem WalkSt.up (h : WalkSt w0 T base J W k p x path pv qv) (hJ : AbidesT J) (hne : 26 ≠ 3) {W3 W5 : World} {o : Obj} {g cap : Nat}
    (hrow : W3.ownsRow base 26 4 qv path.length (pathCells path)) (hpos : W3.ownsRow base 3 1 pv p.length (intCells p)) (hj : J (k + 1) (fun b => pv.ownBlock = some b ∨ qv.ownBlock = some b) W3)
    (hown : W5.ownsRow base 3 1 (.slice (some ⟨g, 0, none⟩) (p.length + 1) cap) (p.length + 1) (intCells p ++ [.int .i64 (-1)])) (hgr : (W3.alloc o).grownBy W5 pv.ownBlock) (hl : pv.ownBlock = some g ∨ g = (W3.alloc o).heap.size) :
    WalkUp w0 T base J W5 (k + 1) p 0 [] x path (.slice (some ⟨g, 0, none⟩) (p.length + 1) cap) qv := by
  refine ⟨by rw [List.drop_zero]; exact h.elem.2, Nat.zero_le _, h.at_, by rw [h.plen]; omega, ?_, ?_, ?_, ?_⟩
  · intro d y hd hy
    exact h.nodes d y hy
  · simpa using hown
  · exact (hrow.alloc o).kept hgr (own_two hrow hpos hne)
  · exact J_append hJ hj hgr (fun b hb => .inl hb) hl (fun b hb => by
      rcases hb with hb | hb
      · simp only [Value.ownBlock, Option.some.injEq] at hb; exact .inr hb.symm
      · exact .inl (.inr hb))
/-- the position cut and its last number raised -/
theorem WalkUp.raise (h : WalkUp w0 T base J W k q i more x path pv qv) (hJ : AbidesT J) (hne : 26 ≠ 3) {g cap : Nat} (hv : pv = .slice (some ⟨g, 0, none⟩) (q.length + 1 + more.length) cap) :
    (W.setCell ⟨g, q.length, none⟩ (.int .i64 i)).ownsRow base 3 1 (.slice (some ⟨g, 0, none⟩) (q.length + 1) cap) (q.length + 1) (intCells (q ++ [i])) ∧
    (W.setCell ⟨g, q.length, none⟩ (.int .i64 i)).ownsRow base 26 4 qv path.length (pathCells path) ∧
    J k (fun b => b = g ∨ qv.ownBlock = some b) (W.setCell ⟨g, q.length, none⟩ (.int .i64 i)) ∧ W.cell? ⟨g, q.length, none⟩ = some (.int .i64 ((i : Int) - 1)) := by
  subst hv
  have hp := own_take h.pos (m := q.length + 1) (by omega)
  rw [Nat.mul_one, List.take_left' (by simp [intCells])] at hp
  obtain ⟨h1, h2⟩ := hp.stored q.length (.int .i64 i)
  refine ⟨?_, h.row.kept h2 (by
    have := own_two h.row h.pos hne
    simpa [Value.ownBlock] using this), ?_, ?_⟩
  · have e : (intCells q ++ [Value.int .i64 ((i : Int) - 1)]).set q.length (.int .i64 i) = intCells (q ++ [i]) := by
      rw [List.set_append_right _ _ (by simp [intCells])]
      simp [intCells]
    rw [e] at h1
    exact h1
  · exact hJ k _ _ W _ h.inv (Turns.grown h2 (fun b e => .inl (by simpa [Value.ownBlock] using e))) (fun b hb => by
      rcases hb with rfl | hb
      · exact .inl (.inl rfl)
      · exact .inl (.inr hb))
  · rw [hp.cellAt q.length (by omega), List.getElem?_append_right (by simp [intCells])]
    simp [intCells]
theorem WalkUp.node (h : WalkUp w0 T base J W k q i more x path pv qv) : ∃ A c g cap, path[q.length]? = some (x, A, c) ∧ KidsV w0 A x.kids ∧ qv = .slice (some ⟨g, 0, none⟩) path.length cap := by
  obtain ⟨⟨y, A, c⟩, hy⟩ : ∃ y, path[q.length]? = some y := ⟨_, List.getElem?_eq_getElem h.plen⟩
  obtain ⟨h1, h2⟩ := h.nodes q.length _ (Nat.le_refl _) hy
  rw [List.take_length, h.at_] at h1
  obtain rfl := Option.some.inj h1
  obtain ⟨g, cap, hv, _⟩ := h.row.form (by have := h.plen; omega)
  exact ⟨A, c, g, cap, hy, h2, hv⟩
/-- a kid is there: the path takes it -/
theorem WalkUp.down (h : WalkUp w0 T base J W k q i more x path pv qv) (hJ : AbidesT J) (hne : 26 ≠ 3) {W4 W5 : World} {o : Obj} {g g' cap cap' : Nat} {kid : Nd} {A : Option Addr} {c gq capq : Nat}
    (hq : qv = .slice (some ⟨gq, 0, none⟩) path.length capq) (hkid : x.kids[i]? = some kid) (hkv : KidsV w0 A kid.kids)
    (hpos : W4.ownsRow base 3 1 (.slice (some ⟨g, 0, none⟩) (q.length + 1) cap) (q.length + 1) (intCells (q ++ [i]))) (hrow : W4.ownsRow base 26 4 qv path.length (pathCells path)) (hj : J k (fun b => b = g ∨ qv.ownBlock = some b) W4)
    (hown : W5.ownsRow base 26 4 (.slice (some ⟨g', 0, none⟩) (q.length + 1 + 1) cap') (q.length + 1 + 1) (pathCells (path.take (q.length + 1)) ++ cells4 (kid, A, c))) (hgr : (W4.alloc o).grownBy W5 (some gq)) (hl : gq = g' ∨ g' = (W4.alloc o).heap.size) :
    WalkSt w0 T base J W5 k (q ++ [i]) kid (path.take (q.length + 1) ++ [(kid, A, c)]) (.slice (some ⟨g, 0, none⟩) (q.length + 1) cap) (.slice (some ⟨g', 0, none⟩) (q.length + 1 + 1) cap') := by
  have hpl := h.plen
  subst hq
  refine ⟨?_, atN_snoc _ _ _ _ _ h.at_ hkid, by simp; omega, ?_, ?_, ?_, ?_⟩
  · rw [h.here, walkK_kid hkid, restN_snoc q [] T x i h.at_, List.nil_append, List.append_assoc]
  · intro d y hy
    rcases Nat.lt_or_ge d (q.length + 1) with hd | hd
    · rw [List.getElem?_append_left (by simp; omega), List.getElem?_take_of_lt hd] at hy
      have := h.nodes d y (by omega) hy
      rw [List.take_append_of_le_length (by omega)]
      exact this
    · have hd' : d = q.length + 1 := by
        have : d < (path.take (q.length + 1) ++ [(kid, A, c)]).length := (List.getElem?_eq_some_iff.1 hy).1
        simp at this; omega
      subst hd'
      rw [List.getElem?_append_right (by simp; omega)] at hy
      simp only [List.length_take, Nat.min_eq_left (show q.length + 1 ≤ path.length by omega), Nat.sub_self, List.getElem?_cons_zero, Option.some.injEq] at hy
      subst hy
      rw [List.take_of_length_le (by simp)]
      exact ⟨atN_snoc _ _ _ _ _ h.at_ hkid, hkv⟩
  · simp only [List.length_append, List.length_cons, List.length_nil, Nat.zero_add]
    refine (hpos.alloc o).kept hgr ?_
    have := own_two hpos hrow (Ne.symm hne)
    simpa [Value.ownBlock] using this
  · have e : (path.take (q.length + 1) ++ [(kid, A, c)]).length = q.length + 1 + 1 := by simp; omega
    rw [e, pathCells_append]
    simpa [pathCells] using hown
  · exact J_append (pv := .slice (some ⟨gq, 0, none⟩) path.length capq) hJ hj hgr (fun b hb => .inr hb) (hl.imp (fun e => by rw [e]; rfl) id) (fun b hb => by
      rcases hb with hb | hb
      · simp only [Value.ownBlock, Option.some.injEq] at hb; exact .inl (.inl hb.symm)
      · simp only [Value.ownBlock, Option.some.injEq] at hb; exact .inr hb.symm)
/-- no kid is there: one up -/
theorem WalkUp.back {W4 : World} {g cap : Nat} (h : WalkUp w0 T base J W k q i more x path pv qv) (hno : x.kids.length ≤ i)
    (hpos : W4.ownsRow base 3 1 (.slice (some ⟨g, 0, none⟩) (q.length + 1) cap) (q.length + 1) (intCells (q ++ [i]))) (hrow : W4.ownsRow base 26 4 qv path.length (pathCells path)) (hj : J k (fun b => b = g ∨ qv.ownBlock = some b) W4) :
    (q = [] ∧ (walkN [] T).drop k = []) ∨ ∃ q' j x', q = q' ++ [j] ∧ WalkUp w0 T base J W4 k q' (j + 1) [.int .i64 i] x' path (.slice (some ⟨g, 0, none⟩) (q.length + 1) cap) qv := by
  have hh := h.here
  rw [walkK_end hno, List.nil_append] at hh
  rcases List.eq_nil_or_concat q with rfl | ⟨q', j, rfl⟩
  · exact .inl ⟨rfl, by rw [hh, restN]⟩
  · right
    rw [List.concat_eq_append] at *
    have hpl := h.plen
    simp only [List.length_append, List.length_cons, List.length_nil, Nat.zero_add] at hpl
    obtain ⟨⟨y, A, c⟩, hy⟩ : ∃ y, path[q'.length]? = some y := ⟨_, List.getElem?_eq_getElem (by omega)⟩
    obtain ⟨h1, h2⟩ := h.nodes q'.length _ (by simp) hy
    rw [List.take_append_of_le_length (Nat.le_refl _), List.take_length] at h1
    refine ⟨q', j, y, rfl, ?_, (List.getElem?_eq_some_iff.1 (atN_last _ _ _ _ _ h.at_ h1)).1, h1, by omega, ?_, ?_, hrow, ?_⟩
    · rw [hh, restN_snoc q' [] T y j h1, List.nil_append]
    · intro d z hd hz
      have := h.nodes d z (by simp; omega) hz
      rwa [List.take_append_of_le_length hd] at this
    · have e : intCells (q' ++ [j] ++ [i]) = intCells q' ++ [Value.int .i64 ((j + 1 : Nat) - 1 : Int)] ++ [.int .i64 i] := by
        simp [intCells]
      rw [e] at hpos
      simpa using hpos
    · simpa [Value.ownBlock, eq_comm] using hj
end
end Go.Proofs.YtpjlgahbbmlngaaDoor
