/-
  Trees: nodes as a plain type, what is read off them, and nodes that lie in memory.; Walks of trees: all nodes with their positions, in the positions' order; what comes behind a position.; Walks of trees: what is read off the list of all nodes.; Walks of trees: what the iterator keeps in memory (its position, its path), and what a round is handed.
-/
import Derived.Test.YtgihkojlpaebiaaDoorTreeFormsp5
import Derived.Test.YtgihkojlpaebiaaDoorTreeFormsp1
import Derived.Deep.AppendLies
namespace Go.Proofs.YtgihkojlpaebiaaDoor
set_option linter.unusedVariables false
set_option linter.unusedSimpArgs false
open Go.RowKit

inductive Nd where
  | mk : Int → Tok → List Nd → Nd
def Nd.kind : Nd → Int
  | .mk k _ _ => k
def Nd.tok : Nd → Tok
  | .mk _ t _ => t
def Nd.kids : Nd → List Nd
  | .mk _ _ l => l

-- a node's leaves, in order; how many nodes it has; how deep it is
mutual
def leavesN : Nd → List Tok
  | .mk k t l => (if k = 1 then [t] else []) ++ leavesL l
def leavesL : List Nd → List Tok
  | [] => []
  | n :: l => leavesN n ++ leavesL l
end
mutual
def countN : Nd → Nat
  | .mk _ _ l => 1 + countL l
def countL : List Nd → Nat
  | [] => 0
  | n :: l => countN n + countL l
end
mutual
def deepN : Nd → Nat
  | .mk _ _ l => deepL l
def deepL : List Nd → Nat
  | [] => 0
  | n :: l => max (deepN n + 1) (deepL l)
end
/-- a leaf or a node, whatever its kids are -/
def isPartN (n : Nd) : Bool :=
  if n.kind = 1 then n.kids.isEmpty && isTok n.tok
  else if n.kind = 28 ∧ n.kids.isEmpty = false then false
  else decide (2 ≤ n.kind) && decide (n.kind ≤ 28) && decide (n.tok = (0, ByteArray.empty))
mutual
def partsN : Nd → Bool
  | .mk k t l => isPartN (.mk k t l) && partsL l
def partsL : List Nd → Bool
  | [] => true
  | n :: l => partsN n && partsL l
end
/-- a Node can be a tree -/
def formedB (n : Nd) : Bool := partsN n && decide (deepN n ≤ 1000) && decide ((leavesN n).length ≤ 20000)

/-- nodes that lie one behind the other, from a cell of a block on -/
inductive NdsAt (w : World) : Nat → Nat → List Nd → Prop
  | nil {b o : Nat} : NdsAt w b o []
  | leaf {b o : Nat} {k tk : Int} {tx : ByteArray} {A : Option Addr} {c : Nat} {l : List Nd} : b < w.heap.size → w.cell? ⟨b, o, none⟩ = some (.int .i64 k) → w.cell? ⟨b, o + 1, none⟩ = some (.int .i64 tk) → w.cell? ⟨b, o + 2, none⟩ = some (.string tx) → w.cell? ⟨b, o + 3, none⟩ = some (.slice A 0 c) → NdsAt w b (o + 4) l → NdsAt w b o (.mk k (tk, tx) [] :: l)
  | node {b o b' o' : Nat} {k tk : Int} {tx : ByteArray} {c : Nat} {n : Nd} {m l : List Nd} : b < w.heap.size → w.cell? ⟨b, o, none⟩ = some (.int .i64 k) → w.cell? ⟨b, o + 1, none⟩ = some (.int .i64 tk) → w.cell? ⟨b, o + 2, none⟩ = some (.string tx) → w.cell? ⟨b, o + 3, none⟩ = some (.slice (some ⟨b', o', none⟩) (n :: m).length c) → NdsAt w b' o' (n :: m) → NdsAt w b (o + 4) l → NdsAt w b o (.mk k (tk, tx) (n :: m) :: l)
theorem NdsAt.kept {w w' : World} (hb : Below w.heap.size w w') {b o : Nat} {l : List Nd} (h : NdsAt w b o l) : NdsAt w' b o l := by
  induction h with
  | nil => exact .nil
  | leaf h1 c0 c1 c2 c3 _ ih => exact .leaf (Nat.lt_of_lt_of_le h1 hb.size) ((hb.cell h1).trans c0) ((hb.cell h1).trans c1) ((hb.cell h1).trans c2) ((hb.cell h1).trans c3) ih
  | node h1 c0 c1 c2 c3 _ _ ih1 ih2 => exact .node (Nat.lt_of_lt_of_le h1 hb.size) ((hb.cell h1).trans c0) ((hb.cell h1).trans c1) ((hb.cell h1).trans c2) ((hb.cell h1).trans c3) ih1 ih2
/-- a slice of nodes -/
def KidsV (w : World) (A : Option Addr) (l : List Nd) : Prop := 0 < l.length → ∃ b o, A = some ⟨b, o, none⟩ ∧ NdsAt w b o l
theorem KidsV.below {w w' : World} {A : Option Addr} {l : List Nd} (h : KidsV w A l) (hb : Below w.heap.size w w') : KidsV w' A l := fun hl => by
  obtain ⟨b, o, he, hn⟩ := h hl
  exact ⟨b, o, he, hn.kept hb⟩
/-- a node as a value -/
def NodeV (w : World) (v : Value) (n : Nd) : Prop := ∃ A c, v = .agg #[.int .i64 n.kind, .int .i64 n.tok.1, .string n.tok.2, .slice A n.kids.length c] ∧ KidsV w A n.kids
theorem NodeV.below {w w' : World} {v : Value} {n : Nd} (h : NodeV w v n) (hb : Below w.heap.size w w') : NodeV w' v n := by
  obtain ⟨A, c, rfl, hk⟩ := h
  exact ⟨A, c, rfl, hk.below hb⟩
theorem NdsAt.get {w : World} : ∀ {l : List Nd} {b o : Nat}, NdsAt w b o l → ∀ {i : Nat} {n : Nd}, l[i]? = some n → ∃ A c, b < w.heap.size ∧ w.cell? ⟨b, o + i * 4, none⟩ = some (.int .i64 n.kind) ∧ w.cell? ⟨b, o + i * 4 + 1, none⟩ = some (.int .i64 n.tok.1) ∧ w.cell? ⟨b, o + i * 4 + 2, none⟩ = some (.string n.tok.2) ∧ w.cell? ⟨b, o + i * 4 + 3, none⟩ = some (.slice A n.kids.length c) ∧ KidsV w A n.kids
  | [], _, _, _, i, n, h => by simp at h
  | _ :: _, b, o, .leaf h1 c0 c1 c2 c3 h2, 0, n, h => by
    obtain rfl := Option.some.inj h
    simp only [Nat.zero_mul, Nat.add_zero]
    exact ⟨_, _, h1, c0, c1, c2, c3, fun hl => by simp [Nd.kids] at hl⟩
  | _ :: _, b, o, .node h1 c0 c1 c2 c3 hk h2, 0, n, h => by
    obtain rfl := Option.some.inj h
    simp only [Nat.zero_mul, Nat.add_zero]
    exact ⟨_, _, h1, c0, c1, c2, c3, fun _ => ⟨_, _, rfl, hk⟩⟩
  | _ :: l, b, o, .leaf h1 c0 c1 c2 c3 h2, i + 1, n, h => by
    have := h2.get (i := i) (n := n) (by simpa using h)
    rw [show o + (i + 1) * 4 = o + 4 + i * 4 by omega]
    exact this
  | _ :: l, b, o, .node h1 c0 c1 c2 c3 hk h2, i + 1, n, h => by
    have := h2.get (i := i) (n := n) (by simpa using h)
    rw [show o + (i + 1) * 4 = o + 4 + i * 4 by omega]
    exact this
theorem infoNode : (Tryd.prog.info? 26).map (fun i => (i.zero, i.size, i.bytes)) = some (some (.agg #[.int .i64 0, .int .i64 0, .string ByteArray.empty, .slice none 0 0]), 4, 56) := by kernel_rfl
end Go.Proofs.YtgihkojlpaebiaaDoor

namespace Go.Proofs.YtgihkojlpaebiaaDoor
set_option linter.unusedVariables false
set_option linter.unusedSimpArgs false

mutual
def walkN (pos : List Nat) : Nd → List (List Nat × Nd)
  | .mk k t l => (pos, .mk k t l) :: walkK pos 0 l
def walkK (pos : List Nat) (i : Nat) : List Nd → List (List Nat × Nd)
  | [] => []
  | n :: l => walkN (pos ++ [i]) n ++ walkK pos (i + 1) l
end
def atN : Nd → List Nat → Option Nd
  | n, [] => some n
  | n, i :: p => match n.kids[i]? with
    | some k => atN k p
    | none => none
/-- what a walk yields behind all that is at a position -/
def restN (pos : List Nat) : Nd → List Nat → List (List Nat × Nd)
  | _, [] => []
  | n, i :: p => (match n.kids[i]? with | some k => restN (pos ++ [i]) k p | none => []) ++ walkK pos (i + 1) (n.kids.drop (i + 1))

theorem walkN_eq (pos : List Nat) (n : Nd) : walkN pos n = (pos, n) :: walkK pos 0 n.kids := by
  cases n; simp [walkN, Nd.kids]
theorem restN_snoc : ∀ (p pos : List Nat) (n x : Nd) (i : Nat), atN n p = some x → restN pos n (p ++ [i]) = walkK (pos ++ p) (i + 1) (x.kids.drop (i + 1)) ++ restN pos n p
  | [], pos, n, x, i, h => by
    obtain rfl := Option.some.inj h
    simp only [List.nil_append, restN, List.append_nil]
    cases n.kids[i]? <;> rfl
  | j :: p, pos, n, x, i, h => by
    simp only [List.cons_append, restN]
    cases hk : n.kids[j]? with
    | none => simp [atN, hk] at h
    | some k =>
      simp only [atN, hk] at h
      dsimp only
      rw [restN_snoc p (pos ++ [j]) k x i h]
      simp only [List.append_assoc, List.cons_append, List.nil_append]
theorem atN_snoc : ∀ (p : List Nat) (n x k : Nd) (i : Nat), atN n p = some x → x.kids[i]? = some k → atN n (p ++ [i]) = some k
  | [], n, x, k, i, h, hk => by
    obtain rfl := Option.some.inj h
    simp [atN, hk]
  | j :: p, n, x, k, i, h, hk => by
    simp only [List.cons_append, atN] at h ⊢
    cases hj : n.kids[j]? with
    | none => simp [hj] at h
    | some y =>
      simp only [hj] at h ⊢
      exact atN_snoc p y x k i h hk
theorem drop_kids {x k : Nd} {i : Nat} (h : x.kids[i]? = some k) : x.kids.drop i = k :: x.kids.drop (i + 1) := by
  obtain ⟨hlt, rfl⟩ := List.getElem?_eq_some_iff.1 h
  exact List.drop_eq_getElem_cons hlt
/-- the inner loop's step: there is a next kid -/
theorem walkK_kid {q : List Nat} {x k : Nd} {i : Nat} (h : x.kids[i]? = some k) : walkK q i (x.kids.drop i) = walkN (q ++ [i]) k ++ walkK q (i + 1) (x.kids.drop (i + 1)) := by
  rw [drop_kids h, walkK]
theorem walkK_end {q : List Nat} {x : Nd} {i : Nat} (h : x.kids.length ≤ i) : walkK q i (x.kids.drop i) = [] := by
  rw [List.drop_eq_nil_of_le h, walkK]
mutual
theorem walkN_length (pos : List Nat) : ∀ n : Nd, (walkN pos n).length = countN n
  | .mk k t l => by simp only [walkN, countN, List.length_cons, walkK_length pos 0 l]; omega
theorem walkK_length (pos : List Nat) (i : Nat) : ∀ l : List Nd, (walkK pos i l).length = countL l
  | [] => rfl
  | n :: l => by simp only [walkK, countL, List.length_append, walkN_length _ n, walkK_length pos (i + 1) l]
end
theorem atN_last : ∀ (p : List Nat) (n x y : Nd) (i : Nat), atN n (p ++ [i]) = some x → atN n p = some y → y.kids[i]? = some x
  | [], n, x, y, i, h, hy => by
    obtain rfl := Option.some.inj hy
    simp only [List.nil_append, atN] at h
    cases hk : n.kids[i]? with
    | none => simp [hk] at h
    | some k => simpa [hk] using h
  | j :: p, n, x, y, i, h, hy => by
    simp only [List.cons_append, atN] at h hy
    cases hj : n.kids[j]? with
    | none => simp [hj] at h
    | some k =>
      simp only [hj] at h hy
      exact atN_last p k x y i h hy
theorem countN_pos : ∀ n : Nd, 0 < countN n
  | .mk _ _ _ => by simp only [countN]; omega
theorem len_countL : ∀ l : List Nd, l.length ≤ countL l
  | [] => Nat.zero_le _
  | n :: l => by
    have := len_countL l
    have := countN_pos n
    simp only [countL, List.length_cons]; omega
theorem countL_get : ∀ (l : List Nd) (i : Nat) (k : Nd), l[i]? = some k → countN k ≤ countL l
  | [], _, _, h => by simp at h
  | x :: l, 0, k, h => by
    obtain rfl := Option.some.inj h
    simp only [countL]; omega
  | x :: l, i + 1, k, h => by
    have := countL_get l i k (by simpa using h)
    simp only [countL]; omega
theorem countN_kids (n : Nd) : countN n = 1 + countL n.kids := by
  cases n; simp [countN, Nd.kids]
theorem atN_bounds : ∀ (q : List Nat) (n x : Nd), atN n q = some x → q.length + countN x ≤ countN n
  | [], n, x, h => by
    obtain rfl := Option.some.inj h
    simp
  | i :: q, n, x, h => by
    simp only [atN] at h
    cases hj : n.kids[i]? with
    | none => simp [hj] at h
    | some k =>
      simp only [hj] at h
      have h1 := atN_bounds q k x h
      have h2 := countL_get _ _ _ hj
      have h3 := countN_kids n
      simp only [List.length_cons]; omega
theorem atN_small {q : List Nat} {n x : Nd} (h : atN n q = some x) : q.length < countN n ∧ x.kids.length < countN n := by
  have h1 := atN_bounds q n x h
  have h2 := countN_kids x
  have h3 := len_countL x.kids
  omega
end Go.Proofs.YtgihkojlpaebiaaDoor

namespace Go.Proofs.YtgihkojlpaebiaaDoor
set_option linter.unusedVariables false
set_option linter.unusedSimpArgs false

/-- the leaves' tokens of a list of nodes with positions -/
def leafOf (x : List Nat × Nd) : List Tok := if x.2.kind = 1 then [x.2.tok] else []
def leavesW (l : List (List Nat × Nd)) : List Tok := l.flatMap leafOf
theorem leavesW_append (a b : List (List Nat × Nd)) : leavesW (a ++ b) = leavesW a ++ leavesW b := by simp [leavesW]
mutual
theorem leavesW_walkN (pos : List Nat) : ∀ n : Nd, leavesW (walkN pos n) = leavesN n
  | .mk k t l => by
    have h := leavesW_walkK pos 0 l
    simp only [walkN, leavesN]
    rw [show (pos, Nd.mk k t l) :: walkK pos 0 l = [(pos, Nd.mk k t l)] ++ walkK pos 0 l from rfl, leavesW_append, h]
    by_cases hk : k = 1 <;> simp [leavesW, leafOf, Nd.kind, Nd.tok, hk]
theorem leavesW_walkK (pos : List Nat) (i : Nat) : ∀ l : List Nd, leavesW (walkK pos i l) = leavesL l
  | [] => rfl
  | n :: l => by rw [walkK, leavesL, leavesW_append, leavesW_walkN _ n, leavesW_walkK pos (i + 1) l]
end
mutual
theorem parts_walkN (pos : List Nat) : ∀ n : Nd, (walkN pos n).all (fun x => isPartN x.2) = partsN n
  | .mk k t l => by
    have h := parts_walkK pos 0 l
    simp only [walkN, partsN, List.all_cons, h]
theorem parts_walkK (pos : List Nat) (i : Nat) : ∀ l : List Nd, (walkK pos i l).all (fun x => isPartN x.2) = partsL l
  | [] => rfl
  | n :: l => by rw [walkK, partsL, List.all_append, parts_walkN _ n, parts_walkK pos (i + 1) l]
end
/-- how long the longest position is -/
def longW : List (List Nat × Nd) → Nat
  | [] => 0
  | x :: l => max x.1.length (longW l)
theorem longW_append : ∀ a b : List (List Nat × Nd), longW (a ++ b) = max (longW a) (longW b)
  | [], b => by simp [longW]
  | x :: a, b => by simp only [List.cons_append, longW, longW_append a b]; omega
mutual
theorem longW_walkN (pos : List Nat) : ∀ n : Nd, longW (walkN pos n) = pos.length + deepN n
  | .mk k t l => by
    have h := longW_walkK pos 0 l
    simp only [walkN, longW, deepN, h]
    cases l with
    | nil => simp [deepL]
    | cons x l => simp [deepL]
theorem longW_walkK (pos : List Nat) (i : Nat) : ∀ l : List Nd, longW (walkK pos i l) = (if l.isEmpty then 0 else pos.length + deepL l)
  | [] => rfl
  | n :: l => by
    have h1 := longW_walkN (pos ++ [i]) n
    have h2 := longW_walkK pos (i + 1) l
    rw [walkK, longW_append, h1, h2]
    cases l with
    | nil => simp [deepL]; omega
    | cons x l => simp [deepL]; omega
end
theorem longW_mem {l : List (List Nat × Nd)} {x : List Nat × Nd} (h : x ∈ l) : x.1.length ≤ longW l := by
  induction l with
  | nil => cases h
  | cons y l ih =>
    simp only [longW]
    rcases List.mem_cons.1 h with rfl | h
    · omega
    · have := ih h; omega
theorem longW_all {d : Nat} : ∀ {l : List (List Nat × Nd)}, (∀ x ∈ l, x.1.length ≤ d) → longW l ≤ d
  | [], _ => Nat.zero_le _
  | x :: l, h => by
    have h1 := h x (List.mem_cons_self ..)
    have h2 := longW_all (l := l) (fun y hy => h y (List.mem_cons_of_mem _ hy))
    simp only [longW]; omega
/-- what IsFormed asks of the first k nodes -/
def okW (l : List (List Nat × Nd)) : Prop := ∀ x ∈ l, x.1.length ≤ 1000 ∧ isPartN x.2 = true
theorem formedB_of {n : Nd} (h : okW (walkN [] n)) (hl : (leavesW (walkN [] n)).length ≤ 20000) : formedB n = true := by
  have h1 : partsN n = true := by
    rw [← parts_walkN [] n, List.all_eq_true]
    exact fun x hx => (h x hx).2
  have h2 : deepN n ≤ 1000 := by
    have := longW_walkN [] n
    have h3 := longW_all (fun x hx => (h x hx).1)
    simp only [List.length_nil, Nat.zero_add] at this
    omega
  rw [leavesW_walkN] at hl
  simp [formedB, h1, h2, hl]
theorem not_formedB {n : Nd} {pre : List (List Nat × Nd)} {x : List Nat × Nd} {post : List (List Nat × Nd)} (he : walkN [] n = pre ++ x :: post)
    (h : 1000 < x.1.length ∨ 20000 < (leavesW (pre ++ [x])).length ∨ isPartN x.2 = false) : formedB n = false := by
  cases hf : formedB n with
  | false => rfl
  | true =>
    simp only [formedB, Bool.and_eq_true, decide_eq_true_eq] at hf
    obtain ⟨⟨h1, h2⟩, h3⟩ := hf
    have hx : x ∈ walkN [] n := by rw [he]; simp
    exfalso
    rcases h with h | h | h
    · have := longW_mem hx
      rw [longW_walkN] at this
      simp at this
      omega
    · rw [← leavesW_walkN [] n, he, show pre ++ x :: post = (pre ++ [x]) ++ post by simp, leavesW_append, List.length_append] at h3
      omega
    · rw [← parts_walkN [] n, List.all_eq_true] at h1
      have := h1 x hx
      simp only [h] at this
      cases this
end Go.Proofs.YtgihkojlpaebiaaDoor

namespace Go.Proofs.YtgihkojlpaebiaaDoor
set_option linter.unusedVariables false
set_option linter.unusedSimpArgs false
open Go Go.RowKit

abbrev Pn := Nd × Option Addr × Nat
def cells4 (y : Pn) : List Value := [.int .i64 y.1.kind, .int .i64 y.1.tok.1, .string y.1.tok.2, .slice y.2.1 y.1.kids.length y.2.2]
def pathCells (l : List Pn) : List Value := l.flatMap cells4
def intCells (l : List Nat) : List Value := l.map fun (i : Nat) => .int .i64 (i : Int)
theorem pathCells_length (l : List Pn) : (pathCells l).length = l.length * 4 := by
  induction l with
  | nil => rfl
  | cons y l ih => simp only [pathCells, List.flatMap_cons, List.length_append] at *; simp [cells4, ih]; omega
theorem pathCells_append (a b : List Pn) : pathCells (a ++ b) = pathCells a ++ pathCells b := by simp [pathCells]
theorem pathCells_get : ∀ (l : List Pn) (d : Nat) (y : Pn), l[d]? = some y → (pathCells l)[d * 4]? = some (.int .i64 y.1.kind) ∧ (pathCells l)[d * 4 + 1]? = some (.int .i64 y.1.tok.1) ∧ (pathCells l)[d * 4 + 2]? = some (.string y.1.tok.2) ∧ (pathCells l)[d * 4 + 3]? = some (.slice y.2.1 y.1.kids.length y.2.2)
  | [], _, _, h => by simp at h
  | x :: l, 0, y, h => by
    obtain rfl := Option.some.inj h
    simp [pathCells, cells4]
  | x :: l, d + 1, y, h => by
    have := pathCells_get l d y (by simpa using h)
    simp only [pathCells, List.flatMap_cons, cells4] at this ⊢
    rw [show (d + 1) * 4 = d * 4 + 4 by omega, show d * 4 + 4 + 1 = (d * 4 + 1) + 4 by omega, show d * 4 + 4 + 2 = (d * 4 + 2) + 4 by omega, show d * 4 + 4 + 3 = (d * 4 + 3) + 4 by omega]
    simpa using this
theorem pathCells_take (l : List Pn) (d : Nat) : (pathCells l).take (d * 4) = pathCells (l.take d) := by
  induction l generalizing d with
  | nil => simp [pathCells]
  | cons y l ih =>
    cases d with
    | zero => simp [pathCells]
    | succ d =>
      have := ih d
      simp only [pathCells, List.flatMap_cons, List.take_succ_cons] at this ⊢
      rw [← this, show (d + 1) * 4 = d * 4 + 4 by omega]
      simp [cells4]
theorem pathCells_one (l : List Pn) : ∀ u ∈ pathCells l, u.oneCell' = true := by
  intro u hu
  simp only [pathCells, List.mem_flatMap] at hu
  obtain ⟨y, _, hy⟩ := hu
  simp only [cells4, List.mem_cons, List.not_mem_nil, or_false] at hy
  rcases hy with rfl | rfl | rfl | rfl <;> rfl
theorem intCells_one (l : List Nat) : ∀ u ∈ intCells l, u.oneCell' = true := by
  intro u hu
  simp only [intCells, List.mem_map] at hu
  obtain ⟨i, _, rfl⟩ := hu
  rfl
theorem intCells_length (l : List Nat) : (intCells l).length = l.length := by simp [intCells]

/-- a row that nobody has turned -/
theorem own_same {w w' : World} {base e size n : Nat} {v : Value} {xs : List Value} (h : w.ownsRow base e size v n xs) (hs : ∀ g, v.ownBlock = some g → w'.heap[g]? = w.heap[g]?) : w'.ownsRow base e size v n xs := by
  refine ⟨h.1, ?_⟩
  rcases h.2 with hn | ⟨g, cap, cur, rfl, hb, hg, rest⟩
  · exact .inl hn
  · exact .inr ⟨g, cap, cur, rfl, hb, (hs g rfl).trans hg, rest⟩
/-- a row's first part, as a slice expression gives it -/
theorem own_take {w : World} {base e size n m g cap : Nat} {xs : List Value} (h : w.ownsRow base e size (.slice (some ⟨g, 0, none⟩) n cap) n xs) (hm : m ≤ n) : w.ownsRow base e size (.slice (some ⟨g, 0, none⟩) m cap) m (xs.take (m * size)) := by
  have hmn : m * size ≤ n * size := Nat.mul_le_mul_right _ hm
  refine ⟨by rw [List.length_take, h.1]; omega, ?_⟩
  rcases h.2 with ⟨hn, _⟩ | ⟨g', cap', cur, hv, hb, hg, h1, h2, h3, h4⟩
  · cases hn
  · simp only [Value.slice.injEq, Option.some.injEq, Addr.mk.injEq, and_true, true_and] at hv
    obtain ⟨rfl, rfl⟩ := hv
    exact .inr ⟨g, cap, cur, rfl, hb, hg, Nat.le_trans hm h1, h2, h3, by rw [← h4, List.take_take, Nat.min_eq_left hmn]⟩
theorem own_cap {w : World} {base e size n g cap : Nat} {xs : List Value} (h : w.ownsRow base e size (.slice (some ⟨g, 0, none⟩) n cap) n xs) : n ≤ cap := by
  rcases h.2 with ⟨hn, _⟩ | ⟨g', cap', cur, hv, hb, hg, h1, h2, h3, h4⟩
  · cases hn
  · simp only [Value.slice.injEq, Option.some.injEq, Addr.mk.injEq, and_true, true_and] at hv
    obtain ⟨rfl, rfl⟩ := hv
    exact h1
/-- rows of different types are different blocks -/
theorem own_two {w : World} {b1 b2 e1 e2 s1 s2 n1 n2 : Nat} {v1 v2 : Value} {x1 x2 : List Value} (h1 : w.ownsRow b1 e1 s1 v1 n1 x1) (h2 : w.ownsRow b2 e2 s2 v2 n2 x2) (hne : e1 ≠ e2) : v1.ownBlock = none ∨ v1.ownBlock ≠ v2.ownBlock := by
  rcases h1.2 with ⟨rfl, _⟩ | ⟨g, cap, cur, rfl, _, hg, _⟩
  · exact .inl rfl
  · right
    rcases h2.2 with ⟨rfl, _⟩ | ⟨g', cap', cur', rfl, _, hg', _⟩
    · simp [Value.ownBlock]
    · intro e
      simp only [Value.ownBlock, Option.some.injEq] at e
      subst e
      rw [hg] at hg'
      cases hg'
      exact hne rfl

/-- what a round of a walk is handed -/
def EnW (w0 : World) (O : Nat → Prop) (x : List Nat × Nd) (W : World) (args : Array Value) : Prop :=
  ∃ pv A c, args = #[pv, .agg #[.int .i64 x.2.kind, .int .i64 x.2.tok.1, .string x.2.tok.2, .slice A x.2.kids.length c]] ∧ KidsV w0 A x.2.kids ∧ W.ownsRow 0 3 1 pv x.1.length (intCells x.1) ∧ ∀ g, pv.ownBlock = some g → O g
theorem EnW.keep {w0 : World} {n₀ : Nat} (O O' : Nat → Prop) (x : List Nat × Nd) (W W' : World) (args : Array Value) (h : EnW w0 O x W args) (ho : ∀ k, O k → O' k) (hs : ∀ k, O k → W'.heap[k]? = W.heap[k]?) (_ : Below n₀ W W') : EnW w0 O' x W' args := by
  obtain ⟨pv, A, c, rfl, hk, hr, hb⟩ := h
  exact ⟨pv, A, c, rfl, hk, own_same hr (fun g hg => hs g (hb g hg)), fun g hg => ho g (hb g hg)⟩
theorem EnW.size {w0 : World} (O : Nat → Prop) (x : List Nat × Nd) (W : World) (args : Array Value) (h : EnW w0 O x W args) : args.size = 2 := by
  obtain ⟨pv, A, c, rfl, _⟩ := h
  rfl

/-- the iterator's state ahead of a round: at position p, the node x; k nodes have come -/
structure WalkSt (w0 : World) (T : Nd) (base : Nat) (J : Nat → (Nat → Prop) → World → Prop) (W : World) (k : Nat) (p : List Nat) (x : Nd) (path : List Pn) (pv qv : Value) : Prop where
  here : (walkN [] T).drop k = walkN p x ++ restN [] T p
  at_ : atN T p = some x
  plen : path.length = p.length + 1
  nodes : ∀ d y, path[d]? = some y → atN T (p.take d) = some y.1 ∧ KidsV w0 y.2.1 y.1.kids
  pos : W.ownsRow base 3 1 pv p.length (intCells p)
  row : W.ownsRow base 26 4 qv path.length (pathCells path)
  inv : J k (fun b => pv.ownBlock = some b ∨ qv.ownBlock = some b) W
/-- .. in the inner loop: the kids of the node at q from i on are to come -/
structure WalkUp (w0 : World) (T : Nd) (base : Nat) (J : Nat → (Nat → Prop) → World → Prop) (W : World) (k : Nat) (q : List Nat) (i : Nat) (more : List Value) (x : Nd) (path : List Pn) (pv qv : Value) : Prop where
  here : (walkN [] T).drop k = walkK q i (x.kids.drop i) ++ restN [] T q
  ile : i ≤ x.kids.length
  at_ : atN T q = some x
  plen : q.length < path.length
  nodes : ∀ d y, d ≤ q.length → path[d]? = some y → atN T (q.take d) = some y.1 ∧ KidsV w0 y.2.1 y.1.kids
  pos : W.ownsRow base 3 1 pv (q.length + 1 + more.length) (intCells q ++ [.int .i64 ((i : Int) - 1)] ++ more)
  row : W.ownsRow base 26 4 qv path.length (pathCells path)
  inv : J k (fun b => pv.ownBlock = some b ∨ qv.ownBlock = some b) W
end Go.Proofs.YtgihkojlpaebiaaDoor
