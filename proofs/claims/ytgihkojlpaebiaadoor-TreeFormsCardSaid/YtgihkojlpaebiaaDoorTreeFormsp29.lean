/-
  Trees: nodes in memory whose blocks are known; a row of nodes that a call made.; Trees: the specification's gather (it appends to a list of its own).; The texts of tokens, one after the other: one more.
-/
import Derived.Test.YtgihkojlpaebiaaDoorTreeFormsp16
import Derived.Test.YtgihkojlpaebiaaDoorTreeFormsp28
import Derived.Test.YtgihkojlpaebiaaDoorTreeFormsp13
namespace Go.Proofs.YtgihkojlpaebiaaDoor
set_option linter.unusedVariables false
set_option linter.unusedSimpArgs false
open Go Go.RowKit

/-- nodes that lie one behind the other, all their blocks (and those of what is in them) as P says -/
inductive NdsP (P : Nat → Prop) (w : World) : Nat → Nat → List Nd → Prop
  | nil {b o : Nat} : NdsP P w b o []
  | leaf {b o : Nat} {k tk : Int} {tx : ByteArray} {A : Option Addr} {c : Nat} {l : List Nd} : P b → b < w.heap.size → w.cell? ⟨b, o, none⟩ = some (.int .i64 k) → w.cell? ⟨b, o + 1, none⟩ = some (.int .i64 tk) → w.cell? ⟨b, o + 2, none⟩ = some (.string tx) → w.cell? ⟨b, o + 3, none⟩ = some (.slice A 0 c) → NdsP P w b (o + 4) l → NdsP P w b o (.mk k (tk, tx) [] :: l)
  | node {b o b' o' : Nat} {k tk : Int} {tx : ByteArray} {c : Nat} {n : Nd} {m l : List Nd} : P b → b < w.heap.size → w.cell? ⟨b, o, none⟩ = some (.int .i64 k) → w.cell? ⟨b, o + 1, none⟩ = some (.int .i64 tk) → w.cell? ⟨b, o + 2, none⟩ = some (.string tx) → w.cell? ⟨b, o + 3, none⟩ = some (.slice (some ⟨b', o', none⟩) (n :: m).length c) → NdsP P w b' o' (n :: m) → NdsP P w b (o + 4) l → NdsP P w b o (.mk k (tk, tx) (n :: m) :: l)
theorem NdsP.at {P : Nat → Prop} {w : World} {b o : Nat} {l : List Nd} (h : NdsP P w b o l) : NdsAt w b o l := by
  induction h with
  | nil => exact .nil
  | leaf _ h1 c0 c1 c2 c3 _ ih => exact .leaf h1 c0 c1 c2 c3 ih
  | node _ h1 c0 c1 c2 c3 _ _ ih1 ih2 => exact .node h1 c0 c1 c2 c3 ih1 ih2
theorem NdsP.kept {P P' : Nat → Prop} {w w' : World} (hs : w.heap.size ≤ w'.heap.size) (hk : ∀ b, P b → b < w.heap.size → w'.heap[b]? = w.heap[b]?) (hp : ∀ b, P b → b < w.heap.size → P' b) {b o : Nat} {l : List Nd} (h : NdsP P w b o l) : NdsP P' w' b o l := by
  have cl : ∀ b j, P b → b < w.heap.size → w'.cell? ⟨b, j, none⟩ = w.cell? ⟨b, j, none⟩ := fun b j h1 h2 => World.cell?_of_block (w := w) (hk b h1 h2)
  induction h with
  | nil => exact .nil
  | leaf p h1 c0 c1 c2 c3 _ ih => exact .leaf (hp _ p h1) (Nat.lt_of_lt_of_le h1 hs) ((cl _ _ p h1).trans c0) ((cl _ _ p h1).trans c1) ((cl _ _ p h1).trans c2) ((cl _ _ p h1).trans c3) ih
  | node p h1 c0 c1 c2 c3 _ _ ih1 ih2 => exact .node (hp _ p h1) (Nat.lt_of_lt_of_le h1 hs) ((cl _ _ p h1).trans c0) ((cl _ _ p h1).trans c1) ((cl _ _ p h1).trans c2) ((cl _ _ p h1).trans c3) ih1 ih2
def KidsP (P : Nat → Prop) (w : World) (A : Option Addr) (l : List Nd) : Prop := 0 < l.length → ∃ b o, A = some ⟨b, o, none⟩ ∧ NdsP P w b o l
theorem KidsP.kids {P : Nat → Prop} {w : World} {A : Option Addr} {l : List Nd} (h : KidsP P w A l) : KidsV w A l := fun hl => by
  obtain ⟨b, o, he, hn⟩ := h hl
  exact ⟨b, o, he, hn.at⟩
theorem KidsP.kept {P P' : Nat → Prop} {w w' : World} {A : Option Addr} {l : List Nd} (h : KidsP P w A l) (hs : w.heap.size ≤ w'.heap.size) (hk : ∀ b, P b → b < w.heap.size → w'.heap[b]? = w.heap[b]?) (hp : ∀ b, P b → b < w.heap.size → P' b) : KidsP P' w' A l := fun hl => by
  obtain ⟨b, o, he, hn⟩ := h hl
  exact ⟨b, o, he, hn.kept hs hk hp⟩
theorem KidsP.below {P P' : Nat → Prop} {w w' : World} {A : Option Addr} {l : List Nd} (h : KidsP P w A l) (hb : Below w.heap.size w w') (hp : ∀ b, P b → b < w.heap.size → P' b) : KidsP P' w' A l := h.kept hb.size (fun b _ h2 => hb.block b h2) hp
/-- a node as a value, all of its kids' blocks as P says -/
def NodeP (P : Nat → Prop) (w : World) (v : Value) (n : Nd) : Prop := ∃ A c, v = .agg #[.int .i64 n.kind, .int .i64 n.tok.1, .string n.tok.2, .slice A n.kids.length c] ∧ KidsP P w A n.kids
theorem NodeP.node {P : Nat → Prop} {w : World} {v : Value} {n : Nd} (h : NodeP P w v n) : NodeV w v n := by
  obtain ⟨A, c, rfl, hk⟩ := h
  exact ⟨A, c, rfl, hk.kids⟩
theorem NodeP.below {P P' : Nat → Prop} {w w' : World} {v : Value} {n : Nd} (h : NodeP P w v n) (hb : Below w.heap.size w w') (hp : ∀ b, P b → b < w.heap.size → P' b) : NodeP P' w' v n := by
  obtain ⟨A, c, rfl, hk⟩ := h
  exact ⟨A, c, rfl, hk.below hb hp⟩
theorem NdsP.add {P : Nat → Prop} {w : World} {b o : Nat} {l : List Nd} : ∀ (y : Pn), P b → b < w.heap.size → w.cell? ⟨b, o, none⟩ = some (.int .i64 y.1.kind) → w.cell? ⟨b, o + 1, none⟩ = some (.int .i64 y.1.tok.1) → w.cell? ⟨b, o + 2, none⟩ = some (.string y.1.tok.2) → w.cell? ⟨b, o + 3, none⟩ = some (.slice y.2.1 y.1.kids.length y.2.2) →
    KidsP P w y.2.1 y.1.kids → NdsP P w b (o + 4) l → NdsP P w b o (y.1 :: l)
  | (.mk k (tk, tx) [], A, c), p, h1, c0, c1, c2, c3, _, hl => .leaf p h1 c0 c1 c2 c3 hl
  | (.mk k (tk, tx) (n :: m), A, c), p, h1, c0, c1, c2, c3, hk, hl => by
    obtain ⟨b', o', rfl, hn⟩ := hk (by simp [Nd.kids])
    exact .node p h1 c0 c1 c2 c3 hn hl
theorem NdsP.of_cells {P : Nat → Prop} {w : World} {b : Nat} (hp : P b) (hb : b < w.heap.size) : ∀ (ys : List Pn) (o : Nat),
    (∀ (i : Nat) (y : Pn), ys[i]? = some y → w.cell? ⟨b, o + i * 4, none⟩ = some (.int .i64 y.1.kind) ∧ w.cell? ⟨b, o + i * 4 + 1, none⟩ = some (.int .i64 y.1.tok.1) ∧ w.cell? ⟨b, o + i * 4 + 2, none⟩ = some (.string y.1.tok.2) ∧ w.cell? ⟨b, o + i * 4 + 3, none⟩ = some (.slice y.2.1 y.1.kids.length y.2.2) ∧ KidsP P w y.2.1 y.1.kids) →
    NdsP P w b o (ys.map (·.1))
  | [], _, _ => .nil
  | y :: ys, o, h => by
    obtain ⟨c0, c1, c2, c3, hk⟩ := h 0 y rfl
    simp only [Nat.zero_mul, Nat.add_zero] at c0 c1 c2 c3
    refine NdsP.add y hp hb c0 c1 c2 c3 hk (NdsP.of_cells hp hb ys (o + 4) fun i z hz => ?_)
    have := h (i + 1) z (by simpa using hz)
    rw [show o + 4 + i * 4 = o + (i + 1) * 4 by omega]
    exact this
/-- a row of nodes that a call made -/
theorem KidsP.of_own {P : Nat → Prop} {w : World} {base e : Nat} {v : Value} {ys : List Pn} (h : w.ownsRow base e 4 v ys.length (pathCells ys)) (hP : ∀ g, v.ownBlock = some g → P g) (hk : ∀ (i : Nat) (y : Pn), ys[i]? = some y → KidsP P w y.2.1 y.1.kids) :
    ∃ A c, v = .slice A (ys.map (·.1)).length c ∧ KidsP P w A (ys.map (·.1)) := by
  rcases h.2 with ⟨rfl, h0⟩ | ⟨g, cap, cur, rfl, hb, hg, hn, hc, hs, ht⟩
  · have : ys = [] := List.eq_nil_of_length_eq_zero h0
    subst this
    exact ⟨none, 0, rfl, fun hl => by simp at hl⟩
  · refine ⟨some ⟨g, 0, none⟩, cap, by rw [List.length_map], fun hl => ⟨g, 0, rfl, NdsP.of_cells (hP g rfl) (Array.getElem?_eq_some_iff.1 hg).1 ys 0 fun i y he => ?_⟩⟩
    obtain ⟨h1, h2, h3, h4⟩ := pathCells_get ys i y he
    have hi : i < ys.length := (List.getElem?_eq_some_iff.1 he).1
    have hcell : ∀ j, j < ys.length * 4 → w.cell? ⟨g, j, none⟩ = (pathCells ys)[j]? := by
      intro j hj
      rw [← ht, List.getElem?_take_of_lt hj]
      simp [World.cell?, hg]
    simp only [Nat.zero_add]
    exact ⟨by rw [hcell _ (by omega)]; exact h1, by rw [hcell _ (by omega)]; exact h2, by rw [hcell _ (by omega)]; exact h3, by rw [hcell _ (by omega)]; exact h4, hk i y he⟩
end Go.Proofs.YtgihkojlpaebiaaDoor

namespace Go.Proofs.YtgihkojlpaebiaaDoor
set_option linter.unusedVariables false
set_option linter.unusedSimpArgs false
open Go Go.RowKit

-- the leaves as the specification gathers them: what a leaf's kids are does not matter
mutual
def gatN : Nd → List Tok
  | .mk k t l => if k = 1 then [t] else gatL l
def gatL : List Nd → List Tok
  | [] => []
  | n :: l => gatN n ++ gatL l
end
theorem gatL_append : ∀ a b : List Nd, gatL (a ++ b) = gatL a ++ gatL b
  | [], b => rfl
  | n :: a, b => by simp only [List.cons_append, gatL, gatL_append a b, List.append_assoc]
theorem gatL_next {l : List Nd} {k : Nat} {x : Nd} (h : l[k]? = some x) : gatL (l.take (k + 1)) = gatL (l.take k) ++ gatN x := by
  rw [take_snoc h, gatL_append]; simp [gatL]
mutual
theorem gatN_le : ∀ n : Nd, (gatN n).length ≤ countN n
  | .mk k t l => by
    have := gatL_le l
    simp only [gatN, countN]
    split
    · simp
    · omega
theorem gatL_le : ∀ l : List Nd, (gatL l).length ≤ countL l
  | [] => by simp [gatL]
  | n :: l => by
    have h1 := gatN_le n
    have h2 := gatL_le l
    simp only [gatL, countL, List.length_append]; omega
end
mutual
theorem gatN_eq : ∀ n : Nd, partsN n = true → gatN n = leavesN n
  | .mk k t l, h => by
    simp only [partsN, Bool.and_eq_true] at h
    have h2 := gatL_eq l h.2
    simp only [gatN, leavesN]
    by_cases hk : k = 1
    · subst hk
      have h1 := h.1
      rw [isPart_one, Bool.and_eq_true] at h1
      have : l = [] := by simpa using h1.1
      subst this
      simp [leavesL]
    · rw [if_neg hk, if_neg hk, h2]; rfl
theorem gatL_eq : ∀ l : List Nd, partsL l = true → gatL l = leavesL l
  | [], _ => rfl
  | n :: l, h => by
    simp only [partsL, Bool.and_eq_true] at h
    simp only [gatL, leavesL, gatN_eq n h.1, gatL_eq l h.2]
end
/-- a call that appends to a row: nothing else has turned -/
structure RowTo (a b : Value) (w w' : World) : Prop where
  os : w'.os = w.os
  tape : w'.tape = w.tape
  output : w'.output = w.output
  size : w.heap.size ≤ w'.heap.size
  same : ∀ k, k < w.heap.size → a.ownBlock ≠ some k → w'.heap[k]? = w.heap[k]?
  lies : ∀ g, b.ownBlock = some g → a.ownBlock = some g ∨ w.heap.size ≤ g
theorem RowTo.refl (a : Value) (w : World) : RowTo a a w w := ⟨rfl, rfl, rfl, Nat.le_refl _, fun _ _ _ => rfl, fun _ h => .inl h⟩
theorem RowTo.trans {a b c : Value} {x y z : World} (h : RowTo a b x y) (k : RowTo b c y z) : RowTo a c x z :=
  ⟨k.os.trans h.os, k.tape.trans h.tape, k.output.trans h.output, Nat.le_trans h.size k.size,
    fun i hi h3 => (k.same i (Nat.lt_of_lt_of_le hi h.size) (fun e => (h.lies i e).elim h3 (fun h' => by omega))).trans (h.same i hi h3),
    fun g hg => (k.lies g hg).elim (fun h' => h.lies g h') (fun h' => .inr (Nat.le_trans h.size h'))⟩
theorem RowTo.alloc {a : Value} (x : World) (o : Obj) : RowTo a a x (x.alloc o) := ⟨rfl, rfl, rfl, by simp, fun k hk _ => alloc_old _ _ _ hk, fun _ h => .inl h⟩
theorem RowTo.call {a : Value} {x y : World} (h : Below x.heap.size x y) : RowTo a a x y := ⟨h.os, h.tape, h.output, h.size, fun k hk _ => h.block k hk, fun _ h => .inl h⟩
theorem RowTo.grown {a : Value} {x y : World} {g n cap : Nat} (h : x.grownBy y a.ownBlock) (hl : a.ownBlock = some g ∨ g = x.heap.size) : RowTo a (.slice (some ⟨g, 0, none⟩) n cap) x y :=
  ⟨h.os, h.tape, h.output, h.size, fun k hk hn => h.block k hk (fun e => hn e.symm), fun g' e => by
    have e' : g = g' := by simpa [Value.ownBlock] using e
    subst e'
    rcases hl with h1 | h1
    · exact .inl h1
    · exact .inr (by omega)⟩
theorem RowTo.below {base : Nat} {a b : Value} {w w' : World} (h : RowTo a b w w') (hr : ∀ g, a.ownBlock = some g → base ≤ g) (hb : base ≤ w.heap.size) : Below base w w' :=
  ⟨h.os, h.tape, h.output, h.size, fun k hk => h.same k (by omega) (fun e => by have := hr k e; omega)⟩

set_option maxRecDepth 100000 in
set_option maxHeartbeats 2000000 in
theorem RGather_any (wt : World) (base : Nat) (hbt : wt.heap.size ≤ base) : ∀ (m : Nat) (n : Nd) (v : Value) (pre : List Tok) (sv : Value) (w : World), deepN n < m → Below wt.heap.size wt w → base ≤ w.heap.size → NodeV wt v n →
    w.ownsRow base 23 2 sv pre.length (tkCells pre) → pre.length + countN n ≤ 10000000 →
    Calls Tryd.prog 66 #[v, sv] w fun e w' => ∃ sv', e = .returned sv' ∧ w'.ownsRow base 23 2 sv' (pre ++ gatN n).length (tkCells (pre ++ gatN n)) ∧ RowTo sv sv' w w'
  | 0, n, v, pre, sv, w, h, _, _, _, _, _ => absurd h (Nat.not_lt_zero _)
  | m + 1, .mk kd (tk, tx) l, v, pre, sv, w, hm, hwt, hbw, hV, hrow, hlen => by
    have IH := RGather_any wt base hbt m
    have hV : ∃ A c, v = .agg #[.int .i64 kd, .int .i64 tk, .string tx, .slice A l.length c] ∧ KidsV wt A l := hV
    obtain ⟨A, c, rfl, hk⟩ := hV
    obtain ⟨w0, hw0⟩ : ∃ w0, w0 = w.alloc (.cells #[.int .i64 kd, .int .i64 tk, .string tx, .slice A l.length c] 26) := ⟨_, rfl⟩
    have hB0 : Below w.heap.size w w0 := by rw [hw0]; exact (Below.refl _ _).alloc (Nat.le_refl _) _
    have hR0 : RowTo sv sv w w0 := by rw [hw0]; exact RowTo.alloc _ _
    have hb0 : w0.heap[w.heap.size]? = some (.cells #[.int .i64 kd, .int .i64 tk, .string tx, .slice A l.length c] 26 (0, 0)) := by rw [hw0]; exact heap_alloc_new w _
    have hs0 : w0.heap.size = w.heap.size + 1 := by rw [hw0]; simp
    have hrow0 : w0.ownsRow base 23 2 sv pre.length (tkCells pre) := by rw [hw0]; exact hrow.alloc _
    have p0 : w0.cell? ⟨w.heap.size, 0, none⟩ = some (.int .i64 kd) := Lib.cell_of_heap hb0 0
    have p1 : w0.cell? ⟨w.heap.size, 1, none⟩ = some (.int .i64 tk) := Lib.cell_of_heap hb0 1
    have p2 : w0.cell? ⟨w.heap.size, 2, none⟩ = some (.string tx) := Lib.cell_of_heap hb0 2
    have p3 : w0.cell? ⟨w.heap.size, 3, none⟩ = some (.slice A l.length c) := Lib.cell_of_heap hb0 3
    have hnb : sv.ownBlock ≠ some w.heap.size := fun e => by have := (hrow.lt _ e).2; omega
    have hm : deepL l < m + 1 := hm
    have hn : pre.length + (1 + countL l) ≤ 10000000 := hlen
    have hlc := countL_len l
    have hl1 : l.length ≤ 10000000 := by omega
    have hW := Lib.hid hw0
    have HX := Lib.hid (show _ ∧ _ ∧ _ ∧ _ ∧ _ from ⟨hB0, hR0, hs0, hrow0, hk⟩)
    have HIH := Lib.hid IH
    have HN := Lib.hid (show _ ∧ _ from ⟨hm, hn⟩)
    have HT := Lib.hid (show _ ∧ _ from ⟨hwt, hrow⟩)
    clear IH hm hn hlen hk hrow0 hR0 hB0 hlc hwt hrow
    by_cases h1 : kd = 1
    · subst h1
      have hg : gatN (.mk 1 (tk, tx) l) = [(tk, tx)] := rfl
      rw [hg]
      clear hg hb0
      subst hw0
      obtain ⟨i0, hi0, hz0, hz1, hz2⟩ := info_parts infoTok
      have hnb1 : ((w.alloc (.cells #[.int .i64 1, .int .i64 tk, .string tx, .slice A l.length c] 26)).alloc (.cells #[.int .i64 tk, .string tx] 23)).heap[w.heap.size + 1]? = some (.cells #[.int .i64 tk, .string tx] 23 (0, 0)) := alloc_at _ _ _ (by simp)
      have hnews := World.news_of_block hnb1
      have h63 : pre.length + 1 ≤ maxLen := by have := HN.out.2; unfold maxLen; omega
      have hby : (pre.length + 1) * 24 ≤ 140737488355328 := by have := HN.out.2; omega
      have hbs2 : base ≤ ((w.alloc (.cells #[.int .i64 1, .int .i64 tk, .string tx, .slice A l.length c] 26)).alloc (.cells #[.int .i64 tk, .string tx] 23)).heap.size := by simp; omega
      go_enter Tryd.func66, Tryd.ntmps66
      go_wp2_with (at_builtin; refine wpList_append_lies _ rfl _ _ 34 rfl base 23 i0 _ 2 24 Tryd.underlying34 hi0 hz0 hz1 hz2 rfl (by decide) _ _ _ rfl (HX.out.2.2.2.1.alloc _) ⟨w.heap.size + 1, 0, none⟩ 1 1 [.int .i64 tk, .string tx] rfl rfl hnews (by intro u hu; simp at hu; rcases hu with rfl | rfl <;> rfl) (by decide) h63 hby hbs2 (w.heap.size + 2) (by simp) ?_)
      intro g cap w4 hown4 hgrow hat hlt
      have hR4 := (HX.out.2.1.trans (RowTo.alloc _ (.cells #[.int .i64 tk, .string tx] 23))).trans (RowTo.grown (n := pre.length + 1) (cap := cap) hgrow (hat.imp id (fun h => by simp; omega)))
      have hown5 : w4.ownsRow base 23 2 (.slice (some ⟨g, 0, none⟩) (pre.length + 1) cap) (pre ++ [((tk, tx) : Tok)]).length (tkCells (pre ++ [((tk, tx) : Tok)])) := by
        rw [show (pre ++ [((tk, tx) : Tok)]).length = pre.length + 1 by simp, tkCells_append]; exact hown4
      have H5 := Lib.hid (show _ ∧ _ from ⟨hown5, hR4⟩)
      clear hown4 hown5 hgrow hat hlt hR4
      go_wp2_with fail
      go_ret
      exact ⟨_, rfl, H5.out.1, H5.out.2⟩
    · have hg : gatN (.mk kd (tk, tx) l) = gatL l := if_neg h1
      rw [hg]
      have q1 : (kd == 1) = false := beq_false_of_ne h1
      clear hg hw0 hb0 p1 p2
      go_enter Tryd.func66, Tryd.ntmps66
      go_wp2_with fail
      rw [← hW.out]
      go_loopw [5, 6] (fun a0 i wr => ∃ (k : Nat) (a : Value), a = a0 ∧ k ≤ l.length ∧ i = .int .i64 k ∧ wr.ownsRow base 23 2 a (pre ++ gatL (l.take k)).length (tkCells (pre ++ gatL (l.take k))) ∧ RowTo sv a w0 wr) (fun _ i _ => l.length - (intOf i).toNat)
      case atStart => exact ⟨0, _, rfl, Nat.zero_le _, rfl, by simpa [gatL] using HX.out.2.2.2.1, RowTo.refl _ _⟩
      case round =>
        obtain ⟨k, a, rfl, hk, rfl, hrw, hR⟩ := hrel
        have q3 : wr.cell? ⟨w.heap.size, 3, none⟩ = some (.slice A l.length c) := (World.cell?_of_block (w := w0) (a := ⟨w.heap.size, 3, none⟩) (hR.same w.heap.size (by have := HX.out.2.2.1; omega) hnb)).trans p3
        by_cases hlt : k < l.length
        · have hk0 : (0 : Int) ≤ (k : Int) := by omega
          have hk1 : (k : Int) < (l.length : Int) := by omega
          have hx0 : l[k]? = some l[k] := List.getElem?_eq_getElem hlt
          have hBt : Below wt.heap.size wt wr := HT.out.1.trans ((HX.out.2.1.trans hR).below (fun g e => by have := (HT.out.2.lt g e).1; omega) (by omega))
          obtain ⟨b, o, rfl, n0⟩ := HX.out.2.2.2.2 (by omega)
          have n1 := n0.kept hBt
          obtain ⟨x, hx⟩ : ∃ x, x = l[k] := ⟨_, rfl⟩
          rw [← hx] at hx0
          obtain ⟨B1, d1, s1, x0, x1, x2, x3, xk⟩ := n1.get hx0
          obtain ⟨B2, d2, s2, y0, y1, y2, y3, yk⟩ := n0.get hx0
          have hsame : B2 = B1 ∧ d2 = d1 := by
            have := (hBt.cell (p := ⟨b, o + k * 4 + 3, none⟩) s2).symm.trans x3
            rw [y3] at this
            injection this with this
            injection this with h1 h2 h3
            exact ⟨h1, h3⟩
          obtain ⟨rfl, rfl⟩ := hsame
          have hcn := gatL_next hx0
          have hle := gatL_le (l.take k)
          have hxc := countL_next hx0
          have hxd := countL_cut l (k + 1)
          have hdx := deepL_at hx0
          have hcl := HIH.out x (.agg #[.int .i64 x.kind, .int .i64 x.tok.1, .string x.tok.2, .slice B2 x.kids.length d2]) (pre ++ gatL (l.take k)) a wr (by have := HN.out.1; omega) hBt (by have := HX.out.2.2.1; have := hR.size; omega) ⟨B2, d2, rfl, yk⟩ hrw (by have := HN.out.2; rw [List.length_append]; omega)
          rw [List.append_assoc, ← hcn] at hcl
          have HCl := Lib.hid hcl
          have HR := Lib.hid hR
          clear hx hx0 n0 n1 xk yk hcl hcn hle hxc hxd hdx hBt hrw hR y0 y1 y2 y3
          have e3 : IntKind.i64.wrap ((k : Int) + 1) = ((k + 1 : Nat) : Int) := by rw [IntWalk.i64_in _ (by omega)]; omega
          go_wp2_with fail
          refine HCl.out.mono ?_
          rintro e w2 ⟨sv', rfl, hrw2, hR2⟩
          have H2 := Lib.hid (show _ ∧ _ from ⟨hrw2, HR.out.trans hR2⟩)
          clear hrw2 hR2
          go_wp2_with fail
          exact ⟨⟨k + 1, _, rfl, by omega, by go_num, H2.out.1, H2.out.2⟩, by simp [intOf]; omega⟩
        · have hke : k = l.length := by omega
          subst hke
          rw [List.take_length] at hrw
          have H2 := Lib.hid (show _ ∧ _ from ⟨hrw, HX.out.2.1.trans hR⟩)
          clear hrw hR
          go_wp2_with fail
          go_ret
          exact ⟨_, rfl, H2.out.1, H2.out.2⟩

/-- the specification's Leaves -/
theorem RLeavesOf_any (n : Nd) (v : Value) (w : World) (hn : countN n ≤ 10000000) (hV : NodeV w v n) :
    Calls Tryd.prog 27 #[v] w fun e w' => ∃ v', e = .returned v' ∧ w'.ownsRow w.heap.size 23 2 v' (gatN n).length (tkCells (gatN n)) ∧ Below w.heap.size w w' := by
  have hG := fun W (hb : Below w.heap.size w W) => RGather_any w w.heap.size (Nat.le_refl _) (deepN n + 1) n v [] (.slice none 0 0) W (Nat.lt_succ_self _) hb hb.size hV (by simpa [tkCells] using World.ownsRow_nil W w.heap.size 23 2) (by simpa using hn)
  obtain ⟨A, c, rfl, hk⟩ := hV
  have HG := Lib.hid hG
  obtain ⟨w0, hw0⟩ : ∃ w0, w0 = w.alloc (.cells #[.int .i64 n.kind, .int .i64 n.tok.1, .string n.tok.2, .slice A n.kids.length c] 26) := ⟨_, rfl⟩
  have hB0 : Below w.heap.size w w0 := by rw [hw0]; exact (Below.refl _ _).alloc (Nat.le_refl _) _
  have hb0 : w0.heap[w.heap.size]? = some (.cells #[.int .i64 n.kind, .int .i64 n.tok.1, .string n.tok.2, .slice A n.kids.length c] 26 (0, 0)) := by rw [hw0]; exact heap_alloc_new w _
  have HB := Lib.hid (show _ ∧ _ from ⟨hw0, hB0⟩)
  have p0 : w0.cell? ⟨w.heap.size, 0, none⟩ = some (.int .i64 n.kind) := Lib.cell_of_heap hb0 0
  have p1 : w0.cell? ⟨w.heap.size, 1, none⟩ = some (.int .i64 n.tok.1) := Lib.cell_of_heap hb0 1
  have p2 : w0.cell? ⟨w.heap.size, 2, none⟩ = some (.string n.tok.2) := Lib.cell_of_heap hb0 2
  have p3 : w0.cell? ⟨w.heap.size, 3, none⟩ = some (.slice A n.kids.length c) := Lib.cell_of_heap hb0 3
  clear hG hk hb0 hw0 hB0
  go_enter Tryd.func27, Tryd.ntmps27
  go_wp2_with fail
  try rw [← HB.out.1]
  refine (HG.out w0 HB.out.2).mono ?_
  rintro e w2 ⟨sv', rfl, hr, hR⟩
  have H2 := Lib.hid (show _ ∧ _ from ⟨hr, HB.out.2.trans (hR.below (fun g e => by simp [Value.ownBlock] at e) HB.out.2.size)⟩)
  clear hr hR
  go_wp2_with fail
  go_ret
  exact ⟨_, rfl, by simpa using H2.out.1, H2.out.2⟩
end Go.Proofs.YtgihkojlpaebiaaDoor

namespace Go.Proofs.YtgihkojlpaebiaaDoor
set_option linter.unusedVariables false
set_option linter.unusedSimpArgs false
theorem catL_take {l : List Tok} {k : Nat} (h : k < l.length) : catL (l.take (k + 1)) = catL (l.take k) ++ byt l[k].2 := by
  rw [List.take_succ_eq_append_getElem h, catL_append]; simp [catL]
theorem catL_take_le (l : List Tok) (k : Nat) : (catL (l.take k)).length ≤ (catL l).length := by
  have := congrArg List.length (catL_append (l.take k) (l.drop k))
  rw [List.take_append_drop, List.length_append] at this
  omega
end Go.Proofs.YtgihkojlpaebiaaDoor
