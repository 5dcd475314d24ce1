/-
  Trees: nodes in memory none of whose blocks serves twice; what a store at a position turns them into.
-/
import Derived.Test.YtpjlgahbbmlngaaDoorTreeLeavesp31
import Derived.Test.YtpjlgahbbmlngaaDoorTreeLeavesp30
import Derived.Test.YtpjlgahbbmlngaaDoorTreeLeavesp32
namespace Go.Proofs.YtpjlgahbbmlngaaDoor
set_option linter.unusedVariables false
set_option linter.unusedSimpArgs false
open Go Go.RowKit

/-- a block of cells, none of them frozen -/
def OpenB (w : World) (b : Nat) : Prop := ∃ cs t, w.heap[b]? = some (.cells cs t (0, 0))
theorem OpenB.lt {w : World} {b : Nat} (h : OpenB w b) : b < w.heap.size := by
  obtain ⟨cs, t, h⟩ := h
  exact (Array.getElem?_eq_some_iff.1 h).1
theorem OpenB.same {w w' : World} {b : Nat} (h : OpenB w b) (he : w'.heap[b]? = w.heap[b]?) : OpenB w' b := by
  obtain ⟨cs, t, h⟩ := h
  exact ⟨cs, t, he.trans h⟩
/-- nodes one behind the other in block b; S: the blocks of what is in them, b is not meant; none of these serves twice -/
inductive NdsU (w : World) : (Nat → Prop) → Nat → Nat → List Nd → Prop
  | nil {S : Nat → Prop} {b o : Nat} : NdsU w S b o []
  | leaf {S : Nat → Prop} {b o : Nat} {k tk : Int} {tx : ByteArray} {A : Option Addr} {c : Nat} {l : List Nd} : OpenB w b → w.cell? ⟨b, o, none⟩ = some (.int .i64 k) → w.cell? ⟨b, o + 1, none⟩ = some (.int .i64 tk) → w.cell? ⟨b, o + 2, none⟩ = some (.string tx) → w.cell? ⟨b, o + 3, none⟩ = some (.slice A 0 c) → NdsU w S b (o + 4) l → NdsU w S b o (.mk k (tk, tx) [] :: l)
  | node {S S1 S2 : Nat → Prop} {b o b' o' : Nat} {k tk : Int} {tx : ByteArray} {c : Nat} {n : Nd} {m l : List Nd} : OpenB w b → w.cell? ⟨b, o, none⟩ = some (.int .i64 k) → w.cell? ⟨b, o + 1, none⟩ = some (.int .i64 tk) → w.cell? ⟨b, o + 2, none⟩ = some (.string tx) → w.cell? ⟨b, o + 3, none⟩ = some (.slice (some ⟨b', o', none⟩) (n :: m).length c) → (n :: m).length ≤ c →
      S b' → (∀ x, S1 x → S x) → (∀ x, S2 x → S x) → ¬ S1 b' → ¬ S2 b' → (∀ x, S1 x → ¬ S2 x) → NdsU w S1 b' o' (n :: m) → NdsU w S2 b (o + 4) l → NdsU w S b o (.mk k (tk, tx) (n :: m) :: l)
theorem NdsU.opn {w : World} {S : Nat → Prop} {b o : Nat} {l : List Nd} (h : NdsU w S b o l) (hl : 0 < l.length) : OpenB w b := by
  cases h with
  | nil => simp at hl
  | leaf h1 => exact h1
  | node h1 => exact h1
theorem NdsU.lt {w : World} {S : Nat → Prop} {b o : Nat} {l : List Nd} (h : NdsU w S b o l) (hl : 0 < l.length) : b < w.heap.size := (h.opn hl).lt
theorem NdsU.keptC {w W' : World} {S : Nat → Prop} {b o : Nat} {l : List Nd} (h : NdsU w S b o l) : w.heap.size ≤ W'.heap.size → (OpenB w b → OpenB W' b) → (∀ j, o ≤ j → W'.cell? ⟨b, j, none⟩ = w.cell? ⟨b, j, none⟩) → (∀ k, S k → k < w.heap.size → W'.heap[k]? = w.heap[k]?) → NdsU W' S b o l := by
  induction h with
  | nil => intro _ _ _ _; exact .nil
  | leaf h1 c0 c1 c2 c3 _ ih =>
    intro hs ho hc hS
    exact .leaf (ho h1) ((hc _ (by omega)).trans c0) ((hc _ (by omega)).trans c1) ((hc _ (by omega)).trans c2) ((hc _ (by omega)).trans c3) (ih hs ho (fun j hj => hc j (by omega)) hS)
  | @node S S1 S2 b o b' o' k tk tx c n m l h1 c0 c1 c2 c3 hl s1 s2 s3 s4 s5 s6 hk _ ih1 ih2 =>
    intro hs ho hc hS
    have hb' : b' < w.heap.size := hk.lt (by simp)
    exact .node (ho h1) ((hc _ (by omega)).trans c0) ((hc _ (by omega)).trans c1) ((hc _ (by omega)).trans c2) ((hc _ (by omega)).trans c3) hl s1 s2 s3 s4 s5 s6
      (ih1 hs (fun h => h.same (hS b' s1 hb')) (fun j _ => World.cell?_of_block (w := w) (a := ⟨b', j, none⟩) (hS b' s1 hb')) (fun k hk => hS k (s2 k hk))) (ih2 hs ho (fun j hj => hc j (by omega)) (fun k hk => hS k (s3 k hk)))
theorem NdsU.at_ {w : World} {P S : Nat → Prop} {b o : Nat} {l : List Nd} (h : NdsU w S b o l) : P b → (∀ x, S x → P x) → NdsP P w b o l := by
  induction h with
  | nil => intro _ _; exact .nil
  | leaf h1 c0 c1 c2 c3 _ ih => intro pb pS; exact .leaf pb h1.lt c0 c1 c2 c3 (ih pb pS)
  | node h1 c0 c1 c2 c3 hl s1 s2 s3 _ _ _ _ _ ih1 ih2 => intro pb pS; exact .node pb h1.lt c0 c1 c2 c3 hl (ih1 (pS _ s1) (fun x hx => pS x (s2 x hx))) (ih2 pb (fun x hx => pS x (s3 x hx)))
theorem NdsU.mono {w : World} {S S' : Nat → Prop} {b o : Nat} {l : List Nd} (h : NdsU w S b o l) : (∀ x, S x → S' x) → NdsU w S' b o l := by
  induction h with
  | nil => intro _; exact .nil
  | leaf h1 c0 c1 c2 c3 _ ih => intro hS; exact .leaf h1 c0 c1 c2 c3 (ih hS)
  | node h1 c0 c1 c2 c3 hl s1 s2 s3 s4 s5 s6 hk h2 _ _ => intro hS; exact .node h1 c0 c1 c2 c3 hl (hS _ s1) (fun x hx => hS x (s2 x hx)) (fun x hx => hS x (s3 x hx)) s4 s5 s6 hk h2
/-- a slice of such nodes; S: its block, and all in it -/
def KidsU (S : Nat → Prop) (w : World) (A : Option Addr) (l : List Nd) : Prop := 0 < l.length → ∃ b o, ∃ S1 : Nat → Prop, A = some ⟨b, o, none⟩ ∧ S b ∧ ¬ S1 b ∧ (∀ x, S1 x → S x) ∧ NdsU w S1 b o l
theorem KidsU.mono {S S' : Nat → Prop} {w : World} {A : Option Addr} {l : List Nd} (h : KidsU S w A l) (hS : ∀ x, S x → S' x) : KidsU S' w A l := fun hl => by
  obtain ⟨b, o, S1, h1, h2, h3, h4, h5⟩ := h hl
  exact ⟨b, o, S1, h1, hS _ h2, h3, fun x hx => hS x (h4 x hx), h5⟩
theorem KidsU.kept {S : Nat → Prop} {w w' : World} {A : Option Addr} {l : List Nd} (h : KidsU S w A l) (hs : w.heap.size ≤ w'.heap.size) (hk : ∀ k, S k → k < w.heap.size → w'.heap[k]? = w.heap[k]?) : KidsU S w' A l := fun hl => by
  obtain ⟨b, o, S1, h1, h2, h3, h4, h5⟩ := h hl
  have hb := h5.lt hl
  exact ⟨b, o, S1, h1, h2, h3, h4, h5.keptC hs (fun h => h.same (hk b h2 hb)) (fun j _ => World.cell?_of_block (w := w) (a := ⟨b, j, none⟩) (hk b h2 hb)) (fun k hx => hk k (h4 k hx))⟩
theorem KidsU.kids {S P : Nat → Prop} {w : World} {A : Option Addr} {l : List Nd} (h : KidsU S w A l) (hP : ∀ x, S x → P x) : KidsP P w A l := fun hl => by
  obtain ⟨b, o, S1, h1, h2, h3, h4, h5⟩ := h hl
  exact ⟨b, o, h1, h5.at_ (hP _ h2) (fun x hx => hP x (h4 x hx))⟩
theorem NdsU.add {S Sy S2 : Nat → Prop} {w : World} {b o : Nat} {l : List Nd} : ∀ (y : Pn), OpenB w b → w.cell? ⟨b, o, none⟩ = some (.int .i64 y.1.kind) → w.cell? ⟨b, o + 1, none⟩ = some (.int .i64 y.1.tok.1) → w.cell? ⟨b, o + 2, none⟩ = some (.string y.1.tok.2) → w.cell? ⟨b, o + 3, none⟩ = some (.slice y.2.1 y.1.kids.length y.2.2) →
    y.1.kids.length ≤ y.2.2 → KidsU Sy w y.2.1 y.1.kids → (∀ x, Sy x → S x) → (∀ x, S2 x → S x) → (∀ x, Sy x → ¬ S2 x) → NdsU w S2 b (o + 4) l → NdsU w S b o (y.1 :: l)
  | (.mk k (tk, tx) [], A, c), h1, c0, c1, c2, c3, _, _, _, h2, _, hl => .leaf h1 c0 c1 c2 c3 (hl.mono h2)
  | (.mk k (tk, tx) (n :: m), A, c), h1, c0, c1, c2, c3, hc, hk, hy, h2, hd, hl => by
    obtain ⟨b', o', S1, rfl, g1, g2, g3, g4⟩ := hk (by simp [Nd.kids])
    exact .node h1 c0 c1 c2 c3 hc (hy _ g1) (fun x hx => hy x (g3 x hx)) h2 g2 (hd _ g1) (fun x hx => hd x (g3 x hx)) g4 hl
theorem NdsU.of_cells {w : World} {b : Nat} (hb : OpenB w b) (Sf : Nat → Nat → Prop) (hd : ∀ i j x, Sf i x → Sf j x → i = j) : ∀ (ys : List Pn) (o i0 : Nat),
    (∀ (i : Nat) (y : Pn), ys[i]? = some y → w.cell? ⟨b, o + i * 4, none⟩ = some (.int .i64 y.1.kind) ∧ w.cell? ⟨b, o + i * 4 + 1, none⟩ = some (.int .i64 y.1.tok.1) ∧ w.cell? ⟨b, o + i * 4 + 2, none⟩ = some (.string y.1.tok.2) ∧ w.cell? ⟨b, o + i * 4 + 3, none⟩ = some (.slice y.2.1 y.1.kids.length y.2.2) ∧ y.1.kids.length ≤ y.2.2 ∧ KidsU (Sf (i0 + i)) w y.2.1 y.1.kids) →
    NdsU w (fun x => ∃ j, i0 ≤ j ∧ Sf j x) b o (ys.map (·.1))
  | [], _, _, _ => .nil
  | y :: ys, o, i0, h => by
    obtain ⟨c0, c1, c2, c3, hc, hk⟩ := h 0 y rfl
    simp only [Nat.zero_mul, Nat.add_zero] at c0 c1 c2 c3 hk
    have ih := NdsU.of_cells hb Sf hd ys (o + 4) (i0 + 1) fun i z hz => by
      have := h (i + 1) z (by simpa using hz)
      rw [show o + 4 + i * 4 = o + (i + 1) * 4 by omega, show i0 + 1 + i = i0 + (i + 1) by omega]
      exact this
    exact NdsU.add y hb c0 c1 c2 c3 hc hk (fun x hx => ⟨i0, Nat.le_refl _, hx⟩) (fun x ⟨j, hj, hx⟩ => ⟨j, by omega, hx⟩) (fun x hx ⟨j, hj, hx2⟩ => by have := hd _ _ _ hx hx2; omega) ih
/-- the block of a slice of so many nodes is open -/
def OpenK (P : Nat → Prop) (w : World) (A : Option Addr) (k : Nat) : Prop := 0 < k → ∃ b o, A = some ⟨b, o, none⟩ ∧ OpenB w b ∧ P b
theorem OpenK.kept {P P' : Nat → Prop} {w w' : World} {A : Option Addr} {k : Nat} (h : OpenK P w A k) (hk : ∀ b, P b → b < w.heap.size → w'.heap[b]? = w.heap[b]?) (hp : ∀ b, P b → P' b) : OpenK P' w' A k := fun hl => by
  obtain ⟨b, o, h1, h2, h3⟩ := h hl
  exact ⟨b, o, h1, h2.same (hk b h3 h2.lt), hp b h3⟩
theorem KidsU.open_ {P S : Nat → Prop} {w : World} {A : Option Addr} {l : List Nd} (h : KidsU S w A l) (hP : ∀ x, S x → P x) : OpenK P w A l.length := fun hl => by
  obtain ⟨b, o, S1, h1, h2, h3, h4, h5⟩ := h hl
  exact ⟨b, o, h1, h5.opn hl, hP b h2⟩
/-- what turns the nodes into others at one index -/
structure Turned (P : Nat → Prop) (w W' : World) (b o : Nat) (S : Nat → Prop) (y : Nd) (A' : Option Addr) (c' : Nat) : Prop where
  size : w.heap.size ≤ W'.heap.size
  opn : OpenB W' b
  block : ∀ k, k < w.heap.size → k ≠ b → ¬ S k → W'.heap[k]? = w.heap[k]?
  cells : ∀ j, j < o ∨ o + 4 ≤ j → W'.cell? ⟨b, j, none⟩ = w.cell? ⟨b, j, none⟩
  c0 : W'.cell? ⟨b, o, none⟩ = some (.int .i64 y.kind)
  c1 : W'.cell? ⟨b, o + 1, none⟩ = some (.int .i64 y.tok.1)
  c2 : W'.cell? ⟨b, o + 2, none⟩ = some (.string y.tok.2)
  c3 : W'.cell? ⟨b, o + 3, none⟩ = some (.slice A' y.kids.length c')
  cap : y.kids.length ≤ c'
  kids : KidsP P W' A' y.kids
  opnK : OpenK P W' A' y.kids.length
theorem NdsP.addT {P : Nat → Prop} {w : World} {b o : Nat} {y : Nd} {A : Option Addr} {c : Nat} {l : List Nd} (pb : P b) (h1 : b < w.heap.size) (c0 : w.cell? ⟨b, o, none⟩ = some (.int .i64 y.kind)) (c1 : w.cell? ⟨b, o + 1, none⟩ = some (.int .i64 y.tok.1)) (c2 : w.cell? ⟨b, o + 2, none⟩ = some (.string y.tok.2)) (c3 : w.cell? ⟨b, o + 3, none⟩ = some (.slice A y.kids.length c))
    (hc : y.kids.length ≤ c) (hk : KidsP P w A y.kids) (hl : NdsP P w b (o + 4) l) : NdsP P w b o (y :: l) := NdsP.add (y, A, c) pb h1 c0 c1 c2 c3 hc hk hl
/-- one of the nodes: its cells, its kids' blocks, and what becomes of all when it alone is turned -/
theorem NdsU.hole {P : Nat → Prop} {w : World} : ∀ {l : List Nd} {S : Nat → Prop} {b o : Nat}, NdsU w S b o l → ¬ S b → P b → (∀ x, S x → P x) → ∀ {i : Nat} {z : Nd}, l[i]? = some z → ∃ A c, ∃ Si : Nat → Prop, OpenB w b ∧ w.cell? ⟨b, o + i * 4, none⟩ = some (.int .i64 z.kind) ∧ w.cell? ⟨b, o + i * 4 + 1, none⟩ = some (.int .i64 z.tok.1) ∧ w.cell? ⟨b, o + i * 4 + 2, none⟩ = some (.string z.tok.2) ∧ w.cell? ⟨b, o + i * 4 + 3, none⟩ = some (.slice A z.kids.length c) ∧ z.kids.length ≤ c ∧ (∀ x, Si x → S x) ∧ KidsU Si w A z.kids ∧
      ∀ (W' : World) (y : Nd) (A' : Option Addr) (c' : Nat), Turned P w W' b (o + i * 4) Si y A' c' → NdsP P W' b o (l.set i y)
  | [], _, _, _, _, _, _, _, i, z, h => by simp at h
  | _ :: l, S, b, o, .leaf (A := A) (c := c) h1 c0 c1 c2 c3 h2, hb, pb, pS, 0, z, h => by
    obtain rfl := Option.some.inj h
    simp only [Nat.zero_mul, Nat.add_zero]
    refine ⟨A, c, fun _ => False, h1, c0, c1, c2, c3, Nat.zero_le _, (fun x h => h.elim), (fun hl => by simp [Nd.kids] at hl), fun W' y A' c' t => ?_⟩
    have hr := (h2.keptC t.size (fun _ => t.opn) (fun j hj => t.cells j (.inr hj)) (fun k hk hlt => t.block k hlt (fun e => hb (by rw [← e]; exact hk)) (fun h => h))).at_ pb pS
    exact NdsP.addT pb t.opn.lt t.c0 t.c1 t.c2 t.c3 t.cap t.kids hr
  | _ :: l, S, b, o, .node (S1 := S1) (S2 := S2) (b' := b') (o' := o') (c := c) h1 c0 c1 c2 c3 hl s1 s2 s3 s4 s5 s6 hk h2, hb, pb, pS, 0, z, h => by
    obtain rfl := Option.some.inj h
    simp only [Nat.zero_mul, Nat.add_zero]
    refine ⟨_, c, fun x => x = b' ∨ S1 x, h1, c0, c1, c2, c3, hl, (fun x h => h.elim (fun e => by rw [e]; exact s1) (s2 x)), (fun _ => ⟨b', o', S1, rfl, .inl rfl, s4, fun x hx => .inr hx, hk⟩), fun W' y A' c' t => ?_⟩
    have hr := (h2.keptC t.size (fun _ => t.opn) (fun j hj => t.cells j (.inr hj)) (fun k hk hlt => t.block k hlt (fun e => hb (by rw [← e]; exact s3 k hk)) (fun h => h.elim (fun e => s5 (by rw [← e]; exact hk)) (fun h => s6 k h hk)))).at_ pb (fun x hx => pS x (s3 x hx))
    exact NdsP.addT pb t.opn.lt t.c0 t.c1 t.c2 t.c3 t.cap t.kids hr
  | _ :: l, S, b, o, .leaf h1 c0 c1 c2 c3 h2, hb, pb, pS, i + 1, z, h => by
    obtain ⟨A, c, Si, g1, g2, g3, g4, g5, g6, g7, g8, g9⟩ := h2.hole hb pb pS (i := i) (z := z) (by simpa using h)
    rw [show o + (i + 1) * 4 = o + 4 + i * 4 by omega]
    refine ⟨A, c, Si, g1, g2, g3, g4, g5, g6, g7, g8, fun W' y A' c' t => ?_⟩
    have hr := g9 W' y A' c' t
    rw [List.set_cons_succ]
    exact .leaf pb t.opn.lt ((t.cells _ (by omega)).trans c0) ((t.cells _ (by omega)).trans c1) ((t.cells _ (by omega)).trans c2) ((t.cells _ (by omega)).trans c3) hr
  | _ :: l, S, b, o, .node (S1 := S1) (S2 := S2) (b' := b') h1 c0 c1 c2 c3 hl s1 s2 s3 s4 s5 s6 hk h2, hb, pb, pS, i + 1, z, h => by
    obtain ⟨A, c, Si, g1, g2, g3, g4, g5, g6, g7, g8, g9⟩ := h2.hole (fun e => hb (s3 _ e)) pb (fun x hx => pS x (s3 x hx)) (i := i) (z := z) (by simpa using h)
    rw [show o + (i + 1) * 4 = o + 4 + i * 4 by omega]
    refine ⟨A, c, Si, g1, g2, g3, g4, g5, g6, fun x hx => s3 x (g7 x hx), g8, fun W' y A' c' t => ?_⟩
    have hr := g9 W' y A' c' t
    rw [List.set_cons_succ]
    have hb' : b' < w.heap.size := hk.lt (by simp)
    have hbb : b' ≠ b := fun e => hb (by rw [← e]; exact s1)
    have hk' := (hk.keptC t.size (fun h => h.same (t.block b' hb' hbb (fun e => s5 (g7 _ e)))) (fun j _ => World.cell?_of_block (w := w) (a := ⟨b', j, none⟩) (t.block b' hb' hbb (fun e => s5 (g7 _ e)))) (fun k hx hlt => t.block k hlt (fun e => hb (by rw [← e]; exact s2 k hx)) (fun e => s6 k hx (g7 _ e)))).at_ (pS _ s1) (fun x hx => pS x (s2 x hx))
    exact .node pb t.opn.lt ((t.cells _ (by omega)).trans c0) ((t.cells _ (by omega)).trans c1) ((t.cells _ (by omega)).trans c2) ((t.cells _ (by omega)).trans c3) hl hk' hr

/-- a tree with another Node at a position -/
def putN : Nd → List Nat → Nd → Nd
  | _, [], y => y
  | n, i :: p, y => match n.kids[i]? with
    | some k => .mk n.kind n.tok (n.kids.set i (putN k p y))
    | none => n
theorem putN_snoc : ∀ {p : List Nat} {n x z : Nd} {i : Nat} (y : Nd), atN n p = some x → x.kids[i]? = some z → putN n (p ++ [i]) y = putN n p (.mk x.kind x.tok (x.kids.set i y))
  | [], n, x, z, i, y, h, hz => by
    obtain rfl := Option.some.inj h
    simp [putN, hz]
  | j :: p, n, x, z, i, y, h, hz => by
    simp only [List.cons_append, putN]
    simp only [atN] at h
    cases hj : n.kids[j]? with
    | none => simp [hj] at h
    | some k =>
      simp only [hj] at h ⊢
      rw [putN_snoc y h hz]
/-- a way down from a root in block r to what lies at (b, o): x, whose kids' blocks are S; what becomes of the root when x alone is turned -/
structure Hole (P : Nat → Prop) (w : World) (r : Nat) (n : Nd) (p : List Nat) (b o : Nat) (x : Nd) (A : Option Addr) (c : Nat) (S : Nat → Prop) : Prop where
  at_ : atN n p = some x
  opn : OpenB w b
  c0 : w.cell? ⟨b, o, none⟩ = some (.int .i64 x.kind)
  c1 : w.cell? ⟨b, o + 1, none⟩ = some (.int .i64 x.tok.1)
  c2 : w.cell? ⟨b, o + 2, none⟩ = some (.string x.tok.2)
  c3 : w.cell? ⟨b, o + 3, none⟩ = some (.slice A x.kids.length c)
  cap : x.kids.length ≤ c
  kids : KidsU S w A x.kids
  off : ¬ S b
  pb : P b
  pS : ∀ x, S x → P x
  wand : ∀ (W' : World) (y : Nd) (A' : Option Addr) (c' : Nat), Turned P w W' b o S y A' c' → ∃ A'' c'', W'.cell? ⟨r, 0, none⟩ = some (.int .i64 (putN n p y).kind) ∧ W'.cell? ⟨r, 1, none⟩ = some (.int .i64 (putN n p y).tok.1) ∧ W'.cell? ⟨r, 2, none⟩ = some (.string (putN n p y).tok.2) ∧ W'.cell? ⟨r, 3, none⟩ = some (.slice A'' (putN n p y).kids.length c'') ∧ (putN n p y).kids.length ≤ c'' ∧ KidsP P W' A'' (putN n p y).kids ∧ OpenK P W' A'' (putN n p y).kids.length
theorem Hole.root {P : Nat → Prop} {w : World} {r : Nat} {n : Nd} {A : Option Addr} {c : Nat} {S : Nat → Prop} (h : w.heap[r]? = some (.cells (nodeCells n A c) 26 (0, 0))) (hc : n.kids.length ≤ c) (hk : KidsU S w A n.kids) (hr : ¬ S r) (pr : P r) (pS : ∀ x, S x → P x) : Hole P w r n [] r 0 n A c S := by
  obtain ⟨q0, q1, q2, q3⟩ := cells_of_block h
  exact ⟨rfl, ⟨_, _, h⟩, q0, q1, q2, q3, hc, hk, hr, pr, pS, fun W' y A' c' t => ⟨A', c', t.c0, t.c1, t.c2, t.c3, t.cap, t.kids, t.opnK⟩⟩
theorem Hole.down {P : Nat → Prop} {w : World} {r : Nat} {n x z : Nd} {p : List Nat} {b o i : Nat} {A : Option Addr} {c : Nat} {S : Nat → Prop} (h : Hole P w r n p b o x A c S) (hz : x.kids[i]? = some z) :
    ∃ b' o' A1 c1, ∃ S1 : Nat → Prop, A = some ⟨b', o', none⟩ ∧ Hole P w r n (p ++ [i]) b' (o' + i * 4) z A1 c1 S1 := by
  have hl : 0 < x.kids.length := by have := (List.getElem?_eq_some_iff.1 hz).1; omega
  obtain ⟨b', o', S1, rfl, g1, g2, g3, g4⟩ := h.kids hl
  obtain ⟨A1, c1, Si, k1, k2, k3, k4, k5, k6, k7, k8, k9⟩ := g4.hole g2 (h.pS _ g1) (fun x hx => h.pS x (g3 x hx)) hz
  refine ⟨b', o', A1, c1, Si, rfl, ⟨atN_snoc p n x z i h.at_ hz, k1, k2, k3, k4, k5, k6, k8, fun e => g2 (k7 _ e), h.pS _ g1, fun x hx => h.pS x (g3 x (k7 x hx)), fun W' y A' c' t => ?_⟩⟩
  have hbb : b ≠ b' := fun e => h.off (by rw [e]; exact g1)
  have hbs : ¬ Si b := fun e => h.off (g3 _ (k7 _ e))
  have hbk := t.block b h.opn.lt hbb hbs
  have hcl : ∀ j, W'.cell? ⟨b, j, none⟩ = w.cell? ⟨b, j, none⟩ := fun j => World.cell?_of_block (w := w) (a := ⟨b, j, none⟩) hbk
  rw [putN_snoc y h.at_ hz]
  refine h.wand W' (.mk x.kind x.tok (x.kids.set i y)) (some ⟨b', o', none⟩) c ⟨t.size, h.opn.same hbk, fun k hk1 hk2 hk3 => t.block k hk1 (fun e => hk3 (by rw [e]; exact g1)) (fun e => hk3 (g3 _ (k7 _ e))), fun j _ => hcl j, (hcl _).trans h.c0, (hcl _).trans h.c1, (hcl _).trans h.c2, ?_, by simpa [Nd.kids] using h.cap, fun _ => ⟨b', o', rfl, k9 W' y A' c' t⟩, fun _ => ⟨b', o', rfl, t.opn, h.pS _ g1⟩⟩
  rw [hcl, h.c3]
  simp [Nd.kids]
end Go.Proofs.YtpjlgahbbmlngaaDoor
