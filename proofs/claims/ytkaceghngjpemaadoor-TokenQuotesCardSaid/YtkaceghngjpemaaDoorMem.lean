/-
  A slice of edits in memory: what it reads as; kept by whatever leaves the old blocks alone.
-/
import Derived.Test.YtkaceghngjpemaaDoorMath
import Derived.WalkKit
import Derived.BigQuiet
import Derived.Deep.QuietTactic
import Derived.Lib.Hide
namespace Go.Proofs.YtkaceghngjpemaaDoor
open Go.RowKit

def edCells (e : Ed) : List Value := [.int .i64 e.f, .int .i64 e.t, .string e.s]
def edsCells (l : List Ed) : List Value := l.flatMap edCells

/-- the slice at A reads as l -/
def EdsV (w : World) (A : Option Addr) (l : List Ed) : Prop :=
  0 < l.length → ∃ b off, A = some ⟨b, off, none⟩ ∧ b < w.heap.size ∧
    ∀ i e, l[i]? = some e → w.cell? ⟨b, off + i * 3, none⟩ = some (.int .i64 e.f) ∧ w.cell? ⟨b, off + i * 3 + 1, none⟩ = some (.int .i64 e.t) ∧
      w.cell? ⟨b, off + i * 3 + 2, none⟩ = some (.string e.s)

theorem EdsV.nil (w : World) (A : Option Addr) : EdsV w A [] := fun h => absurd h (by simp)
theorem EdsV.keep {w w' : World} {A : Option Addr} {l : List Ed} (h : EdsV w A l) (hs : w.heap.size ≤ w'.heap.size) (hc : ∀ b o, b < w.heap.size → w'.cell? ⟨b, o, none⟩ = w.cell? ⟨b, o, none⟩) : EdsV w' A l := by
  intro hl
  obtain ⟨b, off, rfl, hb, hg⟩ := h hl
  exact ⟨b, off, rfl, by omega, fun i e he => by
    obtain ⟨h1, h2, h3⟩ := hg i e he
    exact ⟨by rw [hc _ _ hb]; exact h1, by rw [hc _ _ hb]; exact h2, by rw [hc _ _ hb]; exact h3⟩⟩
theorem EdsV.below {w w' : World} {A : Option Addr} {l : List Ed} (h : EdsV w A l) (hb : Below w.heap.size w w') : EdsV w' A l :=
  h.keep hb.size fun _ _ hlt => hb.cell hlt
theorem EdsV.get {w : World} {A : Option Addr} {l : List Ed} (h : EdsV w A l) {k : Nat} (hk : k < l.length) :
    ∃ b off, A = some ⟨b, off, none⟩ ∧ b < w.heap.size ∧ w.cell? ⟨b, off + k * 3, none⟩ = some (.int .i64 l[k].f) ∧ w.cell? ⟨b, off + k * 3 + 1, none⟩ = some (.int .i64 l[k].t) ∧
      w.cell? ⟨b, off + k * 3 + 2, none⟩ = some (.string l[k].s) := by
  obtain ⟨b, off, rfl, hb, hg⟩ := h (by omega)
  exact ⟨b, off, rfl, hb, hg k _ (List.getElem?_eq_getElem hk)⟩

/-- the same, with naturals for offsets that are not below 0 -/
theorem EdsV.getN {w : World} {A : Option Addr} {l : List Ed} (h : EdsV w A l) {k : Nat} (hk : k < l.length) (h0 : 0 ≤ l[k].f) (h1 : 0 ≤ l[k].t) :
    ∃ (b off x y : Nat) (s : ByteArray), A = some ⟨b, off, none⟩ ∧ b < w.heap.size ∧ w.cell? ⟨b, off + k * 3, none⟩ = some (.int .i64 (x : Int)) ∧ w.cell? ⟨b, off + k * 3 + 1, none⟩ = some (.int .i64 (y : Int)) ∧
      w.cell? ⟨b, off + k * 3 + 2, none⟩ = some (.string s) ∧ l[k] = ⟨x, y, s⟩ := by
  obtain ⟨b, off, rfl, hb, c1, c2, c3⟩ := h.get hk
  refine ⟨b, off, l[k].f.toNat, l[k].t.toNat, l[k].s, rfl, hb, ?_, ?_, c3, ?_⟩
  · rw [Int.toNat_of_nonneg h0]; exact c1
  · rw [Int.toNat_of_nonneg h1]; exact c2
  · rw [Int.toNat_of_nonneg h0, Int.toNat_of_nonneg h1]

theorem edsCells_length (l : List Ed) : (edsCells l).length = l.length * 3 := by
  unfold edsCells
  induction l with
  | nil => rfl
  | cons e l ih => simp [List.flatMap_cons, edCells, ih]; omega
theorem edsCells_get (l : List Ed) : ∀ (i : Nat) (e : Ed), l[i]? = some e → (edsCells l)[i * 3]? = some (.int .i64 e.f) ∧ (edsCells l)[i * 3 + 1]? = some (.int .i64 e.t) ∧ (edsCells l)[i * 3 + 2]? = some (.string e.s) := by
  induction l with
  | nil => intro i e h; simp at h
  | cons x l ih =>
    intro i e h
    have hx : edsCells (x :: l) = .int .i64 x.f :: .int .i64 x.t :: .string x.s :: edsCells l := by simp [edsCells, edCells]
    rw [hx]
    match i with
    | 0 => simp at h; subst h; simp
    | i + 1 =>
      obtain ⟨h1, h2, h3⟩ := ih i e (by simpa using h)
      rw [show (i + 1) * 3 = i * 3 + 3 by omega, show i * 3 + 3 + 1 = i * 3 + 1 + 3 by omega, show i * 3 + 3 + 2 = i * 3 + 2 + 3 by omega]
      exact ⟨by simpa using h1, by simpa using h2, by simpa using h3⟩
theorem edsCells_append (l : List Ed) (e : Ed) : edsCells (l ++ [e]) = edsCells l ++ edCells e := by simp [edsCells]
theorem edsCells_one (l : List Ed) : ∀ u ∈ edsCells l, u.oneCell' = true := by
  intro u hu
  simp only [edsCells, List.mem_flatMap, edCells] at hu
  obtain ⟨e, _, he⟩ := hu
  simp at he
  rcases he with rfl | rfl | rfl <;> rfl

/-- a row of the call's own that holds the cells of l reads as l -/
theorem EdsV.of_own {w : World} {base e : Nat} {v : Value} {l : List Ed} (h : w.ownsRow base e 3 v l.length (edsCells l)) :
    ∃ A c, v = .slice A l.length c ∧ EdsV w A l ∧ (∀ a, A = some a → base ≤ a.block) := by
  rcases h.2 with ⟨rfl, h0⟩ | ⟨g, cap, cur, rfl, hb, hg, hn, hc, hs, ht⟩
  · have : l = [] := List.eq_nil_of_length_eq_zero h0
    subst this
    exact ⟨none, 0, rfl, EdsV.nil _ _, fun a ha => by cases ha⟩
  · refine ⟨some ⟨g, 0, none⟩, cap, rfl, fun hl => ⟨g, 0, rfl, ?_, fun i e he => ?_⟩, fun a ha => by cases ha; exact hb⟩
    · rcases Nat.lt_or_ge g w.heap.size with hlt | hge
      · exact hlt
      · rw [Array.getElem?_eq_none hge] at hg; cases hg
    · obtain ⟨h1, h2, h3⟩ := edsCells_get l i e he
      have hi : i < l.length := by
        rcases Nat.lt_or_ge i l.length with hlt | hge
        · exact hlt
        · rw [List.getElem?_eq_none hge] at he; cases he
      have hcell : ∀ j, j < l.length * 3 → w.cell? ⟨g, j, none⟩ = (edsCells l)[j]? := by
        intro j hj
        rw [← ht, List.getElem?_take_of_lt hj]
        simp [World.cell?, hg]
      simp only [Nat.zero_add]
      exact ⟨by rw [hcell _ (by omega)]; exact h1, by rw [hcell _ (by omega)]; exact h2, by rw [hcell _ (by omega)]; exact h3⟩

theorem ret_bool {a b : Bool} (h : a = b) : Ending.returned (.bool a) = .returned (.bool b) := by rw [h]
theorem ret_int {k : IntKind} {a b : Int} (h : a = b) : Ending.returned (.int k a) = .returned (.int k b) := by rw [h]
theorem ret_str {a b : ByteArray} (h : a = b) : Ending.returned (.string a) = .returned (.string b) := by rw [h]
theorem bcell {W w1 : World} (hb : Below W.heap.size W w1) : (∀ b o, b < W.heap.size → w1.cell? ⟨b, o, none⟩ = W.cell? ⟨b, o, none⟩) ∧ (∀ b o, b < W.heap.size → w1.frozen? ⟨b, o, none⟩ = W.frozen? ⟨b, o, none⟩) :=
  ⟨fun b o h => hb.cell (p := ⟨b, o, none⟩) h, fun b o h => hb.frozen (p := ⟨b, o, none⟩) h⟩
theorem below_drewN {B : Nat} {a w : World} (h : Below B a w) (n : Nat) : Below B a (w.drewN n) := ⟨h.os, h.tape, h.output, h.size, h.block⟩
end Go.Proofs.YtkaceghngjpemaaDoor
