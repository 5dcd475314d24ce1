/-
  Ropes that were made one of the other, in a slice, and their strings in another.
-/
import Derived.Test.YtmbpjjehnfjdiaaShows
namespace Go.Proofs.Ytmbpjjehnfjdiaa
set_option linter.unusedVariables false
set_option linter.unusedSimpArgs false
open Go.RowKit

def bef (l : List (Value × Pc)) (i : Nat) : Value := if i = 0 then .pointer none else ((l[i - 1]?).map Prod.fst).getD (.pointer none)
def Chain (w : World) (l : List (Value × Pc)) : Prop := ∀ (i : Nat) (x : Value × Pc), l[i]? = some x → RopeAt w x.1 x.2 (bef l i) ∧ x.2.size ≤ 20000
theorem Chain.below {w w' : World} {l : List (Value × Pc)} (h : Chain w l) (hb : Below w.heap.size w w') : Chain w' l := fun i x hx => ⟨(h i x hx).1.below hb, (h i x hx).2⟩
theorem bef_append (l : List (Value × Pc)) (y : Value × Pc) (i : Nat) (h : i ≤ l.length) : bef (l ++ [y]) i = bef l i := by
  unfold bef
  by_cases h0 : i = 0
  · rw [if_pos h0, if_pos h0]
  · rw [if_neg h0, if_neg h0, List.getElem?_append_left (by omega)]
theorem bef_last {l : List (Value × Pc)} {x : Value × Pc} {n : Nat} (hn : l.length = n) (h0 : 1 ≤ n) (h : l[n - 1]? = some x) : bef l n = x.1 := by
  unfold bef
  rw [if_neg (by omega), h]; rfl
theorem Chain.snoc {w : World} {l : List (Value × Pc)} (h : Chain w l) {v : Value} {t : Pc} (hr : RopeAt w v t (bef l l.length)) (hz : t.size ≤ 20000) : Chain w (l ++ [(v, t)]) := by
  intro i x hx
  by_cases hi : i < l.length
  · rw [List.getElem?_append_left hi] at hx
    rw [bef_append l _ i (by omega)]
    exact h i x hx
  · by_cases he : i = l.length
    · subst he
      simp at hx
      subst hx
      rw [bef_append l _ _ (Nat.le_refl _)]
      exact ⟨hr, hz⟩
    · rw [List.getElem?_eq_none (by simp; omega)] at hx; cases hx
def rc (l : List (Value × Pc)) : List Value := l.map Prod.fst
def tc (l : List (Value × Pc)) : List Value := l.map fun x => .string (mkB x.2.text)
theorem rc_get {l : List (Value × Pc)} {i : Nat} {x : Value × Pc} (h : l[i]? = some x) : (rc l)[i]? = some x.1 := by simp [rc, h]
theorem tc_get {l : List (Value × Pc)} {i : Nat} {x : Value × Pc} (h : l[i]? = some x) : (tc l)[i]? = some (.string (mkB x.2.text)) := by simp [tc, h]
theorem infoRope : (Try.prog.info? 37).map (fun i => (i.zero, i.size, i.bytes)) = some (some (.pointer none), 1, 8) := by kernel_rfl
theorem infoStr : (Try.prog.info? 9).map (fun i => (i.zero, i.size, i.bytes)) = some (some (.string ByteArray.empty), 1, 16) := by kernel_rfl

theorem own_pos {w : World} {base e size n : Nat} {v : Value} {xs : List Value} (h : w.ownsRow base e size v n xs) (hn : 0 < n) : ∃ g cap, v = .slice (some ⟨g, 0, none⟩) n cap ∧ base ≤ g ∧ g < w.heap.size := by
  obtain ⟨ao, cap, rfl, hao⟩ := own_shape h
  obtain ⟨g, rfl, h1, h2⟩ := hao hn
  exact ⟨g, cap, rfl, h1, h2⟩

/-- blocks of ropes and of pieces are as they were -/
def KeepRP (w w' : World) : Prop := w.heap.size ≤ w'.heap.size ∧ ∀ (b : Nat) (cs : Array Value) (T : TypeId), (T = 99 ∨ T = 74) → w.heap[b]? = some (.cells cs T (0, 0)) → w'.heap[b]? = w.heap[b]?
theorem PcAt.keepT {w w' : World} {B B' : Nat} (hB : B ≤ B') (hk : KeepRP w w') : ∀ {t : Pc} {v : Value}, PcAt w B v t → PcAt w' B' v t
  | .nil, v, h => h
  | .leaf s, v, h => by
    obtain ⟨b, rfl, hb, hh⟩ := h
    exact ⟨b, rfl, by omega, (hk.2 b _ _ (.inl rfl) hh).trans hh⟩
  | .node l r, v, h => by
    obtain ⟨b, vl, vr, rfl, hb, hh, h1, h2, h3⟩ := h
    exact ⟨b, vl, vr, rfl, by omega, (hk.2 b _ _ (.inl rfl) hh).trans hh, h1.keepT hB hk, h2.keepT hB hk, h3⟩
theorem RopeAt.keepT {w w' : World} {v bf : Value} {t : Pc} (h : RopeAt w v t bf) (hk : KeepRP w w') : RopeAt w' v t bf := by
  obtain ⟨r, vroot, rfl, hh, hp, hg⟩ := h
  exact ⟨r, vroot, rfl, (hk.2 r _ _ (.inr rfl) hh).trans hh, hp.keepT hk.1 hk, hg⟩
theorem Chain.keepT {w w' : World} {l : List (Value × Pc)} (h : Chain w l) (hk : KeepRP w w') : Chain w' l := fun i x hx => ⟨(h i x hx).1.keepT hk, (h i x hx).2⟩
theorem keepRP_grown {w w1 w' : World} {base e size n : Nat} {v : Value} {xs : List Value} (hb : Below w.heap.size w w1) (hg : w1.grownBy w' v.ownBlock) (hown : w.ownsRow base e size v n xs) (hn : 0 < n) (h1 : e ≠ 99) (h2 : e ≠ 74) : KeepRP w w' := by
  refine ⟨Nat.le_trans hb.size hg.size, fun b cs T hT hh => ?_⟩
  have hlt : b < w.heap.size := lt_of hh
  rw [hg.block b (Nat.lt_of_lt_of_le hlt hb.size) ?_, hb.block b hlt]
  intro he
  rcases hown.2 with ⟨_, h⟩ | ⟨g, cap, cur, rfl, _, hg2, _⟩
  · omega
  · have : b = g := by simpa [Value.ownBlock] using he
    subst this
    rw [hh] at hg2
    have hTe : T = e := by simpa using (congrArg (fun o => match o with | some (Obj.cells _ T _) => T | _ => 0) hg2)
    rcases hT with hT | hT
    · exact h1 (hTe.symm.trans hT)
    · exact h2 (hTe.symm.trans hT)
theorem own_other {w : World} {base e size n base' e' size' n' : Nat} {v v' : Value} {xs xs' : List Value} (h : w.ownsRow base e size v n xs) (h' : w.ownsRow base' e' size' v' n' xs') (hn : 0 < n) (hn' : 0 < n') (he : e ≠ e') : v.ownBlock ≠ v'.ownBlock := by
  rcases h.2 with ⟨_, h⟩ | ⟨g, cap, cur, rfl, _, hg, _⟩
  · omega
  · rcases h'.2 with ⟨_, h⟩ | ⟨g', cap', cur', rfl, _, hg', _⟩
    · omega
    · intro hh
      have : g = g' := by simpa [Value.ownBlock] using hh
      subst this
      rw [hg] at hg'
      exact he (by simpa using (congrArg (fun o => match o with | some (Obj.cells _ T _) => T | _ => 0) hg'))
theorem box_kept {w w' : World} {g : Nat} {v0 v1 : Value} (hb : Below w.heap.size w w') (hlt : g < w.heap.size) (h0 : w.cell? ⟨g, 0, none⟩ = some v0) (h1 : w.cell? ⟨g, 1, none⟩ = some v1) :
    Below w.heap.size w w' ∧ w'.cell? ⟨g, 0, none⟩ = some v0 ∧ w'.cell? ⟨g, 1, none⟩ = some v1 := ⟨hb, ((bcell hb).1 g 0 hlt).trans h0, ((bcell hb).1 g 1 hlt).trans h1⟩
theorem box_kept4 {w w' : World} {g p q i j : Nat} {v0 v1 v2 v3 : Value} (hb : Below w.heap.size w w') (hlt : g < w.heap.size) (h0 : w.cell? ⟨g, 0, none⟩ = some v0) (h1 : w.cell? ⟨g, 1, none⟩ = some v1)
    (hp : p < w.heap.size) (hq : q < w.heap.size) (h2 : w.cell? ⟨p, i, none⟩ = some v2) (h3 : w.cell? ⟨q, j, none⟩ = some v3) :
    Below w.heap.size w w' ∧ w'.cell? ⟨g, 0, none⟩ = some v0 ∧ w'.cell? ⟨g, 1, none⟩ = some v1 ∧ w'.cell? ⟨p, i, none⟩ = some v2 ∧ w'.cell? ⟨q, j, none⟩ = some v3 :=
  ⟨hb, ((bcell hb).1 g 0 hlt).trans h0, ((bcell hb).1 g 1 hlt).trans h1, ((bcell hb).1 p i hp).trans h2, ((bcell hb).1 q j hq).trans h3⟩
theorem EdsV.keepAt {w w' : World} {A : Option Addr} {l : List Ed} (h : EdsV w A l) (hs : w.heap.size ≤ w'.heap.size) (hc : ∀ b off, A = some ⟨b, off, none⟩ → b < w.heap.size → w'.heap[b]? = w.heap[b]?) : EdsV w' A l := by
  intro hl
  obtain ⟨b, off, rfl, hb, hg⟩ := h hl
  have he : ∀ o, w'.cell? ⟨b, o, none⟩ = w.cell? ⟨b, o, none⟩ := fun o => World.cell?_of_block (w := w) (hc b off rfl hb)
  exact ⟨b, off, rfl, by omega, fun i e hi => by
    obtain ⟨h1, h2, h3⟩ := hg i e hi
    exact ⟨by rw [he]; exact h1, by rw [he]; exact h2, by rw [he]; exact h3⟩⟩
theorem Cut_new (m : Nat) (c : Nat) (A : Option Addr) (l : List Ed) (w : World) (hl : l.length ≤ maxLen) (hs : ∀ e ∈ l, e.s.size ≤ maxLen) (hE : EdsV w A l) :
    Calls Try.prog 9 #[.slice A l.length c, .int .i64 m] w fun e w' => ∃ A' c', e = .returned (.slice A' (cutL m l).length c') ∧ EdsV w' A' (cutL m l) ∧ (∀ a, A' = some a → w.heap.size ≤ a.block) ∧ Below w.heap.size w w' :=
  (Cut_own m c A l w hl hs hE).mono fun e w' ⟨v, he, ho, hb⟩ => by
    obtain ⟨A', c', rfl, h1, h2⟩ := EdsV.of_own ho
    exact ⟨A', c', he, h1, h2, hb⟩
theorem rc_snoc (l : List (Value × Pc)) (v : Value) (t : Pc) : rc (l ++ [(v, t)]) = rc l ++ [v] := by simp [rc]
theorem tc_snoc (l : List (Value × Pc)) (v : Value) (t : Pc) : tc (l ++ [(v, t)]) = tc l ++ [.string (mkB t.text)] := by simp [tc]
theorem bef_zero (l : List (Value × Pc)) : bef l 0 = .pointer none := rfl
theorem bef_succ {l : List (Value × Pc)} {i : Nat} {x : Value × Pc} (h : l[i]? = some x) : bef l (i + 1) = x.1 := by unfold bef; rw [if_neg (by omega)]; simp [h]
end Go.Proofs.Ytmbpjjehnfjdiaa
