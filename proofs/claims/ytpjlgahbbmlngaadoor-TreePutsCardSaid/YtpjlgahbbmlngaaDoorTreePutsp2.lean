/-
  Trees: numbers in a block, the blocks as P says; what Put makes has no long token; a position of numbers.
-/
import Derived.Test.YtpjlgahbbmlngaaDoorTreePutp4
import Derived.Test.YtpjlgahbbmlngaaDoorTreeLeavesp33
import Derived.Test.YtpjlgahbbmlngaaDoorTreeLeavesp26
namespace Go.Proofs.YtpjlgahbbmlngaaDoor
set_option linter.unusedVariables false
set_option linter.unusedSimpArgs false
open Go Go.RowKit

def IntsP (P : Nat → Prop) (w : World) (A : Option Addr) (l : List Int) : Prop :=
  0 < l.length → ∃ b, A = some ⟨b, 0, none⟩ ∧ b < w.heap.size ∧ P b ∧ ∀ (i : Nat) (x : Int), l[i]? = some x → w.cell? ⟨b, i, none⟩ = some (Value.int .i64 x)
theorem IntsP.kept {P P' : Nat → Prop} {w w' : World} {A : Option Addr} {l : List Int} (h : IntsP P w A l) (hs : w.heap.size ≤ w'.heap.size) (hk : ∀ b, P b → b < w.heap.size → w'.heap[b]? = w.heap[b]?) (hp : ∀ b, P b → b < w.heap.size → P' b) : IntsP P' w' A l := fun hl => by
  obtain ⟨b, rfl, h1, h2, h3⟩ := h hl
  exact ⟨b, rfl, Nat.lt_of_lt_of_le h1 hs, hp b h2 h1, fun i x hx => (World.cell?_of_block (w := w) (hk b h2 h1)).trans (h3 i x hx)⟩
theorem IntsP.ints {P : Nat → Prop} {w : World} {A : Option Addr} {l : List Int} (h : IntsP P w A l) : IntsR w A l := fun hl => by
  obtain ⟨b, rfl, h1, h2, h3⟩ := h hl
  exact ⟨b, rfl, h1, h3⟩
theorem IntsP.of_own {w : World} {base : Nat} {v : Value} {l : List Int} (h : w.ownsRow base 3 1 v l.length (intVals l)) : ∃ A c, v = .slice A l.length c ∧ l.length ≤ c ∧ IntsP (fun b => base ≤ b) w A l := by
  obtain ⟨A, c, rfl, hc, hI⟩ := IntsR.of_ownI h
  refine ⟨A, c, rfl, hc, fun hl => ?_⟩
  obtain ⟨b, rfl, h1, h3⟩ := hI hl
  exact ⟨b, rfl, h1, (h.lt b rfl).1, h3⟩
theorem IntsR.toA {w : World} {A : Option Addr} {l : List Int} (h : IntsR w A l) : IntsA w A l := fun hl => by
  obtain ⟨b, rfl, h1, h3⟩ := h hl
  exact ⟨b, 0, rfl, h1, fun i x hx => by rw [Nat.zero_add]; exact h3 i x hx⟩
mutual
theorem putN_sm : ∀ (n : Nd) (p : List Nat) (y : Nd), smT n → smT y → smT (putN n p y)
  | n, [], y, hn, hy => by simpa [putN] using hy
  | .mk k t l, i :: p, y, hn, hy => by
    simp only [putN, Nd.kids, Nd.kind, Nd.tok]
    split
    · rename_i z hz
      exact ⟨hn.1, putL_sm l i p y z hz hn.2 hy⟩
    · exact hn
theorem putL_sm : ∀ (l : List Nd) (i : Nat) (p : List Nat) (y z : Nd), l[i]? = some z → smTL l → smT y → smTL (l.set i (putN z p y))
  | [], i, p, y, z, h, _, _ => by simp at h
  | x :: l, 0, p, y, z, h, hl, hy => by
    obtain rfl := Option.some.inj h
    exact ⟨putN_sm x p y hl.1 hy, hl.2⟩
  | x :: l, i + 1, p, y, z, h, hl, hy => ⟨hl.1, putL_sm l i p y z (by simpa using h) hl.2 hy⟩
end
/-- a position of numbers at which there is something -/
theorem goR_nat : ∀ (l : List Int) (n x : Nd) (b b' : Nat), goR n l b = some (x, b') → ∃ p : List Nat, l = intL p
  | [], n, x, b, b', h => ⟨[], rfl⟩
  | i :: l, n, x, b, b', h => by
    rw [goR_cons] at h
    split at h
    · cases h
    · rename_i hi
      split at h
      · rename_i k hk
        obtain ⟨p, hp⟩ := goR_nat l k x _ b' h
        exact ⟨i.toNat :: p, by rw [hp]; simp only [intL, List.map_cons]; congr 1; omega⟩
      · cases h
end Go.Proofs.YtpjlgahbbmlngaaDoor
