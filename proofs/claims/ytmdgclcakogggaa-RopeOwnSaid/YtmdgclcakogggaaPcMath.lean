/-
  Plain mathematics of trees of pieces.
-/
import Derived.Test.YtmdgclcakogggaaMathC
namespace Go.Proofs.Ytmdgclcakogggaa
set_option linter.unusedVariables false
set_option linter.unusedSimpArgs false

inductive Pc where
  | nil
  | leaf (s : ByteArray)
  | node (l r : Pc)

def feedsL (l : List UInt8) : Nat := (l.filter (· == 10)).length
theorem feedsL_append (a b : List UInt8) : feedsL (a ++ b) = feedsL a + feedsL b := by simp [feedsL]
theorem feedsL_le (a : List UInt8) : feedsL a ≤ a.length := List.length_filter_le _ _
theorem feedsL_take (x : List UInt8) (k : Nat) (h : k < x.length) : feedsL (x.take (k + 1)) = feedsL (x.take k) + if x[k] = 10 then 1 else 0 := by
  rw [List.take_succ_eq_append_getElem h, feedsL_append]
  simp only [feedsL, List.filter_cons, List.filter_nil]
  by_cases h1 : x[k] = 10
  · simp [h1]
  · simp [h1]

namespace Pc
def text : Pc → List UInt8
  | nil => []
  | leaf s => byt s
  | node l r => l.text ++ r.text
def size : Pc → Nat
  | nil => 0
  | leaf s => s.size
  | node l r => l.size + r.size
def feeds : Pc → Nat
  | nil => 0
  | leaf s => feedsL (byt s)
  | node l r => l.feeds + r.feeds
def leaves : Pc → Nat
  | nil => 0
  | leaf _ => 1
  | node l r => l.leaves + r.leaves
def height : Pc → Nat
  | nil => 0
  | leaf _ => 1
  | node l r => max l.height r.height + 1
theorem size_text : ∀ t : Pc, t.text.length = t.size
  | nil => rfl
  | leaf s => byt_length s
  | node l r => by simp [text, size, size_text l, size_text r]
theorem feeds_text : ∀ t : Pc, feedsL t.text = t.feeds
  | nil => rfl
  | leaf s => rfl
  | node l r => by simp [text, feeds, feedsL_append, feeds_text l, feeds_text r]
/-- no nil under a node, no empty leaf -/
def ok : Pc → Prop
  | nil => False
  | leaf s => s.size ≠ 0
  | node l r => l.ok ∧ r.ok
/-- a whole tree: nil, or one without nil inside -/
def good (t : Pc) : Prop := t = nil ∨ t.ok
theorem ok.pos : ∀ {t : Pc}, t.ok → 0 < t.size
  | nil, h => h.elim
  | leaf s, h => by simp only [ok] at h; simp only [size]; omega
  | node l r, h => by have := ok.pos h.1; simp only [size]; omega
theorem ok.leaves_le : ∀ {t : Pc}, t.ok → t.leaves ≤ t.size ∧ 0 < t.leaves
  | nil, h => h.elim
  | leaf s, h => by simp only [ok] at h; simp only [size, leaves]; omega
  | node l r, h => by have h1 := ok.leaves_le h.1; have h2 := ok.leaves_le h.2; simp only [size, leaves]; omega
theorem ok.height_le : ∀ {t : Pc}, t.ok → t.height ≤ t.size ∧ 0 < t.height
  | nil, h => h.elim
  | leaf s, h => by simp only [ok] at h; simp only [size, height]; omega
  | node l r, h => by
    have h1 := ok.height_le h.1
    have h2 := ok.height_le h.2
    simp only [size, height]
    omega
theorem feeds_le (t : Pc) : t.feeds ≤ t.size := by rw [← feeds_text, ← size_text]; exact feedsL_le _
end Pc

/-- the bytes from one offset to another, as far as there are any -/
def cutI (x : List UInt8) (a b : Int) : List UInt8 := (x.take b.toNat).drop a.toNat
theorem cutI_append (x y : List UInt8) (a b : Int) (h0 : 0 ≤ a) : cutI (x ++ y) a b = cutI x a b ++ cutI y (a - x.length) (b - x.length) := by
  unfold cutI
  rw [List.take_append, List.drop_append]
  have e1 : (b - (x.length : Int)).toNat = b.toNat - x.length := by omega
  rw [e1]
  by_cases h : x.length ≤ b.toNat
  · have e2 : (x.take b.toNat).length = x.length := by rw [List.length_take]; omega
    have e3 : (a - (x.length : Int)).toNat = a.toNat - x.length := by omega
    rw [e2, e3]
  · have e2 : b.toNat - x.length = 0 := by omega
    rw [e2]
    simp
theorem cutI_max (x : List UInt8) (a b : Int) : cutI x (max a 0) b = cutI x a b := by
  unfold cutI
  rw [show (max a 0).toNat = a.toNat by omega]
theorem cutI_min (x : List UInt8) (a b : Int) : cutI x a (min b x.length) = cutI x a b := by
  unfold cutI
  by_cases h : b ≤ x.length
  · rw [show min b (x.length : Int) = b by omega]
  · rw [show min b (x.length : Int) = x.length by omega, Int.toNat_natCast, List.take_length, List.take_of_length_le (by omega)]
theorem cutI_none (x : List UInt8) (a b : Int) (h : b ≤ a) : cutI x a b = [] := by
  unfold cutI
  apply List.drop_of_length_le
  rw [List.length_take]
  omega
theorem cutI_all (x : List UInt8) : cutI x 0 x.length = x := by simp [cutI]
theorem cutI_sub (s : ByteArray) (a b : Nat) : cutI (byt s) a b = sub s a b := by
  unfold cutI
  rw [sub_eq, Int.toNat_natCast, Int.toNat_natCast, List.drop_take]
  rfl
theorem cutI_le (x : List UInt8) (a b : Int) : (cutI x a b).length ≤ x.length := by
  unfold cutI; rw [List.length_drop, List.length_take]; omega
end Go.Proofs.Ytmdgclcakogggaa
