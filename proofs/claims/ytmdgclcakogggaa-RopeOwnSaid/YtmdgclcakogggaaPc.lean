/-
  Trees of pieces in memory, and the contracts of the functions that read them or make leaves.
-/
import Derived.Test.YtmdgclcakogggaaPcMath
import Derived.Test.YtmdgclcakogggaaApp2
namespace Go.Proofs.Ytmdgclcakogggaa
set_option linter.unusedVariables false
set_option linter.unusedSimpArgs false
open Go.RowKit

def pcCells (s : ByteArray) (vl vr : Value) (t : Pc) : Array Value :=
  #[.string s, vl, vr, .int .i64 (t.size : Int), .int .i64 (t.feeds : Int), .int .i64 (t.leaves : Int), .int .i64 (t.height : Int)]
/-- the pointer leads to the tree, all of it below block B -/
def PcAt (w : World) (B : Nat) : Value → Pc → Prop
  | v, .nil => v = .pointer none
  | v, .leaf s => ∃ b, v = .pointer (some ⟨b, 0, none⟩) ∧ b < B ∧ w.heap[b]? = some (.cells (pcCells s (.pointer none) (.pointer none) (.leaf s)) 79 (0, 0))
  | v, .node l r => ∃ b vl vr, v = .pointer (some ⟨b, 0, none⟩) ∧ b < B ∧ w.heap[b]? = some (.cells (pcCells ByteArray.empty vl vr (.node l r)) 79 (0, 0)) ∧ PcAt w B vl l ∧ PcAt w B vr r ∧ l.ok ∧ r.ok
theorem PcAt.keep {w w' : World} {B B' : Nat} (hB : B ≤ B') (hk : ∀ b, b < B → w'.heap[b]? = w.heap[b]?) : ∀ {t : Pc} {v : Value}, PcAt w B v t → PcAt w' B' v t
  | .nil, v, h => h
  | .leaf s, v, h => by
    obtain ⟨b, rfl, hb, hh⟩ := h
    exact ⟨b, rfl, by omega, by rw [hk b hb]; exact hh⟩
  | .node l r, v, h => by
    obtain ⟨b, vl, vr, rfl, hb, hh, h1, h2, h3⟩ := h
    exact ⟨b, vl, vr, rfl, by omega, by rw [hk b hb]; exact hh, h1.keep hB hk, h2.keep hB hk, h3⟩
theorem PcAt.below {w w' : World} {B : Nat} {t : Pc} {v : Value} (h : PcAt w B v t) (hb : Below B w w') : PcAt w' B v t := h.keep (Nat.le_refl _) hb.block
theorem PcAt.belowTop {w w' : World} {t : Pc} {v : Value} (h : PcAt w w.heap.size v t) (hb : Below w.heap.size w w') : PcAt w' w'.heap.size v t := h.keep hb.size hb.block

/-- what a pointer to a tree that is not nil leads to -/
theorem PcAt.open_ {w : World} {B : Nat} {t : Pc} {v : Value} (h : PcAt w B v t) (hn : t ≠ .nil) :
    ∃ b s vl vr, v = .pointer (some ⟨b, 0, none⟩) ∧ b < B ∧ w.heap[b]? = some (.cells (pcCells s vl vr t) 79 (0, 0)) := by
  cases t with
  | nil => exact absurd rfl hn
  | leaf s => obtain ⟨b, rfl, hb, hh⟩ := h; exact ⟨b, s, _, _, rfl, hb, hh⟩
  | node l r => obtain ⟨b, vl, vr, rfl, hb, hh, _⟩ := h; exact ⟨b, _, vl, vr, rfl, hb, hh⟩
theorem cell_of {w : World} {b : Nat} {cs : Array Value} {T : TypeId} {fr : Nat × Nat} (hb : w.heap[b]? = some (.cells cs T fr)) (j : Nat) : w.cell? ⟨b, j, none⟩ = cs[j]? := Lib.cell_of_heap hb j
theorem lt_of {w : World} {b : Nat} {o : Obj} (hb : w.heap[b]? = some o) : b < w.heap.size := by
  rcases Nat.lt_or_ge b w.heap.size with h | h
  · exact h
  · rw [Array.getElem?_eq_none h] at hb; cases hb

def sumsV (t : Pc) : Value := .agg #[.int .i64 (t.size : Int), .int .i64 (t.feeds : Int), .int .i64 (t.leaves : Int), .int .i64 (t.height : Int)]
theorem sums_any (v : Value) (t : Pc) (w : World) (h : PcAt w w.heap.size v t) :
    Calls Try.prog 34 #[v] w fun e w' => e = .returned (sumsV t) ∧ Below w.heap.size w w' := by
  by_cases hn : t = .nil
  · subst hn
    obtain rfl : v = .pointer none := h
    go_enter Try.func34, Try.ntmps34
    go_wp2
    exact bodyPost_ret (v := sumsV .nil) (by simp [results, Try.results34, go_sem, sumsV, Pc.size, Pc.feeds, Pc.leaves, Pc.height]) rfl ⟨rfl, (Below.refl _ _).alloc (Nat.le_refl _) _⟩
  · obtain ⟨b, s, vl, vr, rfl, hb, hh⟩ := h.open_ hn
    have c3 : w.cell? ⟨b, 3, none⟩ = some (.int .i64 (t.size : Int)) := cell_of hh 3
    have c4 : w.cell? ⟨b, 4, none⟩ = some (.int .i64 (t.feeds : Int)) := cell_of hh 4
    have c5 : w.cell? ⟨b, 5, none⟩ = some (.int .i64 (t.leaves : Int)) := cell_of hh 5
    have c6 : w.cell? ⟨b, 6, none⟩ = some (.int .i64 (t.height : Int)) := cell_of hh 6
    clear h hh hn
    go_enter Try.func34, Try.ntmps34
    go_wp2
    exact bodyPost_ret (v := sumsV t) (by simp [results, Try.results34, go_sem, sumsV]) rfl ⟨rfl, (Below.refl _ _).alloc (Nat.le_refl _) _⟩

theorem heap_new2 (w : World) (o o2 : Obj) : ((w.alloc o).alloc o2).heap[w.heap.size + 1]? = some o2 := by
  have h := heap_alloc_new (w.alloc o) o2
  have hs : (w.alloc o).heap.size = w.heap.size + 1 := by simp
  rw [hs] at h
  exact h
theorem notEmpty {s : ByteArray} (h0 : s.size ≠ 0) : s.toList.isEmpty = false := by
  rw [ByteArray.toList_eq]
  cases hs : s.data.toList with
  | nil => have := size_toList s; rw [hs] at this; simp at this; omega
  | cons a l => rfl

set_option maxHeartbeats 1000000 in
theorem leaf_any (s : ByteArray) (w : World) (hs : s.size ≤ 60000) (h0 : s.size ≠ 0) :
    Calls Try.prog 19 #[.string s] w fun e w' => e = .returned (.pointer (some ⟨w.heap.size + 1, 0, none⟩)) ∧ PcAt w' w'.heap.size (.pointer (some ⟨w.heap.size + 1, 0, none⟩)) (.leaf s) ∧ Below w.heap.size w w' := by
  have q := notEmpty h0
  go_enter Try.func19, Try.ntmps19
  go_wp2_with fail
  go_loopw [12] (fun i wr => ∃ (k : Nat), k ≤ s.size ∧ i = .int .i64 k ∧ wr = w.alloc (.cells #[.int .i64 (s.size : Int), .int .i64 (feedsL ((byt s).take k) : Int), .int .i64 1, .int .i64 1] 66)) (fun i _ => s.size - (intOf i).toNat)
  case atStart => exact ⟨0, by omega, rfl, rfl⟩
  case round =>
    obtain ⟨k, hk, rfl, rfl⟩ := hrel
    by_cases hlt : k < s.size
    · have g1 : k < (byt s).length := by rw [byt_length]; exact hlt
      have hf := feedsL_take (byt s) k g1
      have hl := feedsL_le ((byt s).take k)
      rw [List.length_take] at hl
      have hl2 : feedsL ((byt s).take k) ≤ 60000 := by omega
      clear hl
      by_cases hq : s[k]'hlt = 10
      · have q2 : (((s[k]'hlt).toNat : Int) == 10) = true := by rw [hq]; rfl
        rw [if_pos (show (byt s)[k] = 10 from hq)] at hf
        have Hf := Lib.hid hf
        clear hf hq g1
        go_wp2_with fail
        go_roundw
        case rel => exact ⟨k + 1, by omega, by go_num, by rw [Hf.out]; simp⟩
        case measure => simp [intOf]; omega
      · have q2 : (((s[k]'hlt).toNat : Int) == 10) = false := by
          rw [beq_eq_false_iff_ne]
          intro h
          exact hq (UInt8.toNat_inj.1 (by change (s[k]'hlt).toNat = 10; omega))
        rw [if_neg (show ¬ (byt s)[k] = 10 from hq)] at hf
        have Hf := Lib.hid hf
        clear hf hq g1
        go_wp2_with fail
        go_roundw
        case rel => exact ⟨k + 1, by omega, by go_num, by rw [Hf.out]; simp⟩
        case measure => simp [intOf]; omega
    · have hke : k = s.size := by omega
      subst hke
      have hall : (byt s).take s.size = byt s := by rw [← byt_length, List.take_length]
      rw [hall] at *
      go_wp2_with fail
      go_ret
      refine ⟨by simp, ?_, ((Below.refl _ _).alloc (Nat.le_refl _) _).alloc (by simp) _⟩
      refine ⟨w.heap.size + 1, rfl, by simp, ?_⟩
      exact heap_new2 w _ _
end Go.Proofs.Ytmdgclcakogggaa
