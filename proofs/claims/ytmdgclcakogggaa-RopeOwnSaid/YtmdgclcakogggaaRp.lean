/-
  Ropes in memory: New, Len, Lines.
-/
import Derived.Test.YtmdgclcakogggaaPcT
namespace Go.Proofs.Ytmdgclcakogggaa
set_option linter.unusedVariables false
set_option linter.unusedSimpArgs false
open Go.RowKit

theorem good_pointer {w : World} {B : Nat} {v : Value} {t : Pc} (h : PcAt w B v t) : ∃ o, v = .pointer o := by
  by_cases hn : t = .nil
  · subst hn; exact ⟨none, h⟩
  · obtain ⟨b, _, _, _, rfl, _⟩ := h.open_ hn; exact ⟨_, rfl⟩
/-- the pointer leads to a rope of the tree, made of the one that bef leads to -/
def RopeAt (w : World) (v : Value) (t : Pc) (bef : Value) : Prop :=
  ∃ r vroot, v = .pointer (some ⟨r, 0, none⟩) ∧ w.heap[r]? = some (.cells #[.bool true, vroot, bef] 47 (0, 0)) ∧ PcAt w w.heap.size vroot t ∧ t.good
theorem RopeAt.below {w w' : World} {v bef : Value} {t : Pc} (h : RopeAt w v t bef) (hb : Below w.heap.size w w') : RopeAt w' v t bef := by
  obtain ⟨r, vroot, rfl, hh, hp, hg⟩ := h
  exact ⟨r, vroot, rfl, (hb.block r (lt_of hh)).trans hh, hp.belowTop hb, hg⟩

theorem pieces_any (v bef : Value) (t : Pc) (w : World) (h : RopeAt w v t bef) :
    Calls Try.prog 32 #[v] w fun e w' => (∃ p, e = .returned p ∧ PcAt w w.heap.size p t) ∧ w = w' := by
  obtain ⟨r, vroot, rfl, hh, hp, hg⟩ := h
  have c1 : w.cell? ⟨r, 1, none⟩ = some vroot := cell_of hh 1
  have hv : ∃ o, vroot = .pointer o := by
    by_cases hn : t = .nil
    · subst hn; exact ⟨none, hp⟩
    · obtain ⟨b, _, _, _, rfl, _⟩ := hp.open_ hn; exact ⟨_, rfl⟩
  obtain ⟨o, rfl⟩ := hv
  have Hp := Lib.hid hp
  clear hh hp
  go_enter Try.func32, Try.ntmps32
  go_wp2
  go_ret
  exact ⟨⟨_, rfl, Hp.out⟩, rfl⟩
theorem isMade_any (v bef : Value) (t : Pc) (w : World) (h : RopeAt w v t bef) :
    Calls Try.prog 24 #[v] w fun e w' => e = .returned (.bool true) ∧ w = w' := by
  obtain ⟨r, vroot, rfl, hh, hp, hg⟩ := h
  have c0 : w.cell? ⟨r, 0, none⟩ = some (.bool true) := cell_of hh 0
  clear hh hp
  go_enter Try.func24, Try.ntmps24
  go_wp2
  go_ret
  exact ⟨rfl, rfl⟩

theorem Len_any (v bef : Value) (t : Pc) (w : World) (h : RopeAt w v t bef) :
    Calls Try.prog 26 #[v] w fun e w' => e = .returned (.int .i64 (t.size : Int)) ∧ Below w.heap.size w w' := by
  go_enter Try.func26, Try.ntmps26
  go_wp2_with fail
  refine (pieces_any v bef t w h).mono ?_
  rintro e w1 ⟨⟨p, rfl, hp⟩, rfl⟩
  go_wp2_with fail
  refine (sums_any p t w hp).mono ?_
  rintro e w1 ⟨rfl, hb1⟩
  simp only [sumsV]
  go_wp2_with fail
  go_ret
  exact ⟨ret_int rfl, hb1⟩
theorem Lines_any (v bef : Value) (t : Pc) (w : World) (hsz : t.size ≤ 60000) (h : RopeAt w v t bef) :
    Calls Try.prog 23 #[v] w fun e w' => e = .returned (.int .i64 ((t.feeds : Int) + 1)) ∧ Below w.heap.size w w' := by
  have hf := t.feeds_le
  have hm := isMade_any v bef t w h
  obtain ⟨r, vroot, rfl, hh, hp, hg⟩ := h
  have c1 : w.cell? ⟨r, 1, none⟩ = some vroot := cell_of hh 1
  have Hm := Lib.hid hm
  have Hp := Lib.hid hp
  clear hh hm hp
  go_enter Try.func23, Try.ntmps23
  go_wp2_with fail
  refine Hm.out.mono ?_
  rintro e w1 ⟨rfl, rfl⟩
  go_wp2_with fail
  refine (sums_any vroot t w Hp.out).mono ?_
  rintro e w1 ⟨rfl, hb1⟩
  simp only [sumsV]
  go_wp2_with fail
  go_ret
  exact ⟨ret_int rfl, hb1⟩

/-- New: a rope of a leaf, or of nothing -/
def pcOf (s : ByteArray) : Pc := if s.size = 0 then .nil else .leaf s
theorem pcOf_text (s : ByteArray) : (pcOf s).text = byt s := by
  unfold pcOf
  by_cases h : s.size = 0
  · rw [if_pos h]; exact (List.eq_nil_of_length_eq_zero (by rw [byt_length]; exact h)).symm
  · rw [if_neg h]; rfl
theorem pcOf_good (s : ByteArray) : (pcOf s).good := by
  unfold pcOf
  by_cases h : s.size = 0
  · rw [if_pos h]; exact .inl rfl
  · rw [if_neg h]; exact .inr h
theorem pcOf_size (s : ByteArray) : (pcOf s).size = s.size := by rw [← Pc.size_text, pcOf_text, byt_length]
theorem leafP_any (s : ByteArray) (w : World) (hs : s.size ≤ 60000) :
    Calls Try.prog 19 #[.string s] w fun e w' => (∃ o, e = .returned (.pointer o) ∧ PcAt w' w'.heap.size (.pointer o) (pcOf s)) ∧ Below w.heap.size w w' := by
  unfold pcOf
  by_cases h : s.size = 0
  · rw [if_pos h]
    have hs0 : s = ByteArray.empty := by
      apply ByteArray.ext
      exact Array.eq_empty_of_size_eq_zero h
    subst hs0
    clear h hs
    go_enter Try.func19, Try.ntmps19
    go_wp2_with fail
    go_ret
    exact ⟨⟨_, rfl, rfl⟩, Below.refl _ _⟩
  · rw [if_neg h]
    exact (leaf_any s w hs h).mono fun e w' ⟨h1, h2, h3⟩ => ⟨⟨_, h1, h2⟩, h3⟩
/-- a rope comes back, or none, with an error -/
def GivesRope (w : World) (t : Pc) (bef : Value) (e : Ending) (w' : World) : Prop :=
  ∃ v, e = .returned (.tuple #[v, .int .i64 0]) ∧ RopeAt w' v t bef ∧ Below w.heap.size w w'
theorem New_ok (s : ByteArray) (w : World) (hs : s.size ≤ 20000) :
    Calls Try.prog 8 #[.string s] w (GivesRope w (pcOf s) (.pointer none)) := by
  go_enter Try.func8, Try.ntmps8
  go_wp2_with fail
  refine (leafP_any s w (by omega)).mono ?_
  rintro e w1 ⟨⟨p, rfl, hp⟩, hb1⟩
  go_wp2_with fail
  go_ret2
  refine ⟨_, rfl, ⟨_, _, rfl, heap_alloc_new w1 _, ?_, pcOf_good s⟩, hb1.alloc hb1.size _⟩
  exact hp.belowTop ((Below.refl _ _).alloc (Nat.le_refl _) _)
theorem New_no (s : ByteArray) (w : World) (hs : 20000 < s.size) :
    Calls Try.prog 8 #[.string s] w fun e w' => e = .returned (.tuple #[.pointer none, .int .i64 3]) ∧ Below w.heap.size w w' := by
  go_enter Try.func8, Try.ntmps8
  go_wp2_with fail
  go_ret2
  exact ⟨rfl, Below.refl _ _⟩
end Go.Proofs.Ytmdgclcakogggaa
