/-
  Contracts of token's lexesTo, IsToken, Apart.
-/
import Derived.Test.YtkaceghngjpemaaDoorTkEq
namespace Go.Proofs.YtkaceghngjpemaaDoor
set_option linter.unusedVariables false
set_option linter.unusedSimpArgs false
open Go.RowKit

theorem heap_alloc2T (w : World) (o o2 : Obj) : ((w.alloc o).alloc o2).heap[w.heap.size + 1]? = some o2 := by
  have h := heap_alloc_new (w.alloc o) o2
  rw [show (w.alloc o).heap.size = w.heap.size + 1 by simp] at h
  exact h
/-- are these the tokens of a string? -/
def lexesB (s : ByteArray) (l : List Tok) : Bool := decide (s.size ≤ 20000) && decide (lexL s = l)
def isTok (p : Tok) : Bool := lexesB p.2 [p]
def apartB (a b : Tok) : Bool := isTok a && isTok b && lexesB (a.2 ++ b.2) [a, b]
theorem lexL_length : ∀ (n : Nat) (s : ByteArray), s.size ≤ n → (lexL s).length ≤ s.size
  | 0, s, h => by rw [lexL_nil (by omega)]; exact Nat.zero_le _
  | n + 1, s, h => by
    by_cases h0 : s.size = 0
    · rw [lexL_nil h0]; exact Nat.zero_le _
    · have := firstP_le s (by omega)
      have hz := tail_size s (firstP s).2
      have h1 := lexL_length n (s.extract (firstP s).2 s.size) (by omega)
      rw [lexL_step (by omega), List.length_cons]
      omega

set_option maxRecDepth 100000 in
set_option maxHeartbeats 1000000 in
theorem lexesTo_any (s : ByteArray) (c : Nat) (A : Option Addr) (l : List Tok) (w : World) (hT : Tabs w) (hE : TksV w A l) :
    Calls Tryd.prog 68 #[.string s, .slice A l.length c] w fun e w' => e = .returned (.bool (lexesB s l)) ∧ Below w.heap.size w w' := by
  by_cases h : s.size ≤ 20000
  · have hln := lexL_length s.size s (Nat.le_refl _)
    have hr : Hid (lexesB s l = decide (lexL s = l)) := Lib.hid (by unfold lexesB; rw [decide_eq_true h, Bool.true_and])
    have hlx := Lex_own s w h hT
    have Hlx := Lib.hid hlx
    clear hlx hT
    go_enter Tryd.func68, Tryd.ntmps68
    go_wp2_with fail
    refine Hlx.out.mono ?_
    rintro e w1 ⟨v, rfl, ho, hb⟩
    obtain ⟨A1, c1, rfl, hE1, _⟩ := TksV.of_own ho
    have hE2 := hE.below hb
    clear ho hE
    go_wp2_with fail
    with_reducible refine (Equal_any c1 c A1 A (lexL s) l w1 (by omega) hE1 hE2).mono ?_
    rintro e w2 ⟨rfl, hb2⟩
    go_wp2_with fail
    go_ret
    exact ⟨ret_b hr.out.symm, hb.trans (hb2.mono hb.size)⟩
  · have hr : Hid (lexesB s l = false) := Lib.hid (by unfold lexesB; rw [decide_eq_false h, Bool.false_and])
    go_enter Tryd.func68, Tryd.ntmps68
    go_wp2_with fail
    refine (Lex_no s w (by omega)).mono ?_
    rintro e w1 ⟨rfl, rfl⟩
    go_wp2_with fail
    go_ret
    exact ⟨ret_b hr.out.symm, Below.refl _ _⟩

set_option maxRecDepth 100000 in
theorem IsToken_any (k : Int) (s : ByteArray) (w : World) (hT : Tabs w) :
    Calls Tryd.prog 33 #[.agg #[.int .i64 k, .string s]] w fun e w' => e = .returned (.bool (isTok (k, s))) ∧ Below w.heap.size w w' := by
  have hw : Below w.heap.size w ((w.alloc (.cells #[.int .i64 k, .string s] 44)).alloc (.cells #[.int .i64 k, .string s] 44)) := ((Below.refl _ _).alloc (Nat.le_refl _) _).alloc (by simp) _
  have hE : TksV ((w.alloc (.cells #[.int .i64 k, .string s] 44)).alloc (.cells #[.int .i64 k, .string s] 44)) (some ⟨w.heap.size + 1, 0, none⟩) [(k, s)] := TksV.one (p := (k, s)) (t := 44) (fr := (0, 0)) (heap_alloc2T w _ _)
  have hc := lexesTo_any s 1 _ [(k, s)] _ (hT.below hw) hE
  have Hc := Lib.hid hc
  have HW := Lib.hid hw
  clear hc hE hw hT
  go_enter Tryd.func33, Tryd.ntmps33
  go_wp2_with fail
  refine Hc.out.mono ?_
  rintro e w1 ⟨rfl, hb⟩
  go_wp2_with fail
  go_ret
  exact ⟨rfl, HW.out.trans (hb.mono HW.out.size)⟩
end Go.Proofs.YtkaceghngjpemaaDoor
