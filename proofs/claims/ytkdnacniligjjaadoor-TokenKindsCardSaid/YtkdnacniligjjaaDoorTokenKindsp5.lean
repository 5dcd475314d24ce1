/-
  The contract of token's Unquote.
-/
import Derived.Test.YtkdnacniligjjaaDoorTokenKindsp4
import Derived.Test.YtkdnacniligjjaaDoorRelexCommonsp7
namespace Go.Proofs.YtkdnacniligjjaaDoor
set_option linter.unusedVariables false
set_option linter.unusedSimpArgs false
open Go.RowKit

theorem isTok_text {s : ByteArray} (h : isTok (6, s) = true) : s.size ≤ 20000 ∧ 2 ≤ s.size ∧ textE s = some s.size := by
  unfold isTok lexesB at h
  rw [Bool.and_eq_true] at h
  have h1 := of_decide_eq_true h.1
  have h2 : lexL s = [((6 : Int), s)] := of_decide_eq_true h.2
  have hz : 0 < s.size := by
    rcases Nat.eq_zero_or_pos s.size with h0 | h0
    · rw [lexL_nil h0] at h2; cases h2
    · exact h0
  have hle := firstP_le s hz
  rw [lexL_step hz] at h2
  injection h2 with h3 h4
  have h5 : (firstP s).1 = 6 := congrArg Prod.fst h3
  have h6 : s.extract 0 (firstP s).2 = s := congrArg Prod.snd h3
  have h7 : (firstP s).2 = s.size := by
    have := congrArg ByteArray.size h6
    rw [ByteArray.size_extract] at this
    omega
  have h8 : textP s = firstP s := by
    unfold firstP at h5 ⊢
    rcases beginK_is s with h | h | h | h | h | h | h
    all_goals rw [h] at h5 ⊢
    · simp at h5
    · simp at h5
    · simp [nameP] at h5
      split at h5 <;> simp at h5
    · simp at h5
    · rfl
    · simp at h5
    · simp at h5
  have h9 : textE s = some s.size := by
    have h10 := h8
    unfold textP at h10
    cases he : textE s with
    | none => rw [he] at h10; rw [← h10] at h5; simp at h5
    | some n => rw [he] at h10; rw [← h10] at h7; simp only at h7; rw [h7]
  refine ⟨h1, ?_, h9⟩
  have := textF_le _ _ _ _ h9
  omega

def unquoteR (k : Int) (s : ByteArray) : ByteArray × Int := if k = 6 ∧ isTok (6, s) = true then (⟨(unqF s.size (s.extract 1 s.size)).toArray⟩, 0) else (ByteArray.empty, 4)

set_option maxRecDepth 100000 in
set_option maxHeartbeats 1000000 in
theorem Unquote_any (k : Int) (s : ByteArray) (w : World) (hT : Tabs w) :
    Calls Tryd.prog 46 #[.agg #[.int .i64 k, .string s]] w fun e w' => e = .returned (.tuple #[.string (unquoteR k s).1, .int .i64 (unquoteR k s).2]) ∧ Below w.heap.size w w' := by
  have hw0 : Below w.heap.size w (w.alloc (.cells #[.int .i64 k, .string s] 24)) := (Below.refl _ _).alloc (Nat.le_refl _) _
  have hbx : (w.alloc (.cells #[.int .i64 k, .string s] 24)).heap[w.heap.size]? = some (.cells #[.int .i64 k, .string s] 24 (0, 0)) := heap_alloc_new w _
  by_cases hk : k = 6
  · subst hk
    have htk := IsToken_any 6 s _ (hT.below hw0)
    have HW0 := Lib.hid hw0
    cases hq : isTok (6, s)
    · have hr : Hid (unquoteR 6 s = (ByteArray.empty, 4)) := Lib.hid (by unfold unquoteR; rw [if_neg (by rw [hq]; simp)])
      rw [hq] at htk
      have Htk := Lib.hid htk
      clear htk hT hw0 hbx
      go_enter Tryd.func46, Tryd.ntmps46
      go_wp2_with fail
      refine Htk.out.mono ?_
      rintro e w1 ⟨rfl, hb1⟩
      go_wp2_with fail
      go_ret2
      exact ⟨ret_q hr.out, HW0.out.trans (hb1.mono HW0.out.size)⟩
    · have hr : Hid (unquoteR 6 s = (⟨(unqF s.size (s.extract 1 s.size)).toArray⟩, 0)) := Lib.hid (by unfold unquoteR; rw [if_pos ⟨rfl, hq⟩])
      obtain ⟨z1, z2, z3⟩ := isTok_text hq
      rw [hq] at htk
      have Htk := Lib.hid htk
      have Hbx := Lib.hid hbx
      have HX := Lib.hid z3
      have s1 : IntKind.i64.wrap ((s.size : Int) - 1) = ((s.size - 1 : Nat) : Int) := by rw [IntWalk.i64_in _ (by omega)]; omega
      clear htk hT hw0 hbx z3
      go_enter Tryd.func46, Tryd.ntmps46
      go_wp2_with fail
      refine Htk.out.mono ?_
      rintro e w1 ⟨rfl, hb1⟩
      have hB1 := HW0.out.trans (hb1.mono HW0.out.size)
      have hbox1 : w1.heap[w.heap.size]? = some (.cells #[.int .i64 6, .string s] 24 (0, 0)) := (hb1.block _ (by simp)).trans Hbx.out
      have hlt1 : w.heap.size < w1.heap.size := by have := hb1.size; simp at this; omega
      have hbl : Bld w1.heap.size w1.heap.size [] (w1.alloc (.cells #[.pointer none, .slice none 0 0] 106)) := by
        have := Lib.fresh_isBuilder 106 5 w1
        simpa [Bld, Lib.byteCells] using this
      have hw2 : Below w1.heap.size w1 (w1.alloc (.cells #[.pointer none, .slice none 0 0] 106)) := (Below.refl _ _).alloc (Nat.le_refl _) _
      have HBL := Lib.hid hbl
      have HW2 := Lib.hid hw2
      have HBX := Lib.hid hbox1
      clear hbl hw2 hbox1 hb1
      go_wp2_with fail
      go_loopw [5, 6, 7] (fun i _ _ wr => ∃ (k f : Nat) (pre : List UInt8), 1 ≤ k ∧ k < s.size ∧ i = .int .i64 k ∧ textF f (s.extract k s.size) k = some s.size ∧ s.size - k ≤ f ∧ pre ++ unqF f (s.extract k s.size) = unqF s.size (s.extract 1 s.size) ∧ pre.length ≤ k ∧ Bld w1.heap.size w1.heap.size pre wr ∧ Below w1.heap.size w1 wr) (fun i _ _ _ => s.size - (intOf i).toNat)
      case atStart => exact ⟨1, s.size, [], by omega, by omega, rfl, HX.out, by omega, rfl, by simp, HBL.out, HW2.out⟩
      case round =>
        obtain ⟨k, f, pre, hk1, hk, rfl, ht, hf, he, hp, hb, hB⟩ := hrel
        have hc1 : wr.cell? ⟨w.heap.size, 1, none⟩ = some (.string s) := Lib.cell_of_heap ((hB.block _ hlt1).trans HBX.out) 1
        have hsB := hB.size
        have hsz := tail_size s k
        obtain ⟨f, rfl⟩ : ∃ f', f = f' + 1 := ⟨f - 1, by omega⟩
        simp only [textF, unqF] at ht he
        rw [if_neg (by omega)] at ht
        by_cases hlt : k < s.size - 1
        · have hb0 := b0_tail hk
          have hst : 0 < (plainP (s.extract k s.size)).2 := by
            rcases Nat.eq_zero_or_pos (plainP (s.extract k s.size)).2 with h0 | h0
            · rw [if_neg (by omega)] at ht
              split at ht
              · injection ht with ht; omega
              · cases ht
            · exact h0
          rw [if_pos hst, tail_tail] at ht
          rw [if_neg (by omega), tail_tail] at he
          have hpl := plain_any (s.extract k s.size) wr (by omega)
          have hC := plainP_C hst
          have hle := textF_le _ _ _ _ ht
          obtain ⟨⟨pv, st⟩, hp2⟩ : ∃ p, p = plainP (s.extract k s.size) := ⟨_, rfl⟩
          rw [← hp2] at hst ht he hpl hC hle
          simp only at hst ht he hpl hC hle
          have hk2 : (k : Int) ≤ (s.size : Int) := by omega
          have q : decide ((k : Int) < ((s.size - 1 : Nat) : Int)) = true := by simp; omega
          have sk : IntKind.i64.wrap ((k : Int) + (st : Int)) = ((k + st : Nat) : Int) := by rw [IntWalk.i64_in _ (by omega)]; omega
          have Ht := Lib.hid ht
          have He := Lib.hid he
          have Hpl := Lib.hid hpl
          have HC := Lib.hid hC
          clear ht he hpl hC hp2
          go_wp2_with fail
          refine Hpl.out.mono ?_
          rintro e w3 ⟨rfl, rfl⟩
          go_wp2_with fail
          refine (WriteByte_n _ _ pre _ pv _ HC.out.symm hb (by omega) hsB).mono ?_
          rintro e w4 ⟨rfl, hb4, hB4⟩
          have hB5 := hB.trans hB4
          go_wp2_with fail
          exact ⟨⟨k + st, f, _, by omega, by omega, by go_num, Ht.out, by omega, by rw [List.append_assoc]; exact He.out, by simp; omega, hb4, hB5⟩, by simp [intOf]; omega⟩
        · have hke : k = s.size - 1 := by omega
          rw [if_pos (by omega), List.append_nil] at he
          have He := Lib.hid he
          have q : decide ((k : Int) < ((s.size - 1 : Nat) : Int)) = false := by simp; omega
          clear he ht hke
          go_wp2_with fail
          refine (BString_any _ _ _ _ hb hsB).mono ?_
          rintro e w4 ⟨rfl, hB4⟩
          go_wp2_with fail
          go_ret2
          refine ⟨?_, hB1.trans ((hB.trans hB4).mono (Nat.le_of_lt hlt1))⟩
          rw [He.out]
          exact ret_q hr.out
  · have q : ((k : Int) != 6) = true := by simpa using hk
    have hr : Hid (unquoteR k s = (ByteArray.empty, 4)) := Lib.hid (by unfold unquoteR; rw [if_neg (fun h => hk h.1)])
    have HW0 := Lib.hid hw0
    clear hT hw0 hbx hk
    go_enter Tryd.func46, Tryd.ntmps46
    go_wp2_with fail
    go_ret2
    exact ⟨ret_q hr.out, HW0.out⟩
end Go.Proofs.YtkdnacniligjjaaDoor
