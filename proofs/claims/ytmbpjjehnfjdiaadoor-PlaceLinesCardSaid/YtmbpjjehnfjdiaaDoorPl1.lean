/-
  Contracts of width, widthOf, reach, lineEnd, isTooLong of place.
-/
import Derived.Test.YtmbpjjehnfjdiaaDoorPlMath
import Derived.Test.YtmbpjjehnfjdiaaDoorMem
import Derived.Test.YtmbpjjehnfjdiaaDoorApp2
import Derived.Test.YtmbpjjehnfjdiaaDoorShelf
import Derived.Test.YtmbpjjehnfjdiaaDoorRows
import Derived.Laws.RangeAny
import Derived.LoopTactic
namespace Go.Proofs.YtmbpjjehnfjdiaaDoor
set_option linter.unusedVariables false
set_option linter.unusedSimpArgs false
open Go.RowKit

def wOf (r : Nat) : Nat := if 65536 ≤ r then 2 else 1
set_option maxRecDepth 200000 in
theorem width_any (r : Nat) (w : World) :
    Calls Tryd.prog 52 #[.int .i32 (r : Int)] w fun e w' => e = .returned (.int .i64 (wOf r : Int)) ∧ w = w' := by
  unfold wOf
  by_cases h : 65536 ≤ r
  · rw [if_pos h]
    have q : decide ((65536 : Int) ≤ (r : Int)) = true := decide_eq_true (by omega)
    clear h
    go_enter Tryd.func52, Tryd.ntmps52
    go_wp2
    go_ret
    exact ⟨rfl, rfl⟩
  · rw [if_neg h]
    have q : decide ((65536 : Int) ≤ (r : Int)) = false := decide_eq_false (by omega)
    clear h
    go_enter Tryd.func52, Tryd.ntmps52
    go_wp2
    go_ret
    exact ⟨rfl, rfl⟩
theorem wOf_dw (s : ByteArray) (i : Nat) : wOf (Utf8.decode s i).1 = dw s i := rfl

theorem isTooLong_any (s : ByteArray) (w : World) (hs : s.size ≤ 60000) :
    Calls Tryd.prog 31 #[.string s] w fun e w' => e = .returned (.bool (decide (20000 < s.size))) ∧ w = w' := by
  go_enter Tryd.func31, Tryd.ntmps31
  go_wp2
  go_ret
  exact ⟨ret_bool (by simp; omega), rfl⟩

theorem below_iter (w : World) (s : ByteArray) (p : Nat) : Below w.heap.size w (w.iter s p) := (Below.refl _ _).alloc (Nat.le_refl _) _

set_option maxRecDepth 100000 in
theorem widthOf_any (s : ByteArray) (w : World) (hs : s.size ≤ 60000) :
    Calls Tryd.prog 37 #[.string s] w fun e w' => ∃ W : Nat, e = .returned (.int .i64 (W : Int)) ∧ Ch s 0 s.size W ∧ Below w.heap.size w w' := by
  go_enter Tryd.func37, Tryd.ntmps37
  go_wp2_with fail
  go_loopw [3] (fun n wr => ∃ (pos W : Nat), wr = w.iter s pos ∧ n = .int .i64 (W : Int) ∧ Ch s 0 pos W ∧ pos ≤ s.size) (fun _ wr => s.size - wr.iterPos w.heap.size)
  case atStart => exact ⟨0, 0, rfl, rfl, Ch.refl 0, by omega⟩
  case round =>
    obtain ⟨pos, W, rfl, rfl, hc, hle⟩ := hrel
    have hwl := hc.width_le
    by_cases hp : pos < s.size
    · have hnx : ∀ ty, (Instr.next (.pointer (some ⟨w.heap.size, 0, none⟩)) true ty).run Tryd.prog (w.iter s pos) = _ := fun ty => run_next_any w s pos ty hp
      have Hc := Lib.hid (hc.snoc hp)
      have hdn := dn_le s pos hp
      have hdp := dn_pos s pos
      have hdw := dw_le s pos
      clear hc
      go_wp2_with fail
      with_reducible refine (width_any _ _).mono ?_
      rintro e w1 ⟨rfl, rfl⟩
      rw [wOf_dw]
      go_wp2_with fail
      refine ⟨⟨pos + dn s pos, W + dw s pos, rfl, by go_num, Hc.out, hdn⟩, ?_⟩
      change s.size - (w.iter s (pos + dn s pos)).iterPos w.heap.size < s.size - (w.iter s pos).iterPos w.heap.size
      rw [World.iterPos_iter, World.iterPos_iter]
      omega
    · have hpe : pos = s.size := by omega
      subst hpe
      have hnx : ∀ ty, (Instr.next (.pointer (some ⟨w.heap.size, 0, none⟩)) true ty).run Tryd.prog (w.iter s s.size) = _ := fun ty => run_next_end w s s.size ty hp
      have Hc := Lib.hid hc
      clear hc
      go_wp2_with fail
      go_ret
      exact ⟨W, rfl, Hc.out, below_iter w s _⟩

/-- how far reach goes -/
def ReachP (s : ByteArray) (m : Int) (o c : Nat) : Prop := Ch s 0 o c ∧ (o = 0 ∨ (c : Int) ≤ m) ∧ (o = s.size ∨ (o < s.size ∧ m < (c : Int) + dw s o))
set_option maxRecDepth 100000 in
theorem reach_any (s : ByteArray) (m : Int) (w : World) (hs : s.size ≤ 60000) :
    Calls Tryd.prog 35 #[.string s, .int .i64 m] w fun e w' => ∃ o c : Nat, e = .returned (.tuple #[.int .i64 (o : Int), .int .i64 (c : Int)]) ∧ ReachP s m o c ∧ Below w.heap.size w w' := by
  go_enter Tryd.func35, Tryd.ntmps35
  go_wp2_with fail
  go_loopw [4, 5] (fun z n wr => ∃ (pos W : Nat), wr = w.iter s pos ∧ z = .int .i64 0 ∧ n = .int .i64 (W : Int) ∧ Ch s 0 pos W ∧ pos ≤ s.size ∧ (pos = 0 ∨ (W : Int) ≤ m)) (fun _ _ wr => s.size - wr.iterPos w.heap.size)
  case atStart => exact ⟨0, 0, rfl, rfl, rfl, Ch.refl 0, by omega, .inl rfl⟩
  case round =>
    obtain ⟨pos, W, rfl, rfl, rfl, hc, hle, hm⟩ := hrel
    have hwl := hc.width_le
    have Hm := Lib.hid hm
    clear hm
    by_cases hp : pos < s.size
    · have hnx : ∀ ty, (Instr.next (.pointer (some ⟨w.heap.size, 0, none⟩)) true ty).run Tryd.prog (w.iter s pos) = _ := fun ty => run_next_any w s pos ty hp
      have Hc := Lib.hid hc
      have Hs := Lib.hid (hc.snoc hp)
      have hdn := dn_le s pos hp
      have hdp := dn_pos s pos
      have hdw := dw_le s pos
      clear hc
      by_cases hq : m < (W : Int) + (dw s pos : Int)
      · go_wp2_with fail
        with_reducible refine (width_any _ _).mono ?_
        rintro e w1 ⟨rfl, rfl⟩
        rw [wOf_dw]
        go_wp2_with fail
        go_ret2
        exact ⟨pos, W, rfl, ⟨Hc.out, Hm.out, .inr ⟨hp, hq⟩⟩, below_iter w s _⟩
      · go_wp2_with fail
        with_reducible refine (width_any _ _).mono ?_
        rintro e w1 ⟨rfl, rfl⟩
        rw [wOf_dw]
        go_wp2_with fail
        with_reducible refine (width_any _ _).mono ?_
        rintro e w1 ⟨rfl, rfl⟩
        rw [wOf_dw]
        go_wp2_with fail
        refine ⟨⟨pos + dn s pos, W + dw s pos, rfl, rfl, by go_num, Hs.out, hdn, .inr (by omega)⟩, ?_⟩
        change s.size - (w.iter s (pos + dn s pos)).iterPos w.heap.size < s.size - (w.iter s pos).iterPos w.heap.size
        rw [World.iterPos_iter, World.iterPos_iter]
        omega
    · have hpe : pos = s.size := by omega
      subst hpe
      have hnx : ∀ ty, (Instr.next (.pointer (some ⟨w.heap.size, 0, none⟩)) true ty).run Tryd.prog (w.iter s s.size) = _ := fun ty => run_next_end w s s.size ty hp
      have Hc := Lib.hid hc
      clear hc
      go_wp2_with fail
      go_ret2
      exact ⟨s.size, W, rfl, ⟨Hc.out, Hm.out, .inl rfl⟩, below_iter w s _⟩

theorem nat_u8 : ((10 : Int).toNat.toUInt8) = (10 : UInt8) := rfl
theorem lineEnd_any (s : ByteArray) (fr : Nat) (w : World) (hs : s.size ≤ 60000) (hf : fr ≤ s.size) :
    Calls Tryd.prog 51 #[.string s, .int .i64 (fr : Int)] w fun e w' => e = .returned (.int .i64 ((fr + feedAt ((byt s).drop fr) 0 : Nat) : Int)) ∧ w = w' := by
  have hix := index_feed ((byt s).drop fr)
  have hle := feedAt_le ((byt s).drop fr) 0
  rw [List.length_drop, byt_length] at hle
  have hbd : (s.extract fr s.size).data.toList = (byt s).drop fr := byt_drop s fr
  by_cases h0 : feedsL ((byt s).drop fr) = 0
  · rw [if_pos h0] at hix
    have hfe := feedAt_none ((byt s).drop fr) 0 (by omega)
    rw [List.length_drop, byt_length] at hfe
    have Hfe := Lib.hid hfe
    have Hix := Lib.hid hix
    have Hbd := Lib.hid hbd
    clear hfe hix hbd hle
    go_enter Tryd.func51, Tryd.ntmps51
    go_wp2_with fail
    with_reducible refine (Tryd.strings_IndexByte _ _ _).mono ?_
    rw [nat_u8, Hbd.out, Hix.out]
    rintro e w1 ⟨rfl, rfl⟩
    go_wp2_with fail
    go_ret
    exact ⟨ret_int (by rw [Hfe.out]; omega), rfl⟩
  · rw [if_neg h0] at hix
    have Hix := Lib.hid hix
    have Hbd := Lib.hid hbd
    clear hix hbd
    go_enter Tryd.func51, Tryd.ntmps51
    go_wp2_with fail
    with_reducible refine (Tryd.strings_IndexByte _ _ _).mono ?_
    rw [nat_u8, Hbd.out, Hix.out]
    rintro e w1 ⟨rfl, rfl⟩
    go_wp2_with fail
    go_ret
    exact ⟨ret_int (by omega), rfl⟩
end Go.Proofs.YtmbpjjehnfjdiaaDoor
