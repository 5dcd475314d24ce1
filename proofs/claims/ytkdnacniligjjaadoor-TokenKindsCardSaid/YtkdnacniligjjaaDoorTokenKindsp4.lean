/-
  The contract of token's Quote.
-/
import Derived.Test.YtkdnacniligjjaaDoorRelexCommonsp11
import Derived.Test.YtkdnacniligjjaaDoorTokenKindsp3
import Derived.Test.YtkdnacniligjjaaDoorRelexCommonsp4
namespace Go.Proofs.YtkdnacniligjjaaDoor
set_option linter.unusedVariables false
set_option linter.unusedSimpArgs false
open Go.RowKit

theorem WriteByte_n (B b : Nat) (l : List UInt8) (c : UInt8) (n : Int) (w : World) (hn : (c.toNat : Int) = n) (h : Bld B b l w) (hlen : l.length ≤ 100000) (hBw : B ≤ w.heap.size) :
    Calls Tryd.prog 78 #[.pointer (some ⟨b, 0, none⟩), .int .u8 n] w fun e w' => e = .returned .nilIface ∧ Bld B b (l ++ [c]) w' ∧ Below B w w' := by
  rw [← hn]
  exact (WriteByte_any B b l c w h hlen hBw).mono fun e w' h => ⟨h.1, h.2.1, h.2.2.1⟩
theorem quote_data (s : ByteArray) : (quoteB s).size = (qList (byt s)).length + 2 := by
  have h : (quoteB s).size = (quoteL (byt s)).length := by show (quoteL (byt s)).toArray.size = _; simp
  rw [h, quoteL_length]

def quoteR (s : ByteArray) : ByteArray × Int := if (qList (byt s)).length + 2 ≤ 20000 then (quoteB s, 0) else (ByteArray.empty, 3)
theorem ret_q {p : ByteArray × Int} {a : ByteArray} {b : Int} (h : p = (a, b)) : Ending.returned (.tuple #[.string a, .int .i64 b]) = .returned (.tuple #[.string p.1, .int .i64 p.2]) := by rw [h]

set_option maxRecDepth 100000 in
set_option maxHeartbeats 1000000 in
theorem Quote_any (s : ByteArray) (w : World) :
    Calls Tryd.prog 48 #[.string s] w fun e w' => e = .returned (.tuple #[.string (quoteR s).1, .int .i64 (quoteR s).2]) ∧ Below w.heap.size w w' := by
  have hql := qList_le (byt s)
  rw [byt_length] at hql
  by_cases h0 : 19998 < s.size
  · have hr : Hid (quoteR s = (ByteArray.empty, 3)) := Lib.hid (by unfold quoteR; rw [if_neg (by omega)])
    have q : decide ((19998 : Int) < (s.size : Int)) = true := by simp; omega
    go_enter Tryd.func48, Tryd.ntmps48
    go_wp2_with fail
    go_ret2
    exact ⟨ret_q hr.out, Below.refl _ _⟩
  · have q : decide ((19998 : Int) < (s.size : Int)) = false := by simp; omega
    have hbl : Bld w.heap.size w.heap.size [] (w.alloc (.cells #[.pointer none, .slice none 0 0] 106)) := by
      have := Lib.fresh_isBuilder 106 5 w
      simpa [Bld, Lib.byteCells] using this
    have hw0 : Below w.heap.size w (w.alloc (.cells #[.pointer none, .slice none 0 0] 106)) := (Below.refl _ _).alloc (Nat.le_refl _) _
    have HBL := Lib.hid hbl
    have HW0 := Lib.hid hw0
    clear hbl hw0
    go_enter Tryd.func48, Tryd.ntmps48
    go_wp2_with fail
    refine (WriteByte_n _ _ [] 34 34 _ rfl HBL.out (by simp) HW0.out.size).mono ?_
    rintro e w1 ⟨rfl, hb1, hB1⟩
    have HB1 := Lib.hid (And.intro hb1 (HW0.out.trans hB1))
    clear hb1 hB1
    go_wp2_with fail
    go_loopw [5, 6, 13] (fun _ _ i wr => ∃ (k : Nat) (pre : List UInt8), k ≤ s.size ∧ i = .int .i64 k ∧ pre ++ qList ((byt s).drop k) = 34 :: qList (byt s) ∧ pre.length ≤ 1 + 2 * k ∧ Bld w.heap.size w.heap.size pre wr ∧ Below w.heap.size w wr) (fun _ _ i _ => s.size - (intOf i).toNat)
    case atStart => exact ⟨0, [34], Nat.zero_le _, rfl, by simp, by simp, HB1.out.1, HB1.out.2⟩
    case round =>
      obtain ⟨k, pre, hk, rfl, he, hp, hb, hB⟩ := hrel
      have hs1 := hB.size
      by_cases hlt : k < s.size
      · have g1 : k < (byt s).length := by rw [byt_length]; exact hlt
        rw [qList_step g1, ← List.append_assoc] at he
        have hqb : qByte (byt s)[k] = qByte (s[k]'hlt) := rfl
        rw [hqb] at he
        cases h1 : (((s[k]'hlt).toNat : Int) == 10)
        · cases h2 : (((s[k]'hlt).toNat : Int) == 34)
          · cases h3 : (((s[k]'hlt).toNat : Int) == 92)
            · have he2 : pre ++ [s[k]'hlt] ++ qList ((byt s).drop (k + 1)) = 34 :: qList (byt s) := by unfold qByte at he; rw [h1, h2, h3] at he; exact he
              have He := Lib.hid he2
              clear he he2 hqb
              go_wp2_with fail
              refine (WriteByte_n _ _ pre (s[k]'hlt) _ _ rfl hb (by omega) hs1).mono ?_
              rintro e w2 ⟨rfl, hb2, hB2⟩
              have hB3 := hB.trans hB2
              go_wp2_with fail
              exact ⟨⟨k + 1, _, by omega, by go_num, He.out, by simp; omega, hb2, hB3⟩, by simp [intOf]; omega⟩
            · have he2 : pre ++ [92] ++ [s[k]'hlt] ++ qList ((byt s).drop (k + 1)) = 34 :: qList (byt s) := by unfold qByte at he; rw [h1, h2, h3] at he; rw [← he]; simp
              have He := Lib.hid he2
              clear he he2 hqb
              go_wp2_with fail
              refine (WriteByte_n _ _ pre 92 92 _ rfl hb (by omega) hs1).mono ?_
              rintro e w2 ⟨rfl, hb2, hB2⟩
              have hB3 := hB.trans hB2
              go_wp2_with fail
              refine (WriteByte_n _ _ _ (s[k]'hlt) _ _ rfl hb2 (by simp; omega) hB3.size).mono ?_
              rintro e w3 ⟨rfl, hb3, hB4⟩
              have hB5 := hB3.trans hB4
              go_wp2_with fail
              exact ⟨⟨k + 1, _, by omega, by go_num, He.out, by simp; omega, hb3, hB5⟩, by simp [intOf]; omega⟩
          · have he2 : pre ++ [92] ++ [s[k]'hlt] ++ qList ((byt s).drop (k + 1)) = 34 :: qList (byt s) := by unfold qByte at he; rw [h1, h2] at he; rw [← he]; simp
            have He := Lib.hid he2
            clear he he2 hqb
            go_wp2_with fail
            refine (WriteByte_n _ _ pre 92 92 _ rfl hb (by omega) hs1).mono ?_
            rintro e w2 ⟨rfl, hb2, hB2⟩
            have hB3 := hB.trans hB2
            go_wp2_with fail
            refine (WriteByte_n _ _ _ (s[k]'hlt) _ _ rfl hb2 (by simp; omega) hB3.size).mono ?_
            rintro e w3 ⟨rfl, hb3, hB4⟩
            have hB5 := hB3.trans hB4
            go_wp2_with fail
            exact ⟨⟨k + 1, _, by omega, by go_num, He.out, by simp; omega, hb3, hB5⟩, by simp [intOf]; omega⟩
        · have he2 : pre ++ [92, 110] ++ qList ((byt s).drop (k + 1)) = 34 :: qList (byt s) := by unfold qByte at he; rw [h1] at he; exact he
          have He := Lib.hid he2
          clear he he2 hqb
          go_wp2_with fail
          refine (WriteString_any _ _ pre { data := #[92, 110] } _ hb (by have : ({ data := #[92, 110] } : ByteArray).size = 2 := rfl; omega) hs1).mono ?_
          rintro e w2 ⟨rfl, hb2, hB2, _⟩
          have hB3 := hB.trans hB2
          go_wp2_with fail
          exact ⟨⟨k + 1, pre ++ [92, 110], by omega, by go_num, He.out, by simp; omega, hb2, hB3⟩, by simp [intOf]; omega⟩
      · rw [qList_end (by rw [byt_length]; omega), List.append_nil] at he
        subst he
        have hpl : ((34 : UInt8) :: qList (byt s)).length = (qList (byt s)).length + 1 := rfl
        have HP := Lib.hid hpl
        go_wp2_with fail
        refine (WriteByte_n _ _ _ 34 34 _ rfl hb (by omega) hs1).mono ?_
        rintro e w2 ⟨rfl, hb2, hB2⟩
        have hB3 := hB.trans hB2
        have hlen : ((34 : UInt8) :: qList (byt s) ++ [34]).length = (qList (byt s)).length + 2 := by simp
        go_wp2_with fail
        refine (Len_any _ _ _ _ hb2).mono ?_
        rw [hlen]
        rintro e w3 ⟨rfl, rfl⟩
        by_cases h9 : (qList (byt s)).length + 2 ≤ 20000
        · have hr : Hid (quoteR s = (quoteB s, 0)) := Lib.hid (by unfold quoteR; rw [if_pos h9])
          have q9 : decide ((20000 : Int) < (((qList (byt s)).length + 2 : Nat) : Int)) = false := by simp; omega
          generalize (qList (byt s)).length + 2 = LL at q9 h9
          go_wp2_with fail
          refine (BString_any _ _ _ _ hb2 hB3.size).mono ?_
          rintro e w4 ⟨rfl, hB4⟩
          go_wp2_with fail
          go_ret2
          exact ⟨ret_q hr.out, hB3.trans hB4⟩
        · have hr : Hid (quoteR s = (ByteArray.empty, 3)) := Lib.hid (by unfold quoteR; rw [if_neg h9])
          have q9 : decide ((20000 : Int) < (((qList (byt s)).length + 2 : Nat) : Int)) = true := by simp; omega
          generalize (qList (byt s)).length + 2 = LL at q9 h9
          go_wp2_with fail
          go_ret2
          exact ⟨ret_q hr.out, hB3⟩
end Go.Proofs.YtkdnacniligjjaaDoor
