/-
  Contracts of the specification's Width, Offset, Near.
-/
import Derived.Test.YtmbpjjehnfjdiaaDoorPlChar
import Derived.Test.YtmbpjjehnfjdiaaDoorPl5
namespace Go.Proofs.YtmbpjjehnfjdiaaDoor
set_option linter.unusedVariables false
set_option linter.unusedSimpArgs false
open Go.RowKit

set_option maxRecDepth 100000 in
theorem rWidth_any (s : ByteArray) (w : World) (hs : s.size ≤ 60000) :
    Calls Tryd.prog 23 #[.string s] w fun e w' => ∃ W : Nat, e = .returned (.int .i64 (W : Int)) ∧ Ch s 0 s.size W ∧ Below w.heap.size w w' := by
  go_enter Tryd.func23, Tryd.ntmps23
  go_wp2_with fail
  go_loopw [3, 4] (fun n p wr => ∃ (pos W : Nat), wr = w ∧ n = .int .i64 (W : Int) ∧ p = .int .i64 (pos : Int) ∧ Ch s 0 pos W ∧ pos ≤ s.size) (fun _ p _ => s.size - (intOf p).toNat)
  case atStart => exact ⟨0, 0, rfl, rfl, rfl, Ch.refl 0, by omega⟩
  case round =>
    obtain ⟨pos, W, rfl, rfl, rfl, hc, hle⟩ := hrel
    have hwl := hc.width_le
    by_cases hp : pos < s.size
    · have Hc := Lib.hid (hc.snoc hp)
      have hdn := dn_le s pos hp
      have hdp := dn_pos s pos
      have hdw := dw_le s pos
      clear hc
      go_wp2_with fail
      with_reducible refine (Char_any s pos _ hs hp).mono ?_
      rintro e w1 ⟨rfl, rfl⟩
      go_wp2_with fail
      exact ⟨⟨pos + dn s pos, W + dw s pos, trivial, by go_num, by go_num, Hc.out, hdn⟩, by simp [intOf]; omega⟩
    · have hpe : pos = s.size := by omega
      subst hpe
      have Hc := Lib.hid hc
      clear hc
      go_wp2_with fail
      go_ret
      exact ⟨W, rfl, Hc.out, Below.refl _ _⟩

/-- what the specification's Offset returns -/
def ROff (s : ByteArray) (a b : Int) (e : Ending) : Prop :=
  (∃ o : Nat, HasOff s a b o ∧ e = .returned (.tuple #[.int .i64 (o : Int), .bool true])) ∨
  ((¬ ∃ o : Nat, HasOff s a b o) ∧ ∃ z : Int, e = .returned (.tuple #[.int .i64 z, .bool false]))
theorem no_has2 {s : ByteArray} {a b : Int} (h : b < 0) : ¬ ∃ o : Nat, HasOff s a b o := by
  rintro ⟨o, l, c, rfl, _, hl, _⟩
  omega
theorem ret_ib {a c : Int} {b d : Bool} (h1 : a = c) (h2 : b = d) : Ending.returned (.tuple #[.int .i64 a, .bool b]) = .returned (.tuple #[.int .i64 c, .bool d]) := by rw [h1, h2]

set_option maxRecDepth 100000 in
set_option maxHeartbeats 2000000 in
theorem rOffset_any (s : ByteArray) (a b : Int) (w : World) (hs : s.size ≤ 60000) :
    Calls Tryd.prog 17 #[.string s, .agg #[.int .i64 a, .int .i64 b]] w fun e w' => ROff s a b e ∧ Below w.heap.size w w' := by
  have hw0 : Below w.heap.size w (w.alloc (.cells #[.int .i64 a, .int .i64 b] 23)) := (Below.refl _ _).alloc (Nat.le_refl _) _
  have hnew := heap_alloc_new w (.cells #[.int .i64 a, .int .i64 b] 23)
  have hll := linesOf_length (byt s)
  have hfl := feedsL_le (byt s)
  rw [byt_length] at hfl
  have Hnew := Lib.hid hnew
  have Hll := Lib.hid hll
  clear hll hnew
  have Hn : Hid (linesOf (byt s) = linesOf (byt s)) := Lib.hid rfl
  by_cases hin : 0 ≤ a ∧ a ≤ (feedsL (byt s) : Int) ∧ 0 ≤ b
  · obtain ⟨h0, h1, h2⟩ := hin
    obtain ⟨k, rfl⟩ : ∃ k : Nat, a = (k : Int) := ⟨a.toNat, by omega⟩
    have hk : k ≤ feedsL (byt s) := by omega
    go_enter Tryd.func17, Tryd.ntmps17
    go_wp2_with fail
    with_reducible refine (rLines_own s _ hs).mono ?_
    rintro e w1 ⟨v, rfl, hown, hb1⟩
    have hB1 := hw0.trans (hb1.mono (by simp))
    have hbx := (hb1.block w.heap.size (by simp)).trans Hnew.out
    have c0 : w1.cell? ⟨w.heap.size, 0, none⟩ = some (.int .i64 (k : Int)) := Lib.cell_of_heap hbx 0
    have c1 : w1.cell? ⟨w.heap.size, 1, none⟩ = some (.int .i64 b) := Lib.cell_of_heap hbx 1
    obtain ⟨ao, cap, rfl, hao⟩ := own_shape hown
    obtain ⟨g, rfl, hg1, hg2⟩ := hao (by have := Hll.out; omega)
    have hkl : k < (linesOf (byt s)).length := by have := Hll.out; omega
    obtain ⟨s1, s2⟩ := sp_get hown hkl
    have hge : (linesOf (byt s))[k] = lineAt (byt s) k := by
      have h := linesOf_get (byt s) k hk
      rw [List.getElem?_eq_getElem hkl] at h
      exact Option.some.inj h
    rw [hge, lineAt_lst] at s1 s2
    simp only at s1 s2
    obtain ⟨W, hW⟩ := Ch.line (s := s) k hk
    have hfz := feedAt_le_len s k
    have hlf := lst_le_feedAt (byt s) k hk
    have hhas : ∀ o, HasOff s k b o → lst (byt s) k ≤ o ∧ o ≤ feedAt (byt s) k ∧ ∃ c : Nat, b = c ∧ Ch s (lst (byt s) k) o c := by
      rintro o ⟨l, c, e1, e2, _, h3, h4, h5⟩
      obtain rfl : k = l := by omega
      exact ⟨h3, h4, c, e2, h5⟩
    have hhas2 : ∀ o c : Nat, (c : Int) = b → o ≤ feedAt (byt s) k → Ch s (lst (byt s) k) o c → HasOff s k b o := fun o c e1 h2 h3 => ⟨k, c, rfl, e1.symm, hk, h3.le, h2, h3⟩
    obtain ⟨N, hN⟩ : ∃ N, N = (linesOf (byt s)).length := ⟨_, rfl⟩
    rw [← hN] at hkl
    rw [← hN]
    obtain ⟨lk, hlk⟩ : ∃ lk, lk = lst (byt s) k := ⟨_, rfl⟩
    obtain ⟨fk, hfk⟩ : ∃ fk, fk = feedAt (byt s) k := ⟨_, rfl⟩
    rw [← hlk] at s1 hhas hhas2 hW hlf
    rw [← hfk] at s2 hhas hhas2 hW hlf hfz
    have HW := Lib.hid hW
    have HH := Lib.hid hhas
    have HH2 := Lib.hid hhas2
    have kq : (k : Int) < (N : Int) := by omega
    have z1 : decide ((k : Int) < 0) = false := decide_eq_false (by omega)
    have z2 : decide (N ≤ k) = false := decide_eq_false (by omega)
    have z3 : decide (b < 0) = false := decide_eq_false (by omega)
    clear hN hlk hfk hhas hhas2 hW hge hbx hown Hn hao
    go_wp2_with fail
    go_loopw [7, 8] (fun p n wr => ∃ (pos c : Nat), wr = w1 ∧ p = .int .i64 (pos : Int) ∧ n = .int .i64 (c : Int) ∧ Ch s lk pos c ∧ pos ≤ fk ∧ (∀ o, HasOff s k b o → pos ≤ o)) (fun p _ _ => fk - (intOf p).toNat)
    case atStart => exact ⟨lk, 0, rfl, rfl, rfl, Ch.refl lk, hlf, fun o h => (HH.out o h).1⟩
    case round =>
      obtain ⟨pos, c, rfl, rfl, rfl, hc, hle, hall⟩ := hrel
      have hwl := hc.width_le
      have Hall := Lib.hid hall
      clear hall
      by_cases hgo : pos < fk ∧ (c : Int) < b
      · obtain ⟨g1, g2⟩ := hgo
        have hp : pos < s.size := by omega
        have Hc := Lib.hid (hc.snoc hp)
        obtain ⟨u, hu, _⟩ := hc.split HW.out hle
        obtain ⟨_, v2, _, hnx⟩ := hu.next g1
        have hnl := hnx.le
        have hnext : ∀ o, HasOff s k b o → pos + dn s pos ≤ o := fun o ho => by
          have h1 := Hall.out o ho
          obtain ⟨_, _, c', e1, h4⟩ := HH.out o ho
          by_cases he : pos = o
          · subst he
            have := hc.det h4
            omega
          · obtain ⟨u2, hu2, _⟩ := hc.split h4 h1
            obtain ⟨_, v3, _, h5⟩ := hu2.next (by omega)
            exact h5.le
        have Hnext := Lib.hid hnext
        have hdn := dn_le s pos hp
        have hdp := dn_pos s pos
        have hdw := dw_le s pos
        clear hc hu hnx hnext
        go_wp2_with fail
        with_reducible refine (Char_any s pos _ hs hp).mono ?_
        rintro e w2 ⟨rfl, rfl⟩
        go_wp2_with fail
        exact ⟨⟨pos + dn s pos, c + dw s pos, trivial, by go_num, by go_num, Hc.out, hnl, Hnext.out⟩, by simp [intOf]; omega⟩
      · have hsel : decide (pos < fk) = false ∨ (decide (pos < fk) = true ∧ decide ((c : Int) < b) = false) := by
          simp only [decide_eq_true_eq, decide_eq_false_iff_not]; omega
        have hres : (if (c : Int) = b then HasOff s k b pos else ¬ ∃ o, HasOff s k b o) := by
          by_cases he : (c : Int) = b
          · rw [if_pos he]; exact HH2.out pos c he hle hc
          · rw [if_neg he]
            rintro ⟨o, ho⟩
            have h1 := Hall.out o ho
            obtain ⟨_, h3, c', e1, h4⟩ := HH.out o ho
            obtain ⟨u2, hu2, e2⟩ := hc.split h4 h1
            by_cases hpf : pos < fk
            · omega
            · obtain rfl : pos = o := by omega
              have := hc.det h4
              omega
        have Hres := Lib.hid hres
        clear hres hc hgo
        by_cases he : (c : Int) = b
        · have q : ((c : Int) == b) = true := by simp [he]
          have He := Lib.hid he
          clear he
          rcases hsel with d1 | ⟨d1, d2⟩
          all_goals
            go_wp2_with fail
            go_quiet (fail)
            go_wp2_with fail
            go_ret2
            refine ⟨.inl ⟨pos, by have := Hres.out; rwa [if_pos He.out] at this, rfl⟩, below_drewN hB1 _⟩
        · have q : ((c : Int) == b) = false := by simpa using he
          have He := Lib.hid he
          clear he
          rcases hsel with d1 | ⟨d1, d2⟩
          all_goals
            go_wp2_with fail
            go_quiet (fail)
            go_wp2_with fail
            go_ret2
            refine ⟨.inr ⟨by have := Hres.out; rwa [if_neg He.out] at this, _, rfl⟩, below_drewN hB1 _⟩
  · have hno : ¬ ∃ o : Nat, HasOff s a b o := by
      by_cases hb : b < 0
      · exact no_has2 hb
      · exact no_has (by omega)
    have Hno := Lib.hid hno
    have hsel : decide (a < 0) = true ∨ (decide (a < 0) = false ∧ decide ((((linesOf (byt s)).length : Nat) : Int) ≤ a) = true) ∨ (decide (a < 0) = false ∧ decide ((((linesOf (byt s)).length : Nat) : Int) ≤ a) = false ∧ decide (b < 0) = true) := by
      simp only [decide_eq_true_eq, decide_eq_false_iff_not]; have := Hll.out; omega
    clear hno hin
    rcases hsel with d1 | ⟨d1, d2⟩ | ⟨d1, d2, d3⟩
    all_goals
      go_enter Tryd.func17, Tryd.ntmps17
      go_wp2_with fail
      with_reducible refine (rLines_own s _ hs).mono ?_
      rintro e w1 ⟨v, rfl, hown, hb1⟩
      have hB1 := hw0.trans (hb1.mono (by simp))
      have hbx := (hb1.block w.heap.size (by simp)).trans Hnew.out
      have c0 : w1.cell? ⟨w.heap.size, 0, none⟩ = some (.int .i64 a) := Lib.cell_of_heap hbx 0
      have c1 : w1.cell? ⟨w.heap.size, 1, none⟩ = some (.int .i64 b) := Lib.cell_of_heap hbx 1
      obtain ⟨ao, cap, rfl, hao⟩ := own_shape hown
      clear hown hao hbx
      go_wp2_with fail
      go_ret2
      exact ⟨.inr ⟨Hno.out, _, rfl⟩, hB1⟩
set_option maxRecDepth 100000 in
set_option maxHeartbeats 2000000 in
theorem rNear_any (s : ByteArray) (a b : Int) (w : World) (hs : s.size ≤ 60000) :
    Calls Tryd.prog 18 #[.string s, .agg #[.int .i64 a, .int .i64 b]] w fun e w' => (∃ o : Nat, NearAll s a b o ∧ e = .returned (.int .i64 (o : Int))) ∧ Below w.heap.size w w' := by
  have hw0 : Below w.heap.size w (w.alloc (.cells #[.int .i64 a, .int .i64 b] 23)) := (Below.refl _ _).alloc (Nat.le_refl _) _
  have hnew := heap_alloc_new w (.cells #[.int .i64 a, .int .i64 b] 23)
  have hll := linesOf_length (byt s)
  have hfl := feedsL_le (byt s)
  rw [byt_length] at hfl
  have Hnew := Lib.hid hnew
  have Hll := Lib.hid hll
  clear hll hnew
  by_cases hin : 0 ≤ a ∧ a ≤ (feedsL (byt s) : Int)
  · obtain ⟨h0, h1⟩ := hin
    obtain ⟨k, rfl⟩ : ∃ k : Nat, a = (k : Int) := ⟨a.toNat, by omega⟩
    have hk : k ≤ feedsL (byt s) := by omega
    go_enter Tryd.func18, Tryd.ntmps18
    go_wp2_with fail
    with_reducible refine (rLines_own s _ hs).mono ?_
    rintro e w1 ⟨v, rfl, hown, hb1⟩
    have hB1 := hw0.trans (hb1.mono (by simp))
    have hbx := (hb1.block w.heap.size (by simp)).trans Hnew.out
    have c0 : w1.cell? ⟨w.heap.size, 0, none⟩ = some (.int .i64 (k : Int)) := Lib.cell_of_heap hbx 0
    have c1 : w1.cell? ⟨w.heap.size, 1, none⟩ = some (.int .i64 b) := Lib.cell_of_heap hbx 1
    obtain ⟨ao, cap, rfl, hao⟩ := own_shape hown
    obtain ⟨g, rfl, hg1, hg2⟩ := hao (by have := Hll.out; omega)
    have hkl : k < (linesOf (byt s)).length := by have := Hll.out; omega
    obtain ⟨s1, s2⟩ := sp_get hown hkl
    have hge : (linesOf (byt s))[k] = lineAt (byt s) k := by
      have h := linesOf_get (byt s) k hk
      rw [List.getElem?_eq_getElem hkl] at h
      exact Option.some.inj h
    rw [hge, lineAt_lst] at s1 s2
    simp only at s1 s2
    obtain ⟨W, hW⟩ := Ch.line (s := s) k hk
    have hfz := feedAt_le_len s k
    have hlf := lst_le_feedAt (byt s) k hk
    have hnr : ∀ o c : Nat, Ch s (lst (byt s) k) o c → o ≤ feedAt (byt s) k → (o = lst (byt s) k ∨ (c : Int) ≤ b) → (o = feedAt (byt s) k ∨ b < (c : Int) + dw s o) → NearAll s k b o := fun o c h1 h2 h3 h4 => .inr (.inr ⟨k, rfl, hk, c, h1, h2, h3, h4⟩)
    obtain ⟨N, hN⟩ : ∃ N, N = (linesOf (byt s)).length := ⟨_, rfl⟩
    rw [← hN] at hkl
    rw [← hN]
    obtain ⟨lk, hlk⟩ : ∃ lk, lk = lst (byt s) k := ⟨_, rfl⟩
    obtain ⟨fk, hfk⟩ : ∃ fk, fk = feedAt (byt s) k := ⟨_, rfl⟩
    rw [← hlk] at s1 hnr hW hlf
    rw [← hfk] at s2 hnr hW hlf hfz
    have HW := Lib.hid hW
    have HR := Lib.hid hnr
    have kq : (k : Int) < (N : Int) := by omega
    have z1 : decide ((k : Int) < 0) = false := decide_eq_false (by omega)
    have z2 : decide (N ≤ k) = false := decide_eq_false (by omega)
    clear hN hlk hfk hnr hW hge hbx hown hao
    go_wp2_with fail
    go_loopw [6, 7] (fun p n wr => ∃ (pos c : Nat), wr = w1 ∧ p = .int .i64 (pos : Int) ∧ n = .int .i64 (c : Int) ∧ Ch s lk pos c ∧ pos ≤ fk ∧ (pos = lk ∨ (c : Int) ≤ b)) (fun p _ _ => fk - (intOf p).toNat)
    case atStart => exact ⟨lk, 0, rfl, rfl, rfl, Ch.refl lk, hlf, .inl rfl⟩
    case round =>
      obtain ⟨pos, c, rfl, rfl, rfl, hc, hle, hcb⟩ := hrel
      have hwl := hc.width_le
      have Hcb := Lib.hid hcb
      clear hcb
      by_cases hgo : pos < fk
      · have hp : pos < s.size := by omega
        have Hc := Lib.hid hc
        have Hs := Lib.hid (hc.snoc hp)
        obtain ⟨u, hu, _⟩ := hc.split HW.out hle
        obtain ⟨_, v2, _, hnx⟩ := hu.next hgo
        have hnl := hnx.le
        have hdn := dn_le s pos hp
        have hdp := dn_pos s pos
        have hdw := dw_le s pos
        clear hc hu hnx
        by_cases hq : b < (c : Int) + (dw s pos : Int)
        · go_wp2_with fail
          with_reducible refine (Char_any s pos _ hs hp).mono ?_
          rintro e w2 ⟨rfl, rfl⟩
          go_wp2_with fail
          go_ret
          exact ⟨⟨pos, HR.out pos c Hc.out hle Hcb.out (.inr hq), rfl⟩, hB1⟩
        · go_wp2_with fail
          with_reducible refine (Char_any s pos _ hs hp).mono ?_
          rintro e w2 ⟨rfl, rfl⟩
          go_wp2_with fail
          exact ⟨⟨pos + dn s pos, c + dw s pos, trivial, by go_num, by go_num, Hs.out, hnl, .inr (by omega)⟩, by simp [intOf]; omega⟩
      · have Hc := Lib.hid hc
        clear hc
        go_wp2_with fail
        go_ret
        exact ⟨⟨pos, HR.out pos c Hc.out hle Hcb.out (.inl (by omega)), rfl⟩, hB1⟩
  · have hsel : decide (a < 0) = true ∨ (decide (a < 0) = false ∧ decide ((((linesOf (byt s)).length : Nat) : Int) ≤ a) = true) := by
      simp only [decide_eq_true_eq, decide_eq_false_iff_not]; have := Hll.out; omega
    have hres : ∀ o : Nat, (o = 0 ∧ a < 0) ∨ (o = s.size ∧ ¬ a < 0) → NearAll s a b o := by
      rintro o (⟨rfl, h⟩ | ⟨rfl, h⟩)
      · exact .inl ⟨h, rfl⟩
      · exact .inr (.inl ⟨by omega, rfl⟩)
    have Hres := Lib.hid hres
    clear hres hin
    rcases hsel with d1 | ⟨d1, d2⟩
    all_goals
      go_enter Tryd.func18, Tryd.ntmps18
      go_wp2_with fail
      with_reducible refine (rLines_own s _ hs).mono ?_
      rintro e w1 ⟨v, rfl, hown, hb1⟩
      have hB1 := hw0.trans (hb1.mono (by simp))
      have hbx := (hb1.block w.heap.size (by simp)).trans Hnew.out
      have c0 : w1.cell? ⟨w.heap.size, 0, none⟩ = some (.int .i64 a) := Lib.cell_of_heap hbx 0
      have c1 : w1.cell? ⟨w.heap.size, 1, none⟩ = some (.int .i64 b) := Lib.cell_of_heap hbx 1
      obtain ⟨ao, cap, rfl, hao⟩ := own_shape hown
      clear hown hao hbx
      go_wp2_with fail
      go_ret
      first
        | exact ⟨⟨0, Hres.out 0 (.inl ⟨rfl, of_decide_eq_true d1⟩), rfl⟩, hB1⟩
        | exact ⟨⟨s.size, Hres.out s.size (.inr ⟨rfl, by simp only [decide_eq_false_iff_not] at d1; omega⟩), rfl⟩, hB1⟩
end Go.Proofs.YtmbpjjehnfjdiaaDoor
