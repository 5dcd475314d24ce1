/-
  Contracts of the small functions on edits: isSpan, growth, areRising, check, Check.; The contract of Move's isBefore.; Contracts of Move on both sides.; Contracts of edited and Apply.
-/
import Derived.Test.YtkdnacniligjjaaDoorRelexCommonsp9
import Derived.Test.YtkdnacniligjjaaDoorRows
import Derived.Test.YtkdnacniligjjaaDoorRelexCommonsp11
namespace Go.Proofs.YtkdnacniligjjaaDoor
open Go.RowKit

theorem isSpan_any (a b n : Int) (w : World) :
    Calls Tryd.prog 109 #[.int .i64 a, .int .i64 b, .int .i64 n] w fun e w' => e = .returned (.bool (isSpanB a b n)) ∧ w = w' := by
  go_enter Tryd.func109, Tryd.ntmps109
  go_wp2
  all_goals
    go_ret
    exact ⟨ret_bool (by unfold isSpanB; rw [Bool.eq_iff_iff]; simp; omega), rfl⟩

theorem growth_any (f t : Int) (s : ByteArray) (w : World) (h1 : -100000 ≤ t - f) (h2 : t - f ≤ 100000) (h3 : s.size ≤ 60000) :
    Calls Tryd.prog 98 #[.agg #[.int .i64 f, .int .i64 t, .string s]] w fun e w' => e = .returned (.int .i64 (growE ⟨f, t, s⟩)) ∧ Below w.heap.size w w' := by
  go_enter Tryd.func98, Tryd.ntmps98
  go_wp2
  go_ret
  exact ⟨ret_int rfl, (Below.refl _ _).alloc (Nat.le_refl _) _⟩

theorem areRising_any (n : Int) (c : Nat) (A : Option Addr) (l : List Ed) (w : World) (hl : l.length ≤ 1000) (hE : EdsV w A l) :
    Calls Tryd.prog 108 #[.slice A l.length c, .int .i64 n] w fun e w' => e = .returned (.bool (rising n 0 l)) ∧ Below w.heap.size w w' := by
  go_enter Tryd.func108, Tryd.ntmps108
  go_wp2_with fail
  go_loopw [5, 10] (fun last i wr => ∃ (k : Nat) (z : Int), k ≤ l.length ∧ i = .int .i64 k ∧ last = .int .i64 z ∧ rising n z (l.drop k) = rising n 0 l ∧ Below w.heap.size w wr) (fun _ i _ => l.length - (intOf i).toNat)
  case atStart => exact ⟨0, 0, by omega, rfl, rfl, rfl, Below.refl _ _⟩
  case round =>
    obtain ⟨k, z, hk, rfl, rfl, hr, hB⟩ := hrel
    by_cases hlt : k < l.length
    · obtain ⟨b, off, rfl, hb, c1, c2, c3⟩ := (hE.below hB).get hlt
      have hd : rising n z (l.drop k) = (decide (z ≤ l[k].f) && isSpanB l[k].f l[k].t n && rising n l[k].t (l.drop (k + 1))) := by
        rw [List.drop_eq_getElem_cons hlt]; rfl
      have Hr := Lib.hid (hr.symm.trans hd)
      have hd' : isSpanB l[k].f l[k].t n = true → z ≤ l[k].f → rising n l[k].t (l.drop (k + 1)) = rising n 0 l := fun h1 h2 => by rw [← hr, hd]; simp [h1, h2]
      have Hd := Lib.hid hd'
      clear hr hd hd' hE
      by_cases hs : isSpanB l[k].f l[k].t n = true
      · have Hs := Lib.hid hs
        clear hs
        go_wp2_with ((with_reducible refine (isSpan_any _ _ _ _).mono ?_); rintro e w' ⟨rfl, rfl⟩; simp only [Hs.out])
        · exact ⟨⟨k + 1, _, by omega, by go_num, rfl, Hd.out Hs.out (by omega), hB.alloc hB.size _⟩, by simp [intOf]; omega⟩
        · go_ret
          exact ⟨ret_bool (by rw [Hr.out]; simp; omega), hB.alloc hB.size _⟩
      · have Hs := Lib.hid (Bool.eq_false_iff.2 hs)
        clear hs
        go_wp2_with ((with_reducible refine (isSpan_any _ _ _ _).mono ?_); rintro e w' ⟨rfl, rfl⟩; simp only [Hs.out])
        all_goals
          go_ret
          exact ⟨ret_bool (by rw [Hr.out, Hs.out]; simp), hB.alloc hB.size _⟩
    · go_wp2
      go_ret
      exact ⟨ret_bool (by rw [← hr, List.drop_of_length_le (by omega)]; rfl), hB⟩

/-- rope.check: Check of a string of so many bytes -/
theorem check_any (n : Int) (c : Nat) (A : Option Addr) (l : List Ed) (w : World) (hl : Small l) (h0 : 0 ≤ n) (h1 : n ≤ 60000) (hE : EdsV w A l) :
    Calls Tryd.prog 97 #[.int .i64 n, .slice A l.length c] w fun e w' => e = .returned (.int .i64 (checkLen n l)) ∧ Below w.heap.size w w' := by
  have hl1 := hl.1
  by_cases hlen : 100 < l.length
  · go_enter Tryd.func97, Tryd.ntmps97
    go_wp2_with fail
    go_ret
    exact ⟨ret_int (by simp [checkLen, hlen]), Below.refl _ _⟩
  · by_cases hr : rising n 0 l = true
    · have Hr := Lib.hid hr
      clear hr
      go_enter Tryd.func97, Tryd.ntmps97
      go_wp2_with fail
      refine (areRising_any n c A l w hl1 hE).mono ?_
      rintro e w1 ⟨rfl, hb1⟩
      simp only [Hr.out]
      go_wp2_with fail
      go_loopw [0, 16] (fun z i wr => ∃ (k : Nat), k ≤ l.length ∧ i = .int .i64 k ∧ z = .int .i64 (n + sumG (l.take k)) ∧ Below w.heap.size w wr) (fun _ i _ => l.length - (intOf i).toNat)
      case atStart => exact ⟨0, by omega, rfl, by simp [sumG], hb1⟩
      case round =>
        obtain ⟨k, hk, rfl, rfl, hB⟩ := hrel
        have hbd := sumG_take_bd h1 (Int.le_refl 0) hl Hr.out k
        by_cases hlt : k < l.length
        · obtain ⟨b, off, rfl, hb, c1, c2, c3⟩ := (hE.below hB).get hlt
          have hg := rising_get Hr.out hlt
          have hsz := hl.get hlt
          have hS := Lib.hid (sumG_take_succ hlt)
          clear hE
          have hgr : -100000 ≤ growE l[k] ∧ growE l[k] ≤ 100000 := by unfold growE; omega
          go_wp2_with fail
          refine (growth_any _ _ _ _ (by omega) (by omega) (by omega)).mono ?_
          rintro e w2 ⟨rfl, hb2⟩
          have e1 : growE { f := l[k].f, t := l[k].t, s := l[k].s } = growE l[k] := rfl
          rw [e1]
          clear e1
          go_wp2
          go_roundw
          case rel => exact ⟨k + 1, by omega, by go_num, by rw [hS.out]; go_num, (hB.alloc hB.size _).trans (hb2.mono (by have := hB.size; simp; omega))⟩
          case measure => simp [intOf]; omega
        · have hke : k = l.length := by omega
          subst hke
          rw [sumG_take_all] at *
          have H1 : checkLen n l = if 20000 < n + sumG l then 7 else 0 := by simp [checkLen, hlen, Hr.out]
          have H := Lib.hid H1
          clear H1
          go_wp2
          all_goals
            go_ret
            exact ⟨ret_int (by rw [H.out]; simp; omega), hB⟩
    · have Hr := Lib.hid (Bool.eq_false_iff.2 hr)
      clear hr
      go_enter Tryd.func97, Tryd.ntmps97
      go_wp2_with fail
      refine (areRising_any n c A l w hl1 hE).mono ?_
      rintro e w1 ⟨rfl, hb1⟩
      simp only [Hr.out]
      go_wp2_with fail
      go_ret
      exact ⟨ret_int (by simp [checkLen, hlen, Hr.out]), hb1⟩

theorem Check_any (t : ByteArray) (c : Nat) (A : Option Addr) (l : List Ed) (w : World) (hl : Small l) (h1 : t.size ≤ 60000) (hE : EdsV w A l) :
    Calls Tryd.prog 62 #[.string t, .slice A l.length c] w fun e w' => e = .returned (.int .i64 (checkE t.size l)) ∧ Below w.heap.size w w' := by
  by_cases ht : 20000 < t.size
  · go_enter Tryd.func62, Tryd.ntmps62
    go_wp2_with fail
    go_ret
    exact ⟨ret_int (by unfold checkE; rw [if_pos (by omega)]), Below.refl _ _⟩
  · go_enter Tryd.func62, Tryd.ntmps62
    go_wp2_with ((with_reducible refine (check_any _ c A l w hl (by omega) (by omega) hE).mono ?_); rintro e w2 ⟨rfl, hb2⟩)
    go_ret
    exact ⟨ret_int (by unfold checkE; rw [if_neg (by omega)]), hb2⟩
end Go.Proofs.YtkdnacniligjjaaDoor

namespace Go.Proofs.YtkdnacniligjjaaDoor
open Go.RowKit

theorem isBefore_any (e : Ed) (o : Int) (after : Bool) (w : World) :
    Calls Tryd.prog 110 #[.agg #[.int .i64 e.f, .int .i64 e.t, .string e.s], .int .i64 o, .bool after] w fun x w' => x = .returned (.bool (isBef e o after)) ∧ Below w.heap.size w w' := by
  by_cases h1 : e.f = o
  · have f1 : (e.f == o) = true := by simpa using h1
    have H1 := Lib.hid h1
    clear h1
    by_cases h2 : e.t = o
    · have f2 : (e.t == o) = true := by simpa using h2
      have H2 := Lib.hid h2
      clear h2
      go_enter Tryd.func110, Tryd.ntmps110
      go_wp2
      go_ret
      exact ⟨ret_bool (by unfold isBef; rw [if_pos ⟨H1.out, H2.out⟩]), (Below.refl _ _).alloc (Nat.le_refl _) _⟩
    · have f2 : (e.t == o) = false := by simpa using h2
      have H2 := Lib.hid h2
      clear h2
      go_enter Tryd.func110, Tryd.ntmps110
      go_wp2
      go_ret
      exact ⟨ret_bool (by unfold isBef; rw [if_neg (fun h => H2.out h.2)]), (Below.refl _ _).alloc (Nat.le_refl _) _⟩
  · have f1 : (e.f == o) = false := by simpa using h1
    have H1 := Lib.hid h1
    clear h1
    go_enter Tryd.func110, Tryd.ntmps110
    go_wp2
    go_ret
    exact ⟨ret_bool (by unfold isBef; rw [if_neg (fun h => H1.out h.1)]), (Below.refl _ _).alloc (Nat.le_refl _) _⟩
end Go.Proofs.YtkdnacniligjjaaDoor

namespace Go.Proofs.YtkdnacniligjjaaDoor
open Go.RowKit

theorem ret_int_err {a b e f : Int} (h : a = b) (h2 : e = f) : Ending.returned (.tuple #[.int .i64 a, .int .i64 e]) = .returned (.tuple #[.int .i64 b, .int .i64 f]) := by rw [h, h2]

theorem moveE_drop {l : List Ed} {k : Nat} (hk : k < l.length) (o : Int) (after : Bool) (sh : Int) :
    moveE o after sh (l.drop k) = if l[k].f < o ∧ o < l[k].t then l[k].f + sh + l[k].s.size else if isBef l[k] o after = true then moveE o after (sh + growE l[k]) (l.drop (k + 1)) else o + sh := by
  rw [List.drop_eq_getElem_cons hk]; rfl
theorem moveR_drop {l : List Ed} {k : Nat} (hk : k < l.length) (o : Int) (after : Bool) (sh : Int) :
    moveR o after sh (l.drop k) = if l[k].f < o ∧ o < l[k].t then l[k].f + sh + l[k].s.size else if befR l[k] o after = true then moveR o after (sh + growE l[k]) (l.drop (k + 1)) else moveR o after sh (l.drop (k + 1)) := by
  rw [List.drop_eq_getElem_cons hk]; rfl

/-- what Move returns -/
def moveRes (l : List Ed) (o : Int) (after : Bool) : Int := if moveErr l o = 0 then moveE o after 0 l else 0
theorem moveRes_ok {l : List Ed} {o : Int} (h : moveErr l o = 0) (after : Bool) : moveRes l o after = moveE o after 0 l := by unfold moveRes; rw [if_pos h]
theorem moveRes_no {l : List Ed} {o : Int} (h : moveErr l o ≠ 0) (after : Bool) : moveRes l o after = 0 := by unfold moveRes; rw [if_neg h]
theorem moveErr_3 {l : List Ed} {o : Int} (h : 100 < l.length) : moveErr l o = 3 := by unfold moveErr; rw [if_pos h]

theorem Move_any (c : Nat) (A : Option Addr) (l : List Ed) (o : Int) (after : Bool) (w : World) (hl : Small l) (hE : EdsV w A l) :
    Calls Tryd.prog 85 #[.slice A l.length c, .int .i64 o, .bool after] w fun e w' =>
      e = .returned (.tuple #[.int .i64 (moveRes l o after), .int .i64 (moveErr l o)]) ∧ Below w.heap.size w w' := by
  have hl1 := hl.1
  by_cases hlen : 100 < l.length
  · have Hres := Lib.hid (moveErr_3 (o := o) hlen)
    go_enter Tryd.func85, Tryd.ntmps85
    go_wp2_with fail
    go_ret2
    exact ⟨ret_int_err (by rw [moveRes_no (by rw [Hres.out]; decide)]) Hres.out.symm, Below.refl _ _⟩
  · by_cases hr : rising 20000 0 l = true
    · have Hr := Lib.hid hr
      clear hr
      by_cases hs : isSpanB 0 o 20000 = true
      · have ho : 0 ≤ o ∧ o ≤ 20000 := by unfold isSpanB at hs; simp at hs; omega
        have Hs := Lib.hid hs
        clear hs
        have hres : moveErr l o = 0 := by unfold moveErr; rw [if_neg hlen, if_neg (by rw [Hr.out, Hs.out]; simp)]
        have Hres := Lib.hid hres
        clear hres
        go_enter Tryd.func85, Tryd.ntmps85
        go_wp2_with fail
        refine (areRising_any 20000 c A l w hl1 hE).mono ?_
        rintro e w1 ⟨rfl, hb1⟩
        simp only [Hr.out]
        go_wp2_with fail
        refine (isSpan_any 0 o 20000 _).mono ?_
        rintro e w2 ⟨rfl, rfl⟩
        simp only [Hs.out]
        go_wp2_with fail
        go_loopw [8, 24] (fun z i wr => ∃ (k : Nat), k ≤ l.length ∧ i = .int .i64 k ∧ z = .int .i64 (sumG (l.take k)) ∧ moveE o after (sumG (l.take k)) (l.drop k) = moveE o after 0 l ∧ Below w.heap.size w wr) (fun _ i _ => l.length - (intOf i).toNat)
        case atStart => exact ⟨0, by omega, rfl, by simp [sumG], by simp [sumG], hb1⟩
        case round =>
          obtain ⟨k, hk, rfl, rfl, hm, hB⟩ := hrel
          have hbd := sumG_take_bd (n := 20000) (by omega) (Int.le_refl 0) hl Hr.out k
          by_cases hlt : k < l.length
          · obtain ⟨b, off, rfl, hb, c1, c2, c3⟩ := (hE.below hB).get hlt
            have hg := rising_get Hr.out hlt
            have hsz := hl.get hlt
            have hS := Lib.hid (sumG_take_succ hlt)
            have Hm := Lib.hid (hm.symm.trans (moveE_drop hlt o after _))
            clear hE hm
            have hgr : -100000 ≤ growE l[k] ∧ growE l[k] ≤ 100000 := by unfold growE; omega
            by_cases h1 : l[k].f < o ∧ o < l[k].t
            · obtain ⟨h11, h12⟩ := h1
              go_wp2_with fail
              go_ret2
              exact ⟨ret_int_err (by rw [moveRes_ok Hres.out, Hm.out, if_pos ⟨h11, h12⟩]) Hres.out.symm, hB.alloc hB.size _⟩
            · by_cases h2 : isBef l[k] o after = true
              · have H2 := Lib.hid h2
                have H1 := Lib.hid h1
                clear h2 h1
                have Hnext : Hid (moveE o after (sumG (l.take (k + 1))) (l.drop (k + 1)) = moveE o after 0 l) := Lib.hid (by rw [Hm.out, if_neg H1.out, if_pos H2.out, hS.out])
                have hor : ¬ l[k].f < o ∨ (l[k].f < o ∧ ¬ o < l[k].t) := by have := H1.out; omega
                rcases hor with h1 | ⟨h0, h1⟩
                all_goals
                  go_wp2_with fail
                  refine (isBefore_any l[k] o after _).mono ?_
                  rintro e w2 ⟨rfl, hb2⟩
                  simp only [H2.out]
                  obtain ⟨hc2, hf2⟩ := bcell hb2
                  have hz2 := hb2.size
                  simp at hz2
                  go_wp2_with fail
                  refine (growth_any _ _ _ _ (by omega) (by omega) (by omega)).mono ?_
                  rintro e w3 ⟨rfl, hb3⟩
                  have e1 : growE { f := l[k].f, t := l[k].t, s := l[k].s } = growE l[k] := rfl
                  rw [e1]
                  clear e1
                  go_wp2
                  go_roundw
                  case rel => exact ⟨k + 1, by omega, by go_num, (by rw [hS.out]; try go_num), Hnext.out, ((hB.alloc hB.size _).trans (hb2.mono (by have := hB.size; simp; try omega))).trans (hb3.mono (by have := hB.size; omega))⟩
                  case measure => simp [intOf]; omega
              · have H2 := Lib.hid (Bool.eq_false_iff.2 h2)
                have H1 := Lib.hid h1
                clear h2 h1
                have Hend : Hid (moveE o after 0 l = o + sumG (l.take k)) := Lib.hid (by rw [Hm.out, if_neg H1.out, if_neg (by rw [H2.out]; simp)])
                have hor : ¬ l[k].f < o ∨ (l[k].f < o ∧ ¬ o < l[k].t) := by have := H1.out; omega
                rcases hor with h1 | ⟨h0, h1⟩
                all_goals
                  go_wp2_with fail
                  refine (isBefore_any l[k] o after _).mono ?_
                  rintro e w2 ⟨rfl, hb2⟩
                  simp only [H2.out]
                  go_wp2_with fail
                  go_ret2
                  exact ⟨ret_int_err (by rw [moveRes_ok Hres.out, Hend.out]) Hres.out.symm, (hB.alloc hB.size _).trans (hb2.mono (by have := hB.size; simp; try omega))⟩
          · have hke : k = l.length := by omega
            subst hke
            have Hend : Hid (moveE o after 0 l = o + sumG l) := Lib.hid (by rw [← hm, List.drop_of_length_le (by omega), sumG_take_all]; rfl)
            rw [sumG_take_all] at hbd
            clear hm
            go_wp2_with fail
            go_ret2
            exact ⟨ret_int_err (by rw [moveRes_ok Hres.out, Hend.out]) Hres.out.symm, hB⟩
      · have Hs := Lib.hid (Bool.eq_false_iff.2 hs)
        clear hs
        have hres : moveErr l o = 2 := by unfold moveErr; rw [if_neg hlen, if_pos (by rw [Hs.out]; simp)]
        have Hres := Lib.hid hres
        clear hres
        go_enter Tryd.func85, Tryd.ntmps85
        go_wp2_with fail
        refine (areRising_any 20000 c A l w hl1 hE).mono ?_
        rintro e w1 ⟨rfl, hb1⟩
        simp only [Hr.out]
        go_wp2_with fail
        refine (isSpan_any 0 o 20000 _).mono ?_
        rintro e w2 ⟨rfl, rfl⟩
        simp only [Hs.out]
        go_wp2_with fail
        go_ret2
        exact ⟨ret_int_err (by rw [moveRes_no (by rw [Hres.out]; decide)]) Hres.out.symm, hb1⟩
    · have Hr := Lib.hid (Bool.eq_false_iff.2 hr)
      clear hr
      have hres : moveErr l o = 2 := by unfold moveErr; rw [if_neg hlen, if_pos (by rw [Hr.out]; simp)]
      have Hres := Lib.hid hres
      clear hres
      go_enter Tryd.func85, Tryd.ntmps85
      go_wp2_with fail
      refine (areRising_any 20000 c A l w hl1 hE).mono ?_
      rintro e w1 ⟨rfl, hb1⟩
      simp only [Hr.out]
      go_wp2_with fail
      go_ret2
      exact ⟨ret_int_err (by rw [moveRes_no (by rw [Hres.out]; decide)]) Hres.out.symm, hb1⟩
end Go.Proofs.YtkdnacniligjjaaDoor

namespace Go.Proofs.YtkdnacniligjjaaDoor
open Go.RowKit

theorem editedL_drop {l : List Ed} {k : Nat} (hk : k < l.length) (t : ByteArray) (z at_ : Nat) :
    editedL t z at_ (l.drop k) = sub t at_ l[k].f.toNat ++ (l[k].s.data.toList ++ editedL t z l[k].t.toNat (l.drop (k + 1))) := by
  rw [List.drop_eq_getElem_cons hk]; rfl

set_option maxHeartbeats 1000000 in
set_option maxRecDepth 100000 in
theorem edited_any (t : ByteArray) (a z : Nat) (c : Nat) (A : Option Addr) (l : List Ed) (w : World) (hl : Small l) (ht : t.size ≤ 60000) (haz : a ≤ z) (hz : z ≤ t.size) (hr : rising z a l = true) (hE : EdsV w A l) :
    Calls Tryd.prog 63 #[.string t, .agg #[.int .i64 a, .int .i64 z], .slice A l.length c] w fun e w' => e = .returned (.string (mkB (editedL t z a l))) ∧ Below w.heap.size w w' := by
  have hl1 := hl.1
  have Hr := Lib.hid hr
  clear hr
  have hw0 : Below w.heap.size w (w.alloc (.cells #[.int .i64 a, .int .i64 z] 84)) := (Below.refl _ _).alloc (Nat.le_refl _) _
  have hbl : Bld (w.heap.size + 1) (w.heap.size + 1) [] ((w.alloc (.cells #[.int .i64 a, .int .i64 z] 84)).alloc (.cells #[.pointer none, .slice none 0 0] 106)) := by
    have := Lib.fresh_isBuilder 106 5 (w.alloc (.cells #[.int .i64 a, .int .i64 z] 84))
    simpa [Bld, Lib.byteCells] using this
  go_enter Tryd.func63, Tryd.ntmps63
  go_wp2_with fail
  go_loopw [8, 15] (fun y i wr => ∃ (k at_ : Nat) (pre : List UInt8), k ≤ l.length ∧ i = .int .i64 k ∧ y = .int .i64 at_ ∧ at_ ≤ z ∧ rising z at_ (l.drop k) = true ∧ pre ++ editedL t z at_ (l.drop k) = editedL t z a l ∧ pre.length ≤ 60000 * (2 * k) ∧
      Bld (w.heap.size + 1) (w.heap.size + 1) pre wr ∧ Below (w.heap.size + 1) (w.alloc (.cells #[.int .i64 a, .int .i64 z] 84)) wr) (fun _ i _ => l.length - (intOf i).toNat)
  case atStart => exact ⟨0, a, [], by omega, rfl, rfl, haz, Hr.out, rfl, by simp, hbl, (Below.refl _ _).alloc (by simp) _⟩
  case round =>
    obtain ⟨k, at_, pre, hk, rfl, rfl, haz1, hr1, he, hpre, hb, hB⟩ := hrel
    have hBw : Below w.heap.size w wr := hw0.trans (hB.mono (by omega))
    have hsz : w.heap.size + 1 < wr.heap.size := hb.lt
    by_cases hlt : k < l.length
    · have hg : (at_ : Int) ≤ l[k].f ∧ l[k].f ≤ l[k].t ∧ l[k].t ≤ z ∧ rising z l[k].t (l.drop (k + 1)) = true := by
        rw [List.drop_eq_getElem_cons hlt, rising_cons] at hr1; exact ⟨by omega, by omega, by omega, hr1.2.2.2.2⟩
      have hsl := hl.get hlt
      have he1 := he.symm.trans (congrArg (pre ++ ·) (editedL_drop hlt t z at_))
      obtain ⟨b, off, x, y, s, rfl, hbs, c1, c2, c3, hek⟩ := (hE.below hBw).getN hlt (by omega) (by omega)
      rw [hek] at hg hsl he1
      obtain ⟨g1, g2, g3, hr2⟩ := hg
      simp only at g1 g2 g3 hr2 hsl he1
      have He := Lib.hid he1
      have Hr2 := Lib.hid hr2
      have n1 : at_ ≤ x := by omega
      have n2 : x ≤ t.size := by omega
      have n3 : y ≤ z := by omega
      clear hE he hr1 hr2 hbl he1 hek g1 g3
      go_wp2_with fail
      have hsub := sub_le t at_ x
      refine (WriteString_any _ _ pre _ _ (hb.alloc _) (by rw [ByteArray.size_extract]; omega) (by simp; omega)).mono ?_
      rintro e w2 ⟨rfl, hb2, hB2, hK2⟩
      have hbox := kept_cell hK2 (heap_alloc_new wr _) (by decide) (by omega)
      have e2 : w2.cell? ⟨wr.heap.size, 2, none⟩ = some (.string s) := by rw [Lib.cell_of_heap hbox]; rfl
      have hz2 := hB2.size
      simp at hz2
      go_wp2_with fail
      refine (WriteString_any _ _ _ _ _ hb2 (by rw [List.length_append]; change _ + (sub t at_ x).length + _ ≤ _; omega) (by omega)).mono ?_
      rintro e w3 ⟨rfl, hb3, hB3, hK3⟩
      have hbox3 := kept_cell hK3 hbox (by decide) (by omega)
      have e3 : w3.cell? ⟨wr.heap.size, 1, none⟩ = some (.int .i64 (y : Int)) := by rw [Lib.cell_of_heap hbox3]; rfl
      go_wp2_with fail
      refine ⟨⟨k + 1, y, _, by omega, by go_num, rfl, n3, Hr2.out, ?_, ?_, hb3, ?_⟩, by simp [intOf]; omega⟩
      · rw [He.out]; simp [sub]
      · rw [List.length_append, List.length_append, size_toList s]; change _ + (sub t at_ x).length + _ ≤ _; omega
      · exact ((hB.alloc (by omega) _).trans hB2).trans hB3
    · have hke : k = l.length := by omega
      subst hke
      rw [List.drop_of_length_le (Nat.le_refl _)] at he
      have He := Lib.hid he
      have e1 : wr.cell? ⟨w.heap.size, 1, none⟩ = some (.int .i64 (z : Int)) := by rw [hB.cell (by simp)]; simp
      have hsub := sub_le t at_ z
      clear he hr1 hE hbl
      go_wp2_with fail
      refine (WriteString_any _ _ pre _ _ hb (by rw [ByteArray.size_extract]; omega) (by omega)).mono ?_
      rintro e w2 ⟨rfl, hb2, hB2, hK2⟩
      have hz2 := hB2.size
      go_wp2_with fail
      refine (BString_any _ _ _ _ hb2 (by omega)).mono ?_
      rintro e w3 ⟨rfl, hB3⟩
      go_wp2_with fail
      go_ret
      exact ⟨ret_str (by rw [← He.out]; simp [mkB, editedL, sub_eq]), ((hBw.trans (hB2.mono (by omega))).trans (hB3.mono (by omega)))⟩
end Go.Proofs.YtkdnacniligjjaaDoor
