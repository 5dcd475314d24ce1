/-
  Contracts of Move on both sides.
-/
import Derived.Test.YtmdgclcakogggaaMove2
namespace Go.Proofs.Ytmdgclcakogggaa
open Go.RowKit

theorem ret_int_err {a b e f : Int} (h : a = b) (h2 : e = f) : Ending.returned (.tuple #[.int .i64 a, .int .i64 e]) = .returned (.tuple #[.int .i64 b, .int .i64 f]) := by rw [h, h2]

theorem moveE_drop {l : List Ed} {k : Nat} (hk : k < l.length) (o : Int) (after : Bool) (sh : Int) :
    moveE o after sh (l.drop k) = if l[k].f < o ∧ o < l[k].t then l[k].f + sh + l[k].s.size else if isBef l[k] o after = true then moveE o after (sh + growE l[k]) (l.drop (k + 1)) else o + sh := by
  rw [List.drop_eq_getElem_cons hk]; rfl
theorem moveR_drop {l : List Ed} {k : Nat} (hk : k < l.length) (o : Int) (after : Bool) (sh : Int) :
    moveR o after sh (l.drop k) = if l[k].f < o ∧ o < l[k].t then l[k].f + sh + l[k].s.size else if befR l[k] o after = true then moveR o after (sh + growE l[k]) (l.drop (k + 1)) else moveR o after sh (l.drop (k + 1)) := by
  rw [List.drop_eq_getElem_cons hk]; rfl

/-- what Move returns -/
def moveRes (l : List Ed) (o : Int) (after : Bool) : Int := if moveErr l o = 0 then moveE o after 0 l else 0
theorem moveRes_ok {l : List Ed} {o : Int} (h : moveErr l o = 0) (after : Bool) : moveRes l o after = moveE o after 0 l := by unfold moveRes; rw [if_pos h]
theorem moveRes_no {l : List Ed} {o : Int} (h : moveErr l o ≠ 0) (after : Bool) : moveRes l o after = 0 := by unfold moveRes; rw [if_neg h]
theorem moveErr_3 {l : List Ed} {o : Int} (h : 100 < l.length) : moveErr l o = 3 := by unfold moveErr; rw [if_pos h]

theorem Move_any (c : Nat) (A : Option Addr) (l : List Ed) (o : Int) (after : Bool) (w : World) (hl : Small l) (hE : EdsV w A l) :
    Calls Try.prog 21 #[.slice A l.length c, .int .i64 o, .bool after] w fun e w' =>
      e = .returned (.tuple #[.int .i64 (moveRes l o after), .int .i64 (moveErr l o)]) ∧ Below w.heap.size w w' := by
  have hl1 := hl.1
  by_cases hlen : 100 < l.length
  · have Hres := Lib.hid (moveErr_3 (o := o) hlen)
    go_enter Try.func21, Try.ntmps21
    go_wp2_with fail
    go_ret2
    exact ⟨ret_int_err (by rw [moveRes_no (by rw [Hres.out]; decide)]) Hres.out.symm, Below.refl _ _⟩
  · by_cases hr : rising 20000 0 l = true
    · have Hr := Lib.hid hr
      clear hr
      by_cases hs : isSpanB 0 o 20000 = true
      · have ho : 0 ≤ o ∧ o ≤ 20000 := by unfold isSpanB at hs; simp at hs; omega
        have Hs := Lib.hid hs
        clear hs
        have hres : moveErr l o = 0 := by unfold moveErr; rw [if_neg hlen, if_neg (by rw [Hr.out, Hs.out]; simp)]
        have Hres := Lib.hid hres
        clear hres
        go_enter Try.func21, Try.ntmps21
        go_wp2_with fail
        refine (areRising_any 20000 c A l w hl1 hE).mono ?_
        rintro e w1 ⟨rfl, hb1⟩
        simp only [Hr.out]
        go_wp2_with fail
        refine (isSpan_any 0 o 20000 _).mono ?_
        rintro e w2 ⟨rfl, rfl⟩
        simp only [Hs.out]
        go_wp2_with fail
        go_loopw [8, 24] (fun z i wr => ∃ (k : Nat), k ≤ l.length ∧ i = .int .i64 k ∧ z = .int .i64 (sumG (l.take k)) ∧ moveE o after (sumG (l.take k)) (l.drop k) = moveE o after 0 l ∧ Below w.heap.size w wr) (fun _ i _ => l.length - (intOf i).toNat)
        case atStart => exact ⟨0, by omega, rfl, by simp [sumG], by simp [sumG], hb1⟩
        case round =>
          obtain ⟨k, hk, rfl, rfl, hm, hB⟩ := hrel
          have hbd := sumG_take_bd (n := 20000) (by omega) (Int.le_refl 0) hl Hr.out k
          by_cases hlt : k < l.length
          · obtain ⟨b, off, rfl, hb, c1, c2, c3⟩ := (hE.below hB).get hlt
            have hg := rising_get Hr.out hlt
            have hsz := hl.get hlt
            have hS := Lib.hid (sumG_take_succ hlt)
            have Hm := Lib.hid (hm.symm.trans (moveE_drop hlt o after _))
            clear hE hm
            have hgr : -100000 ≤ growE l[k] ∧ growE l[k] ≤ 100000 := by unfold growE; omega
            by_cases h1 : l[k].f < o ∧ o < l[k].t
            · obtain ⟨h11, h12⟩ := h1
              go_wp2_with fail
              go_ret2
              exact ⟨ret_int_err (by rw [moveRes_ok Hres.out, Hm.out, if_pos ⟨h11, h12⟩]) Hres.out.symm, hB.alloc hB.size _⟩
            · by_cases h2 : isBef l[k] o after = true
              · have H2 := Lib.hid h2
                have H1 := Lib.hid h1
                clear h2 h1
                have Hnext : Hid (moveE o after (sumG (l.take (k + 1))) (l.drop (k + 1)) = moveE o after 0 l) := Lib.hid (by rw [Hm.out, if_neg H1.out, if_pos H2.out, hS.out])
                have hor : ¬ l[k].f < o ∨ (l[k].f < o ∧ ¬ o < l[k].t) := by have := H1.out; omega
                rcases hor with h1 | ⟨h0, h1⟩
                all_goals
                  go_wp2_with fail
                  refine (isBefore_any l[k] o after _).mono ?_
                  rintro e w2 ⟨rfl, hb2⟩
                  simp only [H2.out]
                  obtain ⟨hc2, hf2⟩ := bcell hb2
                  have hz2 := hb2.size
                  simp at hz2
                  go_wp2_with fail
                  refine (growth_any _ _ _ _ (by omega) (by omega) (by omega)).mono ?_
                  rintro e w3 ⟨rfl, hb3⟩
                  have e1 : growE { f := l[k].f, t := l[k].t, s := l[k].s } = growE l[k] := rfl
                  rw [e1]
                  clear e1
                  go_wp2
                  go_roundw
                  case rel => exact ⟨k + 1, by omega, by go_num, (by rw [hS.out]; try go_num), Hnext.out, ((hB.alloc hB.size _).trans (hb2.mono (by have := hB.size; simp; try omega))).trans (hb3.mono (by have := hB.size; omega))⟩
                  case measure => simp [intOf]; omega
              · have H2 := Lib.hid (Bool.eq_false_iff.2 h2)
                have H1 := Lib.hid h1
                clear h2 h1
                have Hend : Hid (moveE o after 0 l = o + sumG (l.take k)) := Lib.hid (by rw [Hm.out, if_neg H1.out, if_neg (by rw [H2.out]; simp)])
                have hor : ¬ l[k].f < o ∨ (l[k].f < o ∧ ¬ o < l[k].t) := by have := H1.out; omega
                rcases hor with h1 | ⟨h0, h1⟩
                all_goals
                  go_wp2_with fail
                  refine (isBefore_any l[k] o after _).mono ?_
                  rintro e w2 ⟨rfl, hb2⟩
                  simp only [H2.out]
                  go_wp2_with fail
                  go_ret2
                  exact ⟨ret_int_err (by rw [moveRes_ok Hres.out, Hend.out]) Hres.out.symm, (hB.alloc hB.size _).trans (hb2.mono (by have := hB.size; simp; try omega))⟩
          · have hke : k = l.length := by omega
            subst hke
            have Hend : Hid (moveE o after 0 l = o + sumG l) := Lib.hid (by rw [← hm, List.drop_of_length_le (by omega), sumG_take_all]; rfl)
            rw [sumG_take_all] at hbd
            clear hm
            go_wp2_with fail
            go_ret2
            exact ⟨ret_int_err (by rw [moveRes_ok Hres.out, Hend.out]) Hres.out.symm, hB⟩
      · have Hs := Lib.hid (Bool.eq_false_iff.2 hs)
        clear hs
        have hres : moveErr l o = 2 := by unfold moveErr; rw [if_neg hlen, if_pos (by rw [Hs.out]; simp)]
        have Hres := Lib.hid hres
        clear hres
        go_enter Try.func21, Try.ntmps21
        go_wp2_with fail
        refine (areRising_any 20000 c A l w hl1 hE).mono ?_
        rintro e w1 ⟨rfl, hb1⟩
        simp only [Hr.out]
        go_wp2_with fail
        refine (isSpan_any 0 o 20000 _).mono ?_
        rintro e w2 ⟨rfl, rfl⟩
        simp only [Hs.out]
        go_wp2_with fail
        go_ret2
        exact ⟨ret_int_err (by rw [moveRes_no (by rw [Hres.out]; decide)]) Hres.out.symm, hb1⟩
    · have Hr := Lib.hid (Bool.eq_false_iff.2 hr)
      clear hr
      have hres : moveErr l o = 2 := by unfold moveErr; rw [if_neg hlen, if_pos (by rw [Hr.out]; simp)]
      have Hres := Lib.hid hres
      clear hres
      go_enter Try.func21, Try.ntmps21
      go_wp2_with fail
      refine (areRising_any 20000 c A l w hl1 hE).mono ?_
      rintro e w1 ⟨rfl, hb1⟩
      simp only [Hr.out]
      go_wp2_with fail
      go_ret2
      exact ⟨ret_int_err (by rw [moveRes_no (by rw [Hres.out]; decide)]) Hres.out.symm, hb1⟩
end Go.Proofs.Ytmdgclcakogggaa
