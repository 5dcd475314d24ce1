/-
  The contract of token's Text.
-/
import Derived.Test.YtkaceghngjpemaaDoorTkBld
import Derived.Test.YtkaceghngjpemaaDoorTkSelf
import Derived.Deep.RegionHeld3
namespace Go.Proofs.YtkaceghngjpemaaDoor
set_option linter.unusedVariables false
set_option linter.unusedSimpArgs false
open Go.RowKit

/-- what Text returns -/
def textR (l : List Tok) : ByteArray × Int := if 20000 < l.length then (ByteArray.empty, 3) else if 20000 < (catL l).length then (ByteArray.empty, 3) else if lexL (mkB (catL l)) = l then (mkB (catL l), 0) else (ByteArray.empty, 4)
theorem ret_si {p : ByteArray × Int} {a : ByteArray} {b : Int} (h : p = (a, b)) : Ending.returned (.tuple #[.string a, .int .i64 b]) = .returned (.tuple #[.string p.1, .int .i64 p.2]) := by rw [h]
theorem catL_take {l : List Tok} {k : Nat} (h : k < l.length) : catL (l.take (k + 1)) = catL (l.take k) ++ byt l[k].2 := by
  rw [List.take_succ_eq_append_getElem h, catL_append]; simp [catL]
theorem catL_take_le (l : List Tok) (k : Nat) : (catL (l.take k)).length ≤ (catL l).length := by
  have := congrArg List.length (catL_append (l.take k) (l.drop k))
  rw [List.take_append_drop, List.length_append] at this
  omega
theorem bld_drewN {B b : Nat} {l : List UInt8} {w : World} (h : Bld B b l w) (n : Nat) : Bld B b l (w.drewN n) := h
theorem bld_drew {B b : Nat} {l : List UInt8} {w : World} (h : Bld B b l w) : Bld B b l w.drew := h

set_option maxRecDepth 100000 in
set_option maxHeartbeats 1000000 in
theorem Text_any (c : Nat) (A : Option Addr) (l : List Tok) (w : World) (hl : l.length ≤ 60000) (hsz : ∀ p ∈ l, p.2.size ≤ 60000) (hT : Tabs w) (hE : TksV w A l) :
    Calls Tryd.prog 27 #[.slice A l.length c] w fun e w' => e = .returned (.tuple #[.string (textR l).1, .int .i64 (textR l).2]) ∧ Below w.heap.size w w' := by
  by_cases h0 : 20000 < l.length
  · have hr : Hid (textR l = (ByteArray.empty, 3)) := Lib.hid (by unfold textR; rw [if_pos h0])
    have q : decide ((20000 : Int) < (l.length : Int)) = true := by simp; omega
    clear h0
    go_enter Tryd.func27, Tryd.ntmps27
    go_wp2_with fail
    go_ret2
    exact ⟨ret_si hr.out, Below.refl _ _⟩
  · have q : decide ((20000 : Int) < (l.length : Int)) = false := by simp; omega
    have hbl : Bld w.heap.size w.heap.size [] (w.alloc (.cells #[.pointer none, .slice none 0 0] 89)) := by
      have := Lib.fresh_isBuilder 89 5 w
      simpa [Bld, Lib.byteCells] using this
    have hw0 : Below w.heap.size w (w.alloc (.cells #[.pointer none, .slice none 0 0] 89)) := (Below.refl _ _).alloc (Nat.le_refl _) _
    have HBL := Lib.hid hbl
    have HW0 := Lib.hid hw0
    have HT := Lib.hid hT
    have HE := Lib.hid hE
    have HS := Lib.hid hsz
    clear hbl hw0 hT hE hsz
    go_enter Tryd.func27, Tryd.ntmps27
    go_wp2_with fail
    go_loopw [6, 13] (fun _ i wr => ∃ (k : Nat) (pre : List UInt8), k ≤ l.length ∧ i = .int .i64 k ∧ catL (l.take k) = pre ∧ pre.length ≤ 20000 ∧ Bld w.heap.size w.heap.size pre wr ∧ Below w.heap.size w wr) (fun _ i _ => l.length - (intOf i).toNat)
    case atStart => exact ⟨0, [], Nat.zero_le _, rfl, rfl, by simp, HBL.out, HW0.out⟩
    case round =>
      obtain ⟨k, pre, hk, rfl, he, hp, hb, hB⟩ := hrel
      have hs1 := hB.size
      by_cases hlt : k < l.length
      · obtain ⟨b, off, rfl, hbb, m1, m2⟩ := (HE.out.below hB).get hlt
        have hxs := HS.out l[k] (List.getElem_mem hlt)
        have hct := catL_take hlt
        have htl := catL_take_le l (k + 1)
        rw [hct, he, List.length_append, byt_length] at htl
        rw [he] at hct
        obtain ⟨⟨kd, x⟩, hx⟩ : ∃ p, p = l[k] := ⟨_, rfl⟩
        rw [← hx] at m1 m2 hxs hct htl
        simp only at m1 m2 hxs hct htl
        have hk1 : (0 : Int) ≤ (k : Int) := by omega
        have hk2 : (k : Int) < (l.length : Int) := by omega
        have Hct := Lib.hid hct
        have hba := hb.alloc (.cells #[.int .i64 kd, .string x] 44)
        have hBa := hB.alloc hs1 (.cells #[.int .i64 kd, .string x] 44)
        have hna : (wr.alloc (.cells #[.int .i64 kd, .string x] 44)).heap[wr.heap.size]? = some (.cells #[.int .i64 kd, .string x] 44 (0, 0)) := heap_alloc_new wr _
        have sp : IntKind.i64.wrap (20000 - (pre.length : Int)) = 20000 - (pre.length : Int) := IntWalk.i64_in _ (by omega)
        obtain ⟨w2, hw2⟩ : ∃ w2, w2 = wr.alloc (.cells #[.int .i64 kd, .string x] 44) := ⟨_, rfl⟩
        rw [← hw2] at hba hBa hna
        have hg2 : wr.heap.size < w2.heap.size := by rw [hw2]; simp
        have a1 : w2.cell? ⟨wr.heap.size, 1, none⟩ = some (.string x) := Lib.cell_of_heap hna 1
        have HW2 := Lib.hid hw2
        have HNA := Lib.hid hna
        have HBA := Lib.hid hba
        clear hx hct hw2 hna
        by_cases hbig : 20000 < pre.length + x.size
        · have q2 : decide (20000 - (pre.length : Int) < (x.size : Int)) = true := by simp; omega
          have hr : Hid (textR l = (ByteArray.empty, 3)) := Lib.hid (by unfold textR; rw [if_neg h0, if_pos (by omega)])
          clear hba he htl
          go_wp2_with fail
          rw [← HW2.out]
          go_region_held3 (fun w' => w'.cell? ⟨wr.heap.size, 1, none⟩ = some (.string x)) (go_keep) ((first
            | (go_simp
               go_at_call 65
               refine (Len_any w.heap.size w.heap.size pre _ (by first | exact HBA.out | exact bld_drew HBA.out | exact bld_drewN HBA.out _)).mono ?_
               rintro e wL ⟨rfl, rfl⟩)))
          all_goals
            go_wp2_with fail
            go_ret2
            refine ⟨ret_si hr.out, ?_⟩
            first
            | exact hBa
            | exact hBa.drew
            | exact below_drewT hBa _
        · have q2 : decide (20000 - (pre.length : Int) < (x.size : Int)) = false := by simp; omega
          clear hba he htl
          go_wp2_with fail
          rw [← HW2.out]
          go_region_held3 (fun w' => w'.cell? ⟨wr.heap.size, 1, none⟩ = some (.string x)) (go_keep) ((first
            | (go_simp
               go_at_call 65
               refine (Len_any w.heap.size w.heap.size pre _ (by first | exact HBA.out | exact bld_drew HBA.out | exact bld_drewN HBA.out _)).mono ?_
               rintro e wL ⟨rfl, rfl⟩)))
          all_goals
            go_wp2_with fail
            refine (WriteString_any w.heap.size w.heap.size pre x _ (by first | exact HBA.out | exact bld_drew HBA.out | exact bld_drewN HBA.out _) (by omega) (by first | exact hBa.size | exact hBa.drew.size | exact (below_drewT hBa _).size)).mono ?_
            rintro e w3 ⟨rfl, hb3, hB3, _⟩
            have hB4 : Below w.heap.size w w3 := by
              first
              | exact hBa.trans hB3
              | exact hBa.drew.trans hB3
              | exact (below_drewT hBa _).trans hB3
            go_wp2_with fail
            refine ⟨⟨k + 1, pre ++ byt x, by omega, by go_num, Hct.out, ?_, hb3, hB4⟩, by simp [intOf]; omega⟩
            rw [List.length_append, byt_length]; omega
      · have hke : k = l.length := by omega
        subst hke
        rw [List.take_length] at he
        subst he
        have hq3 : decide ((l.length : Int) < (l.length : Int)) = false := by simp
        go_wp2_with fail
        refine (BString_any _ _ _ _ hb hs1).mono ?_
        rintro e w3 ⟨rfl, hB3⟩
        have hB4 := hB.trans hB3
        have hlx := lexesTo_any (mkB (catL l)) c A l w3 (HT.out.below hB4) (HE.out.below hB4)
        have hms := mkB_size (catL l)
        by_cases hq : lexL (mkB (catL l)) = l
        · have hr : Hid (textR l = (mkB (catL l), 0)) := Lib.hid (by unfold textR; rw [if_neg h0, if_neg (by omega), if_pos hq])
          rw [show lexesB (mkB (catL l)) l = true by unfold lexesB; rw [decide_eq_true hq, decide_eq_true (by omega)]; rfl] at hlx
          have Hlx := Lib.hid hlx
          clear hlx hq hb
          go_wp2_with fail
          refine Hlx.out.mono ?_
          rintro e w5 ⟨rfl, hb5⟩
          go_wp2_with fail
          go_ret2
          exact ⟨ret_si hr.out, hB4.trans (hb5.mono hB4.size)⟩
        · have hr : Hid (textR l = (ByteArray.empty, 4)) := Lib.hid (by unfold textR; rw [if_neg h0, if_neg (by omega), if_neg hq])
          rw [show lexesB (mkB (catL l)) l = false by unfold lexesB; rw [decide_eq_false hq, Bool.and_false]] at hlx
          have Hlx := Lib.hid hlx
          clear hlx hq hb
          go_wp2_with fail
          refine Hlx.out.mono ?_
          rintro e w5 ⟨rfl, hb5⟩
          go_wp2_with fail
          go_ret2
          exact ⟨ret_si hr.out, hB4.trans (hb5.mono hB4.size)⟩
end Go.Proofs.YtkaceghngjpemaaDoor
