/-
  Number where it succeeds; the laws' own closed example: alive.
-/
import Derived.Test.YtkdnacniligjjaaDoorTokenKindsp5
import Derived.Test.YtkdnacniligjjaaDoorRelexCommonsp15
import Derived.Lib.SmallJoins
import Derived.OwnWalk
namespace Go.Proofs.YtkdnacniligjjaaDoor
set_option linter.unusedVariables false
set_option linter.unusedSimpArgs false
open Go.RowKit

set_option maxRecDepth 100000 in
theorem Number_ok (s : ByteArray) (v : Int) (w : World) (hT : Tabs w) (hz : s.size ≤ 20000) (ht : isTok (5, s) = true) (hp : Lib.parseIntB 64 s.data.toList = .ok v) :
    Calls Tryd.prog 47 #[.agg #[.int .i64 5, .string s]] w fun e w' => e = .returned (.tuple #[.int .i64 v, .bool true, .int .i64 0]) ∧ Below w.heap.size w w' := by
  have hw0 : Below w.heap.size w (w.alloc (.cells #[.int .i64 5, .string s] 24)) := (Below.refl _ _).alloc (Nat.le_refl _) _
  have hbx : (w.alloc (.cells #[.int .i64 5, .string s] 24)).heap[w.heap.size]? = some (.cells #[.int .i64 5, .string s] 24 (0, 0)) := heap_alloc_new w _
  have htk := IsToken_any 5 s _ (hT.below hw0)
  rw [ht] at htk
  have hpi := Tryd.strconv_ParseInt_10_at64_ok s (by omega) v hp
  have Hpi := Lib.hid hpi
  have HW0 := Lib.hid hw0
  have Htk := Lib.hid htk
  have Hbx := Lib.hid hbx
  clear htk hT hw0 hbx hp hpi ht
  go_enter Tryd.func47, Tryd.ntmps47
  go_wp2_with fail
  refine Htk.out.mono ?_
  rintro e w1 ⟨rfl, hb1⟩
  have hB1 := HW0.out.trans (hb1.mono HW0.out.size)
  have hc1 : w1.cell? ⟨w.heap.size, 1, none⟩ = some (.string s) := Lib.cell_of_heap ((hb1.block _ (by simp)).trans Hbx.out) 1
  go_wp2_with fail
  refine (Hpi.out w1).mono ?_
  rintro e w2 ⟨rfl, hw2⟩
  have hb2 : Below w1.heap.size w1 w2 := by
    rcases hw2 with rfl | ⟨t, rfl⟩
    · exact Below.refl _ _
    · exact Go.Joins.below_bytesWorld _ _ _ _ (Nat.le_refl _)
  clear hw2
  go_wp2_with fail
  go_ret3
  exact ⟨rfl, hB1.trans (hb2.mono hB1.size)⟩

theorem TksV.block {w : World} {b : Nat} {cs : Array Value} {l : List Tok} {t : TypeId} {fr : Nat × Nat} (h : w.heap[b]? = some (.cells cs t fr)) (hcs : cs.toList = tkCells l) : TksV w (some ⟨b, 0, none⟩) l := by
  intro hl
  refine ⟨b, 0, rfl, ?_, fun i p hp => ?_⟩
  · rcases Nat.lt_or_ge b w.heap.size with hlt | hge
    · exact hlt
    · rw [Array.getElem?_eq_none hge] at h; cases h
  · obtain ⟨h1, h2⟩ := tkCells_get l i p hp
    have key : ∀ j, w.cell? ⟨b, j, none⟩ = (tkCells l)[j]? := fun j => by
      rw [← hcs, Array.getElem?_toList]
      simp [World.cell?, h]
    simp only [Nat.zero_add]
    exact ⟨(key _).trans h1, (key _).trans h2⟩

def aS : ByteArray := { data := #[61, 61, 61, 62, 32, 102, 49, 32, 47, 47, 32, 120] }
def aW : List Tok := [(7, { data := #[61, 61] }), (7, { data := #[61, 62] }), (1, { data := #[32] }), (3, { data := #[102, 49] }), (1, { data := #[32] }), (2, { data := #[47, 47, 32, 120] })]
theorem al1 : lexL aS = aW := by decide +kernel
theorem al2 : unquoteR 6 { data := #[34, 97, 92, 110, 34] } = ({ data := #[97, 10] }, 0) := by decide +kernel
theorem al3 : isTok (5, { data := #[48, 49, 50] }) = true := by decide +kernel
theorem al4 : Lib.parseIntB 64 [48, 49, 50] = .ok 12 := by kernel_rfl
theorem al5 : quoteR { data := #[97, 34, 98] } = ({ data := #[34, 97, 92, 34, 98, 34] }, 0) := by decide +kernel
theorem al6 : ({ data := #[97, 10] } : ByteArray).toList = [97, 10] := by decide +kernel
theorem al7 : ({ data := #[34, 97, 92, 34, 98, 34] } : ByteArray).toList = [34, 97, 92, 34, 98, 34] := by decide +kernel

set_option maxRecDepth 100000 in
set_option maxHeartbeats 1000000 in
theorem alive_any (w : World) (hT : Tabs w) :
    Calls Tryd.prog 23 #[] w fun e w' => e = .returned (.bool true) ∧ Below w.heap.size w w' := by
  have HT := Lib.hid hT
  have h6 := al6
  have h7 := al7
  clear hT
  go_enter Tryd.func23, Tryd.ntmps23
  go_wp2_with fail
  refine (Lex_own aS w (by decide +kernel) HT.out).mono ?_
  rw [al1]
  rintro e w1 ⟨v1, rfl, ho1, hb1⟩
  obtain ⟨A1, c1, rfl, hE1, _⟩ := TksV.of_own ho1
  clear ho1
  go_wp2_with fail
  refine (Unquote_any 6 _ w1 (HT.out.below hb1)).mono ?_
  rw [al2]
  rintro e w2 ⟨rfl, hb2⟩
  have hB2 := hb1.trans (hb2.mono hb1.size)
  go_wp2_with fail
  refine (Number_ok _ 12 w2 (HT.out.below hB2) (by decide +kernel) al3 al4).mono ?_
  rintro e w3 ⟨rfl, hb3⟩
  have hB3 := hB2.trans (hb3.mono hB2.size)
  go_wp2_with fail
  refine (Quote_any _ w3).mono ?_
  rw [al5]
  rintro e w4 ⟨rfl, hb4⟩
  have hB4 := hB3.trans (hb4.mono hB3.size)
  have hE4 := ((hE1.below hb2).below hb3).below hb4
  clear hE1
  have hW : Below w4.heap.size w4 (w4.alloc (.cells (tkCells aW).toArray 24)) := (Below.refl _ _).alloc (Nat.le_refl _) _
  have hE5 := hE4.below hW
  have hE6 : TksV (w4.alloc (.cells (tkCells aW).toArray 24)) (some ⟨w4.heap.size, 0, none⟩) aW := TksV.block (heap_alloc_new w4 _) (by simp)
  have hsm := RSame_any c1 6 A1 (some ⟨w4.heap.size, 0, none⟩) aW aW _ (by decide) hE5 hE6
  rw [decide_eq_true rfl] at hsm
  have Hsm := Lib.hid hsm
  have HW := Lib.hid hW
  clear hE4 hE5 hE6 hsm hW
  go_wp2_with fail
  refine Hsm.out.mono ?_
  rintro e w5 ⟨rfl, hb5⟩
  go_wp2_with fail
  go_ret
  exact ⟨rfl, hB4.trans ((HW.out.trans (hb5.mono HW.out.size)).mono hB4.size)⟩
end Go.Proofs.YtkdnacniligjjaaDoor
