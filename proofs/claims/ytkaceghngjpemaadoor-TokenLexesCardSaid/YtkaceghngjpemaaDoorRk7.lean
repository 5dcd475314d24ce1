/-
  The contract of token's Signs.
-/
import Derived.Test.YtkaceghngjpemaaDoorRk5
import Derived.Deep.MidRow
namespace Go.Proofs.YtkaceghngjpemaaDoor
set_option linter.unusedVariables false
set_option linter.unusedSimpArgs false
open Go.RowKit

theorem signs_info : (Tryd.prog.info? 84).map (·.size) = some (signsB.map Value.string).length := by kernel_rfl

abbrev z22 : Obj := .cells #[.string { data := #[] }, .string { data := #[] }, .string { data := #[] }, .string { data := #[] }, .string { data := #[] }, .string { data := #[] }, .string { data := #[] }, .string { data := #[] }, .string { data := #[] }, .string { data := #[] }, .string { data := #[] }, .string { data := #[] }, .string { data := #[] }, .string { data := #[] }, .string { data := #[] }, .string { data := #[] }, .string { data := #[] }, .string { data := #[] }, .string { data := #[] }, .string { data := #[] }, .string { data := #[] }, .string { data := #[] }] 84 (0, 0)
theorem setCells_below {B b : Nat} {w0 : World} (hb : B ≤ b) : ∀ (vs : List Value) (o : Nat) {w : World}, Below B w0 w → Below B w0 (w.setCells b o vs)
  | [], _, _, h => h
  | v :: r, o, w, h => setCells_below hb r (o + 1) (h.setCell (p := ⟨b, o, none⟩) hb v)

set_option maxRecDepth 100000 in
set_option maxHeartbeats 2000000 in
theorem Signs_any (w : World) (hT : Tabs w) :
    Calls Tryd.prog 21 #[] w fun e w' => e = .returned (.slice (some ⟨w.heap.size, 0, none⟩) 22 22) ∧ StrsV w' w.heap.size signsB ∧ Below w.heap.size w w' := by
  have hR : w.rangeAt 1 0 (signsB.map Value.string) := fun j v hv => by
    rw [List.getElem?_map, Option.map_eq_some_iff] at hv
    obtain ⟨s, hs, rfl⟩ := hv
    have hj : j < 22 := by
      rcases Nat.lt_or_ge j 22 with h | h
      · exact h
      · rw [List.getElem?_eq_none (by rw [signsB_length]; exact h)] at hs; cases hs
    have := hT.2 j hj
    rw [hs] at this
    rw [Nat.zero_add]; exact this
  obtain ⟨cs, hcs⟩ : ∃ cs, cs = signsB.map Value.string := ⟨_, rfl⟩
  rw [← hcs] at hR
  have hcl : (Tryd.prog.info? 84).map (·.size) = some cs.length := by rw [hcs]; exact signs_info
  have hcn : cs.length = 22 := by rw [hcs]; rfl
  have Hcs := Lib.hid hcs
  have HR := Lib.hid hR
  clear hcs hT hR
  have Hcl := Lib.hid hcl
  have Hcn := Lib.hid hcn
  clear hcl hcn
  have hth : (w.alloc z22).there w.heap.size 0 cs.toArray.size := fun j hj => by
    have hj' : j < 22 := by have := Hcn.out; simp at hj; omega
    rw [Nat.zero_add]
    refine ⟨?_, Lib.frozen_of_heap (heap_alloc_new w z22) j⟩
    rw [Lib.cell_of_heap (heap_alloc_new w z22) j]
    simpa using hj'
  have h1c : cs.toArray.all (·.oneCell') = true := by rw [Hcs.out]; kernel_rfl
  have hi2 : (Tryd.prog.info? 84).map (·.size) = some cs.toArray.size := by rw [Hcl.out]; simp
  have hfin : StrsV ((w.alloc z22).setCells w.heap.size 0 cs) w.heap.size signsB ∧ Below w.heap.size w ((w.alloc z22).setCells w.heap.size 0 cs) := by
    refine ⟨⟨?_, fun i s hi => ?_⟩, setCells_below (Nat.le_refl _) _ _ ((Below.refl _ _).alloc (Nat.le_refl _) _)⟩
    · have := (setCells_below (Nat.le_refl w.heap.size) cs 0 (Below.refl w.heap.size (w.alloc z22))).size
      simp at this; omega
    · have h := World.rangeAt_setCells_same (w.alloc z22) w.heap.size 0 cs (by have := hth; simpa using this) i (.string s) (by rw [Hcs.out, List.getElem?_map, hi]; rfl)
      rw [Nat.zero_add] at h; exact h
  have Hfin := Lib.hid hfin
  have Hth := Lib.hid hth
  have H1c := Lib.hid h1c
  have Hi2 := Lib.hid hi2
  clear hth h1c hi2 hfin
  go_enter Tryd.func21, Tryd.ntmps21
  go_wp2_with (first
    | refine wpList_load_mid rfl _ _ rfl 1 0 rfl cs _ HR.out Tryd.underlying84 rfl Hcl.out ?_
    | refine wpList_store_mid rfl _ _ _ rfl w.heap.size 0 cs.toArray rfl rfl Hth.out Hi2.out H1c.out ?_)
  go_ret
  exact ⟨rfl, Hfin.out.1, Hfin.out.2⟩
end Go.Proofs.YtkaceghngjpemaaDoor
