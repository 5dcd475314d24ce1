/-
  Contracts of edited and Apply.
-/
import Derived.Test.YtmdgclcakogggaaBld
import Derived.Test.YtmdgclcakogggaaChk
namespace Go.Proofs.Ytmdgclcakogggaa
open Go.RowKit

theorem editedL_drop {l : List Ed} {k : Nat} (hk : k < l.length) (t : ByteArray) (z at_ : Nat) :
    editedL t z at_ (l.drop k) = sub t at_ l[k].f.toNat ++ (l[k].s.data.toList ++ editedL t z l[k].t.toNat (l.drop (k + 1))) := by
  rw [List.drop_eq_getElem_cons hk]; rfl

set_option maxHeartbeats 1000000 in
set_option maxRecDepth 100000 in
theorem edited_any (t : ByteArray) (a z : Nat) (c : Nat) (A : Option Addr) (l : List Ed) (w : World) (hl : Small l) (ht : t.size ≤ 60000) (haz : a ≤ z) (hz : z ≤ t.size) (hr : rising z a l = true) (hE : EdsV w A l) :
    Calls Try.prog 35 #[.string t, .agg #[.int .i64 a, .int .i64 z], .slice A l.length c] w fun e w' => e = .returned (.string (mkB (editedL t z a l))) ∧ Below w.heap.size w w' := by
  have hl1 := hl.1
  have Hr := Lib.hid hr
  clear hr
  have hw0 : Below w.heap.size w (w.alloc (.cells #[.int .i64 a, .int .i64 z] 60)) := (Below.refl _ _).alloc (Nat.le_refl _) _
  have hbl : Bld (w.heap.size + 1) (w.heap.size + 1) [] ((w.alloc (.cells #[.int .i64 a, .int .i64 z] 60)).alloc (.cells #[.pointer none, .slice none 0 0] 90)) := by
    have := Lib.fresh_isBuilder 90 5 (w.alloc (.cells #[.int .i64 a, .int .i64 z] 60))
    simpa [Bld, Lib.byteCells] using this
  go_enter Try.func35, Try.ntmps35
  go_wp2_with fail
  go_loopw [8, 15] (fun y i wr => ∃ (k at_ : Nat) (pre : List UInt8), k ≤ l.length ∧ i = .int .i64 k ∧ y = .int .i64 at_ ∧ at_ ≤ z ∧ rising z at_ (l.drop k) = true ∧ pre ++ editedL t z at_ (l.drop k) = editedL t z a l ∧ pre.length ≤ 60000 * (2 * k) ∧
      Bld (w.heap.size + 1) (w.heap.size + 1) pre wr ∧ Below (w.heap.size + 1) (w.alloc (.cells #[.int .i64 a, .int .i64 z] 60)) wr) (fun _ i _ => l.length - (intOf i).toNat)
  case atStart => exact ⟨0, a, [], by omega, rfl, rfl, haz, Hr.out, rfl, by simp, hbl, (Below.refl _ _).alloc (by simp) _⟩
  case round =>
    obtain ⟨k, at_, pre, hk, rfl, rfl, haz1, hr1, he, hpre, hb, hB⟩ := hrel
    have hBw : Below w.heap.size w wr := hw0.trans (hB.mono (by omega))
    have hsz : w.heap.size + 1 < wr.heap.size := hb.lt
    by_cases hlt : k < l.length
    · have hg : (at_ : Int) ≤ l[k].f ∧ l[k].f ≤ l[k].t ∧ l[k].t ≤ z ∧ rising z l[k].t (l.drop (k + 1)) = true := by
        rw [List.drop_eq_getElem_cons hlt, rising_cons] at hr1; exact ⟨by omega, by omega, by omega, hr1.2.2.2.2⟩
      have hsl := hl.get hlt
      have he1 := he.symm.trans (congrArg (pre ++ ·) (editedL_drop hlt t z at_))
      obtain ⟨b, off, x, y, s, rfl, hbs, c1, c2, c3, hek⟩ := (hE.below hBw).getN hlt (by omega) (by omega)
      rw [hek] at hg hsl he1
      obtain ⟨g1, g2, g3, hr2⟩ := hg
      simp only at g1 g2 g3 hr2 hsl he1
      have He := Lib.hid he1
      have Hr2 := Lib.hid hr2
      have n1 : at_ ≤ x := by omega
      have n2 : x ≤ t.size := by omega
      have n3 : y ≤ z := by omega
      clear hE he hr1 hr2 hbl he1 hek g1 g3
      go_wp2_with fail
      have hsub := sub_le t at_ x
      refine (WriteString_any _ _ pre _ _ (hb.alloc _) (by rw [ByteArray.size_extract]; omega) (by simp; omega)).mono ?_
      rintro e w2 ⟨rfl, hb2, hB2, hK2⟩
      have hbox := kept_cell hK2 (heap_alloc_new wr _) (by decide) (by omega)
      have e2 : w2.cell? ⟨wr.heap.size, 2, none⟩ = some (.string s) := by rw [Lib.cell_of_heap hbox]; rfl
      have hz2 := hB2.size
      simp at hz2
      go_wp2_with fail
      refine (WriteString_any _ _ _ _ _ hb2 (by rw [List.length_append]; change _ + (sub t at_ x).length + _ ≤ _; omega) (by omega)).mono ?_
      rintro e w3 ⟨rfl, hb3, hB3, hK3⟩
      have hbox3 := kept_cell hK3 hbox (by decide) (by omega)
      have e3 : w3.cell? ⟨wr.heap.size, 1, none⟩ = some (.int .i64 (y : Int)) := by rw [Lib.cell_of_heap hbox3]; rfl
      go_wp2_with fail
      refine ⟨⟨k + 1, y, _, by omega, by go_num, rfl, n3, Hr2.out, ?_, ?_, hb3, ?_⟩, by simp [intOf]; omega⟩
      · rw [He.out]; simp [sub]
      · rw [List.length_append, List.length_append, size_toList s]; change _ + (sub t at_ x).length + _ ≤ _; omega
      · exact ((hB.alloc (by omega) _).trans hB2).trans hB3
    · have hke : k = l.length := by omega
      subst hke
      rw [List.drop_of_length_le (Nat.le_refl _)] at he
      have He := Lib.hid he
      have e1 : wr.cell? ⟨w.heap.size, 1, none⟩ = some (.int .i64 (z : Int)) := by rw [hB.cell (by simp)]; simp
      have hsub := sub_le t at_ z
      clear he hr1 hE hbl
      go_wp2_with fail
      refine (WriteString_any _ _ pre _ _ hb (by rw [ByteArray.size_extract]; omega) (by omega)).mono ?_
      rintro e w2 ⟨rfl, hb2, hB2, hK2⟩
      have hz2 := hB2.size
      go_wp2_with fail
      refine (BString_any _ _ _ _ hb2 (by omega)).mono ?_
      rintro e w3 ⟨rfl, hB3⟩
      go_wp2_with fail
      go_ret
      exact ⟨ret_str (by rw [← He.out]; simp [mkB, editedL, sub_eq]), ((hBw.trans (hB2.mono (by omega))).trans (hB3.mono (by omega)))⟩
end Go.Proofs.Ytmdgclcakogggaa
