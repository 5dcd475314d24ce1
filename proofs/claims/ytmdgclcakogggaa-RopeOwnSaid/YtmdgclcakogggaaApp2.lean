/-
  Contracts of Apply, on both sides.
-/
import Derived.Test.YtmdgclcakogggaaApp
import Derived.Test.YtmdgclcakogggaaMathB
namespace Go.Proofs.Ytmdgclcakogggaa
open Go.RowKit

theorem ret_str_err {a b : ByteArray} {e f : Int} (h : a = b) (h2 : e = f) : Ending.returned (.tuple #[.string a, .int .i64 e]) = .returned (.tuple #[.string b, .int .i64 f]) := by rw [h, h2]

theorem Apply_any (t : ByteArray) (c : Nat) (A : Option Addr) (l : List Ed) (w : World) (hl : Small l) (ht : t.size ≤ 60000) (hE : EdsV w A l) :
    Calls Try.prog 16 #[.string t, .slice A l.length c] w fun e w' => e = .returned (.tuple #[.string (applyR t l), .int .i64 (checkE t.size l)]) ∧ Below w.heap.size w w' := by
  by_cases h0 : checkE t.size l = 0
  · have hok := checkE_ok h0
    have H0 := Lib.hid h0
    have q : (checkE t.size l != 0) = false := by simpa using h0
    clear h0
    go_enter Try.func16, Try.ntmps16
    go_wp2_with fail
    refine (Check_any t c A l w hl ht hE).mono ?_
    rintro e w1 ⟨rfl, hb1⟩
    go_wp2_with fail
    refine (edited_any t 0 t.size c A l _ hl ht (Nat.zero_le _) (Nat.le_refl _) hok.2.2.1 (hE.below hb1)).mono ?_
    rintro e w2 ⟨rfl, hb2⟩
    go_wp2_with fail
    go_ret2
    exact ⟨ret_str_err (applyR_ok H0.out).symm H0.out.symm, hb1.trans (hb2.mono hb1.size)⟩
  · have H0 := Lib.hid h0
    have q : (checkE t.size l != 0) = true := by simpa using h0
    clear h0
    go_enter Try.func16, Try.ntmps16
    go_wp2_with fail
    refine (Check_any t c A l w hl ht hE).mono ?_
    rintro e w1 ⟨rfl, hb1⟩
    go_wp2_with fail
    go_ret2
    exact ⟨ret_str_err (applyR_no H0.out).symm rfl, hb1⟩

set_option maxHeartbeats 1000000 in
set_option maxRecDepth 100000 in
/-- the specification's Apply, of edits that are right -/
theorem rApply_any (t : ByteArray) (c : Nat) (A : Option Addr) (l : List Ed) (w : World) (hl : Small l) (ht : t.size ≤ 60000) (hr : rising t.size 0 l = true) (hE : EdsV w A l) :
    Calls Try.prog 15 #[.string t, .slice A l.length c] w fun e w' => e = .returned (.string (applyB t l)) ∧ Below w.heap.size w w' := by
  have hl1 := hl.1
  have Hr := Lib.hid hr
  clear hr
  go_enter Try.func15, Try.ntmps15
  go_wp2_with fail
  go_loopw [5, 6, 7] (fun out y i wr => ∃ (k at_ : Nat) (pre : List UInt8), k ≤ l.length ∧ i = .int .i64 k ∧ y = .int .i64 at_ ∧ out = .string (mkB pre) ∧ at_ ≤ t.size ∧ rising t.size at_ (l.drop k) = true ∧ pre ++ editedL t t.size at_ (l.drop k) = editedL t t.size 0 l ∧ pre.length ≤ 60000 * (2 * k) ∧
      Below w.heap.size w wr) (fun _ _ i _ => l.length - (intOf i).toNat)
  case atStart => exact ⟨0, 0, [], by omega, rfl, rfl, rfl, by omega, Hr.out, rfl, by simp, Below.refl _ _⟩
  case round =>
    obtain ⟨k, at_, pre, hk, rfl, rfl, rfl, haz1, hr1, he, hpre, hB⟩ := hrel
    by_cases hlt : k < l.length
    · have hg : (at_ : Int) ≤ l[k].f ∧ l[k].f ≤ l[k].t ∧ l[k].t ≤ t.size ∧ rising t.size l[k].t (l.drop (k + 1)) = true := by
        rw [List.drop_eq_getElem_cons hlt, rising_cons] at hr1; exact ⟨by omega, by omega, by omega, hr1.2.2.2.2⟩
      have hsl := hl.get hlt
      have he1 := he.symm.trans (congrArg (pre ++ ·) (editedL_drop hlt t t.size at_))
      obtain ⟨b, off, x, y, s, rfl, hbs, c1, c2, c3, hek⟩ := (hE.below hB).getN hlt (by omega) (by omega)
      rw [hek] at hg hsl he1
      obtain ⟨g1, g2, g3, hr2⟩ := hg
      simp only at g1 g2 g3 hr2 hsl he1
      have He := Lib.hid he1
      have Hr2 := Lib.hid hr2
      have n1 : at_ ≤ x := by omega
      have n2 : x ≤ t.size := by omega
      have n3 : y ≤ t.size := by omega
      have hsub := sub_le t at_ x
      have hps : (mkB pre).size ≤ 60000 * (2 * 1000) := by rw [mkB_size]; omega
      clear hE he hr1 hr2 he1 hek g1 g3
      go_wp2_with fail
      go_quiet (fail)
      go_wp2_with fail
      refine ⟨⟨k + 1, y, pre ++ (sub t at_ x ++ s.data.toList), by omega, by go_num, rfl, ?_, n3, Hr2.out, ?_, ?_, below_drewN hB _⟩, by simp [intOf]; omega⟩
      · rw [mkB_add, mkB_add, List.append_assoc]; rfl
      · rw [He.out, List.append_assoc, List.append_assoc, Int.toNat_natCast, Int.toNat_natCast]
      · rw [List.length_append, List.length_append, size_toList s]; omega
    · have hke : k = l.length := by omega
      subst hke
      rw [List.drop_of_length_le (Nat.le_refl _)] at he
      have He := Lib.hid he
      have hsub := sub_le t at_ t.size
      have hps : (mkB pre).size ≤ 60000 * (2 * 1000) := by rw [mkB_size]; omega
      clear he hr1 hE
      go_wp2_with fail
      go_ret
      exact ⟨ret_str (by rw [mkB_add]; unfold applyB; rw [← He.out]; rfl), hB⟩
end Go.Proofs.Ytmdgclcakogggaa
