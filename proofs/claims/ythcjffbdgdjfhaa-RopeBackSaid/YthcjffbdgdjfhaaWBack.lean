/-
  RopeBack: Invert gives the string back, and a rope's Undo the rope before.
  No condition: every input.
-/
import Derived.Test.YthcjffbdgdjfhaaArg
import Derived.Test.YthcjffbdgdjfhaaRInv
import Derived.Test.YthcjffbdgdjfhaaEdit
import Derived.Test.YthcjffbdgdjfhaaBackMath
namespace Go.Proofs.Ythcjffbdgdjfhaa.lawRopeBack
set_option linter.unusedVariables false
set_option linter.unusedSimpArgs false
open Go.ChangeShapes Go.WideShapes Go.RowKit
open Go.ChangeMaps (open_string shut_string)

theorem short_size (t : ByteArray) : (shortB t).size = min t.size 20001 := by unfold shortB; rw [ByteArray.size_extract]; omega
theorem inv_small (t : ByteArray) : ∀ (sh : Int) (l : List Ed), ∀ e ∈ invertL t sh l, e.s.size ≤ t.size
  | _, [], e, h => by simp [invertL] at h
  | sh, d :: l, e, h => by
    simp only [invertL, List.mem_cons] at h
    rcases h with rfl | h
    · simp only [ByteArray.size_extract]; omega
    · exact inv_small t _ l e h
theorem mk_byt (s : ByteArray) : mkB (byt s) = s := byt_inj (byt_mkB _)
theorem Undo_ok (v : Value) (a : Addr) (t : Pc) (w : World) (h : RopeAt w v t (.pointer (some a))) :
    Calls Try.prog 35 #[v] w fun e w' => e = .returned (.tuple #[.pointer (some a), .int .i64 0]) ∧ w = w' := by
  have hR := h
  obtain ⟨r, vroot, rfl, hh, hp, hg⟩ := h
  have c2 : w.cell? ⟨r, 2, none⟩ = some (.pointer (some a)) := cell_of hh 2
  have HR := Lib.hid hR
  clear hh hp hR
  go_enter Try.func35, Try.ntmps35
  go_wp2_with fail
  refine (isMade_any _ _ t w HR.out).mono ?_
  rintro e w0 ⟨rfl, rfl⟩
  go_wp2_with fail
  go_ret2
  exact ⟨rfl, rfl⟩

set_option maxRecDepth 100000 in
set_option maxHeartbeats 2000000 in
theorem walk (t : ByteArray) (ht : t.size ≤ maxLen) (A : Option Addr) (c : Nat) (l : List Ed) (hl : l.length ≤ maxLen) (hs : ∀ e ∈ l, e.s.size ≤ maxLen) (w : World) (hE : EdsV w A l) :
    Calls Try.prog 10 #[.string t, .slice A l.length c] w fun e w' => e = .returned (.bool true) ∧ Below w.heap.size w w' := by
  have hcut := Cut_any 2000 c A l w hl hs hE
  have hsm := cutL_small (m := 2000) (by omega) l
  have hst := short_size t
  have hst2 : (shortB t).size ≤ 60000 := by omega
  have hsh := Short_any t w ht
  generalize cutL 2000 l = L at hcut hsm
  generalize shortB t = s at hst2 hsh
  have Hcut := Lib.hid hcut
  have Hsh := Lib.hid hsh
  clear hcut hl hs hE hst hsh ht
  have hl1 := hsm.1
  by_cases h0 : checkE s.size L = 0
  · have H1 := Lib.hid (applyR_ok h0)
    have H2 : Hid (invertR s L = invertL s 0 L) := Lib.hid (by unfold invertR; rw [if_pos h0])
    have hok := checkE_ok h0
    have Hr := Lib.hid hok.2.2.1
    have HS := Lib.hid (applyB_size hok.2.2.1)
    obtain ⟨b1, b2, b3⟩ := back_all s L h0
    have hil : (invertL s 0 L).length ≤ 1000 := by rw [invertL_length]; exact hl1
    have hism : Small (invertL s 0 L) := ⟨hil, fun e he => Nat.le_trans (inv_small s 0 L e he) hst2⟩
    have hus : (applyB s L).size ≤ 20000 := by have := applyB_size hok.2.2.1; omega
    have H3 : Hid (applyR (applyB s L) (invertL s 0 L) = s) := Lib.hid ((applyR_ok b1).trans b2)
    have H4 : Hid (invertR (applyB s L) (invertL s 0 L) = L) := Lib.hid (by unfold invertR; rw [if_pos b1]; exact b3)
    have B1 := Lib.hid b1
    have hss : s.size ≤ 20000 := by omega
    have HL0 : Hid (checkLen s.size L = 0) := Lib.hid (by have h := h0; unfold checkE at h; rw [if_neg (by omega)] at h; exact h)
    have hfin : (editedL s s.size 0 L).length ≤ 20000 := by have e : (applyB s L).size = (editedL s s.size 0 L).length := by rw [← byt_length]; exact congrArg List.length (byt_mkB _)
                                                            omega
    have H0 := Lib.hid h0
    clear h0 hok b1 b2 b3
    go_enter Try.func10, Try.ntmps10
    go_wp2_with fail
    refine Hsh.out.mono ?_
    rintro e w1 ⟨rfl, rfl⟩
    go_wp2_with fail
    refine Hcut.out.mono ?_
    rintro e w1 ⟨A1, c1, rfl, hE1, hb1⟩
    go_wp2_with fail
    refine (Apply_any s c1 A1 L w1 hsm hst2 hE1).mono ?_
    rw [H0.out, H1.out]
    rintro e w3 ⟨rfl, hb3⟩
    have hB3 := hb1.trans (hb3.mono hb1.size)
    have hE3 := hE1.below hb3
    clear hE1
    go_wp2_with fail
    refine (Invert_any s c1 A1 L w3 hsm hst2 hE3).mono ?_
    rw [H0.out, H2.out]
    rintro e w4 ⟨A4, c4, rfl, hI4, _, hb4⟩
    have hB4 := hB3.trans (hb4.mono hB3.size)
    have hE4 := hE3.below hb4
    clear hE3
    go_wp2_with fail
    refine (Apply_any (applyB s L) c4 A4 (invertL s 0 L) w4 hism (by omega) hI4).mono ?_
    rw [B1.out, H3.out]
    rintro e w5 ⟨rfl, hb5⟩
    have hB5 := hB4.trans (hb5.mono hB4.size)
    have hE5 := hE4.below hb5
    have hI5 := hI4.below hb5
    clear hE4 hI4
    go_wp2_with fail
    refine (Invert_any (applyB s L) c4 A4 (invertL s 0 L) w5 hism (by omega) hI5).mono ?_
    rw [B1.out, H4.out]
    rintro e w6 ⟨A6, c6, rfl, hI6, _, hb6⟩
    have hB6 := hB5.trans (hb6.mono hB5.size)
    have hE6 := hE5.below hb6
    clear hE5 hI5
    go_wp2_with fail
    refine (Same_any c6 c1 A6 A1 L L w6 hl1 hI6 hE6).mono ?_
    rw [decide_eq_true rfl]
    rintro e w7 ⟨rfl, hb7⟩
    have hB7 := hB6.trans (hb7.mono hB6.size)
    have hE7 := hE6.below hb7
    clear hE6 hI6
    go_wp2_with fail
    refine (New_ok s w7 hss).mono ?_
    rintro e w8 ⟨v8, rfl, hR8, hb8⟩
    have hB8 := hB7.trans (hb8.mono hB7.size)
    have hE8 := hE7.below hb8
    obtain ⟨r8, vr8, rfl, hh8⟩ := id hR8
    clear hh8 hE7
    go_wp2_with fail
    refine (Edit_ok _ _ (pcOf s) s c1 A1 L w8 hsm (pcOf_text s) HL0.out hss Hr.out hfin hE8 hR8).mono ?_
    rintro e w9 ⟨t9, ⟨v9, rfl, hR9, hb9⟩, ht9⟩
    have hB9 := hB8.trans (hb9.mono hB8.size)
    have hR89 := hR8.below hb9
    obtain ⟨r9, vr9, rfl, hh9⟩ := id hR9
    have hz9 : t9.size ≤ 60000 := by rw [size_of_text ht9]; omega
    have hx9 : mkB t9.text = applyB s L := by rw [ht9]; rfl
    clear hh9 hE8
    go_wp2_with fail
    refine (Text_any _ _ t9 w9 hz9 hR9).mono ?_
    rw [hx9]
    rintro e w10 ⟨rfl, hb10⟩
    have hB10 := hB9.trans (hb10.mono hB9.size)
    have hR8a := hR89.below hb10
    have hR9a := hR9.below hb10
    go_wp2_with fail
    refine (Undo_ok _ _ t9 w10 hR9a).mono ?_
    rintro e w11 ⟨rfl, rfl⟩
    go_wp2_with fail
    have hxs : mkB (pcOf s).text = s := by rw [pcOf_text]; exact mk_byt s
    refine (Text_any _ _ (pcOf s) w10 (by rw [pcOf_size]; omega) hR8a).mono ?_
    rw [hxs]
    rintro e w12 ⟨rfl, hb12⟩
    have hB12 := hB10.trans (hb12.mono hB10.size)
    have hR8b := hR8a.below hb12
    go_wp2_with fail
    refine (Text_any _ _ (pcOf s) w12 (by rw [pcOf_size]; omega) hR8b).mono ?_
    rw [hxs]
    rintro e w13 ⟨rfl, hb13⟩
    have hB13 := hB12.trans (hb13.mono hB12.size)
    go_wp2_with fail
    refine (alive_any w13).mono ?_
    rintro e w14 ⟨rfl, hb14⟩
    go_wp2_with fail
    go_ret
    exact ⟨rfl, hB13.trans (hb14.mono hB13.size)⟩
  · have H1 := Lib.hid (applyR_no h0)
    have q : (checkE (s.size : Int) L != 0) = true := by simpa using h0
    have q2 : ByteArray.empty.toList = [] := by decide +kernel
    clear h0
    go_enter Try.func10, Try.ntmps10
    go_wp2_with fail
    refine Hsh.out.mono ?_
    rintro e w1 ⟨rfl, rfl⟩
    go_wp2_with fail
    refine Hcut.out.mono ?_
    rintro e w1 ⟨A1, c1, rfl, hE1, hb1⟩
    go_wp2_with fail
    refine (Apply_any s c1 A1 L w1 hsm hst2 hE1).mono ?_
    rw [H1.out]
    rintro e w3 ⟨rfl, hb3⟩
    have hB3 := hb1.trans (hb3.mono hb1.size)
    go_wp2_with fail
    refine (alive_any w3).mono ?_
    rintro e w9 ⟨rfl, hb9⟩
    go_wp2_with fail
    go_ret
    exact ⟨rfl, hB3.trans (hb9.mono hB3.size)⟩

end Go.Proofs.Ythcjffbdgdjfhaa.lawRopeBack
