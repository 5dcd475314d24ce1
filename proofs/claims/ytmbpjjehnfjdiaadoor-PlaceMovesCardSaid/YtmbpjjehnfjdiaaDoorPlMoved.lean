/-
  Contracts of Moved, of place and of the specification.
-/
import Derived.Test.YtmbpjjehnfjdiaaDoorPlRef2
import Derived.Test.YtmbpjjehnfjdiaaDoorMove3
import Derived.Test.YtmbpjjehnfjdiaaDoorRMove
import Derived.Test.YtmbpjjehnfjdiaaDoorKeepMath
namespace Go.Proofs.YtmbpjjehnfjdiaaDoor
set_option linter.unusedVariables false
set_option linter.unusedSimpArgs false
open Go.RowKit

theorem BegR.exists {s : ByteArray} {o : Nat} (ho : o ≤ s.size) : ∃ b, BegR s o b := by
  obtain ⟨j, u, hu, hjo, hc⟩ := Ch.cover (s := s) (Nat.zero_le o) ho
  exact ⟨j, hjo, ⟨u, hu⟩, by rcases hc with h | h; exact .inl h; exact .inr h⟩
theorem BegR.of_last {s : ByteArray} {o b : Nat} (ho : o ≤ s.size) (hb : b ≤ o) (hc : ∃ w, Ch s 0 b w) (h : ∀ j, b < j → j ≤ o → ¬ ∃ w, Ch s 0 j w) : BegR s o b := by
  obtain ⟨j, hj⟩ := BegR.exists (s := s) ho
  obtain ⟨h1, h2, h3⟩ := id hj
  rcases Nat.lt_or_ge b j with hlt | hge
  · exact absurd h2 (h j hlt h1)
  · by_cases he : b = j
    · rw [he]; exact hj
    · obtain ⟨u, hu⟩ := h2
      obtain ⟨v, hv⟩ := hc
      rcases h3 with rfl | ⟨_, h3⟩
      · omega
      · exact (hu.inside (by omega) (by omega) hv).elim
theorem BegR.place {s : ByteArray} {o b : Nat} (ho : o ≤ s.size) (h : BegR s o b) : b ≤ s.size ∧ ∃ l c : Nat, PlaceAt s b l c := by
  obtain ⟨h1, ⟨u, hu⟩, _⟩ := h
  obtain ⟨c, hc⟩ := Ch.of_LS (s := s) (o := b) (by omega) hu
  exact ⟨by omega, _, c, rfl, hc⟩

/-- of edits that are right: the offset's place, and where it is in the new string -/
theorem moved_facts {s : ByteArray} {l : List Ed} {o : Nat} (h : checkE s.size l = 0) (ho : o ≤ s.size) :
    rising s.size 0 l = true ∧ rising 20000 0 l = true ∧ s.size ≤ 20000 ∧ (applyB s l).size ≤ 20000 ∧ moveErr l o = 0 ∧ ∃ m : Nat, moveE o true 0 l = m ∧ m ≤ (applyB s l).size := by
  have hok := checkE_ok h
  have hr := hok.2.2.1
  have hr2 : rising 20000 0 l = true := rising_more (by omega) hr
  have hz := applyB_size hr
  have hb := move_bounds (o := (o : Int)) (after := true) (sh := 0) hr (by omega) (by omega)
  refine ⟨hr, hr2, by omega, by omega, ?_, (moveE o true 0 l).toNat, by omega, by omega⟩
  unfold moveErr
  rw [if_neg (by omega), if_neg]
  rw [hr2]
  have : isSpanB 0 o 20000 = true := by unfold isSpanB; simp; omega
  rw [this]; simp

/-- what Moved returns -/
def MovR (s : ByteArray) (a b : Int) (l : List Ed) (e : Ending) : Prop :=
  (20000 < s.size ∧ e = .returned (.tuple #[.agg #[.int .i64 0, .int .i64 0], .int .i64 3])) ∨
  (s.size ≤ 20000 ∧ (¬ ∃ o : Nat, HasOff s a b o) ∧ e = .returned (.tuple #[.agg #[.int .i64 0, .int .i64 0], .int .i64 2])) ∨
  (s.size ≤ 20000 ∧ (∃ o : Nat, HasOff s a b o) ∧ checkE s.size l ≠ 0 ∧ e = .returned (.tuple #[.agg #[.int .i64 0, .int .i64 0], .int .i64 (checkE s.size l)])) ∨
  (s.size ≤ 20000 ∧ checkE s.size l = 0 ∧ ∃ o m bb x y : Nat, HasOff s a b o ∧ moveE o true 0 l = m ∧ BegR (applyB s l) m bb ∧ PlaceAt (applyB s l) bb x y ∧ e = .returned (.tuple #[.agg #[.int .i64 (x : Int), .int .i64 (y : Int)], .int .i64 0]))

set_option maxRecDepth 100000 in
set_option maxHeartbeats 4000000 in
theorem Moved_any (s : ByteArray) (a b : Int) (c : Nat) (A : Option Addr) (l : List Ed) (w : World) (hs : s.size ≤ 60000) (hsm : Small l) (hE : EdsV w A l) (hT : Lib.Utf8Tabs 0 1 w) :
    Calls Tryd.prog 25 #[.string s, .agg #[.int .i64 a, .int .i64 b], .slice A l.length c] w fun e w' => MovR s a b l e ∧ Below w.heap.size w w' := by
  obtain ⟨w1, hw1⟩ : ∃ w1, w1 = w.alloc (.cells #[.int .i64 a, .int .i64 b] 23) := ⟨_, rfl⟩
  obtain ⟨w2, hw2⟩ : ∃ w2, w2 = w1.alloc (.cells #[.int .i64 0, .int .i64 0] 23) := ⟨_, rfl⟩
  have z1 : w1.heap.size = w.heap.size + 1 := by rw [hw1]; simp
  have z2 : w2.heap.size = w.heap.size + 2 := by rw [hw2]; simp [z1]
  have b0 : Below w.heap.size w w1 := by rw [hw1]; exact (Below.refl _ _).alloc (Nat.le_refl _) _
  have b1 : Below w1.heap.size w1 w2 := by rw [hw2]; exact (Below.refl _ _).alloc (Nat.le_refl _) _
  have hB2 : Below w.heap.size w w2 := b0.trans (b1.mono b0.size)
  have k1 : w1.heap[w.heap.size]? = some (.cells #[.int .i64 a, .int .i64 b] 23 (0, 0)) := by rw [hw1]; exact heap_alloc_new w _
  have k2 : w2.heap[w1.heap.size]? = some (.cells #[.int .i64 0, .int .i64 0] 23 (0, 0)) := by rw [hw2]; exact heap_alloc_new w1 _
  have k1' := (b1.block _ (by omega)).trans k1
  rw [z1] at k2
  have p0 : w2.cell? ⟨w.heap.size, 0, none⟩ = some (.int .i64 a) := Lib.cell_of_heap k1' 0
  have p1 : w2.cell? ⟨w.heap.size, 1, none⟩ = some (.int .i64 b) := Lib.cell_of_heap k1' 1
  have hres : ∀ X : World, Below w2.heap.size w2 X → X.cell? ⟨w.heap.size + 1, 0, none⟩ = some (.int .i64 0) ∧ X.cell? ⟨w.heap.size + 1, 1, none⟩ = some (.int .i64 0) ∧ X.frozen? ⟨w.heap.size + 1, 0, none⟩ = false ∧ X.frozen? ⟨w.heap.size + 1, 1, none⟩ = false := fun X h => by
    have hk := (h.block _ (by omega)).trans k2
    exact ⟨Lib.cell_of_heap hk 0, Lib.cell_of_heap hk 1, by simp [World.frozen?, hk], by simp [World.frozen?, hk]⟩
  have hst : ∀ (X : World) (u v : Value), Below w2.heap.size w2 X → Below w.heap.size w ((X.setCell ⟨w.heap.size + 1, 0, none⟩ u).setCell ⟨w.heap.size + 1, 1, none⟩ v) := fun X u v h =>
    ((hB2.trans (h.mono hB2.size)).setCell (p := ⟨w.heap.size + 1, 0, none⟩) (Nat.le_add_right _ _) _).setCell (p := ⟨w.heap.size + 1, 1, none⟩) (Nat.le_add_right _ _) _
  have HR := Lib.hid hres
  have HS := Lib.hid hst
  have hw12 : w2 = (w.alloc (.cells #[.int .i64 a, .int .i64 b] 23)).alloc (.cells #[.int .i64 0, .int .i64 0] 23) := by rw [hw2, hw1]
  have HEq := Lib.hid hw12.symm
  have hE2 := hE.below hB2
  clear hres hst hw1 hw2 hw12 k1 k2 k1' b0 b1 hE
  go_enter Tryd.func25, Tryd.ntmps25
  go_wp2_with fail
  rw [HEq.out]
  with_reducible refine (Offset_any s a b _ hs).mono ?_
  rintro e w3 ⟨hR, hb3⟩
  obtain ⟨r0, r1, f0, f1⟩ := HR.out w3 hb3
  clear p0 p1
  rcases hR with ⟨ht, rfl⟩ | ⟨hle, o, ho, rfl⟩ | ⟨hle, hno, rfl⟩
  · go_wp2_with fail
    exact bodyPost_ret (v := .tuple #[.agg #[.int .i64 0, .int .i64 0], .int .i64 3]) (by simp [results, Tryd.results25, go_sem, r0, r1]) rfl ⟨.inl ⟨ht, rfl⟩, HS.out _ _ _ hb3⟩
  · have hos : o ≤ s.size := by obtain ⟨_, _, _, _, _, h, _⟩ := ho.place; exact h
    have HO := Lib.hid ho
    clear ho
    by_cases h0 : checkE s.size l = 0
    · obtain ⟨hr, hr2, _, hz, hme, m, hm, hml⟩ := moved_facts h0 hos
      have H1 := Lib.hid (applyR_ok h0)
      have H0 := Lib.hid h0
      have HME := Lib.hid hme
      have HM := Lib.hid hm
      have HMR := Lib.hid (moveRes_ok hme true)
      clear h0 hme hm hr hr2
      go_wp2_with fail
      with_reducible refine (Apply_any s c A l w3 hsm hs (hE2.below hb3)).mono ?_
      rw [H1.out, H0.out]
      rintro e w4 ⟨rfl, hb4⟩
      have hb24 := hb3.trans (hb4.mono hb3.size)
      obtain ⟨T, hTT⟩ : ∃ T, T = applyB s l := ⟨_, rfl⟩
      rw [← hTT] at hz hml
      rw [← hTT]
      have HTT := Lib.hid hTT
      clear r0 r1 f0 f1 hTT
      go_wp2_with fail
      with_reducible refine (Move_any c A l (o : Int) true w4 hsm (hE2.below hb24)).mono ?_
      rw [HMR.out, HME.out, HM.out]
      rintro e w5 ⟨rfl, hb5⟩
      have hb25 := hb24.trans (hb5.mono hb24.size)
      have hB5 := hB2.trans (hb25.mono hB2.size)
      go_wp2_with fail
      with_reducible refine (begin_any T m _ (by omega) hml (Utf8Tabs_below hT hB5)).mono ?_
      rintro e w6 ⟨bb, rfl, hbb, hb6⟩
      have hb26 := hb25.trans (hb6.mono hb25.size)
      obtain ⟨hbl, x, y, hpl⟩ := hbb.place hml
      have HP := Lib.hid (And.intro hbb hpl)
      clear hbb
      go_wp2_with fail
      with_reducible refine (placeOf_any T bb x y _ (by omega) hbl hpl).mono ?_
      rintro e w7 ⟨rfl, hb7⟩
      have hb27 := hb26.trans (hb7.mono hb26.size)
      obtain ⟨r0, r1, f0, f1⟩ := HR.out w7 hb27
      clear hpl
      go_wp2_with fail
      refine bodyPost_ret (v := .tuple #[.agg #[.int .i64 (x : Int), .int .i64 (y : Int)], .int .i64 0]) (by simp [results, Tryd.results25, go_sem, r0, r1]) rfl ⟨.inr (.inr (.inr ⟨hle, H0.out, o, m, bb, x, y, HO.out, HM.out, ?_, ?_, rfl⟩)), HS.out _ _ _ hb27⟩
      · rw [← HTT.out]; exact HP.out.1
      · rw [← HTT.out]; exact HP.out.2
    · have q : (checkE s.size l != 0) = true := by simpa using h0
      have H0 := Lib.hid h0
      have H1 := Lib.hid (applyR_no h0)
      clear h0
      go_wp2_with fail
      with_reducible refine (Apply_any s c A l w3 hsm hs (hE2.below hb3)).mono ?_
      rintro e w4 ⟨rfl, hb4⟩
      have hb24 := hb3.trans (hb4.mono hb3.size)
      obtain ⟨r0, r1, f0, f1⟩ := HR.out w4 hb24
      go_wp2_with fail
      exact bodyPost_ret (v := .tuple #[.agg #[.int .i64 0, .int .i64 0], .int .i64 (checkE s.size l)]) (by simp [results, Tryd.results25, go_sem, r0, r1]) rfl ⟨.inr (.inr (.inl ⟨hle, ⟨o, HO.out⟩, H0.out, rfl⟩)), HS.out _ _ _ hb24⟩
  · have HN := Lib.hid hno
    clear hno
    go_wp2_with fail
    exact bodyPost_ret (v := .tuple #[.agg #[.int .i64 0, .int .i64 0], .int .i64 2]) (by simp [results, Tryd.results25, go_sem, r0, r1]) rfl ⟨.inr (.inl ⟨hle, HN.out, rfl⟩), HS.out _ _ _ hb3⟩

set_option maxRecDepth 100000 in
set_option maxHeartbeats 4000000 in
/-- the specification's Moved, of edits that are right -/
theorem rMoved_any (s : ByteArray) (o : Nat) (c : Nat) (A : Option Addr) (l : List Ed) (w : World) (hs : s.size ≤ 60000) (hsm : Small l) (h0 : checkE s.size l = 0) (ho : o ≤ s.size) (hE : EdsV w A l) :
    Calls Tryd.prog 27 #[.string s, .int .i64 (o : Int), .slice A l.length c] w fun e w' =>
      (∃ m bb x y : Nat, moveE o true 0 l = m ∧ BegR (applyB s l) m bb ∧ PlaceAt (applyB s l) bb x y ∧ e = .returned (.agg #[.int .i64 (x : Int), .int .i64 (y : Int)])) ∧ Below w.heap.size w w' := by
  obtain ⟨hr, hr2, hsz, hz, hme, m, hm, hml⟩ := moved_facts h0 ho
  obtain ⟨w1, hw1⟩ : ∃ w1, w1 = w.alloc (.cells #[.int .i64 0, .int .i64 0] 23) := ⟨_, rfl⟩
  have z1 : w1.heap.size = w.heap.size + 1 := by rw [hw1]; simp
  have hB1 : Below w.heap.size w w1 := by rw [hw1]; exact (Below.refl _ _).alloc (Nat.le_refl _) _
  have k1 : w1.heap[w.heap.size]? = some (.cells #[.int .i64 0, .int .i64 0] 23 (0, 0)) := by rw [hw1]; exact heap_alloc_new w _
  have hE1 := hE.below hB1
  have hms : moveR (o : Int) true 0 l = m := by rw [← move_same hr2]; exact hm
  have HM := Lib.hid (And.intro hm hms)
  have Hr := Lib.hid (And.intro hr hr2)
  have HEq := Lib.hid hw1.symm
  have HK1 := Lib.hid k1
  obtain ⟨T, hTT⟩ : ∃ T, T = applyB s l := ⟨_, rfl⟩
  rw [← hTT] at hz hml
  have HTT := Lib.hid hTT
  clear hm hms hr hr2 hme h0 hw1 k1 hTT hE
  go_enter Tryd.func27, Tryd.ntmps27
  go_wp2_with fail
  rw [HEq.out]
  with_reducible refine (rApply_any s c A l _ hsm hs Hr.out.1 hE1).mono ?_
  rw [← HTT.out]
  rintro e w2 ⟨rfl, hb2⟩
  go_wp2_with fail
  with_reducible refine (rMove_any c A l (o : Int) true _ hsm Hr.out.2 (by omega) (by omega) (hE1.below hb2)).mono ?_
  rw [HM.out.2]
  rintro e w3 ⟨rfl, hb3⟩
  have hb13 := hb2.trans (hb3.mono hb2.size)
  go_wp2_with fail
  with_reducible refine (rBegins_any T _ (by omega)).mono ?_
  rintro e w4 ⟨g, cap, xs, rfl, hown, hxs, hb4⟩
  have hb14 := hb13.trans (hb4.mono hb13.size)
  have hB4 := hB1.trans (hb14.mono hB1.size)
  have HX := Lib.hid (And.intro hown hxs)
  clear hown hxs
  go_wp2_with fail
  go_loopw [8] (fun z wr => ∃ p : Nat, wr = w4 ∧ z = .int .i64 (p : Int) ∧ p ≤ m ∧ (∀ j, p < j → j ≤ m → ¬ ∃ w, Ch T 0 j w)) (fun z _ => (intOf z).toNat)
  case atStart => exact ⟨m, rfl, rfl, Nat.le_refl _, fun j h1 h2 => by omega⟩
  case round =>
    obtain ⟨p, rfl, rfl, hpm, hall⟩ := hrel
    have HA := Lib.hid hall
    clear hall
    obtain ⟨b5, hb5x, hb5i⟩ := HX.out.2 p (by omega)
    have y1 : wr.cell? ⟨g, p, none⟩ = some (.bool b5) := by rw [HX.out.1.cellAt _ (by omega)]; exact hb5x
    have y2 : (p : Int) < (T.size : Int) + 1 := by omega
    have hps : p ≤ T.size := by omega
    have HI := Lib.hid hb5i
    clear hb5x hb5i
    cases b5
    · have hnb : ¬ ∃ w, Ch T 0 p w := fun h => by have := HI.out.2 ⟨by omega, h⟩; cases this
      have hp0 : 0 < p := by
        rcases Nat.eq_zero_or_pos p with h | h
        · subst h; exact absurd ⟨0, Ch.refl 0⟩ hnb
        · exact h
      have HN := Lib.hid hnb
      clear hnb
      go_wp2_with fail
      refine ⟨⟨p - 1, trivial, by congr 1; omega, by omega, fun j h1 h2 => ?_⟩, by simp [intOf]; omega⟩
      by_cases he : j = p
      · rw [he]; exact HN.out
      · exact HA.out j (by omega) h2
    · have hbd := (HI.out.1 rfl).2
      have hbg : BegR T m p := BegR.of_last hml hpm hbd HA.out
      have HB := Lib.hid hbg
      have HBD := Lib.hid hbd
      clear hbd hbg
      go_wp2_with fail
      with_reducible refine (rOf_any T p _ (by omega) hps HBD.out).mono ?_
      rintro e w5 ⟨⟨x, y, hpl, rfl⟩, hb5⟩
      have hb15 := hb14.trans (hb5.mono hb14.size)
      have hk := (hb15.block _ (by omega)).trans HK1.out
      have r0 : w5.cell? ⟨w.heap.size, 0, none⟩ = some (.int .i64 0) := Lib.cell_of_heap hk 0
      have r1 : w5.cell? ⟨w.heap.size, 1, none⟩ = some (.int .i64 0) := Lib.cell_of_heap hk 1
      have f0 : w5.frozen? ⟨w.heap.size, 0, none⟩ = false := by simp [World.frozen?, hk]
      have f1 : w5.frozen? ⟨w.heap.size, 1, none⟩ = false := by simp [World.frozen?, hk]
      have HP := Lib.hid hpl
      have hB5 := hB1.trans (hb15.mono hB1.size)
      clear hk hpl
      go_wp2_with fail
      refine bodyPost_ret (v := .agg #[.int .i64 (x : Int), .int .i64 (y : Int)]) (by simp [results, Tryd.results27, go_sem, r0, r1]) rfl ⟨⟨m, p, x, y, HM.out.1, ?_, ?_, rfl⟩, (hB5.setCell (p := ⟨w.heap.size, 0, none⟩) (Nat.le_refl _) _).setCell (p := ⟨w.heap.size, 1, none⟩) (Nat.le_refl _) _⟩
      · rw [← HTT.out]; exact HB.out
      · rw [← HTT.out]; exact HP.out
end Go.Proofs.YtmbpjjehnfjdiaaDoor
