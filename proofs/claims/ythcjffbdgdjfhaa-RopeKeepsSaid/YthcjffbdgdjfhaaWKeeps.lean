/-
  RopeKeeps: Move never changes the order of two offsets, and bytes between two offsets that no edit's span meets are the same after it.
  No condition: every input.
-/
import Derived.Test.YthcjffbdgdjfhaaArg
import Derived.Test.YthcjffbdgdjfhaaKeepMath
import Derived.Deep.RegionHeld3
namespace Go.Proofs.Ythcjffbdgdjfhaa.lawRopeKeeps
set_option linter.unusedVariables false
set_option linter.unusedSimpArgs false
open Go.ChangeShapes Go.WideShapes Go.RowKit
open Go.ChangeMaps (open_string shut_string)

theorem short_size (t : ByteArray) : (shortB t).size = min t.size 20001 := by unfold shortB; rw [ByteArray.size_extract]; omega

theorem ok_of {L : List Ed} {o : Int} (h1 : ¬ 100 < L.length) (h2 : rising 20000 0 L = true) (h3 : 0 ≤ o) (h4 : o ≤ 20000) : moveErr L o = 0 := by
  unfold moveErr
  rw [if_neg h1, if_neg]
  rw [h2]
  unfold isSpanB
  simp
  omega
theorem u16_of {n : Int} (h : (Lit.int .u16 n).wf = true) : 0 ≤ n ∧ n ≤ 65535 := by
  have h' : IntKind.u16.min ≤ n ∧ n ≤ IntKind.u16.max := by simpa [Lit.wf] using h
  have e1 : IntKind.u16.min = 0 := rfl
  have e2 : IntKind.u16.max = 65535 := rfl
  omega

set_option maxRecDepth 100000 in
set_option maxHeartbeats 2000000 in
theorem walk (t : ByteArray) (ht : t.size ≤ maxLen) (A : Option Addr) (c : Nat) (l : List Ed) (hl : l.length ≤ maxLen) (hs : ∀ e ∈ l, e.s.size ≤ maxLen) (a : Int) (wa : (Lit.int .u16 a).wf = true) (b : Int) (wb : (Lit.int .u16 b).wf = true) (after : Bool) (w : World) (hE : EdsV w A l) :
    Calls Try.prog 12 #[.string t, .slice A l.length c, .int .u16 a, .int .u16 b, .bool after] w fun e w' => e = .returned (.bool true) ∧ Below w.heap.size w w' := by
  obtain ⟨ha0, ha1⟩ := u16_of wa
  obtain ⟨hb0, hb1⟩ := u16_of wb
  clear wa wb
  have hcut := Cut_any 2000 c A l w hl hs hE
  have hsm := cutL_small (m := 2000) (by omega) l
  have hst := short_size t
  have hst2 : (shortB t).size ≤ 60000 := by omega
  have hsh := Short_any t w ht
  generalize cutL 2000 l = L at hcut hsm
  generalize shortB t = s at hst2 hsh
  have Hcut := Lib.hid hcut
  have Hsh := Lib.hid hsh
  clear hcut hl hs hE hst hsh ht
  have hl1 := hsm.1
  by_cases h0 : checkE s.size L = 0
  · have H1 := Lib.hid (applyR_ok h0)
    have hok := checkE_ok h0
    have Hr := Lib.hid hok.2.2.1
    have q0 : (checkE (s.size : Int) L != 0) = false := by simpa using h0
    have hss : s.size ≤ 20000 := by omega
    have H0 := Lib.hid h0
    obtain ⟨p, hp⟩ : ∃ p : Nat, a.tmod ((s.size : Int) + 1) = (p : Int) ∧ p ≤ s.size := ⟨a.toNat % (s.size + 1), by
      rw [Int.tmod_eq_emod_of_nonneg ha0]
      obtain ⟨x, rfl⟩ := Int.eq_ofNat_of_zero_le ha0
      rw [Int.toNat_natCast]
      simp, by have := Nat.mod_lt a.toNat (show 0 < s.size + 1 by omega); omega⟩
    obtain ⟨r, hr⟩ : ∃ r : Nat, b.tmod ((s.size : Int) + 1) = (r : Int) ∧ r ≤ s.size := ⟨b.toNat % (s.size + 1), by
      rw [Int.tmod_eq_emod_of_nonneg hb0]
      obtain ⟨x, rfl⟩ := Int.eq_ofNat_of_zero_le hb0
      rw [Int.toNat_natCast]
      simp, by have := Nat.mod_lt b.toNat (show 0 < s.size + 1 by omega); omega⟩
    obtain ⟨hp1, hp2⟩ := hp
    obtain ⟨hr1, hr2⟩ := hr
    have HP := Lib.hid (And.intro hp1 hr1)
    have hl100 : L.length ≤ 100 := hok.2.1
    clear h0 hok hp1 hr1
    go_enter Try.func12, Try.ntmps12
    go_wp2_with fail
    refine Hsh.out.mono ?_
    rintro e w1 ⟨rfl, rfl⟩
    go_wp2_with fail
    refine Hcut.out.mono ?_
    rintro e w1 ⟨A1, c1, rfl, hE1, hb1⟩
    go_wp2_with fail
    refine (Apply_any s c1 A1 L w1 hsm hst2 hE1).mono ?_
    rw [H1.out, H0.out]
    rintro e w3 ⟨rfl, hb3⟩
    have hB3 := hb1.trans (hb3.mono hb1.size)
    have hE3 := hE1.below hb3
    clear hE1
    go_wp2_with fail
    obtain ⟨hp1, hr1⟩ := HP.out
    have sw : IntKind.i64.wrap ((s.size : Int) + 1) = (s.size : Int) + 1 := IntWalk.i64_in _ (by omega)
    go_quiet (fail)
    clear hp1 hr1 sw
    have hlen : ¬ 100 < L.length := by omega
    have hr3 : rising 20000 0 L = true := rising_more (by omega) Hr.out
    have hxs := applyB_size Hr.out
    rcases Nat.lt_or_ge r p with hlt | hge
    · have hrp : r ≤ p := by omega
      have hm1 := ok_of hlen hr3 (o := (r : Int)) (by omega) (by omega)
      have hm2 := ok_of hlen hr3 (o := (p : Int)) (by omega) (by omega)
      have hbd1 := move_bounds (o := (r : Int)) (after := after) (sh := 0) Hr.out (by omega) (by omega)
      have hbd2 := move_bounds (o := (p : Int)) (after := after) (sh := 0) Hr.out (by omega) (by omega)
      have hmn := move_mono (o1 := (r : Int)) (o2 := (p : Int)) (after := after) (by omega) (sh := 0) Hr.out (by omega) (by omega)
      have hkept := fun h => bytes_kept (t := s) (after := after) (a := r) (b := p) (by omega) hp2 (sh := 0) (last := 0) Hr.out (by omega) h
      have hres1 := moveRes_ok hm1 after
      have hres2 := moveRes_ok hm2 after
      obtain ⟨M, hM⟩ : ∃ M : Nat, moveE (r : Int) after 0 L = (M : Int) := ⟨(moveE (r : Int) after 0 L).toNat, by omega⟩
      obtain ⟨N, hN⟩ : ∃ N : Nat, moveE (p : Int) after 0 L = (N : Int) := ⟨(moveE (p : Int) after 0 L).toNat, by omega⟩
      rw [hM] at hres1 hbd1 hmn hkept
      rw [hN] at hres2 hbd2 hmn hkept
      have k1 : M ≤ N := by omega
      have k2 : N ≤ (applyB s L).size := by omega
      have hext : (∀ e ∈ L, apart e r p) → (applyB s L).extract M N = s.extract r p := by
        intro hap
        obtain ⟨S, s1, s2, s3, s4⟩ := hkept hap
        have e1 : ((p : Int) + S - ((0 : Nat) : Int)).toNat = N := by omega
        have e2 : ((r : Int) + S - ((0 : Nat) : Int)).toNat = M := by omega
        rw [e1, e2] at s4
        have h5 : sub (applyB s L) M N = sub s r p := by
          rw [← s4, sub_eq, ← List.drop_take]
          unfold applyB
          rw [mkB_toList]
        have h6 := congrArg mkB h5
        unfold sub at h6
        rwa [mkB_of, mkB_of] at h6
      have f1 : decide (N < M) = false := by simp; omega
      have f2 : decide ((M : Int) < 0) = false := by simp
      have f3 : decide ((applyB s L).size < N) = false := by simp; omega
      have Hm := Lib.hid (And.intro (And.intro hm1 hm2) (And.intro hres1 hres2))
      have Hext := Lib.hid hext
      clear hm1 hm2 hbd1 hbd2 hmn hkept hres1 hres2 hM hN hext hxs
      go_wp2_with fail
      refine (Move_any c1 A1 L (r : Int) after _ hsm (hE3.below (below_drewN (Below.refl _ _) _))).mono ?_
      rw [Hm.out.2.1, Hm.out.1.1]
      rintro e w4 ⟨rfl, hb4⟩
      have hB4 := (below_drewN hB3 nq).trans (hb4.mono (by have := hB3.size; simp; omega))
      have hE4 := (hE3.below (below_drewN (Below.refl _ _) nq)).below hb4
      go_wp2_with fail
      refine (Move_any c1 A1 L (p : Int) after _ hsm hE4).mono ?_
      rw [Hm.out.2.2, Hm.out.1.2]
      rintro e w5 ⟨rfl, hb5⟩
      have hB5 := hB4.trans (hb5.mono hB4.size)
      have hE5 := hE4.below hb5
      clear hE4 hE3
      go_wp2_with fail
      go_loopw [22] (fun i wr => ∃ (k : Nat), k ≤ L.length ∧ i = .int .i64 k ∧ (∀ (j : Nat) (hj : j < L.length), j < k → apart L[j] r p) ∧ Below w5.heap.size w5 wr) (fun i _ => L.length - (intOf i).toNat)
      case atStart => exact ⟨0, by omega, rfl, fun j hj h => absurd h (by omega), Below.refl _ _⟩
      case round =>
        obtain ⟨k, hk, rfl, hap, hB⟩ := hrel
        have Hap := Lib.hid hap
        clear hap
        have hBr := hB5.trans (hB.mono hB5.size)
        by_cases hlt : k < L.length
        · obtain ⟨bb, off, rfl, hbb, d1, d2, d3⟩ := (hE5.below hB).get hlt
          clear hE5
          by_cases htouch : apart L[k] r p
          · have HT : Hid (touchB L[k].f L[k].t (r : Int) (p : Int) = false) := Lib.hid (by unfold touchB; simp; rcases htouch with h | h <;> omega)
            have Htouch := Lib.hid htouch
            clear htouch
            go_wp2_with fail
            go_region_held3 (fun w' => w'.cell? ⟨bb, off + k * 3, none⟩ = some (.int .i64 L[k].f) ∧ w'.cell? ⟨bb, off + k * 3 + 1, none⟩ = some (.int .i64 L[k].t))
              (first | (go_keep; done) | (refine ⟨?_, ?_⟩ <;> (rw [hb6.cell (by simp; omega)]; assumption)))
              ((go_at_call 42; refine (rTouch_any L[k].f L[k].t (r : Int) (p : Int) _).mono ?_; rw [HT.out]; rintro e w6 ⟨rfl, hb6⟩))
            go_wp2_with fail
            have hap2 : ∀ (j : Nat) (hj : j < L.length), j < k + 1 → apart L[j] r p := by
              intro j hj hjk
              by_cases hjk2 : j = k
              · subst hjk2; exact Htouch.out
              · exact Hap.out j hj (by omega)
            have hB7 := hB.drew.trans (hb6.mono hB.size)
            exact ⟨⟨k + 1, by omega, by go_num, hap2, hB7⟩, by simp [intOf]; omega⟩
          · have HT : Hid (touchB L[k].f L[k].t (r : Int) (p : Int) = true) := Lib.hid (by unfold touchB; simp; unfold apart at htouch; omega)
            clear htouch
            go_wp2_with fail
            go_region_held3 (fun w' => w'.cell? ⟨bb, off + k * 3, none⟩ = some (.int .i64 L[k].f) ∧ w'.cell? ⟨bb, off + k * 3 + 1, none⟩ = some (.int .i64 L[k].t))
              (first | (go_keep; done) | (refine ⟨?_, ?_⟩ <;> (rw [hb6.cell (by simp; omega)]; assumption)))
              ((go_at_call 42; refine (rTouch_any L[k].f L[k].t (r : Int) (p : Int) _).mono ?_; rw [HT.out]; rintro e w6 ⟨rfl, hb6⟩))
            have hB6 := hBr.drew.trans (hb6.mono (by have := hBr.size; simp; omega))
            go_wp2_with fail
            refine (alive_any w6).mono ?_
            rintro e w7 ⟨rfl, hb7⟩
            go_wp2_with fail
            go_ret
            exact ⟨rfl, hB6.trans (hb7.mono hB6.size)⟩
        · have hke : k = L.length := by omega
          subst hke
          clear hE5
          have hall : ∀ e ∈ L, apart e r p := by
            intro e he
            obtain ⟨j, hj, rfl⟩ := List.getElem_of_mem he
            exact Hap.out j hj hj
          have hex := Hext.out hall
          have q5 : (((applyB s L).extract M N).toList == (s.extract r p).toList) = true := by rw [hex]; exact beq_self_eq_true _
          clear hex hall
          go_wp2_with fail
          go_region_held3 (fun _ => True) (trivial) ((go_at_call 21; refine (alive_any _).mono ?_; rintro e w6 ⟨rfl, hb6⟩))
          go_wp2_with fail
          go_ret
          exact ⟨rfl, hBr.drew.trans (hb6.mono hBr.size)⟩
    · have hrp : p ≤ r := by omega
      have hm1 := ok_of hlen hr3 (o := (p : Int)) (by omega) (by omega)
      have hm2 := ok_of hlen hr3 (o := (r : Int)) (by omega) (by omega)
      have hbd1 := move_bounds (o := (p : Int)) (after := after) (sh := 0) Hr.out (by omega) (by omega)
      have hbd2 := move_bounds (o := (r : Int)) (after := after) (sh := 0) Hr.out (by omega) (by omega)
      have hmn := move_mono (o1 := (p : Int)) (o2 := (r : Int)) (after := after) (by omega) (sh := 0) Hr.out (by omega) (by omega)
      have hkept := fun h => bytes_kept (t := s) (after := after) (a := p) (b := r) (by omega) hr2 (sh := 0) (last := 0) Hr.out (by omega) h
      have hres1 := moveRes_ok hm1 after
      have hres2 := moveRes_ok hm2 after
      obtain ⟨M, hM⟩ : ∃ M : Nat, moveE (p : Int) after 0 L = (M : Int) := ⟨(moveE (p : Int) after 0 L).toNat, by omega⟩
      obtain ⟨N, hN⟩ : ∃ N : Nat, moveE (r : Int) after 0 L = (N : Int) := ⟨(moveE (r : Int) after 0 L).toNat, by omega⟩
      rw [hM] at hres1 hbd1 hmn hkept
      rw [hN] at hres2 hbd2 hmn hkept
      have k1 : M ≤ N := by omega
      have k2 : N ≤ (applyB s L).size := by omega
      have hext : (∀ e ∈ L, apart e p r) → (applyB s L).extract M N = s.extract p r := by
        intro hap
        obtain ⟨S, s1, s2, s3, s4⟩ := hkept hap
        have e1 : ((r : Int) + S - ((0 : Nat) : Int)).toNat = N := by omega
        have e2 : ((p : Int) + S - ((0 : Nat) : Int)).toNat = M := by omega
        rw [e1, e2] at s4
        have h5 : sub (applyB s L) M N = sub s p r := by
          rw [← s4, sub_eq, ← List.drop_take]
          unfold applyB
          rw [mkB_toList]
        have h6 := congrArg mkB h5
        unfold sub at h6
        rwa [mkB_of, mkB_of] at h6
      have f1 : decide (N < M) = false := by simp; omega
      have f2 : decide ((M : Int) < 0) = false := by simp
      have f3 : decide ((applyB s L).size < N) = false := by simp; omega
      have Hm := Lib.hid (And.intro (And.intro hm1 hm2) (And.intro hres1 hres2))
      have Hext := Lib.hid hext
      clear hm1 hm2 hbd1 hbd2 hmn hkept hres1 hres2 hM hN hext hxs
      go_wp2_with fail
      refine (Move_any c1 A1 L (p : Int) after _ hsm (hE3.below (below_drewN (Below.refl _ _) _))).mono ?_
      rw [Hm.out.2.1, Hm.out.1.1]
      rintro e w4 ⟨rfl, hb4⟩
      have hB4 := (below_drewN hB3 nq).trans (hb4.mono (by have := hB3.size; simp; omega))
      have hE4 := (hE3.below (below_drewN (Below.refl _ _) nq)).below hb4
      go_wp2_with fail
      refine (Move_any c1 A1 L (r : Int) after _ hsm hE4).mono ?_
      rw [Hm.out.2.2, Hm.out.1.2]
      rintro e w5 ⟨rfl, hb5⟩
      have hB5 := hB4.trans (hb5.mono hB4.size)
      have hE5 := hE4.below hb5
      clear hE4 hE3
      go_wp2_with fail
      go_loopw [22] (fun i wr => ∃ (k : Nat), k ≤ L.length ∧ i = .int .i64 k ∧ (∀ (j : Nat) (hj : j < L.length), j < k → apart L[j] p r) ∧ Below w5.heap.size w5 wr) (fun i _ => L.length - (intOf i).toNat)
      case atStart => exact ⟨0, by omega, rfl, fun j hj h => absurd h (by omega), Below.refl _ _⟩
      case round =>
        obtain ⟨k, hk, rfl, hap, hB⟩ := hrel
        have Hap := Lib.hid hap
        clear hap
        have hBr := hB5.trans (hB.mono hB5.size)
        by_cases hlt : k < L.length
        · obtain ⟨bb, off, rfl, hbb, d1, d2, d3⟩ := (hE5.below hB).get hlt
          clear hE5
          by_cases htouch : apart L[k] p r
          · have HT : Hid (touchB L[k].f L[k].t (p : Int) (r : Int) = false) := Lib.hid (by unfold touchB; simp; rcases htouch with h | h <;> omega)
            have Htouch := Lib.hid htouch
            clear htouch
            go_wp2_with fail
            go_region_held3 (fun w' => w'.cell? ⟨bb, off + k * 3, none⟩ = some (.int .i64 L[k].f) ∧ w'.cell? ⟨bb, off + k * 3 + 1, none⟩ = some (.int .i64 L[k].t))
              (first | (go_keep; done) | (refine ⟨?_, ?_⟩ <;> (rw [hb6.cell (by simp; omega)]; assumption)))
              ((go_at_call 42; refine (rTouch_any L[k].f L[k].t (p : Int) (r : Int) _).mono ?_; rw [HT.out]; rintro e w6 ⟨rfl, hb6⟩))
            go_wp2_with fail
            have hap2 : ∀ (j : Nat) (hj : j < L.length), j < k + 1 → apart L[j] p r := by
              intro j hj hjk
              by_cases hjk2 : j = k
              · subst hjk2; exact Htouch.out
              · exact Hap.out j hj (by omega)
            have hB7 := hB.drew.trans (hb6.mono hB.size)
            exact ⟨⟨k + 1, by omega, by go_num, hap2, hB7⟩, by simp [intOf]; omega⟩
          · have HT : Hid (touchB L[k].f L[k].t (p : Int) (r : Int) = true) := Lib.hid (by unfold touchB; simp; unfold apart at htouch; omega)
            clear htouch
            go_wp2_with fail
            go_region_held3 (fun w' => w'.cell? ⟨bb, off + k * 3, none⟩ = some (.int .i64 L[k].f) ∧ w'.cell? ⟨bb, off + k * 3 + 1, none⟩ = some (.int .i64 L[k].t))
              (first | (go_keep; done) | (refine ⟨?_, ?_⟩ <;> (rw [hb6.cell (by simp; omega)]; assumption)))
              ((go_at_call 42; refine (rTouch_any L[k].f L[k].t (p : Int) (r : Int) _).mono ?_; rw [HT.out]; rintro e w6 ⟨rfl, hb6⟩))
            have hB6 := hBr.drew.trans (hb6.mono (by have := hBr.size; simp; omega))
            go_wp2_with fail
            refine (alive_any w6).mono ?_
            rintro e w7 ⟨rfl, hb7⟩
            go_wp2_with fail
            go_ret
            exact ⟨rfl, hB6.trans (hb7.mono hB6.size)⟩
        · have hke : k = L.length := by omega
          subst hke
          clear hE5
          have hall : ∀ e ∈ L, apart e p r := by
            intro e he
            obtain ⟨j, hj, rfl⟩ := List.getElem_of_mem he
            exact Hap.out j hj hj
          have hex := Hext.out hall
          have q5 : (((applyB s L).extract M N).toList == (s.extract p r).toList) = true := by rw [hex]; exact beq_self_eq_true _
          clear hex hall
          go_wp2_with fail
          go_region_held3 (fun _ => True) (trivial) ((go_at_call 21; refine (alive_any _).mono ?_; rintro e w6 ⟨rfl, hb6⟩))
          go_wp2_with fail
          go_ret
          exact ⟨rfl, hBr.drew.trans (hb6.mono hBr.size)⟩
  · have H1 := Lib.hid (applyR_no h0)
    have q : (checkE (s.size : Int) L != 0) = true := by simpa using h0
    clear h0
    go_enter Try.func12, Try.ntmps12
    go_wp2_with fail
    refine Hsh.out.mono ?_
    rintro e w1 ⟨rfl, rfl⟩
    go_wp2_with fail
    refine Hcut.out.mono ?_
    rintro e w1 ⟨A1, c1, rfl, hE1, hb1⟩
    go_wp2_with fail
    refine (Apply_any s c1 A1 L w1 hsm hst2 hE1).mono ?_
    rw [H1.out]
    rintro e w3 ⟨rfl, hb3⟩
    have hB3 := hb1.trans (hb3.mono hb1.size)
    go_wp2_with fail
    refine (alive_any w3).mono ?_
    rintro e w9 ⟨rfl, hb9⟩
    go_wp2_with fail
    go_ret
    exact ⟨rfl, hB3.trans (hb9.mono hB3.size)⟩

end Go.Proofs.Ythcjffbdgdjfhaa.lawRopeKeeps
