/-
  Contracts of the small functions on edits: isSpan, growth, areRising, check, Check.
-/
import Derived.Test.YtmdgclcakogggaaMem
import Derived.Test.YtmdgclcakogggaaRows
namespace Go.Proofs.Ytmdgclcakogggaa
open Go.RowKit

theorem isSpan_any (a b n : Int) (w : World) :
    Calls Try.prog 43 #[.int .i64 a, .int .i64 b, .int .i64 n] w fun e w' => e = .returned (.bool (isSpanB a b n)) ∧ w = w' := by
  go_enter Try.func43, Try.ntmps43
  go_wp2
  all_goals
    go_ret
    exact ⟨ret_bool (by unfold isSpanB; rw [Bool.eq_iff_iff]; simp; omega), rfl⟩

theorem growth_any (f t : Int) (s : ByteArray) (w : World) (h1 : -100000 ≤ t - f) (h2 : t - f ≤ 100000) (h3 : s.size ≤ 60000) :
    Calls Try.prog 45 #[.agg #[.int .i64 f, .int .i64 t, .string s]] w fun e w' => e = .returned (.int .i64 (growE ⟨f, t, s⟩)) ∧ Below w.heap.size w w' := by
  go_enter Try.func45, Try.ntmps45
  go_wp2
  go_ret
  exact ⟨ret_int rfl, (Below.refl _ _).alloc (Nat.le_refl _) _⟩

theorem areRising_any (n : Int) (c : Nat) (A : Option Addr) (l : List Ed) (w : World) (hl : l.length ≤ 1000) (hE : EdsV w A l) :
    Calls Try.prog 42 #[.slice A l.length c, .int .i64 n] w fun e w' => e = .returned (.bool (rising n 0 l)) ∧ Below w.heap.size w w' := by
  go_enter Try.func42, Try.ntmps42
  go_wp2_with fail
  go_loopw [5, 10] (fun last i wr => ∃ (k : Nat) (z : Int), k ≤ l.length ∧ i = .int .i64 k ∧ last = .int .i64 z ∧ rising n z (l.drop k) = rising n 0 l ∧ Below w.heap.size w wr) (fun _ i _ => l.length - (intOf i).toNat)
  case atStart => exact ⟨0, 0, by omega, rfl, rfl, rfl, Below.refl _ _⟩
  case round =>
    obtain ⟨k, z, hk, rfl, rfl, hr, hB⟩ := hrel
    by_cases hlt : k < l.length
    · obtain ⟨b, off, rfl, hb, c1, c2, c3⟩ := (hE.below hB).get hlt
      have hd : rising n z (l.drop k) = (decide (z ≤ l[k].f) && isSpanB l[k].f l[k].t n && rising n l[k].t (l.drop (k + 1))) := by
        rw [List.drop_eq_getElem_cons hlt]; rfl
      have Hr := Lib.hid (hr.symm.trans hd)
      have hd' : isSpanB l[k].f l[k].t n = true → z ≤ l[k].f → rising n l[k].t (l.drop (k + 1)) = rising n 0 l := fun h1 h2 => by rw [← hr, hd]; simp [h1, h2]
      have Hd := Lib.hid hd'
      clear hr hd hd' hE
      by_cases hs : isSpanB l[k].f l[k].t n = true
      · have Hs := Lib.hid hs
        clear hs
        go_wp2_with ((with_reducible refine (isSpan_any _ _ _ _).mono ?_); rintro e w' ⟨rfl, rfl⟩; simp only [Hs.out])
        · exact ⟨⟨k + 1, _, by omega, by go_num, rfl, Hd.out Hs.out (by omega), hB.alloc hB.size _⟩, by simp [intOf]; omega⟩
        · go_ret
          exact ⟨ret_bool (by rw [Hr.out]; simp; omega), hB.alloc hB.size _⟩
      · have Hs := Lib.hid (Bool.eq_false_iff.2 hs)
        clear hs
        go_wp2_with ((with_reducible refine (isSpan_any _ _ _ _).mono ?_); rintro e w' ⟨rfl, rfl⟩; simp only [Hs.out])
        all_goals
          go_ret
          exact ⟨ret_bool (by rw [Hr.out, Hs.out]; simp), hB.alloc hB.size _⟩
    · go_wp2
      go_ret
      exact ⟨ret_bool (by rw [← hr, List.drop_of_length_le (by omega)]; rfl), hB⟩

/-- rope.check: Check of a string of so many bytes -/
theorem check_any (n : Int) (c : Nat) (A : Option Addr) (l : List Ed) (w : World) (hl : Small l) (h0 : 0 ≤ n) (h1 : n ≤ 60000) (hE : EdsV w A l) :
    Calls Try.prog 25 #[.int .i64 n, .slice A l.length c] w fun e w' => e = .returned (.int .i64 (checkLen n l)) ∧ Below w.heap.size w w' := by
  have hl1 := hl.1
  by_cases hlen : 100 < l.length
  · go_enter Try.func25, Try.ntmps25
    go_wp2_with fail
    go_ret
    exact ⟨ret_int (by simp [checkLen, hlen]), Below.refl _ _⟩
  · by_cases hr : rising n 0 l = true
    · have Hr := Lib.hid hr
      clear hr
      go_enter Try.func25, Try.ntmps25
      go_wp2_with fail
      refine (areRising_any n c A l w hl1 hE).mono ?_
      rintro e w1 ⟨rfl, hb1⟩
      simp only [Hr.out]
      go_wp2_with fail
      go_loopw [0, 16] (fun z i wr => ∃ (k : Nat), k ≤ l.length ∧ i = .int .i64 k ∧ z = .int .i64 (n + sumG (l.take k)) ∧ Below w.heap.size w wr) (fun _ i _ => l.length - (intOf i).toNat)
      case atStart => exact ⟨0, by omega, rfl, by simp [sumG], hb1⟩
      case round =>
        obtain ⟨k, hk, rfl, rfl, hB⟩ := hrel
        have hbd := sumG_take_bd h1 (Int.le_refl 0) hl Hr.out k
        by_cases hlt : k < l.length
        · obtain ⟨b, off, rfl, hb, c1, c2, c3⟩ := (hE.below hB).get hlt
          have hg := rising_get Hr.out hlt
          have hsz := hl.get hlt
          have hS := Lib.hid (sumG_take_succ hlt)
          clear hE
          have hgr : -100000 ≤ growE l[k] ∧ growE l[k] ≤ 100000 := by unfold growE; omega
          go_wp2_with fail
          refine (growth_any _ _ _ _ (by omega) (by omega) (by omega)).mono ?_
          rintro e w2 ⟨rfl, hb2⟩
          have e1 : growE { f := l[k].f, t := l[k].t, s := l[k].s } = growE l[k] := rfl
          rw [e1]
          clear e1
          go_wp2
          go_roundw
          case rel => exact ⟨k + 1, by omega, by go_num, by rw [hS.out]; go_num, (hB.alloc hB.size _).trans (hb2.mono (by have := hB.size; simp; omega))⟩
          case measure => simp [intOf]; omega
        · have hke : k = l.length := by omega
          subst hke
          rw [sumG_take_all] at *
          have H1 : checkLen n l = if 20000 < n + sumG l then 7 else 0 := by simp [checkLen, hlen, Hr.out]
          have H := Lib.hid H1
          clear H1
          go_wp2
          all_goals
            go_ret
            exact ⟨ret_int (by rw [H.out]; simp; omega), hB⟩
    · have Hr := Lib.hid (Bool.eq_false_iff.2 hr)
      clear hr
      go_enter Try.func25, Try.ntmps25
      go_wp2_with fail
      refine (areRising_any n c A l w hl1 hE).mono ?_
      rintro e w1 ⟨rfl, hb1⟩
      simp only [Hr.out]
      go_wp2_with fail
      go_ret
      exact ⟨ret_int (by simp [checkLen, hlen, Hr.out]), hb1⟩

theorem Check_any (t : ByteArray) (c : Nat) (A : Option Addr) (l : List Ed) (w : World) (hl : Small l) (h1 : t.size ≤ 60000) (hE : EdsV w A l) :
    Calls Try.prog 29 #[.string t, .slice A l.length c] w fun e w' => e = .returned (.int .i64 (checkE t.size l)) ∧ Below w.heap.size w w' := by
  by_cases ht : 20000 < t.size
  · go_enter Try.func29, Try.ntmps29
    go_wp2_with fail
    go_ret
    exact ⟨ret_int (by unfold checkE; rw [if_pos (by omega)]), Below.refl _ _⟩
  · go_enter Try.func29, Try.ntmps29
    go_wp2_with ((with_reducible refine (check_any _ c A l w hl (by omega) (by omega) hE).mono ?_); rintro e w2 ⟨rfl, hb2⟩)
    go_ret
    exact ⟨ret_int (by unfold checkE; rw [if_neg (by omega)]), hb2⟩
end Go.Proofs.Ytmdgclcakogggaa
