/-
  Contracts of the specification's Check and Spans, and of Move on both sides.
-/
import Derived.Test.YtkdnacniligjjaaDoorRelexCommonsp20
namespace Go.Proofs.YtkdnacniligjjaaDoor
open Go.RowKit

theorem rCheck_any (t : ByteArray) (c : Nat) (A : Option Addr) (l : List Ed) (w : World) (hl : Small l) (h1 : t.size ≤ 60000) (hE : EdsV w A l) :
    Calls Tryd.prog 57 #[.string t, .slice A l.length c] w fun e w' => e = .returned (.int .i64 (checkE t.size l)) ∧ Below w.heap.size w w' := by
  have hl1 := hl.1
  by_cases hc : 20000 < t.size ∨ 100 < l.length
  · have hr : checkE t.size l = 3 := by
      unfold checkE checkLen
      rcases hc with hc | hc
      · rw [if_pos (by omega)]
      · rw [if_pos hc]; simp
    have Hr := Lib.hid hr
    clear hr
    by_cases h2 : 20000 < t.size
    all_goals
      go_enter Tryd.func57, Tryd.ntmps57
      go_wp2_with fail
      go_ret
      exact ⟨ret_int Hr.out.symm, Below.refl _ _⟩
  · have hc1 : t.size ≤ 20000 := by omega
    have hc2 : l.length ≤ 100 := by omega
    clear hc
    go_enter Tryd.func57, Tryd.ntmps57
    go_wp2_with fail
    go_loopw [5, 6, 7] (fun last z i wr => ∃ (k : Nat) (y : Int), k ≤ l.length ∧ i = .int .i64 k ∧ last = .int .i64 y ∧ 0 ≤ y ∧ z = .int .i64 ((t.size : Int) + sumG (l.take k)) ∧ -60000 * (k : Int) ≤ sumG (l.take k) ∧ sumG (l.take k) ≤ 60000 * (k : Int) ∧ rising t.size y (l.drop k) = rising t.size 0 l ∧ Below w.heap.size w wr) (fun _ _ i _ => l.length - (intOf i).toNat)
    case atStart => exact ⟨0, 0, by omega, rfl, rfl, by omega, by simp [sumG], by simp [sumG], by simp [sumG], rfl, Below.refl _ _⟩
    case round =>
      obtain ⟨k, y, hk, rfl, rfl, hy, rfl, hs1, hs2, hr, hB⟩ := hrel
      by_cases hlt : k < l.length
      · obtain ⟨b, off, rfl, hb, c1, c2, c3⟩ := (hE.below hB).get hlt
        have hd : rising t.size y (l.drop k) = (decide (y ≤ l[k].f) && isSpanB l[k].f l[k].t t.size && rising t.size l[k].t (l.drop (k + 1))) := by
          rw [List.drop_eq_getElem_cons hlt]; rfl
        have hsz := hl.get hlt
        have hS := Lib.hid (sumG_take_succ hlt)
        have hgd : growE l[k] = (l[k].s.size : Int) - (l[k].t - l[k].f) := rfl
        have Hg := Lib.hid hgd
        have Hr := Lib.hid (hr.symm.trans hd)
        clear hr hd hE hgd
        by_cases hg : y ≤ l[k].f ∧ l[k].f ≤ l[k].t ∧ l[k].t ≤ t.size
        · obtain ⟨g1, g2, g3⟩ := hg
          go_wp2_with fail
          refine ⟨⟨k + 1, l[k].t, by omega, by go_num, rfl, by omega, ?_, ?_, ?_, ?_, hB.alloc hB.size _⟩, by simp [intOf]; omega⟩
          · rw [hS.out, Hg.out]; go_num
          · rw [hS.out, Hg.out]; omega
          · rw [hS.out, Hg.out]; omega
          · rw [Hr.out]
            have e1 : decide (y ≤ l[k].f) = true := by simpa using g1
            have e2 : isSpanB l[k].f l[k].t t.size = true := by unfold isSpanB; simp; omega
            rw [e1, e2]; rfl
        · have hf : rising t.size 0 l = false := by
            rw [Hr.out]
            have : (decide (y ≤ l[k].f) && isSpanB l[k].f l[k].t t.size) = false := by
              rw [Bool.eq_false_iff]; unfold isSpanB; simp; omega
            rw [this]; rfl
          have hres : checkE t.size l = 2 := by unfold checkE checkLen; rw [if_neg (by omega), if_neg (by omega), if_pos hf]
          have Hres := Lib.hid hres
          clear hf hres
          by_cases g1 : y ≤ l[k].f
          · by_cases g2 : l[k].f ≤ l[k].t
            · have g3 : t.size < l[k].t := by omega
              clear hg
              go_wp2_with fail
              go_ret
              exact ⟨ret_int Hres.out.symm, hB.alloc hB.size _⟩
            · clear hg
              go_wp2_with fail
              go_ret
              exact ⟨ret_int Hres.out.symm, hB.alloc hB.size _⟩
          · clear hg
            go_wp2_with fail
            go_ret
            exact ⟨ret_int Hres.out.symm, hB.alloc hB.size _⟩
      · have hke : k = l.length := by omega
        subst hke
        rw [sumG_take_all] at *
        have hf : rising t.size 0 l = true := by rw [← hr, List.drop_of_length_le (by omega)]; rfl
        have hres : checkE t.size l = if 20000 < (t.size : Int) + sumG l then 7 else 0 := by unfold checkE checkLen; rw [if_neg (by omega), if_neg (by omega), if_neg (by rw [hf]; simp)]
        have H := Lib.hid hres
        clear hres hf hr
        go_wp2_with fail
        all_goals
          go_ret
          exact ⟨ret_int (by rw [H.out]; simp; omega), hB⟩
end Go.Proofs.YtkdnacniligjjaaDoor
