/-
  The contract of the specification's Move.
-/
import Derived.Test.YtmbpjjehnfjdiaaDoorMove3
namespace Go.Proofs.YtmbpjjehnfjdiaaDoor
open Go.RowKit

set_option maxRecDepth 100000 in
/-- the specification's Move, of edits in rising order -/
theorem rMove_any (c : Nat) (A : Option Addr) (l : List Ed) (o : Int) (after : Bool) (w : World) (hl : Small l) (hr : rising 20000 0 l = true) (ho0 : 0 ≤ o) (ho : o ≤ 20000) (hE : EdsV w A l) :
    Calls Tryd.prog 42 #[.slice A l.length c, .int .i64 o, .bool after] w fun e w' => e = .returned (.int .i64 (moveR o after 0 l)) ∧ Below w.heap.size w w' := by
  have hl1 := hl.1
  have Hr := Lib.hid hr
  clear hr
  go_enter Tryd.func42, Tryd.ntmps42
  go_wp2_with fail
  go_loopw [7, 8] (fun z i wr => ∃ (k : Nat) (sh : Int), k ≤ l.length ∧ i = .int .i64 k ∧ z = .int .i64 sh ∧ -60000 * (k : Int) ≤ sh ∧ sh ≤ 60000 * (k : Int) ∧ moveR o after sh (l.drop k) = moveR o after 0 l ∧ Below w.heap.size w wr) (fun _ i _ => l.length - (intOf i).toNat)
  case atStart => exact ⟨0, 0, by omega, rfl, rfl, by simp, by simp, by simp, Below.refl _ _⟩
  case round =>
    obtain ⟨k, sh, hk, rfl, rfl, hs1, hs2, hm, hB⟩ := hrel
    by_cases hlt : k < l.length
    · obtain ⟨b, off, rfl, hb, c1, c2, c3⟩ := (hE.below hB).get hlt
      have hg := rising_get Hr.out hlt
      have hsz := hl.get hlt
      have Hm := Lib.hid (hm.symm.trans (moveR_drop hlt o after _))
      have hgd : growE l[k] = (l[k].s.size : Int) - (l[k].t - l[k].f) := rfl
      have Hg := Lib.hid hgd
      clear hE hm hgd
      by_cases h1 : l[k].f < o ∧ o < l[k].t
      · obtain ⟨h11, h12⟩ := h1
        go_wp2_with fail
        go_ret
        exact ⟨ret_int (by rw [Hm.out, if_pos ⟨h11, h12⟩]), hB.alloc hB.size _⟩
      · have hno : befR l[k] o after = false → moveR o after sh (l.drop (k + 1)) = moveR o after 0 l := fun h => by rw [Hm.out, if_neg h1, if_neg (by rw [h]; simp)]
        have hyes : befR l[k] o after = true → moveR o after (sh + growE l[k]) (l.drop (k + 1)) = moveR o after 0 l := fun h => by rw [Hm.out, if_neg h1, if_pos h]
        have Hno := Lib.hid hno
        have Hyes := Lib.hid hyes
        clear hno hyes
        have hor : ¬ l[k].f < o ∨ (l[k].f < o ∧ ¬ o < l[k].t) := by omega
        clear h1
        rcases hor with h1 | ⟨h0, h1⟩
        · -- not before its beginning
          by_cases h2 : l[k].t < o
          · exact absurd h2 (by omega)
          · by_cases h3 : l[k].f = o
            · have q1 : (l[k].f == o) = true := by simpa using h3
              have H3 := Lib.hid h3
              clear h3
              by_cases h4 : l[k].t = o
              · have q2 : (l[k].t == o) = true := by simpa using h4
                have H4 := Lib.hid h4
                clear h4
                cases after
                · have Hb := Lib.hid (Hno.out (by unfold befR; simp; have := H3.out; omega))
                  go_wp2_with fail
                  exact ⟨⟨k + 1, sh, by omega, by go_num, rfl, by omega, by omega, Hb.out, hB.alloc hB.size _⟩, by simp [intOf]; omega⟩
                · have Hb := Lib.hid (Hyes.out (by unfold befR; simp [H3.out, H4.out]))
                  go_wp2_with fail
                  exact ⟨⟨k + 1, _, by omega, by go_num, rfl, by omega, by omega, by rw [← Hb.out, Hg.out], hB.alloc hB.size _⟩, by simp [intOf]; omega⟩
              · have q2 : (l[k].t == o) = false := by simpa using h4
                have H4 := Lib.hid h4
                clear h4
                have Hb := Lib.hid (Hno.out (by unfold befR; simp [H4.out]; omega))
                go_wp2_with fail
                exact ⟨⟨k + 1, sh, by omega, by go_num, rfl, by omega, by omega, Hb.out, hB.alloc hB.size _⟩, by simp [intOf]; omega⟩
            · have q1 : (l[k].f == o) = false := by simpa using h3
              have H3 := Lib.hid h3
              clear h3
              have q2 : (l[k].t == o) = false := by have := H3.out; simp; omega
              have Hb := Lib.hid (Hno.out (by unfold befR; simp [H3.out]; have := H3.out; omega))
              go_wp2_with fail
              exact ⟨⟨k + 1, sh, by omega, by go_num, rfl, by omega, by omega, Hb.out, hB.alloc hB.size _⟩, by simp [intOf]; omega⟩
        · -- past it
          have Hb := Lib.hid (Hyes.out (by unfold befR; simp; omega))
          by_cases h2 : l[k].t < o
          · go_wp2_with fail
            exact ⟨⟨k + 1, _, by omega, by go_num, rfl, by omega, by omega, by rw [← Hb.out, Hg.out], hB.alloc hB.size _⟩, by simp [intOf]; omega⟩
          · have q2 : (l[k].t == o) = true := by simp; omega
            go_wp2_with fail
            exact ⟨⟨k + 1, _, by omega, by go_num, rfl, by omega, by omega, by rw [← Hb.out, Hg.out], hB.alloc hB.size _⟩, by simp [intOf]; omega⟩
    · have hke : k = l.length := by omega
      subst hke
      have Hend : Hid (moveR o after 0 l = o + sh) := Lib.hid (by rw [← hm, List.drop_of_length_le (by omega)]; rfl)
      clear hm
      go_wp2_with fail
      go_ret
      exact ⟨ret_int Hend.out.symm, hB⟩
end Go.Proofs.YtmbpjjehnfjdiaaDoor
