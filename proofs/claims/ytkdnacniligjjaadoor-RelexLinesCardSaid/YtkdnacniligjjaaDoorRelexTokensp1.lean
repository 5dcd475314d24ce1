/-
  The contract of the specification's Text of layer 3.
-/
import Derived.Test.YtkdnacniligjjaaDoorRelexCommonsp11
import Derived.OwnWalk
import Derived.Laws.IdiomStrings
import Derived.Laws.BytesArg
import Derived.Deep.MidRow
namespace Go.Proofs.YtkdnacniligjjaaDoor
set_option linter.unusedVariables false
set_option linter.unusedSimpArgs false
open Go.RowKit

theorem ret_s {a b : ByteArray} (h : a = b) : Ending.returned (.string a) = .returned (.string b) := by rw [h]
/-- a row of bytes of the call's own reads as a string -/
theorem convert_own {w : World} {base n : Nat} {v : Value} {l : List UInt8} (h : w.ownsRow base 5 1 v n (Lib.byteCells l)) (hn : n = l.length) :
    (convert 90 9 v).run Tryd.prog w = .ok (.string (mkB l)) w := by
  subst hn
  rcases h.2 with ⟨h1, h2⟩ | ⟨g, cap, cur, h1, hb, hg, hn, hc, hs, ht⟩
  · have : l = [] := List.eq_nil_of_length_eq_zero h2
    subst this
    rw [h1]
    exact run_convert_bytes_nil (w := w) 90 5 Tryd.underlying90 Tryd.underlying5 0 0 9 Tryd.underlying9
  · rw [h1]
    refine run_convert_bytes_back w 90 9 5 ⟨g, 0, none⟩ cap l Tryd.underlying90 Tryd.underlying5 Tryd.underlying9 fun j hj => ?_
    have hcell : w.cell? ⟨g, j, none⟩ = (Lib.byteCells l)[j]? := by
      rw [← ht, List.getElem?_take_of_lt (by omega)]
      simp [World.cell?, hg]
    rw [Addr.add_mid, Nat.zero_add, hcell]
    simp [Lib.byteCells, hj]
theorem infoByteR : (Tryd.prog.info? 5).map (fun i => (i.zero, i.size, i.bytes)) = some (some (.int .u8 0), 1, 1) := by kernel_rfl
theorem byteCells_append (a b : List UInt8) : Lib.byteCells (a ++ b) = Lib.byteCells a ++ Lib.byteCells b := by simp [Lib.byteCells]

set_option maxRecDepth 100000 in
set_option maxHeartbeats 1000000 in
theorem RText_any (c : Nat) (A : Option Addr) (l : List Tok) (w : World) (hl : l.length ≤ 60000) (hcl : (catL l).length ≤ 60000) (hE : TksV w A l) :
    Calls Tryd.prog 30 #[.slice A l.length c] w fun e w' => e = .returned (.string (mkB (catL l))) ∧ Below w.heap.size w w' := by
  obtain ⟨i0, hi0, hz0, hz1, hz2⟩ := info_parts infoByteR
  have HE := Lib.hid hE
  have htl := catL_take_le l
  have HTL := Lib.hid htl
  clear hE htl
  go_enter Tryd.func30, Tryd.ntmps30
  go_wp2_with fail
  go_loopw [3, 4] (fun n i wr => ∃ (k m : Nat), k ≤ l.length ∧ i = .int .i64 k ∧ n = .int .i64 m ∧ m = (catL (l.take k)).length ∧ wr = w) (fun _ i _ => l.length - (intOf i).toNat)
  case atStart => exact ⟨0, 0, Nat.zero_le _, rfl, rfl, rfl, rfl⟩
  case round =>
    obtain ⟨k, m, hk, rfl, rfl, hm, hw⟩ := hrel
    obtain rfl := hw.symm
    have hk1 : (0 : Int) ≤ (k : Int) := by omega
    have hml := HTL.out k
    rw [← hm] at hml
    by_cases hlt : k < l.length
    · obtain ⟨b, off, rfl, hbb, m0, m1⟩ := HE.out.get hlt
      have hct := catL_take hlt
      have hct2 := congrArg List.length hct
      have htl2 := HTL.out (k + 1)
      rw [List.length_append, byt_length, ← hm] at hct2
      rw [hct2] at htl2
      obtain ⟨⟨kd, x⟩, hx⟩ : ∃ p, p = l[k] := ⟨_, rfl⟩
      rw [← hx] at m0 m1 hct2 htl2
      simp only at m0 m1 hct2 htl2
      have hk2 : (k : Int) < (l.length : Int) := by omega
      have sm : IntKind.i64.wrap ((m : Int) + (x.size : Int)) = ((m + x.size : Nat) : Int) := by rw [IntWalk.i64_in _ (by omega)]; omega
      have Hct := Lib.hid hct2
      clear hct hct2 hx hm
      go_wp2_with fail
      exact ⟨⟨k + 1, m + x.size, by omega, by go_num, by go_num, Hct.out.symm, by first | rfl | trivial⟩, by simp only [intOf]; omega⟩
    · have hke : k = l.length := by omega
      subst hke
      rw [List.take_length] at hm
      have hk2 : decide ((l.length : Int) < (l.length : Int)) = false := by simp
      have HM := Lib.hid hm
      have hm6 : m ≤ 60000 := by omega
      clear hm
      go_wp2_with (refine wpList_make_own _ rfl _ _ 90 rfl w.heap.size 5 i0 _ 1 Tryd.underlying90 hi0 hz0 hz1 .i64 .i64 _ m rfl rfl rfl ?c1 ?c2 ?c3 ?_)
      case c1 => first | omega | (rw [hz2]; omega)
      try (case c2 => first | omega | (unfold maxLen; omega))
      try (case c3 => exact Nat.le_refl _)
      intro w2 hown2 hgrow2
      have hB2 : Below w.heap.size w w2 := (Below.refl _ _).grown hgrow2 (Nat.le_refl _) (fun g hg => by simp at hg)
      have Hown2 := Lib.hid hown2
      have HB2 := Lib.hid hB2
      clear hown2 hB2 hgrow2
      go_wp2_with fail
      go_loopw [5, 6] (fun v i w3 => ∃ (k : Nat) (pre : List UInt8) (v0 : Value), v0 = v ∧ k ≤ l.length ∧ i = .int .i64 k ∧ pre = catL (l.take k) ∧ w3.ownsRow w.heap.size 5 1 v0 pre.length (Lib.byteCells pre) ∧ Below w.heap.size w w3) (fun _ i _ => l.length - (intOf i).toNat)
      case atStart => exact ⟨0, [], _, rfl, Nat.zero_le _, rfl, rfl, Hown2.out, HB2.out⟩
      case round =>
        obtain ⟨k, pre, v, rfl, hk, rfl, he, hown, hB⟩ := hrel
        have hk1 : (0 : Int) ≤ (k : Int) := by omega
        have hpl := HTL.out k
        rw [← he] at hpl
        by_cases hlt : k < l.length
        · obtain ⟨b, off, rfl, hbb, m0, m1⟩ := (HE.out.below hB).get hlt
          have hct := catL_take hlt
          have htl2 := HTL.out (k + 1)
          rw [hct, List.length_append, byt_length, ← he] at htl2
          rw [← he] at hct
          obtain ⟨⟨kd, x⟩, hx⟩ : ∃ p, p = l[k] := ⟨_, rfl⟩
          rw [← hx] at m0 m1 hct htl2
          simp only at m0 m1 hct htl2
          have hk3 : (k : Int) < (l.length : Int) := by omega
          have Hct := Lib.hid hct
          have hs3 := hB.size
          clear hct hx he
          go_wp2_with (at_builtin; (refine Lib.wpList_append_own_string _ rfl _ _ 90 9 rfl w.heap.size 5 i0 Tryd.underlying90 Tryd.underlying9 hi0 hz0 hz1 hz2 _ _ _ rfl hown x rfl ?d3 ?d4 ?d5 ?_))
          case d3 => unfold maxLen; omega
          case d4 => omega
          case d5 => omega
          intro v' w4 hown4 hgrow4 _
          have hB4 := hB.grown hgrow4 (by omega) (fun g hg => (hown.lt g hg).1)
          have hown5 : w4.ownsRow w.heap.size 5 1 v' (pre ++ byt x).length (Lib.byteCells (pre ++ byt x)) := by
            rw [byteCells_append, List.length_append, byt_length]; exact hown4
          have Hown5 := Lib.hid hown5
          have HB4 := Lib.hid hB4
          clear hown hown4 hown5 hgrow4 hB hB4
          go_wp2_with fail
          exact ⟨⟨k + 1, pre ++ byt x, _, rfl, by omega, by go_num, Hct.out.symm, Hown5.out, HB4.out⟩, by simp only [intOf]; omega⟩
        · have hke : k = l.length := by omega
          subst hke
          rw [List.take_length] at he
          have hk3 : decide ((l.length : Int) < (l.length : Int)) = false := by simp
          have hcv := convert_own hown rfl
          have Hr := Lib.hid he
          have HBf := Lib.hid hB
          clear he hown hB
          go_wp2_with fail
          go_ret
          exact ⟨ret_s (by rw [Hr.out]), HBf.out⟩
end Go.Proofs.YtkdnacniligjjaaDoor
