/-
  token: Solid, the program's and the specification's.
-/
import Derived.Test.YtkdnacniligjjaaDoorTokenKindsp1
import Derived.Test.YtkdnacniligjjaaDoorRelexCommonsp16
namespace Go.Proofs.YtkdnacniligjjaaDoor
set_option linter.unusedVariables false
set_option linter.unusedSimpArgs false
open Go.RowKit

def solF : Nat → List Tok → List Nat
  | _, [] => []
  | i, p :: l => if trivB p.1 = true then solF (i + 1) l else i :: solF (i + 1) l
theorem solF_drop {l : List Tok} {k : Nat} (h : k < l.length) : solF k (l.drop k) = if trivB l[k].1 = true then solF (k + 1) (l.drop (k + 1)) else k :: solF (k + 1) (l.drop (k + 1)) := by
  rw [List.drop_eq_getElem_cons h]; rfl
theorem solF_length : ∀ (i : Nat) (l : List Tok), (solF i l).length ≤ l.length
  | _, [] => Nat.le_refl _
  | i, p :: l => by
    have := solF_length (i + 1) l
    simp only [solF]
    split <;> simp only [List.length_cons] <;> omega

set_option maxRecDepth 100000 in
set_option maxHeartbeats 2000000 in
theorem RSolid_own (c : Nat) (A : Option Addr) (L : List Tok) (w : World) (hl : L.length ≤ 60000) (hE : TksV w A L) :
    Calls Tryd.prog 22 #[.slice A L.length c] w fun e w' => ∃ v, e = .returned v ∧ w'.ownsRow w.heap.size 3 1 v (solF 0 L).length (inCells (solF 0 L)) ∧ Below w.heap.size w w' := by
  obtain ⟨i0, hi0, hz0, hz1, hz2⟩ := info_parts infoInt
  have HE := Lib.hid hE
  clear hE
  go_enter Tryd.func22, Tryd.ntmps22
  go_wp2_with fail
  go_loopw [3, 4] (fun v i wr => ∃ (k : Nat) (pre : List Nat) (v0 : Value), v0 = v ∧ k ≤ L.length ∧ i = .int .i64 k ∧ pre.length ≤ k ∧ pre ++ solF k (L.drop k) = solF 0 L ∧ wr.ownsRow w.heap.size 3 1 v0 pre.length (inCells pre) ∧ Below w.heap.size w wr) (fun _ i _ => L.length - (intOf i).toNat)
  case atStart => exact ⟨0, [], _, rfl, Nat.zero_le _, rfl, Nat.le_refl _, rfl, World.ownsRow_nil _ _ _ _, Below.refl _ _⟩
  case round =>
    obtain ⟨k, pre, v, rfl, hk, rfl, hpl, he, hown, hB⟩ := hrel
    have hk0 : (0 : Int) ≤ (k : Int) := by omega
    by_cases hlt : k < L.length
    · obtain ⟨b, off, rfl, hbb, m0, m1⟩ := (HE.out.below hB).get hlt
      rw [solF_drop hlt] at he
      obtain ⟨⟨kd, x⟩, hx⟩ : ∃ p, p = L[k] := ⟨_, rfl⟩
      rw [← hx] at m0 m1 he
      simp only at m0 m1 he
      have hT := RIsTrivia_any kd x wr
      cases ht : trivB kd
      · rw [ht] at hT he
        have HT := Lib.hid hT
        have Hown := Lib.hid hown
        have HB := Lib.hid hB
        have He := Lib.hid he
        clear hT he hown hB hx ht
        go_wp2_with fail
        refine HT.out.mono ?_
        rintro e w2 ⟨rfl, hb2⟩
        have hown2 := ownsRow_belowT Hown.out hb2
        have hB2 := HB.out.trans (hb2.mono HB.out.size)
        have hs2 := hB2.size
        clear hb2 m0 m1
        go_wp2_with (at_builtin; refine wpList_append_own _ rfl _ _ 29 rfl w.heap.size 3 i0 _ 1 8 Tryd.underlying29 hi0 hz0 hz1 hz2 rfl (by decide) _ _ _ rfl (hown2.alloc _) ⟨w2.heap.size, 0, none⟩ 1 1 [.int .i64 (k : Int)] rfl rfl ?c1 ?c2 ?c3 ?c4 ?c5 ?_)
        case c1 => exact World.news_of_block (heap_alloc_new w2 _)
        case c2 => simp [Value.oneCell']
        case c3 => unfold maxLen; omega
        case c4 => omega
        case c5 => first | omega | (simp; omega)
        intro v' w4 hown4 hgrow _
        have hB4 := (hB2.alloc hs2 (.cells #[.int .i64 (k : Int)] 3)).grown hgrow (by simp; omega) (fun g hg => (hown2.lt g hg).1)
        rw [← inCells_append pre k] at hown4
        have Ho4 := Lib.hid hown4
        have HB4 := Lib.hid hB4
        clear hown2 hown4 hB2 hB4 hgrow
        go_wp2_with fail
        refine ⟨⟨k + 1, pre ++ [k], _, rfl, by omega, by go_num, by simp; omega, by rw [List.append_assoc]; exact He.out, ?_, HB4.out⟩, by simp only [intOf]; omega⟩
        rw [show (pre ++ [k]).length = pre.length + 1 by simp]
        exact Ho4.out
      · rw [ht] at hT he
        have HT := Lib.hid hT
        have Hown := Lib.hid hown
        have HB := Lib.hid hB
        have He := Lib.hid he
        clear hT he hown hB hx ht
        go_wp2_with fail
        refine HT.out.mono ?_
        rintro e w2 ⟨rfl, hb2⟩
        have hown2 := Lib.hid (ownsRow_belowT Hown.out hb2)
        have hB2 := Lib.hid (HB.out.trans (hb2.mono HB.out.size))
        clear hb2 m0 m1
        go_wp2_with fail
        refine ⟨⟨k + 1, pre, _, rfl, by omega, by go_num, by omega, He.out, hown2.out, hB2.out⟩, by simp only [intOf]; omega⟩
    · have hke : k = L.length := by omega
      subst hke
      rw [List.drop_length] at he
      simp only [solF, List.append_nil] at he
      subst he
      go_wp2_with fail
      go_ret
      exact ⟨_, rfl, hown, hB⟩
set_option maxRecDepth 100000 in
set_option maxHeartbeats 2000000 in
theorem Solid_own (c : Nat) (A : Option Addr) (L : List Tok) (w : World) (hl : L.length ≤ 60000) (hE : TksV w A L) :
    Calls Tryd.prog 21 #[.slice A L.length c] w fun e w' => ∃ v, e = .returned v ∧ w'.ownsRow w.heap.size 3 1 v (solF 0 L).length (inCells (solF 0 L)) ∧ Below w.heap.size w w' := by
  obtain ⟨i0, hi0, hz0, hz1, hz2⟩ := info_parts infoInt
  have HE := Lib.hid hE
  clear hE
  go_enter Tryd.func21, Tryd.ntmps21
  go_wp2_with fail
  go_loopw [3, 4, 5, 8] (fun v _ _ i wr => ∃ (k : Nat) (pre : List Nat) (v0 : Value), v0 = v ∧ k ≤ L.length ∧ i = .int .i64 k ∧ pre.length ≤ k ∧ pre ++ solF k (L.drop k) = solF 0 L ∧ wr.ownsRow w.heap.size 3 1 v0 pre.length (inCells pre) ∧ Below w.heap.size w wr) (fun _ _ _ i _ => L.length - (intOf i).toNat)
  case atStart => exact ⟨0, [], _, rfl, Nat.zero_le _, rfl, Nat.le_refl _, rfl, World.ownsRow_nil _ _ _ _, Below.refl _ _⟩
  case round =>
    obtain ⟨k, pre, v, rfl, hk, rfl, hpl, he, hown, hB⟩ := hrel
    have hk0 : (0 : Int) ≤ (k : Int) := by omega
    by_cases hlt : k < L.length
    · obtain ⟨b, off, rfl, hbb, m0, m1⟩ := (HE.out.below hB).get hlt
      rw [solF_drop hlt] at he
      obtain ⟨⟨kd, x⟩, hx⟩ : ∃ p, p = L[k] := ⟨_, rfl⟩
      rw [← hx] at m0 m1 he
      simp only at m0 m1 he
      have hT := IsTrivia_any kd x (wr.alloc (.cells #[.int .i64 kd, .string x] 24))
      cases ht : trivB kd
      · rw [ht] at hT he
        have HT := Lib.hid hT
        have Hown := Lib.hid hown
        have HB := Lib.hid hB
        have He := Lib.hid he
        clear hT he hown hB hx ht
        go_wp2_with fail
        refine HT.out.mono ?_
        rintro e w2 ⟨rfl, hb2⟩
        have hown2 := ownsRow_belowT (Hown.out.alloc _) hb2
        have hB2 := (HB.out.alloc HB.out.size (.cells #[.int .i64 kd, .string x] 24)).trans (hb2.mono (by simp; have := HB.out.size; omega))
        have hs2 := hB2.size
        clear hb2 m0 m1
        go_wp2_with (at_builtin; refine wpList_append_own _ rfl _ _ 29 rfl w.heap.size 3 i0 _ 1 8 Tryd.underlying29 hi0 hz0 hz1 hz2 rfl (by decide) _ _ _ rfl (hown2.alloc _) ⟨w2.heap.size, 0, none⟩ 1 1 [.int .i64 (k : Int)] rfl rfl ?c1 ?c2 ?c3 ?c4 ?c5 ?_)
        case c1 => exact World.news_of_block (heap_alloc_new w2 _)
        case c2 => simp [Value.oneCell']
        case c3 => unfold maxLen; omega
        case c4 => omega
        case c5 => first | omega | (simp; omega)
        intro v' w4 hown4 hgrow _
        have hB4 := (hB2.alloc hs2 (.cells #[.int .i64 (k : Int)] 3)).grown hgrow (by simp; omega) (fun g hg => (hown2.lt g hg).1)
        rw [← inCells_append pre k] at hown4
        have Ho4 := Lib.hid hown4
        have HB4 := Lib.hid hB4
        clear hown2 hown4 hB2 hB4 hgrow
        go_wp2_with fail
        refine ⟨⟨k + 1, pre ++ [k], _, rfl, by omega, by go_num, by simp; omega, by rw [List.append_assoc]; exact He.out, ?_, HB4.out⟩, by simp only [intOf]; omega⟩
        rw [show (pre ++ [k]).length = pre.length + 1 by simp]
        exact Ho4.out
      · rw [ht] at hT he
        have HT := Lib.hid hT
        have Hown := Lib.hid hown
        have HB := Lib.hid hB
        have He := Lib.hid he
        clear hT he hown hB hx ht
        go_wp2_with fail
        refine HT.out.mono ?_
        rintro e w2 ⟨rfl, hb2⟩
        have hown2 := Lib.hid (ownsRow_belowT (Hown.out.alloc (.cells #[.int .i64 kd, .string x] 24)) hb2)
        have hB2 := Lib.hid ((HB.out.alloc HB.out.size (.cells #[.int .i64 kd, .string x] 24)).trans (hb2.mono (by simp; have := HB.out.size; omega)))
        clear hb2 m0 m1
        go_wp2_with fail
        refine ⟨⟨k + 1, pre, _, rfl, by omega, by go_num, by omega, He.out, hown2.out, hB2.out⟩, by simp only [intOf]; omega⟩
    · have hke : k = L.length := by omega
      subst hke
      rw [List.drop_length] at he
      simp only [solF, List.append_nil] at he
      subst he
      go_wp2_with fail
      go_ret
      exact ⟨_, rfl, hown, hB⟩
end Go.Proofs.YtkdnacniligjjaaDoor
