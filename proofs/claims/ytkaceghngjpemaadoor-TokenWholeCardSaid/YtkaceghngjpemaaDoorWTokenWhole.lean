/-
  TokenWhole: Text of Lex is the string, and Lex of Text the tokens; each one is a token, neighbours are Apart, none is empty.
  No condition: every input.
-/
import Derived.Test.YtkaceghngjpemaaDoorTkAlive
import Derived.Test.YtkaceghngjpemaaDoorTkShort
import Derived.Test.YtkaceghngjpemaaDoorTkLaid
import Derived.Test.YtkaceghngjpemaaDoorTkApart
import Derived.Test.YtkaceghngjpemaaDoorTkText
import Derived.BigRegion
namespace Go.Proofs.YtkaceghngjpemaaDoor.lawTokenWhole
set_option linter.unusedVariables false
set_option linter.unusedSimpArgs false
open Go.ChangeShapes Go.WideShapes Go.RowKit
open Go.ChangeMaps (open_string shut_string)

theorem below_callT {B : Nat} {a Y w1 : World} (h : Below B a Y) (hB : B ≤ a.heap.size) (hb : Below Y.heap.size Y w1) : Below B a w1 := h.trans (hb.mono (Nat.le_trans hB h.size))
theorem kept2 {w w' : World} {b o : Nat} {v0 v1 : Value} (hb : Below w.heap.size w w') (hlt : b < w.heap.size) (h0 : w.cell? ⟨b, o, none⟩ = some v0) (h1 : w.cell? ⟨b, o + 1, none⟩ = some v1) :
    Below w.heap.size w w' ∧ w'.cell? ⟨b, o, none⟩ = some v0 ∧ w'.cell? ⟨b, o + 1, none⟩ = some v1 := ⟨hb, (hb.cell (p := ⟨b, o, none⟩) hlt).trans h0, (hb.cell (p := ⟨b, o + 1, none⟩) hlt).trans h1⟩
theorem kept4 {w w' : World} {b o p : Nat} {v0 v1 v2 v3 : Value} (hb : Below w.heap.size w w') (hlt : b < w.heap.size) (h0 : w.cell? ⟨b, o, none⟩ = some v0) (h1 : w.cell? ⟨b, o + 1, none⟩ = some v1) (h2 : w.cell? ⟨b, p, none⟩ = some v2) (h3 : w.cell? ⟨b, p + 1, none⟩ = some v3) :
    Below w.heap.size w w' ∧ w'.cell? ⟨b, o, none⟩ = some v0 ∧ w'.cell? ⟨b, o + 1, none⟩ = some v1 ∧ w'.cell? ⟨b, p, none⟩ = some v2 ∧ w'.cell? ⟨b, p + 1, none⟩ = some v3 :=
  ⟨hb, (hb.cell (p := ⟨b, o, none⟩) hlt).trans h0, (hb.cell (p := ⟨b, o + 1, none⟩) hlt).trans h1, (hb.cell (p := ⟨b, p, none⟩) hlt).trans h2, (hb.cell (p := ⟨b, p + 1, none⟩) hlt).trans h3⟩
theorem isTok_size {p : Tok} (h : isTok p = true) : p.2.size ≤ 20000 := isTok_small (k := p.1) (s := p.2) h

set_option maxRecDepth 100000 in
set_option maxHeartbeats 4000000 in
theorem walk (t : ByteArray) (ht : t.size ≤ maxLen) (w : World) (hT : Tabs w) :
    Calls Tryd.prog 7 #[.string t] w fun e w' => e = .returned (.bool true) ∧ Below w.heap.size w w' := by
  have hsh := ShortT_any t w ht
  have hst := shortT_size t
  generalize shortT t = s at hsh hst
  have Hsh := Lib.hid hsh
  have HT := Lib.hid hT
  by_cases h0 : 20000 < s.size
  · have hst' : s.size ≤ 20001 := by omega
    have h0' : (20000 : Int) < (s.size : Int) := by omega
    have h0q : decide ((20000 : Int) < (s.size : Int)) = true := by simp; omega
    clear hsh hst hT ht
    go_enter Tryd.func7, Tryd.ntmps7
    go_wp2_with fail
    refine Hsh.out.mono ?_
    rintro e w1 ⟨rfl, rfl⟩
    go_wp2_with fail
    refine (Lex_no s w h0).mono ?_
    rintro e w1 ⟨rfl, rfl⟩
    go_wp2_with fail
    refine (alive_any w1 HT.out).mono ?_
    rintro e w2 ⟨rfl, hb2⟩
    go_wp2_with fail
    go_ret
    exact ⟨rfl, hb2⟩
  · have hs : s.size ≤ 20000 := by omega
    have hln := lexL_length s.size s (Nat.le_refl _)
    have hcat : mkB (catL (lexL s)) = s := by rw [catL_lex s.size s (Nat.le_refl _)]; exact mkB_of s
    have hcl : (catL (lexL s)).length = s.size := by rw [catL_lex s.size s (Nat.le_refl _), byt_length]
    have htr : textR (lexL s) = (s, 0) := by
      unfold textR
      rw [if_neg (by omega), if_neg (by omega), hcat, if_pos rfl]
    have hpos : ∀ p ∈ lexL s, 0 < p.2.size := fun p hp => (lexL_each s.size s (Nat.le_refl _) p hp).2
    have hsm : ∀ p ∈ lexL s, p.2.size ≤ s.size := fun p hp => by
      obtain ⟨i, hi, he⟩ := List.getElem_of_mem hp
      have h1 := catL_take hi
      have h2 := catL_take_le (lexL s) (i + 1)
      rw [h1, List.length_append, byt_length, hcl, he] at h2
      omega
    have htk : ∀ p ∈ lexL s, isTok p = true := fun p hp => isTok_each hs hp (hsm p hp)
    have hap : ∀ (i : Nat) (p q : Tok), (lexL s)[i]? = some p → (lexL s)[i + 1]? = some q → apartB p q = true := fun i p q h1 h2 => apart_both hs h1 h2 (htk p (List.mem_of_getElem? h1)) (htk q (List.mem_of_getElem? h2))
    have hlx : ∀ W, Tabs W → Calls Tryd.prog 17 #[.string s] W fun e w' => ∃ v, e = .returned (.tuple #[v, .int .i64 0]) ∧ w'.ownsRow W.heap.size 44 2 v (lexL s).length (tkCells (lexL s)) ∧ Below W.heap.size W w' := fun W h => Lex_own s W hs h
    generalize lexL s = L at hln hcat hcl htr hpos hsm htk hap hlx
    have Hlx := Lib.hid hlx
    have Htr := Lib.hid htr
    have Hpos := Lib.hid hpos
    have Hsm := Lib.hid hsm
    have Htk := Lib.hid htk
    have Hap := Lib.hid hap
    clear hsh hst hT ht hlx h0 hcat hcl htr hpos hsm htk hap
    go_enter Tryd.func7, Tryd.ntmps7
    go_wp2_with fail
    refine Hsh.out.mono ?_
    rintro e w1 ⟨rfl, rfl⟩
    go_wp2_with fail
    refine (Hlx.out _ HT.out).mono ?_
    rintro e w1 ⟨v, rfl, ho, hb1⟩
    obtain ⟨A, c, rfl, hE, hc, _⟩ := TksV.of_own ho
    have HE := Lib.hid hE
    have HT1 := Lib.hid (HT.out.below hb1)
    clear ho hE
    have htx := Text_any c A L w1 (by omega) (fun p hp => by have := Hsm.out p hp; omega) HT1.out HE.out
    rw [Htr.out] at htx
    have Htx := Lib.hid htx
    clear htx
    go_wp2_with fail
    refine Htx.out.mono ?_
    rintro e w2 ⟨rfl, hb2⟩
    have hne : (s.toList != s.toList) = false := by simp
    have hB2 := hb1.trans (hb2.mono hb1.size)
    go_wp2_with fail
    refine (Hlx.out w2 (HT1.out.below hb2)).mono ?_
    rintro e w3 ⟨v3, rfl, ho3, hb3⟩
    obtain ⟨A3, c3, rfl, hE3, hc3, _⟩ := TksV.of_own ho3
    have hB3 := hB2.trans (hb3.mono hB2.size)
    have hsm3 := RSame_any c3 c A3 A L L w3 (by omega) hE3 ((HE.out.below hb2).below hb3)
    rw [decide_eq_true rfl] at hsm3
    have Hs3 := Lib.hid hsm3
    clear ho3 hE3 hsm3
    go_wp2_with fail
    refine Hs3.out.mono ?_
    rintro e w4 ⟨rfl, hb4⟩
    have hB4 := hB3.trans (hb4.mono hB3.size)
    have hB14 : Below w1.heap.size w1 w4 := (hb2.trans (hb3.mono hb2.size)).trans (hb4.mono (Nat.le_trans hb2.size hb3.size))
    have HB4 := Lib.hid hB4
    have HB14 := Lib.hid hB14
    clear hB2 hB3 hB4 hB14 hb2 hb3 hb4
    go_wp2_with fail
    go_loopw [10] (fun i wr => ∃ k : Nat, k ≤ L.length ∧ i = .int .i64 k ∧ Below w1.heap.size w1 wr) (fun i _ => L.length - (intOf i).toNat)
    case atStart => exact ⟨0, Nat.zero_le _, rfl, HB14.out⟩
    case round =>
      obtain ⟨k, hk, rfl, hB⟩ := hrel
      have hk0 : (0 : Int) ≤ (k : Int) := by omega
      have hfin : ∀ W, Below w1.heap.size w1 W → Calls Tryd.prog 23 #[] W fun e w' => e = .returned (.bool true) ∧ Below w.heap.size w w' := fun W h => (alive_any W (HT1.out.below h)).mono fun e w' hh => ⟨hh.1, (hb1.trans (h.mono hb1.size)).trans (hh.2.mono (Nat.le_trans hb1.size h.size))⟩
      have Hfin := Lib.hid hfin
      clear hfin
      by_cases hlt : k < L.length
      · have hk2 : (k : Int) < (L.length : Int) := by omega
        by_cases h200 : k < 200
        · have h200i : (k : Int) < 200 := by omega
          obtain ⟨b, off, rfl, hbb, m0, m1⟩ := (HE.out.below hB).get hlt
          have hpk := Hpos.out L[k] (List.getElem_mem hlt)
          have htkk := Htk.out L[k] (List.getElem_mem hlt)
          obtain ⟨⟨kd, x⟩, hx⟩ : ∃ p, p = L[k] := ⟨_, rfl⟩
          have HX := Lib.hid hx
          rw [← hx] at m0 m1 hpk htkk
          simp only at m0 m1 hpk
          have hem : (x.toList.isEmpty) = false := by
            have h2 : x.data.toList.length = x.size := byt_length x
            rw [ByteArray.toList_eq]
            cases h3 : x.data.toList with
            | nil => rw [h3] at h2; simp at h2; omega
            | cons a l => rfl
          have hem2 : (x.toList == ([] : List UInt8)) = false := by
            cases h3 : x.toList with
            | nil => rw [h3] at hem; simp at hem
            | cons a l => rfl
          have hem3 : ¬ x.toList = [] := by intro h; rw [h] at hem; simp at hem
          have hIs : ∀ W, Tabs W → Calls Tryd.prog 33 #[.agg #[.int .i64 kd, .string x]] W fun e w' => e = .returned (.bool true) ∧ Below W.heap.size W w' := fun W h => by
            have h2 := IsToken_any kd x W h
            rw [htkk] at h2; exact h2
          have HIs := Lib.hid hIs
          have HTr := Lib.hid (HT1.out.below hB)
          have hbl : b < wr.heap.size := hbb
          clear hx htkk hIs hpk
          rcases Nat.eq_zero_or_pos k with hkz | hkp
          · have q0 : decide ((0 : Int) < (k : Int)) = false := by simp; omega
            have q0n : decide (0 < k) = false := by simp; omega
            have q0m : ¬ 0 < k := by omega
            clear hkz
            go_wp2_with fail
            refine wp_region_held_drew (S := (fun W => Below wr.heap.size wr W ∧ W.cell? ⟨b, off + k * 2, none⟩ = some (.int .i64 kd) ∧ W.cell? ⟨b, off + k * 2 + 1, none⟩ = some (.string x))) (by kernel_rfl) ?_ (fun hHeld => ?_)
            · exact kept2 (by repeat (first | with_reducible exact Below.refl _ _ | with_reducible assumption | with_reducible refine Below.drew ?_ | with_reducible refine below_drewT ?_ _ | with_reducible refine below_callT ?_ (Nat.le_refl _) hbA | with_reducible refine below_callT ?_ (Nat.le_refl _) hbI)) hbl m0 m1
            refine wpAnyH_take (i := 0) (oi := ⟨some 65, _, _, _, _, _⟩) (v := ?_) rfl (by kernel_rfl) (by kernel_rfl) (by kernel_rfl) (fun _ _ _ h => h) (Or.inl ⟨by rfl, ?hy⟩) (by assumption) ?_
            case hy => (intro w hSw; (try dsimp only at hSw); go_simp; (try with_reducible rfl))
            try simp only [Act.put, List.setIfInBounds_toArray, List.set_cons_zero, List.set_cons_succ]
            refine wpAnyH_take (i := 1) (oi := ⟨some 66, _, _, _, _, _⟩) (v := ?_) rfl (by kernel_rfl) (by kernel_rfl) (by kernel_rfl) (fun _ _ _ h => h) (Or.inl ⟨by rfl, ?hy⟩) (by assumption) ?_
            case hy => (intro w hSw; (try dsimp only at hSw); go_simp; (try with_reducible rfl))
            try simp only [Act.put, List.setIfInBounds_toArray, List.set_cons_zero, List.set_cons_succ]
            refine wpAnyH_take (i := 2) (oi := ⟨some 67, _, _, _, _, _⟩) (v := ?_) rfl (by kernel_rfl) (by kernel_rfl) (by kernel_rfl) (fun _ _ _ h => h) (Or.inl ⟨by rfl, ?hy⟩) (by assumption) ?_
            case hy => (intro w hSw; (try dsimp only at hSw); go_simp; (try with_reducible rfl))
            try simp only [Act.put, List.setIfInBounds_toArray, List.set_cons_zero, List.set_cons_succ]
            refine wpAnyH_take (i := 3) (oi := ⟨some 68, _, _, _, _, _⟩) (v := ?_) rfl (by kernel_rfl) (by kernel_rfl) (by kernel_rfl) (fun _ _ _ h => h) (Or.inl ⟨by rfl, ?hy⟩) (by assumption) ?_
            case hy => (intro w hSw; (try dsimp only at hSw); go_simp; (try with_reducible rfl))
            try simp only [Act.put, List.setIfInBounds_toArray, List.set_cons_zero, List.set_cons_succ]
            refine wpAnyH_take (i := 4) (oi := ⟨some 69, _, _, _, _, _⟩) (v := ?_) rfl (by kernel_rfl) (by kernel_rfl) (by kernel_rfl) (fun _ _ _ h => h) (Or.inl ⟨by rfl, ?hy⟩) (by assumption) ?_
            case hy => (intro w hSw; (try dsimp only at hSw); go_simp; (try with_reducible rfl))
            try simp only [Act.put, List.setIfInBounds_toArray, List.set_cons_zero, List.set_cons_succ]
            refine wpAnyH_take (i := 5) (oi := ⟨some 70, _, _, _, _, _⟩) (v := ?_) rfl (by kernel_rfl) (by kernel_rfl) (by kernel_rfl) (fun _ _ _ h => h) (Or.inl ⟨by rfl, ?hy⟩) (by assumption) ?_
            case hy => (intro w hSw; (try dsimp only at hSw); go_simp; (try with_reducible rfl))
            try simp only [Act.put, List.setIfInBounds_toArray, List.set_cons_zero, List.set_cons_succ]
            refine wpAnyH_take (i := 6) (oi := ⟨some 71, _, _, _, _, _⟩) (v := ?_) rfl (by kernel_rfl) (by kernel_rfl) (by kernel_rfl) (fun _ _ _ h => h) (Or.inl ⟨by rfl, ?hy⟩) (by assumption) ?_
            case hy => (intro w hSw; (try dsimp only at hSw); go_simp; (try with_reducible rfl))
            try simp only [Act.put, List.setIfInBounds_toArray, List.set_cons_zero, List.set_cons_succ]
            refine wpAnyH_take (i := 7) (oi := ⟨some 72, _, _, _, _, _⟩) (v := ?_) rfl (by kernel_rfl) (by kernel_rfl) (by kernel_rfl) (fun _ _ _ h => h) (Or.inl ⟨by rfl, ?hy⟩) (by assumption) ?_
            case hy => (intro w hSw; (try dsimp only at hSw); go_simp; (try with_reducible rfl))
            try simp only [Act.put, List.setIfInBounds_toArray, List.set_cons_zero, List.set_cons_succ]
            refine wpAnyH_take (i := 8) (oi := ⟨some 73, _, _, _, _, _⟩) (v := ?_) rfl (by kernel_rfl) (by kernel_rfl) (by kernel_rfl) (fun _ _ _ h => h) (Or.inl ⟨by rfl, ?hy⟩) (by assumption) ?_
            case hy => (intro w hSw; (try dsimp only at hSw); go_simp; (try with_reducible rfl))
            try simp only [Act.put, List.setIfInBounds_toArray, List.set_cons_zero, List.set_cons_succ]
            refine wpAnyH_take (i := 9) (oi := ⟨some 74, _, _, _, _, _⟩) (v := ?_) rfl (by kernel_rfl) (by kernel_rfl) (by kernel_rfl) (fun _ _ _ h => h) (Or.inl ⟨by rfl, ?hy⟩) (by assumption) ?_
            case hy => (intro w hSw; (try dsimp only at hSw); go_simp; (try with_reducible rfl))
            try simp only [Act.put, List.setIfInBounds_toArray, List.set_cons_zero, List.set_cons_succ]
            refine wpAnyH_take (i := 10) (oi := ⟨some 75, _, _, _, _, _⟩) (v := ?_) rfl (by kernel_rfl) (by kernel_rfl) (by kernel_rfl) (fun _ _ _ h => h) (Or.inl ⟨by rfl, ?hy⟩) (by assumption) ?_
            case hy => (intro w hSw; (try dsimp only at hSw); go_simp; (try with_reducible rfl))
            try simp only [Act.put, List.setIfInBounds_toArray, List.set_cons_zero, List.set_cons_succ]
            refine wpAnyH_ready (rs := [11]) (by kernel_rfl) (by simp) ?_
            refine AllReadyH.cons (o := ⟨some 76, _, _, _, _, _⟩) rfl (fun K hK => ?_) AllReadyH.nil
            go_simp
            go_at_call 33
            with_reducible refine (HIs.out _ ?_).mono ?_
            · exact HTr.out.below (by repeat (first | with_reducible exact Below.refl _ _ | with_reducible assumption | with_reducible refine Below.drew ?_ | with_reducible refine below_drewT ?_ _ | with_reducible refine below_callT ?_ (Nat.le_refl _) hbA | with_reducible refine below_callT ?_ (Nat.le_refl _) hbI))
            rintro e wI ⟨rfl, hbI⟩
            refine hK.out _ _ ?_ (fun hHeld2 => ?_)
            · exact kept2 (by repeat (first | with_reducible exact Below.refl _ _ | with_reducible assumption | with_reducible refine Below.drew ?_ | with_reducible refine below_drewT ?_ _ | with_reducible refine below_callT ?_ (Nat.le_refl _) hbA | with_reducible refine below_callT ?_ (Nat.le_refl _) hbI)) hbl m0 m1
            clear hK K hHeld
            try simp only [Act.put, List.setIfInBounds_toArray, List.set_cons_zero, List.set_cons_succ]
            refine wpAnyH_take (i := 12) (oi := ⟨some 77, _, _, _, _, _⟩) (v := ?_) rfl (by kernel_rfl) (by kernel_rfl) (by kernel_rfl) (fun _ _ _ h => h) (Or.inl ⟨by rfl, ?hy⟩) (by assumption) ?_
            case hy => (intro w hSw; (try dsimp only at hSw); go_simp; (try with_reducible rfl))
            try simp only [Act.put, List.setIfInBounds_toArray, List.set_cons_zero, List.set_cons_succ]
            refine wpAnyH_take (i := 13) (oi := ⟨some 78, _, _, _, _, _⟩) (v := ?_) rfl (by kernel_rfl) (by kernel_rfl) (by kernel_rfl) (fun _ _ _ h => h) (Or.inl ⟨by rfl, ?hy⟩) (by assumption) ?_
            case hy => (intro w hSw; (try dsimp only at hSw); go_simp; (try with_reducible rfl))
            try simp only [Act.put, List.setIfInBounds_toArray, List.set_cons_zero, List.set_cons_succ]
            refine wpAnyH_take (i := 14) (oi := ⟨some 79, _, _, _, _, _⟩) (v := ?_) rfl (by kernel_rfl) (by kernel_rfl) (by kernel_rfl) (fun _ _ _ h => h) (Or.inl ⟨by rfl, ?hy⟩) (by assumption) ?_
            case hy => (intro w hSw; (try dsimp only at hSw); go_simp; (try with_reducible rfl))
            try simp only [Act.put, List.setIfInBounds_toArray, List.set_cons_zero, List.set_cons_succ]
            refine wpAnyH_take (i := 15) (oi := ⟨some 80, _, _, _, _, _⟩) (v := ?_) rfl (by kernel_rfl) (by kernel_rfl) (by kernel_rfl) (fun _ _ _ h => h) (Or.inl ⟨by rfl, ?hy⟩) (by assumption) ?_
            case hy => (intro w hSw; (try dsimp only at hSw); go_simp; (try with_reducible rfl))
            try simp only [Act.put, List.setIfInBounds_toArray, List.set_cons_zero, List.set_cons_succ]
            refine wpAnyH_take (i := 16) (oi := ⟨some 81, _, _, _, _, _⟩) (v := ?_) rfl (by kernel_rfl) (by kernel_rfl) (by kernel_rfl) (fun _ _ _ h => h) (Or.inl ⟨by rfl, ?hy⟩) (by assumption) ?_
            case hy => (intro w hSw; (try dsimp only at hSw); go_simp; (try with_reducible rfl))
            try simp only [Act.put, List.setIfInBounds_toArray, List.set_cons_zero, List.set_cons_succ]
            refine wpAnyH_take (i := 17) (oi := ⟨some 82, _, _, _, _, _⟩) (v := ?_) rfl (by kernel_rfl) (by kernel_rfl) (by kernel_rfl) (fun _ _ _ h => h) (Or.inl ⟨by rfl, ?hy⟩) (by assumption) ?_
            case hy => (intro w hSw; (try dsimp only at hSw); go_simp; (try with_reducible rfl))
            try simp only [Act.put, List.setIfInBounds_toArray, List.set_cons_zero, List.set_cons_succ]
            refine wpAnyH_take (i := 18) (oi := ⟨some 83, _, _, _, _, _⟩) (v := undef) rfl (by kernel_rfl) (by kernel_rfl) (by kernel_rfl) (fun _ _ _ h => h) (Or.inr ⟨by rfl, rfl⟩) (by assumption) ?_
            try simp only [Act.put, List.setIfInBounds_toArray, List.set_cons_zero, List.set_cons_succ]
            refine wpAnyH_take (i := 19) (oi := ⟨some 84, _, _, _, _, _⟩) (v := undef) rfl (by kernel_rfl) (by kernel_rfl) (by kernel_rfl) (fun _ _ _ h => h) (Or.inr ⟨by rfl, rfl⟩) (by assumption) ?_
            try simp only [Act.put, List.setIfInBounds_toArray, List.set_cons_zero, List.set_cons_succ]
            refine wpAnyH_take (i := 20) (oi := ⟨some 85, _, _, _, _, _⟩) (v := undef) rfl (by kernel_rfl) (by kernel_rfl) (by kernel_rfl) (fun _ _ _ h => h) (Or.inr ⟨by rfl, rfl⟩) (by assumption) ?_
            try simp only [Act.put, List.setIfInBounds_toArray, List.set_cons_zero, List.set_cons_succ]
            refine wpAnyH_take (i := 21) (oi := ⟨some 86, _, _, _, _, _⟩) (v := undef) rfl (by kernel_rfl) (by kernel_rfl) (by kernel_rfl) (fun _ _ _ h => h) (Or.inr ⟨by rfl, rfl⟩) (by assumption) ?_
            try simp only [Act.put, List.setIfInBounds_toArray, List.set_cons_zero, List.set_cons_succ]
            refine wpAnyH_take (i := 22) (oi := ⟨some 87, _, _, _, _, _⟩) (v := undef) rfl (by kernel_rfl) (by kernel_rfl) (by kernel_rfl) (fun _ _ _ h => h) (Or.inr ⟨by rfl, rfl⟩) (by assumption) ?_
            try simp only [Act.put, List.setIfInBounds_toArray, List.set_cons_zero, List.set_cons_succ]
            refine wpAnyH_take (i := 23) (oi := ⟨some 88, _, _, _, _, _⟩) (v := undef) rfl (by kernel_rfl) (by kernel_rfl) (by kernel_rfl) (fun _ _ _ h => h) (Or.inr ⟨by rfl, rfl⟩) (by assumption) ?_
            try simp only [Act.put, List.setIfInBounds_toArray, List.set_cons_zero, List.set_cons_succ]
            refine wpAnyH_take (i := 24) (oi := ⟨some 89, _, _, _, _, _⟩) (v := undef) rfl (by kernel_rfl) (by kernel_rfl) (by kernel_rfl) (fun _ _ _ h => h) (Or.inr ⟨by rfl, rfl⟩) (by assumption) ?_
            try simp only [Act.put, List.setIfInBounds_toArray, List.set_cons_zero, List.set_cons_succ]
            refine wpAnyH_take (i := 25) (oi := ⟨some 90, _, _, _, _, _⟩) (v := undef) rfl (by kernel_rfl) (by kernel_rfl) (by kernel_rfl) (fun _ _ _ h => h) (Or.inr ⟨by rfl, rfl⟩) (by assumption) ?_
            try simp only [Act.put, List.setIfInBounds_toArray, List.set_cons_zero, List.set_cons_succ]
            refine wpAnyH_take (i := 26) (oi := ⟨some 91, _, _, _, _, _⟩) (v := undef) rfl (by kernel_rfl) (by kernel_rfl) (by kernel_rfl) (fun _ _ _ h => h) (Or.inr ⟨by rfl, rfl⟩) (by assumption) ?_
            try simp only [Act.put, List.setIfInBounds_toArray, List.set_cons_zero, List.set_cons_succ]
            refine wpAnyH_take (i := 27) (oi := ⟨some 92, _, _, _, _, _⟩) (v := undef) rfl (by kernel_rfl) (by kernel_rfl) (by kernel_rfl) (fun _ _ _ h => h) (Or.inr ⟨by rfl, rfl⟩) (by assumption) ?_
            try simp only [Act.put, List.setIfInBounds_toArray, List.set_cons_zero, List.set_cons_succ]
            refine wpAnyH_take (i := 28) (oi := ⟨some 93, _, _, _, _, _⟩) (v := undef) rfl (by kernel_rfl) (by kernel_rfl) (by kernel_rfl) (fun _ _ _ h => h) (Or.inr ⟨by rfl, rfl⟩) (by assumption) ?_
            try simp only [Act.put, List.setIfInBounds_toArray, List.set_cons_zero, List.set_cons_succ]
            refine wpAnyH_take (i := 29) (oi := ⟨some 94, _, _, _, _, _⟩) (v := ?_) rfl (by kernel_rfl) (by kernel_rfl) (by kernel_rfl) (fun _ _ _ h => h) (Or.inl ⟨by rfl, ?hy⟩) (by assumption) ?_
            case hy => (intro w hSw; (try dsimp only at hSw); go_simp; (try with_reducible rfl))
            try simp only [Act.put, List.setIfInBounds_toArray, List.set_cons_zero, List.set_cons_succ]
            refine wpAnyH_take (i := 30) (oi := ⟨some 95, _, _, _, _, _⟩) (v := ?_) rfl (by kernel_rfl) (by kernel_rfl) (by kernel_rfl) (fun _ _ _ h => h) (Or.inl ⟨by rfl, ?hy⟩) (by assumption) ?_
            case hy => (intro w hSw; (try dsimp only at hSw); go_simp; (try with_reducible rfl))
            try simp only [Act.put, List.setIfInBounds_toArray, List.set_cons_zero, List.set_cons_succ]
            refine wpAnyH_done (by kernel_rfl) ?_ _
            all_goals
              have hbw : Below wr.heap.size wr wI := by repeat (first | with_reducible exact Below.refl _ _ | with_reducible assumption | with_reducible refine Below.drew ?_ | with_reducible refine below_drewT ?_ _ | with_reducible refine below_callT ?_ (Nat.le_refl _) hbA | with_reducible refine below_callT ?_ (Nat.le_refl _) hbI)
              have hBw := hB.trans (hbw.mono hB.size)
              go_wp2_with fail
              exact ⟨⟨k + 1, by omega, by go_num, by first | exact hBw | exact hBw.drew | exact below_drewT hBw _⟩, by simp [intOf]; omega⟩
          · have hkm : k - 1 < L.length := by omega
            obtain ⟨b2, off2, e2, _, z0, z1⟩ := (HE.out.below hB).get hkm
            injection e2 with e2
            injection e2 with e2 e3
            subst e2 e3
            have hapk := Hap.out (k - 1) L[k - 1] L[k] (List.getElem?_eq_getElem hkm) (by rw [show k - 1 + 1 = k by omega]; exact List.getElem?_eq_getElem hlt)
            rw [← HX.out] at hapk
            obtain ⟨⟨kd2, x2⟩, hx2⟩ : ∃ p, p = L[k - 1] := ⟨_, rfl⟩
            rw [← hx2] at z0 z1 hapk
            simp only at z0 z1
            have hApart : ∀ W, Tabs W → Calls Tryd.prog 35 #[.agg #[.int .i64 kd2, .string x2], .agg #[.int .i64 kd, .string x]] W fun e w' => e = .returned (.bool true) ∧ Below W.heap.size W w' := fun W h => by
              have h2 := Apart_any kd2 x2 kd x W h
              rw [hapk] at h2; exact h2
            have HA := Lib.hid hApart
            have q0 : decide ((0 : Int) < (k : Int)) = true := by simp; omega
            have sk1 : IntKind.i64.wrap ((k : Int) - 1) = ((k - 1 : Nat) : Int) := by rw [IntWalk.i64_in _ (by omega)]; omega
            have hkp1 : ((k - 1 : Nat) : Int) < (L.length : Int) := by omega
            have hkp2 : (0 : Int) ≤ ((k - 1 : Nat) : Int) := by omega
            clear hx2 hapk hApart
            go_wp2_with fail
            go_region_held3 (fun W => Below wr.heap.size wr W ∧ W.cell? ⟨b, off + k * 2, none⟩ = some (.int .i64 kd) ∧ W.cell? ⟨b, off + k * 2 + 1, none⟩ = some (.string x) ∧ W.cell? ⟨b, off + (k - 1) * 2, none⟩ = some (.int .i64 kd2) ∧ W.cell? ⟨b, off + (k - 1) * 2 + 1, none⟩ = some (.string x2))
              (exact kept4 (by repeat (first | with_reducible exact Below.refl _ _ | with_reducible assumption | with_reducible refine Below.drew ?_ | with_reducible refine below_drewT ?_ _ | with_reducible refine below_callT ?_ (Nat.le_refl _) hbA | with_reducible refine below_callT ?_ (Nat.le_refl _) hbI)) hbl m0 m1 z0 z1)
              ((first
                | (go_at_call 33
                   with_reducible refine (HIs.out _ ?_).mono ?_
                   · exact HTr.out.below (by repeat (first | with_reducible exact Below.refl _ _ | with_reducible assumption | with_reducible refine Below.drew ?_ | with_reducible refine below_drewT ?_ _ | with_reducible refine below_callT ?_ (Nat.le_refl _) hbA | with_reducible refine below_callT ?_ (Nat.le_refl _) hbI))
                   rintro e wI ⟨rfl, hbI⟩)
                | (go_at_call 35
                   with_reducible refine (HA.out _ ?_).mono ?_
                   · exact HTr.out.below (by repeat (first | with_reducible exact Below.refl _ _ | with_reducible assumption | with_reducible refine Below.drew ?_ | with_reducible refine below_drewT ?_ _ | with_reducible refine below_callT ?_ (Nat.le_refl _) hbA | with_reducible refine below_callT ?_ (Nat.le_refl _) hbI))
                   rintro e wA ⟨rfl, hbA⟩)))
            all_goals
              have hbw : Below wr.heap.size wr wA := by repeat (first | with_reducible exact Below.refl _ _ | with_reducible assumption | with_reducible refine Below.drew ?_ | with_reducible refine below_drewT ?_ _ | with_reducible refine below_callT ?_ (Nat.le_refl _) hbA | with_reducible refine below_callT ?_ (Nat.le_refl _) hbI)
              have hBw := hB.trans (hbw.mono hB.size)
              go_wp2_with fail
              exact ⟨⟨k + 1, by omega, by go_num, by first | exact hBw | exact hBw.drew | exact below_drewT hBw _⟩, by simp [intOf]; omega⟩
        · have h200i : decide ((k : Int) < 200) = false := by simp; omega
          go_wp2_with fail
          with_reducible refine (Hfin.out _ hB).mono ?_
          rintro e w5 ⟨rfl, hb5⟩
          go_wp2_with fail
          go_ret
          exact ⟨rfl, hb5⟩
      · have hk2 : decide ((k : Int) < (L.length : Int)) = false := by simp; omega
        go_wp2_with fail
        with_reducible refine (Hfin.out _ hB).mono ?_
        rintro e w5 ⟨rfl, hb5⟩
        go_wp2_with fail
        go_ret
        exact ⟨rfl, hb5⟩
end Go.Proofs.YtkaceghngjpemaaDoor.lawTokenWhole
