/-
  The contract of Rope.Edit, of edits that are right.
-/
import Derived.Test.YtmdgclcakogggaaPcS
import Derived.Test.YtmdgclcakogggaaApp2
namespace Go.Proofs.Ytmdgclcakogggaa
set_option linter.unusedVariables false
set_option linter.unusedSimpArgs false
open Go.RowKit

theorem two_kept2 {w w' : World} {b : Nat} {v2 : Value} (hb : Below w.heap.size w w') (hlt : b < w.heap.size) (h2 : w.cell? ⟨b, 2, none⟩ = some v2) :
    Below w.heap.size w w' ∧ w'.cell? ⟨b, 2, none⟩ = some v2 := ⟨hb, ((bcell hb).1 b 2 hlt).trans h2⟩
theorem sub_drop (T : ByteArray) (a x : Nat) (h : a ≤ x) : sub T a x = ((byt T).drop a).take (x - a) := sub_eq T a x

set_option maxRecDepth 100000 in
set_option maxHeartbeats 4000000 in
theorem Edit_ok (v bef : Value) (t : Pc) (T : ByteArray) (c : Nat) (A : Option Addr) (l : List Ed) (w : World) (hl : Small l) (hT : t.text = byt T) (hc : checkLen T.size l = 0) (hts : T.size ≤ 20000) (hr : rising T.size 0 l = true)
    (hfin : (editedL T T.size 0 l).length ≤ 20000) (hE : EdsV w A l) (hR : RopeAt w v t bef) :
    Calls Try.prog 10 #[v, .slice A l.length c] w fun e w' => ∃ t', GivesRope w t' v e w' ∧ t'.text = editedL T T.size 0 l := by
  have hts2 : t.size = T.size := by rw [size_of_text hT, byt_length]
  have hl1 := hl.1
  obtain ⟨r, vroot, rfl, hh, hp, hg⟩ := id hR
  obtain ⟨oroot, rfl⟩ := good_pointer hp
  have c1 : w.cell? ⟨r, 1, none⟩ = some (.pointer oroot) := cell_of hh 1
  have hrl := lt_of hh
  have q : (checkLen T.size l != 0) = false := by simpa using hc
  have Hr := Lib.hid hr
  have HC := Lib.hid hc
  have HT := Lib.hid hT
  have HP := Lib.hid hp
  have HF := Lib.hid hfin
  clear hr hc hT hp hh hfin
  go_enter Try.func10, Try.ntmps10
  go_wp2_with fail
  refine (isMade_any _ bef t w hR).mono ?_
  rintro e w0 ⟨rfl, rfl⟩
  go_wp2_with fail
  refine (Len_any _ bef t w hR).mono ?_
  rintro e w1 ⟨rfl, hb1⟩
  rw [hts2]
  go_wp2_with fail
  refine (check_any _ c A l w1 hl (by omega) (by omega) (hE.below hb1)).mono ?_
  rintro e w2 ⟨rfl, hb2⟩
  have hbw2 : Below w.heap.size w w2 := hb1.trans (hb2.mono hb1.size)
  have c1' : w2.cell? ⟨r, 1, none⟩ = some (.pointer oroot) := ((bcell hbw2).1 r 1 hrl).trans c1
  go_wp2_with fail
  go_loopw [7, 8, 9, 10, 29] (fun vd vk vr va i wr => ∃ (k at_ : Nat) (td tr : Pc) (od or : Option Addr) (ok_ : Value), k ≤ l.length ∧ i = .int .i64 k ∧ va = .int .i64 at_ ∧ vd = .pointer od ∧ vr = .pointer or ∧ vk = ok_ ∧ at_ ≤ T.size ∧ rising T.size at_ (l.drop k) = true ∧
      td.text ++ editedL T T.size at_ (l.drop k) = editedL T T.size 0 l ∧ tr.text = (byt T).drop at_ ∧ td.good ∧ tr.good ∧ PcAt wr wr.heap.size (.pointer od) td ∧ PcAt wr wr.heap.size (.pointer or) tr ∧ Below w.heap.size w wr) (fun _ _ _ _ i _ => l.length - (intOf i).toNat)
  case atStart => exact ⟨0, 0, .nil, t, none, oroot, _, by omega, rfl, rfl, rfl, rfl, rfl, by omega, Hr.out, rfl, HT.out, .inl rfl, hg, rfl, HP.out.belowTop hbw2, hbw2⟩
  case round =>
    obtain ⟨k, at_, td, tr, od, or, vk, hk, rfl, rfl, rfl, rfl, rfl, hat, hr1, he, htr, hgd, hgr, hpd, hpr, hB⟩ := hrel
    by_cases hlt : k < l.length
    · have hg2 : (at_ : Int) ≤ l[k].f ∧ l[k].f ≤ l[k].t ∧ l[k].t ≤ T.size ∧ rising T.size l[k].t (l.drop (k + 1)) = true := by
        rw [List.drop_eq_getElem_cons hlt, rising_cons] at hr1; exact ⟨by omega, by omega, by omega, hr1.2.2.2.2⟩
      have hsl := hl.get hlt
      have he1 := he.symm.trans (congrArg (td.text ++ ·) (editedL_drop hlt T T.size at_))
      obtain ⟨b, off, x, y, s, rfl, hbs, k1, k2, k3, hek⟩ := (hE.below hB).getN hlt (by omega) (by omega)
      rw [hek] at hg2 hsl he1
      obtain ⟨g1, g2, g3, hr2⟩ := hg2
      simp only at g1 g2 g3 hr2 hsl he1
      have hlenF : td.size + (sub T at_ x).length + s.size ≤ 20000 := by
        have h1 := HF.out
        rw [he1] at h1
        simp only [List.length_append, size_toList s, Pc.size_text, Int.toNat_natCast] at h1
        have h2 := size_toList s
        omega
      have hszr : tr.size = T.size - at_ := by rw [size_of_text htr, List.length_drop, byt_length]
      have He := Lib.hid he1
      have Hr2 := Lib.hid hr2
      have n1 : at_ ≤ x := by omega
      have n2 : x ≤ y := by omega
      have n3 : y ≤ T.size := by omega
      have n4 : x ≤ T.size := by omega
      have s1 : IntKind.i64.wrap ((x : Int) - (at_ : Int)) = ((x - at_ : Nat) : Int) := by rw [Int.ofNat_sub n1]; exact IntWalk.i64_in _ (by omega)
      have s2 : IntKind.i64.wrap ((y : Int) - (x : Int)) = ((y - x : Nat) : Int) := by rw [Int.ofNat_sub n2]; exact IntWalk.i64_in _ (by omega)
      have HD := Lib.hid hpd
      have HRr := Lib.hid hpr
      have HTR := Lib.hid htr
      clear hE he hr1 hr2 he1 hek g1 g2 g3 hpd hpr htr
      go_wp2_with fail
      refine (split_any tr or (x - at_) _ hgr (by omega) (by omega) (HRr.out.belowTop ((Below.refl _ _).alloc (Nat.le_refl _) _))).mono ?_
      rintro e w3 ⟨ta, tb, oa, ob, rfl, hpa, hpb, hb3, hga, hgb, hta, htb, hlv⟩
      have hbox3 := (hb3.block wr.heap.size (by simp)).trans (heap_alloc_new wr _)
      have f0 : w3.cell? ⟨wr.heap.size, 0, none⟩ = some (.int .i64 (x : Int)) := by rw [Lib.cell_of_heap hbox3]; rfl
      have f1 : w3.cell? ⟨wr.heap.size, 1, none⟩ = some (.int .i64 (y : Int)) := by rw [Lib.cell_of_heap hbox3]; rfl
      rw [HTR.out] at hta htb
      rw [List.drop_drop, Nat.add_sub_cancel' n1] at htb
      have hta2 : ta.text = sub T at_ x := hta.trans (sub_eq T at_ x).symm
      have htb2 : tb.size = T.size - x := by rw [size_of_text htb, List.length_drop, byt_length]
      have hta3 := size_of_text hta2
      have hbw3 : Below wr.heap.size wr w3 := ((Below.refl _ _).alloc (Nat.le_refl _) _).trans (hb3.mono (by simp))
      go_wp2_with fail
      refine (split_any tb ob (y - x) _ hgb (by omega) (by omega) hpb).mono ?_
      rintro e w4 ⟨ta4, tb4, oa4, ob4, rfl, hpa4, hpb4, hb4, hga4, hgb4, hta4, htb4, hlv4⟩
      have hbox4 := (hb4.block wr.heap.size (lt_of hbox3)).trans hbox3
      have g1 : w4.cell? ⟨wr.heap.size, 1, none⟩ = some (.int .i64 (y : Int)) := by rw [Lib.cell_of_heap hbox4]; rfl
      have g2 : w4.cell? ⟨wr.heap.size, 2, none⟩ = some (.string s) := by rw [Lib.cell_of_heap hbox4]; rfl
      have hltb := lt_of hbox4
      rw [htb, List.drop_drop, Nat.add_sub_cancel' n2] at htb4
      have hbw4 : Below wr.heap.size wr w4 := hbw3.trans (hb4.mono hbw3.size)
      have HD4 := Lib.hid (HD.out.belowTop hbw4)
      have HA4 := Lib.hid (hpa.belowTop hb4)
      clear hbox3 hbox4
      go_wp2_with fail
      go_region_held3 (fun w' => Below w4.heap.size w4 w' ∧ w'.cell? ⟨wr.heap.size, 2, none⟩ = some (.string s))
        (exact two_kept2 (by repeat (first | with_reducible exact Below.refl _ _ | with_reducible assumption | with_reducible refine Below.drew ?_ | with_reducible refine below_drewN ?_ _ | with_reducible refine below_call ?_ (Nat.le_refl _) hbC | with_reducible refine below_call ?_ (Nat.le_refl _) hbA | with_reducible refine below_call ?_ (Nat.le_refl _) hbB)) hltb g2)
        ((first
         | (go_at_call 28
            with_reducible refine (join_any _ td ta od oa _ (Nat.lt_succ_self _) hgd hga ?_ ?_ ?_).mono ?_
            · omega
            · exact HD4.out.belowTop (by repeat (first | with_reducible exact Below.refl _ _ | with_reducible assumption | with_reducible refine Below.drew ?_ | with_reducible refine below_drewN ?_ _ | with_reducible refine below_call ?_ (Nat.le_refl _) hbB))
            · exact HA4.out.belowTop (by repeat (first | with_reducible exact Below.refl _ _ | with_reducible assumption | with_reducible refine Below.drew ?_ | with_reducible refine below_drewN ?_ _ | with_reducible refine below_call ?_ (Nat.le_refl _) hbB))
            rintro e wA ⟨tA, ⟨oA, rfl, hpA, hbA⟩, hgA, htA, hlA⟩)
         | (go_at_call 19
            with_reducible refine (leafP_any s _ hsl).mono ?_
            rintro e wB ⟨⟨oB, rfl, hpB⟩, hbB⟩)
         | (go_at_call 28
            with_reducible refine (join_any _ tA (pcOf s) oA oB _ (Nat.lt_succ_self _) hgA (pcOf_good s) ?_ ?_ ?_).mono ?_
            · have h1 := joined_size htA; have h2 := pcOf_size s; omega
            · exact hpA.belowTop (by repeat (first | with_reducible exact Below.refl _ _ | with_reducible assumption | with_reducible refine Below.drew ?_ | with_reducible refine below_drewN ?_ _ | with_reducible refine below_call ?_ (Nat.le_refl _) hbB))
            · exact hpB.belowTop (by repeat (first | with_reducible exact Below.refl _ _ | with_reducible assumption | with_reducible refine Below.drew ?_ | with_reducible refine below_drewN ?_ _ | with_reducible refine below_call ?_ (Nat.le_refl _) hbA))
            rintro e wC ⟨tC, ⟨oC, rfl, hpC, hbC⟩, hgC, htC, hlC⟩)))
      all_goals
        have hbw5 : Below w4.heap.size w4 wC := (by repeat (first | with_reducible exact Below.refl _ _ | with_reducible assumption | with_reducible refine Below.drew ?_ | with_reducible refine below_drewN ?_ _ | with_reducible refine below_call ?_ (Nat.le_refl _) hbC | with_reducible refine below_call ?_ (Nat.le_refl _) hbA | with_reducible refine below_call ?_ (Nat.le_refl _) hbB))
        go_wp2_with fail
        refine ⟨⟨k + 1, y, tC, tb4, oC, ob4, _, by omega, by go_num, rfl, rfl, rfl, rfl, n3, Hr2.out, ?_, htb4, hgC, hgb4, hpC, hpb4.belowTop hbw5, hB.trans ((hbw4.trans (hbw5.mono hbw4.size)).mono hB.size)⟩, by simp [intOf]; omega⟩
        rw [He.out, htC, htA, hta2, pcOf_text]
        simp [byt]
    · have hke : k = l.length := by omega
      subst hke
      rw [List.drop_of_length_le (Nat.le_refl _)] at he
      have hlenF : td.size ≤ 20000 := by
        have h1 := HF.out
        rw [← he] at h1
        simp only [List.length_append, Pc.size_text] at h1
        omega
      have hszr : tr.size = T.size - at_ := by rw [size_of_text htr, List.length_drop, byt_length]
      have He := Lib.hid he
      have HTR := Lib.hid htr
      clear he hr1 hE htr
      go_wp2_with fail
      refine (join_any _ td tr od or _ (Nat.lt_succ_self _) hgd hgr (by omega) hpd hpr).mono ?_
      rintro e w3 ⟨t3, ⟨o3, rfl, hp3, hb3⟩, hg3, ht3, hl3⟩
      go_wp2_with fail
      go_ret2
      refine ⟨t3, ⟨_, rfl, ⟨_, _, rfl, heap_alloc_new w3 _, hp3.belowTop ((Below.refl _ _).alloc (Nat.le_refl _) _), hg3⟩, (hB.trans (hb3.mono hB.size)).alloc (Nat.le_trans hB.size hb3.size) _⟩, ?_⟩
      rw [ht3, HTR.out, ← He.out]
      simp only [editedL, sub_eq, byt]
      rw [List.take_of_length_le (by rw [List.length_drop]; exact Nat.le_of_eq (congrArg (· - at_) (byt_length T)))]
end Go.Proofs.Ytmdgclcakogggaa
