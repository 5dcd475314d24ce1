/-
  RopeOwn: no function changes its arguments, and results are new memory.
  No condition: every input.
-/
import Derived.Test.YtmdgclcakogggaaAlive
import Derived.Test.YtmdgclcakogggaaArg
import Derived.Test.YtmdgclcakogggaaMgAll
namespace Go.Proofs.Ytmdgclcakogggaa.lawRopeOwn
set_option linter.unusedVariables false
set_option linter.unusedSimpArgs false
open Go.ChangeShapes Go.WideShapes Go.RowKit
open Go.ChangeMaps (open_string shut_string)

theorem short_size (t : ByteArray) : (shortB t).size = min t.size 20001 := by unfold shortB; rw [ByteArray.size_extract]; omega
theorem mk_byt (s : ByteArray) : mkB (byt s) = s := byt_inj (byt_mkB _)

set_option maxRecDepth 100000 in
set_option maxHeartbeats 1000000 in
theorem walk (t : ByteArray) (ht : t.size ≤ maxLen) (A : Option Addr) (c : Nat) (l : List Ed) (hl : l.length ≤ maxLen) (hs : ∀ e ∈ l, e.s.size ≤ maxLen) (A' : Option Addr) (c' : Nat) (l' : List Ed) (hl' : l'.length ≤ maxLen) (hs' : ∀ e ∈ l', e.s.size ≤ maxLen) (w : World) (hE : EdsV w A l) (hE' : EdsV w A' l') :
    Calls Try.prog 3 #[.string t, .slice A l.length c, .slice A' l'.length c'] w fun e w' => e = .returned (.bool true) ∧ Below w.heap.size w w' := by
  have hcut := Cut_own 400 c A l w hl hs hE
  have hsm := cutL_small (m := 400) (by omega) l
  have hcut' := fun W (h : EdsV W A' l') => Cut_own 400 c' A' l' W hl' hs' h
  have hsm' := cutL_small (m := 400) (by omega) l'
  have hid := cutL_idem 400 l
  have hid' := cutL_idem 400 l'
  have hst := short_size t
  have hst2 : (shortB t).size ≤ 60000 := by omega
  have hsh := Short_any t w ht
  generalize cutL 400 l = L at hcut hsm hid
  generalize cutL 400 l' = R at hcut' hsm' hid'
  generalize shortB t = s at hst2 hsh
  have hkeep : ∀ (W : World) (c1 : Nat) (A1 : Option Addr), EdsV W A1 L → Calls Try.prog 7 #[.slice A1 L.length c1, .int .i64 400] W fun e w' => ∃ v, e = .returned v ∧ w'.ownsRow W.heap.size 35 3 v L.length (edsCells L) ∧ Below W.heap.size W w' := fun W c1 A1 h => by
    have h2 := Cut_own 400 c1 A1 L W (Nat.le_trans hsm.1 (by unfold maxLen; omega)) (fun e he => Nat.le_trans (hsm.2 e he) (by unfold maxLen; omega)) h
    rw [hid] at h2; exact h2
  have hother : ∀ (W : World) (c1 : Nat) (A1 : Option Addr), EdsV W A1 R → Calls Try.prog 7 #[.slice A1 R.length c1, .int .i64 400] W fun e w' => ∃ v, e = .returned v ∧ w'.ownsRow W.heap.size 35 3 v R.length (edsCells R) ∧ Below W.heap.size W w' := fun W c1 A1 h => by
    have h2 := Cut_own 400 c1 A1 R W (Nat.le_trans hsm'.1 (by unfold maxLen; omega)) (fun e he => Nat.le_trans (hsm'.2 e he) (by unfold maxLen; omega)) h
    rw [hid'] at h2; exact h2
  have Hcut := Lib.hid hcut
  have Hcut' := Lib.hid hcut'
  have Hkeep := Lib.hid hkeep
  have Hother := Lib.hid hother
  have Hsh := Lib.hid hsh
  have HE' := Lib.hid hE'
  clear hcut hcut' hl hs hE hl' hs' hE' hst hsh ht hid hid' hkeep hother
  have hl1 := hsm.1
  have hl1' := hsm'.1
  by_cases hbig : 20000 < s.size
  · go_enter Try.func3, Try.ntmps3
    go_wp2_with fail
    refine Hsh.out.mono ?_
    rintro e w1 ⟨rfl, rfl⟩
    go_wp2_with fail
    refine Hcut.out.mono ?_
    rintro e w1 ⟨v1, rfl, ho1, hb1⟩
    obtain ⟨A1, c1, rfl, hE1, hA1⟩ := EdsV.of_own ho1
    have HO1 := Lib.hid ho1
    go_wp2_with fail
    refine (Hcut'.out w1 (HE'.out.below hb1)).mono ?_
    rintro e w2 ⟨v2, rfl, ho2, hb2⟩
    obtain ⟨A2, c2, rfl, hF2, hA2⟩ := EdsV.of_own ho2
    have hc2 := own_cap2 ho2
    have hB2 := hb1.trans (hb2.mono hb1.size)
    have hE2 := hE1.below hb2
    clear hE1 ho2 hA2 ho1 hA1
    go_wp2_with fail
    refine (Hkeep.out w2 c1 A1 hE2).mono ?_
    rintro e w3 ⟨v3, rfl, ho3, hb3⟩
    obtain ⟨A3, c3, rfl, hK3, hA3⟩ := EdsV.of_own ho3
    have hB3 := hB2.trans (hb3.mono hB2.size)
    have hE3 := hE2.below hb3
    have hF3 := hF2.below hb3
    have HA3 := Lib.hid hA3
    clear hE2 hF2 ho3 hA3
    go_wp2_with fail
    refine (Hother.out w3 c2 A2 hF3).mono ?_
    rintro e w4 ⟨v4, rfl, ho4, hb4⟩
    obtain ⟨A4, c4, rfl, hM4, hA4⟩ := EdsV.of_own ho4
    have hB4 := hB3.trans (hb4.mono hB3.size)
    have hE4 := hE3.below hb4
    have hF4 := hF3.below hb4
    have hK4 := hK3.below hb4
    clear hE3 hF3 hK3 ho4 hA4
    go_wp2_with fail
    with_reducible refine (New_no s w4 hbig).mono ?_
    rintro e w5 ⟨rfl, hb5⟩
    have hB5 := hB4.trans (hb5.mono hB4.size)
    go_wp2_with fail
    with_reducible refine (alive_any w5).mono ?_
    rintro e wz ⟨rfl, hbz⟩
    go_wp2_with fail
    go_ret
    exact ⟨rfl, hB5.trans (hbz.mono hB5.size)⟩
  · have hsz : s.size ≤ 20000 := by omega
    go_enter Try.func3, Try.ntmps3
    go_wp2_with fail
    refine Hsh.out.mono ?_
    rintro e w1 ⟨rfl, rfl⟩
    go_wp2_with fail
    refine Hcut.out.mono ?_
    rintro e w1 ⟨v1, rfl, ho1, hb1⟩
    obtain ⟨A1, c1, rfl, hE1, hA1⟩ := EdsV.of_own ho1
    have HO1 := Lib.hid ho1
    go_wp2_with fail
    refine (Hcut'.out w1 (HE'.out.below hb1)).mono ?_
    rintro e w2 ⟨v2, rfl, ho2, hb2⟩
    obtain ⟨A2, c2, rfl, hF2, hA2⟩ := EdsV.of_own ho2
    have hc2 := own_cap2 ho2
    have hB2 := hb1.trans (hb2.mono hb1.size)
    have hE2 := hE1.below hb2
    clear hE1 ho2 hA2 ho1 hA1
    go_wp2_with fail
    refine (Hkeep.out w2 c1 A1 hE2).mono ?_
    rintro e w3 ⟨v3, rfl, ho3, hb3⟩
    obtain ⟨A3, c3, rfl, hK3, hA3⟩ := EdsV.of_own ho3
    have hB3 := hB2.trans (hb3.mono hB2.size)
    have hE3 := hE2.below hb3
    have hF3 := hF2.below hb3
    have HA3 := Lib.hid hA3
    clear hE2 hF2 ho3 hA3
    go_wp2_with fail
    refine (Hother.out w3 c2 A2 hF3).mono ?_
    rintro e w4 ⟨v4, rfl, ho4, hb4⟩
    obtain ⟨A4, c4, rfl, hM4, hA4⟩ := EdsV.of_own ho4
    have hB4 := hB3.trans (hb4.mono hB3.size)
    have hE4 := hE3.below hb4
    have hF4 := hF3.below hb4
    have hK4 := hK3.below hb4
    clear hE3 hF3 hK3 ho4 hA4
    go_wp2_with fail
    with_reducible refine (New_ok s w4 hsz).mono ?_
    rintro e w5 ⟨v5, rfl, hR5, hb5⟩
    have hB5 := hB4.trans (hb5.mono hB4.size)
    have hE5 := hE4.below hb5
    have hF5 := hF4.below hb5
    have hK5 := hK4.below hb5
    have hM5 := hM4.below hb5
    obtain ⟨r5, vr5, rfl, hh5⟩ := id hR5
    clear hh5 hE4 hF4 hK4 hM4
    go_wp2_with fail
    with_reducible refine (Edit_own _ _ s c1 A1 L w5 hsm hsz hE5 hR5).mono ?_
    rintro e w6 ⟨vn, tn, rfl, hb6, hn6⟩
    have hB6 := hB5.trans (hb6.mono hB5.size)
    have hE6 := hE5.below hb6
    have hF6 := hF5.below hb6
    have hK6 := hK5.below hb6
    have hM6 := hM5.below hb6
    have hR6 := hR5.below hb6
    clear hE5 hF5 hK5 hM5 hR5
    go_wp2_with fail
    with_reducible refine (Invert_own s c1 A1 L w6 hsm hst2 hE6).mono ?_
    have hIl : (invertR s L).length ≤ 1000 := by
      unfold invertR
      split
      · rw [invertL_length]; exact hl1
      · exact Nat.zero_le _
    generalize invertR s L = I at hIl
    rintro e w7 ⟨vI, rfl, hoI, hb7⟩
    have hE7 := hE6.below hb7
    have hF7 := hF6.below hb7
    go_wp2_with fail
    with_reducible refine (Merge_own s L R c1 c2 A1 A2 w7 hsm hsm' hst2 hc2 hE7 hF7).mono ?_
    rintro e w8 ⟨M, er, ⟨vM, rfl, hoM, hb8⟩, hMl, hMe⟩
    have hB8 : Below w6.heap.size w6 w8 := hb7.trans (hb8.mono hb7.size)
    have hoI8 := ownsRow_below hoI hb8
    have HOI := Lib.hid hoI
    have HK6 := Lib.hid hK6
    have HM6 := Lib.hid hM6
    have HE6 := Lib.hid hE6
    have HF6 := Lib.hid hF6
    have HR6 := Lib.hid hR6
    have HN6 := Lib.hid hn6
    have HMe := Lib.hid hMe
    obtain ⟨ec, hec⟩ : ∃ ec, ec = checkE s.size L := ⟨_, rfl⟩
    have HEC := Lib.hid hec
    rw [← hec]
    clear hE7 hF7 hoI hK6 hM6 hE6 hF6 hR6 hn6 hMe hec
    go_wp2_with fail
    obtain ⟨aI, kI, rfl, _⟩ := own_shape hoI8
    obtain ⟨aM, kM, rfl, _⟩ := own_shape hoM
    go_loopw [20] (fun i wr => ∃ (k : Nat) (xs : List Value), k ≤ I.length ∧ i = .int .i64 k ∧ wr.ownsRow w6.heap.size 35 3 (.slice aI I.length kI) I.length xs ∧ wr.ownsRow w7.heap.size 35 3 (.slice aM M.length kM) M.length (edsCells M) ∧ Below w6.heap.size w6 wr) (fun i _ => I.length - (intOf i).toNat)
    case atStart => exact ⟨0, _, Nat.zero_le _, rfl, hoI8, hoM, hB8⟩
    case round =>
      obtain ⟨k, xs, hk, rfl, hown, hownM, hB⟩ := hrel
      by_cases hlt : k < I.length
      · obtain ⟨gI, cI, eI, hg1, hg2⟩ := own_pos hown (by omega)
        injection eI with eI1 _ eI3
        subst eI1 eI3
        have hgI := (HOI.out.lt gI rfl).2
        have hxl : xs.length = I.length * 3 := hown.1
        have d1 : wr.cell? ⟨gI, k * 3, none⟩ = some (xs[k * 3]'(by omega)) := by rw [hown.cellAt _ (by omega)]; exact List.getElem?_eq_getElem _
        have d2 : wr.cell? ⟨gI, k * 3 + 1, none⟩ = some (xs[k * 3 + 1]'(by omega)) := by rw [hown.cellAt _ (by omega)]; exact List.getElem?_eq_getElem _
        have d3 : wr.cell? ⟨gI, k * 3 + 2, none⟩ = some (xs[k * 3 + 2]'(by omega)) := by rw [hown.cellAt _ (by omega)]; exact List.getElem?_eq_getElem _
        have f1 : wr.frozen? ⟨gI, k * 3, none⟩ = false := hown.frozenAt _
        have f2 : wr.frozen? ⟨gI, k * 3 + 1, none⟩ = false := hown.frozenAt _
        have f3 : wr.frozen? ⟨gI, k * 3 + 2, none⟩ = false := hown.frozenAt _
        have hlt' : (k : Int) < (I.length : Int) := by omega
        have st1 := hown.stored (k * 3) (.int .i64 7)
        have st2 := st1.1.stored (k * 3 + 1) (.int .i64 0)
        have st3 := st2.1.stored (k * 3 + 2) (.string ByteArray.empty)
        have hne : (Value.slice aM M.length kM).ownBlock ≠ some gI := fun h => by have := (hownM.lt gI h).1; omega
        have sM := ((hownM.kept st1.2 (.inr hne)).kept st2.2 (.inr hne)).kept st3.2 (.inr hne)
        have hB2' := ((hB.setCell (p := ⟨gI, k * 3, none⟩) hg1 (.int .i64 7)).setCell (p := ⟨gI, k * 3 + 1, none⟩) hg1 (.int .i64 0)).setCell (p := ⟨gI, k * 3 + 2, none⟩) hg1 (.string ByteArray.empty)
        have ST := Lib.hid (And.intro st3.1 (And.intro sM hB2'))
        clear st1 st2 st3 sM hB2' hown hownM hB
        go_wp2_with fail
        exact ⟨⟨k + 1, _, by omega, by go_num, ST.out.1, ST.out.2.1, ST.out.2.2⟩, by simp [intOf]; omega⟩
      · clear hown
        have q1 : decide ((k : Int) < (I.length : Int)) = false := by simp; omega
        have HOM := Lib.hid hownM
        have HB1 := Lib.hid hB
        clear hownM hB
        go_wp2_with fail
        go_loopw [21] (fun i wr => ∃ (k : Nat) (xs : List Value), k ≤ M.length ∧ i = .int .i64 k ∧ wr.ownsRow w7.heap.size 35 3 (.slice aM M.length kM) M.length xs ∧ Below w6.heap.size w6 wr) (fun i _ => M.length - (intOf i).toNat)
        case atStart => exact ⟨0, _, Nat.zero_le _, rfl, HOM.out, HB1.out⟩
        case round =>
          clear q1 hlt hk
          obtain ⟨k, xs, hk, rfl, hown, hB⟩ := hrel
          by_cases hlt : k < M.length
          · obtain ⟨gI, cI, eI, hg1, hg2⟩ := own_pos hown (by omega)
            injection eI with eI1 _ eI3
            subst eI1 eI3
            have hg1' : w6.heap.size ≤ gI := Nat.le_trans hb7.size hg1
            have hxl : xs.length = M.length * 3 := hown.1
            have d1 : wr.cell? ⟨gI, k * 3, none⟩ = some (xs[k * 3]'(by omega)) := by rw [hown.cellAt _ (by omega)]; exact List.getElem?_eq_getElem _
            have d2 : wr.cell? ⟨gI, k * 3 + 1, none⟩ = some (xs[k * 3 + 1]'(by omega)) := by rw [hown.cellAt _ (by omega)]; exact List.getElem?_eq_getElem _
            have d3 : wr.cell? ⟨gI, k * 3 + 2, none⟩ = some (xs[k * 3 + 2]'(by omega)) := by rw [hown.cellAt _ (by omega)]; exact List.getElem?_eq_getElem _
            have f1 : wr.frozen? ⟨gI, k * 3, none⟩ = false := hown.frozenAt _
            have f2 : wr.frozen? ⟨gI, k * 3 + 1, none⟩ = false := hown.frozenAt _
            have f3 : wr.frozen? ⟨gI, k * 3 + 2, none⟩ = false := hown.frozenAt _
            have hlt' : (k : Int) < (M.length : Int) := by omega
            have st1 := hown.stored (k * 3) (.int .i64 7)
            have st2 := st1.1.stored (k * 3 + 1) (.int .i64 0)
            have st3 := st2.1.stored (k * 3 + 2) (.string ByteArray.empty)
            have hB2' := ((hB.setCell (p := ⟨gI, k * 3, none⟩) hg1' (.int .i64 7)).setCell (p := ⟨gI, k * 3 + 1, none⟩) hg1' (.int .i64 0)).setCell (p := ⟨gI, k * 3 + 2, none⟩) hg1' (.string ByteArray.empty)
            have ST := Lib.hid (And.intro st3.1 hB2')
            clear st1 st2 st3 hB2' hown hB
            go_wp2_with fail
            exact ⟨⟨k + 1, _, by omega, by go_num, ST.out.1, ST.out.2⟩, by simp [intOf]; omega⟩
          · clear hown
            have q1 : decide ((k : Int) < (M.length : Int)) = false := by simp; omega
            have hBw := hB6.trans (hB.mono hB6.size)
            go_wp2_with fail
            with_reducible refine (Same_any c1 c3 A1 A3 L L _ hl1 (HE6.out.below hB) (HK6.out.below hB)).mono ?_
            rw [decide_eq_true rfl]
            rintro e w9 ⟨rfl, hb9⟩
            have hB9 := hB.trans (hb9.mono hB.size)
            go_wp2_with fail
            with_reducible refine (Same_any c2 c4 A2 A4 R R w9 hl1' (HF6.out.below hB9) (HM6.out.below hB9)).mono ?_
            rw [decide_eq_true rfl]
            rintro e w10 ⟨rfl, hb10⟩
            have hB10 := hB9.trans (hb10.mono hB9.size)
            have hb1x : Below w1.heap.size w1 w6 := hb2.trans (hb3.mono hb2.size) |>.trans (hb4.mono (Nat.le_trans hb2.size hb3.size)) |>.trans (hb5.mono (Nat.le_trans hb2.size (Nat.le_trans hb3.size hb4.size))) |>.trans (hb6.mono (Nat.le_trans hb2.size (Nat.le_trans hb3.size (Nat.le_trans hb4.size hb5.size))))
            have hoA := ownsRow_below HO1.out (hb1x.trans (hB10.mono hb1x.size))
            have hBa := hB6.trans (hB10.mono hB6.size)
            have HOA := Lib.hid hoA
            have HBa := Lib.hid hBa
            have HK10 := Lib.hid (HK6.out.below hB10)
            have HR10 := Lib.hid (HR6.out.below hB10)
            have HN10 : Hid (checkE s.size L = 0 → RopeAt w10 vn tn (.pointer (some ⟨r5, 0, none⟩))) := Lib.hid (fun h => (HN6.out h).1.below hB10)
            clear hoA hBa hB
            go_wp2_with fail
            go_loopw [22] (fun i wr => ∃ (k : Nat) (xs : List Value), k ≤ L.length ∧ i = .int .i64 k ∧ wr.ownsRow w.heap.size 35 3 (.slice A1 L.length c1) L.length xs ∧ EdsV wr A3 L ∧ RopeAt wr (.pointer (some ⟨r5, 0, none⟩)) (pcOf s) (.pointer none) ∧ (checkE s.size L = 0 → RopeAt wr vn tn (.pointer (some ⟨r5, 0, none⟩))) ∧ Below w.heap.size w wr) (fun i _ => L.length - (intOf i).toNat)
            case atStart => exact ⟨0, _, Nat.zero_le _, rfl, HOA.out, HK10.out, HR10.out, HN10.out, HBa.out⟩
            case round =>
              clear q1 hlt hk
              obtain ⟨k, xs, hk, rfl, hown, hK, hR, hN, hB⟩ := hrel
              by_cases hlt : k < L.length
              · obtain ⟨gI, cI, eI, hg1, hg2⟩ := own_pos hown (by omega)
                injection eI with eI1 _ eI3
                subst eI1 eI3
                have hgA := (HO1.out.lt gI rfl).2
                have hA3n : ∀ a, A3 = some a → a.block ≠ gI := fun a h => by have := HA3.out a h; have := hb2.size; omega
                have hxl : xs.length = L.length * 3 := hown.1
                have d1 : wr.cell? ⟨gI, k * 3, none⟩ = some (xs[k * 3]'(by omega)) := by rw [hown.cellAt _ (by omega)]; exact List.getElem?_eq_getElem _
                have d2 : wr.cell? ⟨gI, k * 3 + 1, none⟩ = some (xs[k * 3 + 1]'(by omega)) := by rw [hown.cellAt _ (by omega)]; exact List.getElem?_eq_getElem _
                have d3 : wr.cell? ⟨gI, k * 3 + 2, none⟩ = some (xs[k * 3 + 2]'(by omega)) := by rw [hown.cellAt _ (by omega)]; exact List.getElem?_eq_getElem _
                have f1 : wr.frozen? ⟨gI, k * 3, none⟩ = false := hown.frozenAt _
                have f2 : wr.frozen? ⟨gI, k * 3 + 1, none⟩ = false := hown.frozenAt _
                have f3 : wr.frozen? ⟨gI, k * 3 + 2, none⟩ = false := hown.frozenAt _
                have hlt' : (k : Int) < (L.length : Int) := by omega
                have st1 := hown.stored (k * 3) (.int .i64 9)
                have st2 := st1.1.stored (k * 3 + 1) (.int .i64 0)
                have st3 := st2.1.stored (k * 3 + 2) (.string ByteArray.empty)
                have sK := ((hK.setOther (i := k * 3) (u := .int .i64 9) hA3n).setOther (i := k * 3 + 1) (u := .int .i64 0) hA3n).setOther (i := k * 3 + 2) (u := .string ByteArray.empty) hA3n
                have k1 := keepRP_set (i := k * 3) (u := .int .i64 9) hown (by decide) (by decide)
                have k2 := keepRP_set (i := k * 3 + 1) (u := .int .i64 0) st1.1 (by decide) (by decide)
                have k3 := keepRP_set (i := k * 3 + 2) (u := .string ByteArray.empty) st2.1 (by decide) (by decide)
                have sR := ((hR.keepT k1).keepT k2).keepT k3
                have sN := fun h => (((hN h).keepT k1).keepT k2).keepT k3
                have hB2' := ((hB.setCell (p := ⟨gI, k * 3, none⟩) hg1 (.int .i64 9)).setCell (p := ⟨gI, k * 3 + 1, none⟩) hg1 (.int .i64 0)).setCell (p := ⟨gI, k * 3 + 2, none⟩) hg1 (.string ByteArray.empty)
                have ST := Lib.hid (And.intro st3.1 (And.intro sK (And.intro sR (And.intro sN hB2'))))
                clear st1 st2 st3 sK sR sN hB2' hown hB hK hR hN k1 k2 k3
                go_wp2_with fail
                exact ⟨⟨k + 1, _, by omega, by go_num, ST.out.1, ST.out.2.1, ST.out.2.2.1, ST.out.2.2.2.1, ST.out.2.2.2.2⟩, by simp [intOf]; omega⟩
              · have q1 : decide ((k : Int) < (L.length : Int)) = false := by simp; omega
                by_cases h0 : checkE s.size L = 0
                · have hrs : rising s.size 0 L = true := (checkE_ok h0).2.2.1
                  have hx := (HN6.out h0).2
                  have hRn := hN h0
                  obtain rfl : ec = 0 := HEC.out.trans h0
                  have HX := Lib.hid hx
                  have HRS := Lib.hid hrs
                  clear hx hrs hown hN
                  go_wp2_with fail
                  with_reducible refine (Text_any _ _ tn _ HX.out.2 hRn).mono ?_
                  rw [HX.out.1]
                  rintro e w11 ⟨rfl, hb11⟩
                  have hB11 := hB.trans (hb11.mono hB.size)
                  have hK11 := hK.below hb11
                  have hR11 := hR.below hb11
                  go_wp2_with fail
                  with_reducible refine (rApply_any s c3 A3 L w11 hsm hst2 HRS.out hK11).mono ?_
                  rintro e w12 ⟨rfl, hb12⟩
                  have hB12 := hB11.trans (hb12.mono hB11.size)
                  have hR := hR11.below hb12
                  by_cases her : er = 0
                  · subst her
                    go_wp2_with fail
                    have hxs : mkB (pcOf s).text = s := by rw [pcOf_text]; exact mk_byt s
                    with_reducible refine (Text_any _ _ (pcOf s) _ (by rw [pcOf_size]; omega) hR).mono ?_
                    rw [hxs]
                    rintro e wy ⟨rfl, hby⟩
                    have hBy := hB12.trans (hby.mono hB12.size)
                    go_wp2_with fail
                    with_reducible refine (alive_any wy).mono ?_
                    rintro e wz ⟨rfl, hbz⟩
                    go_wp2_with fail
                    go_ret
                    exact ⟨rfl, hBy.trans (hbz.mono hBy.size)⟩
                  · have q2 : (er == 0) = false := by simpa using her
                    have hsum : 0 < L.length + R.length := by
                      rcases HMe.out with h | h | h
                      · exact absurd h her
                      · exact absurd h0 h
                      · exact h
                    have s1 : IntKind.i64.wrap ((L.length : Int) + (R.length : Int)) = (L.length : Int) + (R.length : Int) := IntWalk.i64_in _ (by omega)
                    have q3 : decide (0 < (L.length : Int) + (R.length : Int)) = true := by simp; omega
                    go_wp2_with fail
                    have hxs : mkB (pcOf s).text = s := by rw [pcOf_text]; exact mk_byt s
                    with_reducible refine (Text_any _ _ (pcOf s) _ (by rw [pcOf_size]; omega) hR).mono ?_
                    rw [hxs]
                    rintro e wy ⟨rfl, hby⟩
                    have hBy := hB12.trans (hby.mono hB12.size)
                    go_wp2_with fail
                    with_reducible refine (alive_any wy).mono ?_
                    rintro e wz ⟨rfl, hbz⟩
                    go_wp2_with fail
                    go_ret
                    exact ⟨rfl, hBy.trans (hbz.mono hBy.size)⟩
                · have hec : (ec == 0) = false := by rw [HEC.out]; simpa using h0
                  have hec2 : (ec != 0) = true := by rw [HEC.out]; simpa using h0
                  clear hown hN
                  by_cases her : er = 0
                  · subst her
                    go_wp2_with fail
                    have hxs : mkB (pcOf s).text = s := by rw [pcOf_text]; exact mk_byt s
                    with_reducible refine (Text_any _ _ (pcOf s) _ (by rw [pcOf_size]; omega) hR).mono ?_
                    rw [hxs]
                    rintro e wy ⟨rfl, hby⟩
                    have hBy := hB.trans (hby.mono hB.size)
                    go_wp2_with fail
                    with_reducible refine (alive_any wy).mono ?_
                    rintro e wz ⟨rfl, hbz⟩
                    go_wp2_with fail
                    go_ret
                    exact ⟨rfl, hBy.trans (hbz.mono hBy.size)⟩
                  · have q2 : (er == 0) = false := by simpa using her
                    go_wp2_with fail
                    have hxs : mkB (pcOf s).text = s := by rw [pcOf_text]; exact mk_byt s
                    with_reducible refine (Text_any _ _ (pcOf s) _ (by rw [pcOf_size]; omega) hR).mono ?_
                    rw [hxs]
                    rintro e wy ⟨rfl, hby⟩
                    have hBy := hB.trans (hby.mono hB.size)
                    go_wp2_with fail
                    with_reducible refine (alive_any wy).mono ?_
                    rintro e wz ⟨rfl, hbz⟩
                    go_wp2_with fail
                    go_ret
                    exact ⟨rfl, hBy.trans (hbz.mono hBy.size)⟩
end Go.Proofs.Ytmdgclcakogggaa.lawRopeOwn
