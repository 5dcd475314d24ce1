/-
  RopeEdits: ropes show the strings that edits make, and Undo goes back through them.
  No condition: every input.
-/
import Derived.Test.YtmbpjjehnfjdiaaArgs
import Derived.Test.YtmbpjjehnfjdiaaChain
import Derived.Test.YtmbpjjehnfjdiaaBackMath
import Derived.Test.YtmbpjjehnfjdiaaMove
namespace Go.Proofs.Ytmbpjjehnfjdiaa.lawRopeEdits
set_option linter.unusedVariables false
set_option linter.unusedSimpArgs false
open Go.ChangeShapes Go.WideShapes Go.RowKit
open Go.ChangeMaps (open_string shut_string)

set_option maxRecDepth 100000 in
set_option maxHeartbeats 2000000 in
theorem walk (t : ByteArray) (ht : t.size ≤ maxLen) (A : Option Addr) (c : Nat) (L : List Es) (hl : L.length ≤ maxLen) (x y : Int) (hx : (Lit.int .i64 x).wf = true) (hy : (Lit.int .i64 y).wf = true) (nn : Int) (w : World) (hE : EdssV w A L) :
    Calls Try.prog 4 #[.string t, .slice A L.length c, .agg #[.int .i64 x, .int .i64 y], .int .i64 nn] w fun e w' => e = .returned (.bool true) ∧ Below w.heap.size w w' := by
  have hst := short_size t
  have hst2 : (shortB t).size ≤ 20001 := by omega
  obtain ⟨w0, hw00⟩ : ∃ w0, w0 = w.alloc (.cells #[.int .i64 x, .int .i64 y] 36) := ⟨_, rfl⟩
  have hw0 : Below w.heap.size w w0 := by rw [hw00]; exact (Below.refl _ _).alloc (Nat.le_refl _) _
  have hbox : w0.heap[w.heap.size]? = some (.cells #[.int .i64 x, .int .i64 y] 36 (0, 0)) := by rw [hw00]; exact heap_alloc_new w _
  have hlt0 : w.heap.size < w0.heap.size := by rw [hw00]; simp
  have hsh := Short_any t w0 ht
  generalize shortB t = s at hst2 hsh
  have Hsh := Lib.hid hsh
  have hE0 := hE.below hw0
  have HW := Lib.hid hw0
  unfold maxLen at hl
  clear hsh hst ht hE hx hy hw0
  by_cases h0 : 20000 < s.size
  · go_enter Try.func4, Try.ntmps4
    go_wp2_with fail
    rw [← hw00]
    clear hw00
    refine Hsh.out.mono ?_
    rintro e w1 ⟨rfl, rfl⟩
    go_wp2_with fail
    with_reducible refine (New_no s w0 h0).mono ?_
    rintro e w1 ⟨rfl, hb1⟩
    go_wp2_with fail
    with_reducible refine (alive_any w1).mono ?_
    rintro e w2 ⟨rfl, hb2⟩
    go_wp2_with fail
    go_ret
    exact ⟨rfl, HW.out.trans ((hb1.trans (hb2.mono hb1.size)).mono HW.out.size)⟩
  · have hs : s.size ≤ 20000 := by omega
    obtain ⟨ir, hir, hr0, hr1, hr2⟩ := info_parts infoRope
    obtain ⟨is, his, hs0, hs1, hs2⟩ := info_parts infoStr
    have Hir := Lib.hid (And.intro hir (And.intro hr0 (And.intro hr1 hr2)))
    have His := Lib.hid (And.intro his (And.intro hs0 (And.intro hs1 hs2)))
    clear hir hr0 hr1 hr2 his hs0 hs1 hs2
    have hps : mkB (pcOf s).text = s := by rw [pcOf_text]; exact mk_byt s
    have hpz : (pcOf s).size ≤ 20000 := by rw [pcOf_size]; exact hs
    have HN := New_ok s w0 hs
    generalize pcOf s = p0 at hps hpz HN
    have HN := Lib.hid HN
    go_enter Try.func4, Try.ntmps4
    go_wp2_with fail
    rw [← hw00]
    clear hw00
    refine Hsh.out.mono ?_
    rintro e w1 ⟨rfl, rfl⟩
    go_wp2_with fail
    refine HN.out.mono ?_
    rintro e w1 ⟨v1, rfl, hR1, hb1⟩
    obtain ⟨r1, vr1, rfl, hh1⟩ := id hR1
    clear hh1
    have hbx1 := (hb1.block _ hlt0).trans hbox
    have a0 : w1.cell? ⟨w.heap.size, 0, none⟩ = some (.int .i64 x) := cell_of hbx1 0
    have a1 : w1.cell? ⟨w.heap.size, 1, none⟩ = some (.int .i64 y) := cell_of hbx1 1
    go_wp2_with fail
    with_reducible refine (shows_any _ _ p0 s x y nn w1 hps hpz hR1).mono ?_
    rintro e w2 ⟨rfl, hb2⟩
    have hB2 := hb1.trans (hb2.mono hb1.size)
    have hR2 := hR1.below hb2
    clear hR1 a0 a1 hbx1
    go_wp2_with fail
    have hz2 := hB2.size
    have hc0 : Chain w2 [(.pointer (some ⟨r1, 0, none⟩), p0)] := by
      intro i z hz
      have : i = 0 := by
        rcases Nat.eq_zero_or_pos i with h | h
        · exact h
        · rw [List.getElem?_eq_none (by simp; omega)] at hz; cases hz
      subst this
      simp at hz
      subst hz
      exact ⟨hR2, hpz⟩
    have hb3 : Below w2.heap.size w2 (w2.alloc (.cells #[.pointer (some ⟨r1, 0, none⟩)] 37)) := (Below.refl _ _).alloc (Nat.le_refl _) _
    have hb4 := hb3.alloc hb3.size (.cells #[.string s] 9)
    have ho1 := ownsRow_below (World.ownsRow_lit (base := w0.heap.size) (e := 37) (size := 1) w2 #[.pointer (some ⟨r1, 0, none⟩)] 1 hz2 (by decide) (by simp)) ((Below.refl _ _).alloc (Nat.le_refl _) (.cells #[.string s] 9))
    have ho2 := World.ownsRow_lit (base := w0.heap.size) (e := 9) (size := 1) (w2.alloc (.cells #[.pointer (some ⟨r1, 0, none⟩)] 37)) #[.string s] 1 (Nat.le_trans hz2 hb3.size) (by decide) (by simp)
    have HO := Lib.hid (And.intro ho1 ho2)
    have HC := Lib.hid (hc0.below hb4)
    have hB4 := hB2.trans (hb4.mono hz2)
    clear ho1 ho2 hc0 hR2
    go_loopw [12, 13, 14] (fun vr vt i wr => ∃ (k n : Nat) (l : List (Value × Pc)), k ≤ L.length ∧ k ≤ 12 ∧ i = .int .i64 k ∧ l.length = n ∧ 1 ≤ n ∧ n ≤ k + 1 ∧ wr.ownsRow w0.heap.size 37 1 vr n (rc l) ∧ wr.ownsRow w0.heap.size 9 1 vt n (tc l) ∧ Chain wr l ∧ Below w0.heap.size w0 wr) (fun _ _ i _ => L.length - (intOf i).toNat)
    case atStart => exact ⟨0, 1, [(.pointer (some ⟨r1, 0, none⟩), p0)], by omega, by omega, rfl, rfl, by omega, by omega, HO.out.1, (by have h := HO.out.2; simpa [tc, hps] using h), HC.out, hB4⟩
    case round =>
      obtain ⟨k, n, l, hk, hk2, rfl, hln, hn1, hn2, hoR, hoT, hch, hB⟩ := hrel
      have hnn : wr.heap.size = wr.heap.size := rfl
      by_cases hlt : k < L.length ∧ k < 12
      · obtain ⟨hlt, hlt2⟩ := hlt
        obtain ⟨b, off, A0, c0, l0, rfl, hb0, k0, hE1, hl0, hs0⟩ := (hE0.below hB).get hlt
        have hcut : ∀ W, EdsV W A0 l0 → _ := fun W h => Cut_new 400 c0 A0 l0 W hl0 hs0 h
        have hsm := cutL_small (m := 400) (by omega) l0
        generalize cutL 400 l0 = l1 at hcut hsm
        have Hcut := Lib.hid hcut
        have hl1 := hsm.1
        obtain ⟨gR, cR, rfl, hgR1, hgR2⟩ := own_pos hoR (by omega)
        obtain ⟨gT, cT, rfl, hgT1, hgT2⟩ := own_pos hoT (by omega)
        obtain ⟨⟨vv, tr⟩, hxl⟩ : ∃ z, l[n - 1]? = some z := ⟨_, List.getElem?_eq_getElem (by omega)⟩
        have dR : wr.cell? ⟨gR, n - 1, none⟩ = some vv := (hoR.cellAt (n - 1) (by omega)).trans (rc_get hxl)
        have dT : wr.cell? ⟨gT, n - 1, none⟩ = some (.string (mkB tr.text)) := (hoT.cellAt (n - 1) (by omega)).trans (tc_get hxl)
        obtain ⟨hRr, htr⟩ := hch _ _ hxl
        simp only at hRr htr
        have s1 : IntKind.i64.wrap ((n : Int) - 1) = ((n - 1 : Nat) : Int) := by rw [IntWalk.i64_in _ (by omega)]; omega
        have n1 : n - 1 < n := by omega
        have hbl := bef_last hln hn1 hxl
        simp only at hbl
        obtain ⟨rr, vrr, rfl, hhr⟩ := id hRr
        have hT : tr.text = byt (mkB tr.text) := (byt_mkB _).symm
        have hTs : (mkB tr.text).size = tr.size := by rw [mkB_size, tr.size_text]
        obtain ⟨T, hTe⟩ : ∃ T, T = mkB tr.text := ⟨_, rfl⟩
        rw [← hTe] at hT hTs dT
        have HT := Lib.hid hT
        clear hTe hT
        have hcE : checkE T.size l1 = checkLen tr.size l1 := by unfold checkE; rw [if_neg (by omega), hTs]
        have HcE := Lib.hid hcE
        clear hcE
        clear hcut hl0 hs0 hhr
        go_wp2_with fail
        go_quiet (fail)
        have hbq := below_drewN (Below.refl wr.heap.size wr) nq
        obtain ⟨wa, hwa⟩ : ∃ wa, wa = wr.drewN nq := ⟨_, rfl⟩
        rw [← hwa] at hbq
        rw [← hwa]
        clear hwa
        have k0a : wa.cell? ⟨b, off + k, none⟩ = some (.slice A0 l0.length c0) := ((bcell hbq).1 _ _ hb0).trans k0
        have hBa := hB.trans (hbq.mono hB.size)
        go_wp2_with fail
        refine (Hcut.out wa (hE1.below hbq)).mono ?_
        rintro e w5 ⟨A1, c1, rfl, hE5, hA5, hb5⟩
        have hb5' := hbq.trans (hb5.mono hbq.size)
        by_cases hc : checkLen tr.size l1 = 0
        · have hcT : checkLen T.size l1 = 0 := by rw [hTs]; exact hc
          have hok := checkE_ok (HcE.out.trans hc)
          have Hr := Lib.hid hok.2.2.1
          have htz : T.size ≤ 20000 := by omega
          have hfin : (editedL T T.size 0 l1).length ≤ 20000 := by
            have e1 : (applyB T l1).size = (editedL T T.size 0 l1).length := by rw [← byt_length]; exact congrArg List.length (byt_mkB _)
            have e2 := applyB_size hok.2.2.1
            omega
          have HcT := Lib.hid hcT
          have Hc := Lib.hid hc
          have Hf := Lib.hid hfin
          have Happ : Hid (mkB (editedL T T.size 0 l1) = applyB T l1) := Lib.hid rfl
          clear hc hcT hok hfin
          go_wp2_with fail
          with_reducible refine (Edit_ok _ _ tr T c1 A1 l1 w5 hsm HT.out HcT.out htz Hr.out Hf.out hE5 (hRr.below hb5')).mono ?_
          rintro e w6 ⟨t2, ⟨v2, rfl, hR6, hb6⟩, htx2⟩
          have hb6' := hb5'.trans (hb6.mono hb5'.size)
          have hE6 := hE5.below hb6
          have hmk : mkB t2.text = applyB T l1 := by rw [htx2]; exact Happ.out
          have hz2' : t2.size ≤ 20000 := by rw [← t2.size_text, htx2]; exact Hf.out
          obtain ⟨r2, vr2, rfl, hh2⟩ := id hR6
          clear hh2 htx2 hE5
          go_wp2_with fail
          with_reducible refine (rCheck_any T c1 A1 l1 w6 hsm (by omega) hE6).mono ?_
          rw [HcE.out, Hc.out]
          rintro e w7 ⟨rfl, hb7⟩
          have hb7' := hb6'.trans (hb7.mono hb6'.size)
          have hE7 := hE6.below hb7
          have hR7 := hR6.below hb7
          clear hE6 hR6
          have hB7 := hB.trans (hb7'.mono hB.size)
          have hbx7 := (hB7.block _ hlt0).trans hbox
          have b0 : w7.cell? ⟨w.heap.size, 0, none⟩ = some (.int .i64 x) := cell_of hbx7 0
          have b1 : w7.cell? ⟨w.heap.size, 1, none⟩ = some (.int .i64 y) := cell_of hbx7 1
          have hlt7 : w.heap.size < w7.heap.size := lt_of hbx7
          clear hbx7
          go_wp2_with fail
          go_region_held3 (fun w' => Below w7.heap.size w7 w' ∧ w'.cell? ⟨w.heap.size, 0, none⟩ = some (.int .i64 x) ∧ w'.cell? ⟨w.heap.size, 1, none⟩ = some (.int .i64 y))
            (exact box_kept (by repeat (first | with_reducible exact Below.refl _ _ | with_reducible assumption | with_reducible refine Below.drew ?_ | with_reducible refine below_drewN ?_ _ | with_reducible refine below_call ?_ (Nat.le_refl _) hbC | with_reducible refine below_call ?_ (Nat.le_refl _) hbA)) hlt7 b0 b1)
            ((first
             | (go_at_call 12
                with_reducible refine (rApply_any T c1 A1 l1 _ hsm ?_ Hr.out ?_).mono ?_
                · omega
                · exact hE7.below (by repeat (first | with_reducible exact Below.refl _ _ | with_reducible assumption | with_reducible refine Below.drew ?_ | with_reducible refine below_drewN ?_ _))
                rintro e wA ⟨rfl, hbA⟩)
             | (go_at_call 17
                with_reducible refine (shows_any (.pointer (some ⟨r2, 0, none⟩)) (.pointer (some ⟨rr, 0, none⟩)) t2 (applyB T l1) x y nn _ hmk hz2' ?_).mono ?_
                · exact hR7.below (by repeat (first | with_reducible exact Below.refl _ _ | with_reducible assumption | with_reducible refine Below.drew ?_ | with_reducible refine below_drewN ?_ _ | with_reducible refine below_call ?_ (Nat.le_refl _) hbA))
                rintro e wC ⟨rfl, hbC⟩)))
          all_goals
            have hbw : Below w7.heap.size w7 wC := (by repeat (first | with_reducible exact Below.refl _ _ | with_reducible assumption | with_reducible refine Below.drew ?_ | with_reducible refine below_drewN ?_ _ | with_reducible refine below_call ?_ (Nat.le_refl _) hbC | with_reducible refine below_call ?_ (Nat.le_refl _) hbA))
            have hb8' := hb7'.trans (hbw.mono hb7'.size)
            have hE8 := hE7.below hbw
            have hR8 := hR7.below hbw
            have hoR8 := ownsRow_below hoR hb8'
            have hoT8 := ownsRow_below hoT hb8'
            have hch8 := hch.below hb8'
            have hB8 := hB.trans (hb8'.mono hB.size)
            have hz8 := hB8.size
            obtain ⟨hir, hir0, hir1, hir2⟩ := Hir.out
            obtain ⟨his, his0, his1, his2⟩ := His.out
            clear hE7 hR7 hoR hoT hch hbw
            have hA8 : ∀ b1 off1, A1 = some ⟨b1, off1, none⟩ → b1 < wC.heap.size → b1 ≠ gR := fun b1 off1 h _ => by have h1 := hA5 _ h; have h2 := hbq.size; simp only at h1; omega
            have hHA := Lib.hid hA8
            have hco : Below wC.heap.size wC (wC.alloc (.cells #[.pointer (some ⟨r2, 0, none⟩)] 37)) := (Below.refl _ _).alloc (Nat.le_refl _) _
            have hne8 := own_other hoT8 hoR8 (by omega) (by omega) (by decide)
            clear hA5 hA8
            go_wp2_with (at_builtin; refine wpList_append_own _ rfl _ _ 41 rfl w0.heap.size 37 ir _ 1 8 Try.underlying41 hir hir0 hir1 hir2 rfl (by decide) _ _ _ rfl (hoR8.alloc _) ⟨wC.heap.size, 0, none⟩ 1 1 [.pointer (some ⟨r2, 0, none⟩)] rfl rfl ?c1 ?c2 ?c3 ?c4 ?c5 ?_)
            case c1 => exact World.news_of_block (heap_alloc_new wC _)
            case c2 => simp [Value.oneCell']
            case c3 => unfold maxLen; omega
            case c4 => omega
            case c5 => simp; omega
            intro vR' w9 hoR9 hgrow9 _
            have hoT9 := (hoT8.alloc (.cells #[.pointer (some ⟨r2, 0, none⟩)] 37)).kept hgrow9 (.inr hne8)
            have hkp := keepRP_grown hco hgrow9 hoR8 (by omega) (by decide) (by decide)
            have hch9 := hch8.keepT hkp
            have hR9 := hR8.keepT hkp
            have hB9 := (hB8.alloc hz8 (.cells #[.pointer (some ⟨r2, 0, none⟩)] 37)).grown hgrow9 (Nat.le_trans hz8 hco.size) (fun g hg => (hoR8.lt g hg).1)
            have hE9 := hE8.keepAt hkp.1 (fun b1 off1 h h2 => (hgrow9.block b1 (Nat.lt_of_lt_of_le h2 hco.size) (by intro he; exact hHA.out b1 off1 h h2 (by simpa [Value.ownBlock] using he))).trans (hco.block b1 h2))
            clear hoT8 hoR8 hch8 hR8 hE8 hne8 hkp
            go_wp2_with fail
            with_reducible refine (rApply_any T c1 A1 l1 w9 hsm (by omega) Hr.out hE9).mono ?_
            rintro e w10 ⟨rfl, hb10⟩
            have hoR10 := ownsRow_below hoR9 hb10
            have hoT10 := ownsRow_below hoT9 hb10
            have hch10 := hch9.below hb10
            have hR10 := hR9.below hb10
            have hB10 := hB9.trans (hb10.mono hB9.size)
            have hz10 := hB10.size
            have hco2 : Below w10.heap.size w10 (w10.alloc (.cells #[.string (applyB T l1)] 9)) := (Below.refl _ _).alloc (Nat.le_refl _) _
            have hne10 := own_other hoR10 hoT10 (by omega) (by omega) (by decide)
            clear hoR9 hoT9 hch9 hR9 hE9 hgrow9
            go_wp2_with (at_builtin; refine wpList_append_own _ rfl _ _ 42 rfl w0.heap.size 9 is _ 1 16 Try.underlying42 his his0 his1 his2 rfl (by decide) _ _ _ rfl (hoT10.alloc _) ⟨w10.heap.size, 0, none⟩ 1 1 [.string (applyB T l1)] rfl rfl ?c1 ?c2 ?c3 ?c4 ?c5 ?_)
            case c1 => exact World.news_of_block (heap_alloc_new w10 _)
            case c2 => simp [Value.oneCell']
            case c3 => unfold maxLen; omega
            case c4 => omega
            case c5 => simp; omega
            intro vT' w11 hoT11 hgrow11 _
            have hoR11 := (hoR10.alloc (.cells #[.string (applyB T l1)] 9)).kept hgrow11 (.inr hne10)
            have hkp := keepRP_grown hco2 hgrow11 hoT10 (by omega) (by decide) (by decide)
            have hch11 := hch10.keepT hkp
            have hR11 := hR10.keepT hkp
            have hB11 := (hB10.alloc hz10 (.cells #[.string (applyB T l1)] 9)).grown hgrow11 (Nat.le_trans hz10 hco2.size) (fun g hg => (hoT10.lt g hg).1)
            clear hoT10 hoR10 hch10 hR10 hne10 hkp
            go_wp2_with fail
            refine ⟨⟨k + 1, n + 1, l ++ [(.pointer (some ⟨r2, 0, none⟩), t2)], by omega, by omega, by go_num, by simp [hln], by omega, by omega, ?_, ?_, ?_, hB11⟩, by simp [intOf]; omega⟩
            · rw [rc_snoc]; exact hoR11
            · rw [tc_snoc, hmk]; exact hoT11
            · exact hch11.snoc (by rw [hln, hbl]; exact hR11) hz2'
        · have Hc := Lib.hid hc
          have q : (checkLen tr.size l1 != 0) = true := by simpa using hc
          clear hc
          go_wp2_with fail
          with_reducible refine (Edit_no _ _ tr c1 A1 l1 w5 hsm Hc.out (by omega) hE5 (hRr.below hb5')).mono ?_
          rintro e w6 ⟨rfl, hb6⟩
          have hb6' := hb5'.trans (hb6.mono hb5'.size)
          have hE6 := hE5.below hb6
          clear hE5
          go_wp2_with fail
          with_reducible refine (rCheck_any T c1 A1 l1 w6 hsm (by omega) hE6).mono ?_
          rw [HcE.out]
          rintro e w7 ⟨rfl, hb7⟩
          have hb7' := hb6'.trans (hb7.mono hb6'.size)
          have hB7 := hB.trans (hb7'.mono hB.size)
          go_wp2_with fail
          refine ⟨⟨k + 1, n, l, by omega, by omega, by go_num, hln, hn1, by omega, ownsRow_below hoR hb7', ownsRow_below hoT hb7', hch.below hb7', hB7⟩, by simp [intOf]; omega⟩
      · obtain ⟨gR, cR, rfl, hgR1, hgR2⟩ := own_pos hoR (by omega)
        obtain ⟨gT, cT, rfl, hgT1, hgT2⟩ := own_pos hoT (by omega)
        have hcond : ¬ k < L.length ∨ (k < L.length ∧ ¬ k < 12) := by omega
        have HRR := Lib.hid hoR
        have HTT := Lib.hid hoT
        have HCC := Lib.hid hch
        have s0 : IntKind.i64.wrap ((n : Int) - 1) = (n : Int) - 1 := IntWalk.i64_in _ (by omega)
        clear hoR hoT hch hlt hE0
        rcases hcond with q1 | ⟨q1, q2⟩
        all_goals
          go_wp2_with fail
          go_loopw [21] (fun i wq => ∃ (j : Nat), j ≤ n ∧ i = .int .i64 ((j : Int) - 1) ∧ Below wr.heap.size wr wq) (fun i _ => ((intOf i) + 1).toNat)
          case atStart => exact ⟨n, by omega, rfl, Below.refl _ _⟩
          case round =>
            obtain ⟨j, hj, hi, hBq0⟩ := hrel
            have hBq := hB.trans (hBq0.mono hB.size)
            by_cases hj0 : j = 0
            · subst hj0
              have hi2 : u21 = .int .i64 (-1) := hi
              clear hi
              subst hi2
              go_wp2_with fail
              refine (alive_any wr).mono ?_
              rintro e wz ⟨rfl, hbz⟩
              go_wp2_with fail
              go_ret
              exact ⟨rfl, HW.out.trans ((hBq.trans (hbz.mono hBq.size)).mono HW.out.size)⟩
            · obtain ⟨m, rfl⟩ : ∃ m, j = m + 1 := ⟨j - 1, by omega⟩
              rw [show (((m + 1 : Nat) : Int) - 1) = (m : Int) by omega] at hi
              subst hi
              have hmn : m < n := by omega
              obtain ⟨⟨vm, tm⟩, hxm⟩ : ∃ z, l[m]? = some z := ⟨_, List.getElem?_eq_getElem (by omega)⟩
              have dR : wr.cell? ⟨gR, m, none⟩ = some vm := ((ownsRow_below HRR.out hBq0).cellAt m (by omega)).trans (rc_get hxm)
              have dT : wr.cell? ⟨gT, m, none⟩ = some (.string (mkB tm.text)) := ((ownsRow_below HTT.out hBq0).cellAt m (by omega)).trans (tc_get hxm)
              obtain ⟨hRm, htm⟩ := (HCC.out.below hBq0) _ _ hxm
              simp only at hRm htm
              have hbxq := (hBq.block _ hlt0).trans hbox
              have b0 : wr.cell? ⟨w.heap.size, 0, none⟩ = some (.int .i64 x) := cell_of hbxq 0
              have b1 : wr.cell? ⟨w.heap.size, 1, none⟩ = some (.int .i64 y) := cell_of hbxq 1
              have hltq : w.heap.size < wr.heap.size := lt_of hbxq
              have hgRq : gR < wr.heap.size := Nat.lt_of_lt_of_le hgR2 hBq0.size
              have hgTq : gT < wr.heap.size := Nat.lt_of_lt_of_le hgT2 hBq0.size
              obtain ⟨rm, vrm, rfl, hhm⟩ := id hRm
              clear hhm hbxq hj
              by_cases hm0 : m = 0
              · subst hm0
                rw [bef_zero] at hRm
                go_wp2_with fail
                refine (Undo_none _ tm wr hRm).mono ?_
                rintro e wz ⟨rfl, rfl⟩
                go_wp2_with fail
                go_region_held3 (fun w' => Below wr.heap.size wr w' ∧ w'.cell? ⟨w.heap.size, 0, none⟩ = some (.int .i64 x) ∧ w'.cell? ⟨w.heap.size, 1, none⟩ = some (.int .i64 y) ∧ w'.cell? ⟨gR, 0, none⟩ = some (.pointer (some ⟨rm, 0, none⟩)) ∧ w'.cell? ⟨gT, 0, none⟩ = some (.string (mkB tm.text)))
                  (exact box_kept4 (by repeat (first | with_reducible exact Below.refl _ _ | with_reducible assumption | with_reducible refine Below.drew ?_ | with_reducible refine below_drewN ?_ _ | with_reducible refine below_call ?_ (Nat.le_refl _) hbC | with_reducible refine below_call ?_ (Nat.le_refl _) hbA)) hltq b0 b1 hgRq hgTq dR dT)
                  ((go_at_call 17
                    with_reducible refine (shows_any (.pointer (some ⟨rm, 0, none⟩)) (.pointer none) tm (mkB tm.text) x y nn _ rfl htm ?_).mono ?_
                    · exact hRm.below (by repeat (first | with_reducible exact Below.refl _ _ | with_reducible assumption | with_reducible refine Below.drew ?_ | with_reducible refine below_drewN ?_ _))
                    rintro e wC ⟨rfl, hbC⟩))
                all_goals
                  have hbw : Below wr.heap.size wr wC := (by repeat (first | with_reducible exact Below.refl _ _ | with_reducible assumption | with_reducible refine Below.drew ?_ | with_reducible refine below_drewN ?_ _ | with_reducible refine below_call ?_ (Nat.le_refl _) hbC | with_reducible refine below_call ?_ (Nat.le_refl _) hbA))
                  go_wp2_with fail
                  refine ⟨⟨0, by omega, by go_num, hBq0.trans (hbw.mono hBq0.size)⟩, by simp [intOf]⟩
              · obtain ⟨⟨vp, tp⟩, hxp⟩ : ∃ z, l[m - 1]? = some z := ⟨_, List.getElem?_eq_getElem (by omega)⟩
                have hbm : bef l m = vp := by have := bef_succ hxp; rwa [show m - 1 + 1 = m by omega] at this
                have dP : wr.cell? ⟨gT, m - 1, none⟩ = some (.string (mkB tp.text)) := ((ownsRow_below HTT.out hBq0).cellAt (m - 1) (by omega)).trans (tc_get hxp)
                obtain ⟨hRp, htp⟩ := (HCC.out.below hBq0) _ _ hxp
                simp only at hRp htp
                obtain ⟨rp, vrp, rfl, hhp⟩ := id hRp
                rw [hbm] at hRm
                have s2 : IntKind.i64.wrap ((m : Int) - 1) = ((m - 1 : Nat) : Int) := by rw [IntWalk.i64_in _ (by omega)]; omega
                have n2 : m - 1 < n := by omega
                have q5 : (((m : Nat) : Int) == 0) = false := by rw [beq_eq_false_iff_ne]; omega
                clear hhp hbm
                go_wp2_with fail
                refine (Undo_ok _ _ tm wr hRm).mono ?_
                rintro e wz ⟨rfl, rfl⟩
                go_wp2_with fail
                go_region_held3 (fun w' => Below wr.heap.size wr w' ∧ w'.cell? ⟨w.heap.size, 0, none⟩ = some (.int .i64 x) ∧ w'.cell? ⟨w.heap.size, 1, none⟩ = some (.int .i64 y) ∧ w'.cell? ⟨gR, m, none⟩ = some (.pointer (some ⟨rm, 0, none⟩)) ∧ w'.cell? ⟨gT, m, none⟩ = some (.string (mkB tm.text)))
                  (exact box_kept4 (by repeat (first | with_reducible exact Below.refl _ _ | with_reducible assumption | with_reducible refine Below.drew ?_ | with_reducible refine below_drewN ?_ _ | with_reducible refine below_call ?_ (Nat.le_refl _) hbC | with_reducible refine below_call ?_ (Nat.le_refl _) hbA)) hltq b0 b1 hgRq hgTq dR dT)
                  ((go_at_call 17
                    with_reducible refine (shows_any (.pointer (some ⟨rm, 0, none⟩)) (.pointer (some ⟨rp, 0, none⟩)) tm (mkB tm.text) x y nn _ rfl htm ?_).mono ?_
                    · exact hRm.below (by repeat (first | with_reducible exact Below.refl _ _ | with_reducible assumption | with_reducible refine Below.drew ?_ | with_reducible refine below_drewN ?_ _))
                    rintro e wC ⟨rfl, hbC⟩))
                all_goals
                  have hbw : Below wr.heap.size wr wC := (by repeat (first | with_reducible exact Below.refl _ _ | with_reducible assumption | with_reducible refine Below.drew ?_ | with_reducible refine below_drewN ?_ _ | with_reducible refine below_call ?_ (Nat.le_refl _) hbC | with_reducible refine below_call ?_ (Nat.le_refl _) hbA))
                  have hBC := hBq0.trans (hbw.mono hBq0.size)
                  have hRp2 := hRp.below hbw
                  have e0 : wC.cell? ⟨w.heap.size, 0, none⟩ = some (.int .i64 x) := ((bcell hbw).1 _ 0 hltq).trans b0
                  have e1 : wC.cell? ⟨w.heap.size, 1, none⟩ = some (.int .i64 y) := ((bcell hbw).1 _ 1 hltq).trans b1
                  have dP2 : wC.cell? ⟨gT, m - 1, none⟩ = some (.string (mkB tp.text)) := ((bcell hbw).1 _ _ hgTq).trans dP
                  have hltC : w.heap.size < wC.heap.size := Nat.lt_of_lt_of_le hltq hbw.size
                  have hgTC : gT < wC.heap.size := Nat.lt_of_lt_of_le hgTq hbw.size
                  go_wp2_with fail
                  go_region_held3 (fun w' => Below wC.heap.size wC w' ∧ w'.cell? ⟨w.heap.size, 0, none⟩ = some (.int .i64 x) ∧ w'.cell? ⟨w.heap.size, 1, none⟩ = some (.int .i64 y) ∧ w'.cell? ⟨gT, m - 1, none⟩ = some (.string (mkB tp.text)) ∧ w'.cell? ⟨gT, m - 1, none⟩ = some (.string (mkB tp.text)))
                    (exact box_kept4 (by repeat (first | with_reducible exact Below.refl _ _ | with_reducible assumption | with_reducible refine Below.drew ?_ | with_reducible refine below_drewN ?_ _ | with_reducible refine below_call ?_ (Nat.le_refl _) hbA)) hltC e0 e1 hgTC hgTC dP2 dP2)
                    ((go_at_call 17
                      with_reducible refine (shows_any (.pointer (some ⟨rp, 0, none⟩)) (bef l (m - 1)) tp (mkB tp.text) x y nn _ rfl htp ?_).mono ?_
                      · exact hRp2.below (by repeat (first | with_reducible exact Below.refl _ _ | with_reducible assumption | with_reducible refine Below.drew ?_ | with_reducible refine below_drewN ?_ _))
                      rintro e wA ⟨rfl, hbA⟩))
                  all_goals
                    have hbw2 : Below wC.heap.size wC wA := (by repeat (first | with_reducible exact Below.refl _ _ | with_reducible assumption | with_reducible refine Below.drew ?_ | with_reducible refine below_drewN ?_ _ | with_reducible refine below_call ?_ (Nat.le_refl _) hbA))
                    go_wp2_with fail
                    refine ⟨⟨m, by omega, by go_num, hBC.trans (hbw2.mono hBC.size)⟩, by simp [intOf]; omega⟩
end Go.Proofs.Ytmbpjjehnfjdiaa.lawRopeEdits
