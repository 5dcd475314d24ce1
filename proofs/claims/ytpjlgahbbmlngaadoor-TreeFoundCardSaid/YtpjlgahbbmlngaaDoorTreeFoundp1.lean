/-
  TreeFound: the span of Find's leaf holds the byte; the span of Cover's node holds the span, and none of its kids' does. No condition: every input. (gen_wtd.py)
-/
import Derived.Test.YtpjlgahbbmlngaaDoorTreeLeavesp32
import Derived.Test.YtpjlgahbbmlngaaDoorTreeLeavesp34
import Derived.Test.YtpjlgahbbmlngaaDoorTreeLeavesp25
import Derived.Deep.RegionHeld3
import Derived.Deep.DeepCutAuto
import Derived.BigQuiet
import Derived.Deep.QuietTactic
namespace Go.Proofs.YtpjlgahbbmlngaaDoor.lawTreeFound
set_option linter.unusedVariables false
set_option linter.unusedSimpArgs false
open Go.ChangeShapes Go.WideShapes Go.RowKit

theorem own_keep {w w' : World} {base e size n : Nat} {v : Value} {xs : List Value} (h : w.ownsRow base e size v n xs) (hb : Below w.heap.size w w') : w'.ownsRow base e size v n xs :=
  own_same h (fun g e => hb.block g (h.lt g e).2)
theorem u16_of {n : Int} (h : (Lit.int .u16 n).wf = true) : 0 ≤ n ∧ n ≤ 65535 := by
  have h' : IntKind.u16.min ≤ n ∧ n ≤ IntKind.u16.max := by simpa [Lit.wf] using h
  have e1 : IntKind.u16.min = 0 := rfl
  have e2 : IntKind.u16.max = 65535 := rfl
  omega
theorem tmodN (a b : Nat) : ((a : Int)).tmod (b : Int) = ((a % b : Nat) : Int) := by rw [Int.tmod_eq_emod_of_nonneg (by omega)]; rfl

set_option maxRecDepth 100000 in
set_option maxHeartbeats 8000000 in
theorem walk (n0 : Nd) (v0 : Value) (hr0 : rawN n0) (a0 : Int) (ha0 : (Lit.int .u16 a0).wf = true) (b0 : Int) (hb0 : (Lit.int .u16 b0).wf = true) (w : World) (hT : Tabs w) (hN0 : NodeV w v0 n0) :
    Calls Tryd.prog 11 #[v0, .int .u16 a0, .int .u16 b0] w fun e w' => e = .returned (.bool true) ∧ Below w.heap.size w w' := by
  obtain ⟨an, rfl⟩ : ∃ m : Nat, a0 = (m : Int) := ⟨a0.toNat, by have := u16_of ha0; omega⟩
  obtain ⟨bn, rfl⟩ : ∃ m : Nat, b0 = (m : Int) := ⟨b0.toNat, by have := u16_of hb0; omega⟩
  have ha1 := (u16_of ha0).2
  have hb1 := (u16_of hb0).2
  clear ha0 hb0
  have hN := hN0
  obtain ⟨A0, c0, rfl, hk0⟩ := hN0
  have hB0 : Below w.heap.size w (w.alloc (.cells (nodeCells n0 A0 c0) 26)) := (Below.refl _ _).alloc (Nat.le_refl _) _
  have hcut := Cut_any n0 _ (w.alloc (.cells (nodeCells n0 A0 c0) 26)) hr0 (hN.below hB0)
  have hz := SmZ.of_cut (most := 600) (by decide) (by decide) n0
  have HT := Lib.hid (tabs_alloc (o := .cells (nodeCells n0 A0 c0) 26) hT)
  generalize cutM 600 n0 = z at hcut hz
  have Hcut := Lib.hid hcut
  have HZ := Lib.hid (show _ ∧ _ ∧ _ from ⟨hz, hz.size, hz.sum⟩)
  have HB0 := Lib.hid hB0
  clear hcut hz hT hN hk0 hr0 hB0
  cases hf : formedB z with
  | false =>
    have h18 := fun W v (t : Tabs W) (h : NodeV W v z) => Width_any z v W HZ.out.2.1 HZ.out.2.2 t h
    rw [hf] at h18
    simp only [Bool.false_eq_true, if_false] at h18
    have H18 := Lib.hid h18
    clear hf h18
    go_enter Tryd.func11, Tryd.ntmps11
    go_wp2_with (go_at_call 15; refine Hcut.out.mono ?_; rintro e w1 ⟨v1, rfl, ⟨A, c, rfl, hcc, hkp⟩, hb1⟩)
    have hBw : Below w.heap.size w w1 := HB0.out.trans (hb1.mono HB0.out.size)
    have KZ := Lib.hid (KeepZ.of (c := c) hcc hkp (HT.out.below hb1))
    have BB := Lib.hid (hBw.alloc (o := .cells (nodeCells z A c) 26) hBw.size)
    clear hBw hb1 hkp hcc
    obtain ⟨wa, hwa⟩ : ∃ x, x = w1.alloc (.cells (nodeCells z A c) 26) := ⟨_, rfl⟩
    rw [show w1.alloc (.cells #[.int .i64 z.kind, .int .i64 z.tok.1, .string z.tok.2, .slice A z.kids.length c] 26) = wa from hwa.symm]
    rw [← hwa] at KZ BB
    obtain ⟨bz, hbz⟩ : ∃ x, x = w1.heap.size := ⟨_, rfl⟩
    rw [← hbz] at KZ
    rw [← hbz]
    clear hwa hbz
    refine (H18.out wa _ KZ.out.tabs KZ.out.node).mono ?_
    rintro e w2 ⟨rfl, hb⟩
    have KZ := Lib.hid (KZ.out.below hb)
    have BB := Lib.hid (BB.out.trans (hb.mono BB.out.size))
    clear hb
    go_wp2_with fail
    refine (alive5_any w2 KZ.out.tabs).mono ?_
    rintro e w4 ⟨rfl, hb⟩
    have KZ := Lib.hid (KZ.out.below hb)
    have BB := Lib.hid (BB.out.trans (hb.mono BB.out.size))
    clear hb
    go_wp2_with fail
    go_ret
    exact ⟨rfl, BB.out⟩
  | true =>
    have hparts : partsN z = true := by
      have := hf
      unfold formedB at this
      simp only [Bool.and_eq_true] at this
      exact this.1.1
    have hE : totN z ≤ 1000000000000 := by rw [totN_sum z hparts]; exact HZ.out.2.2
    have hE2 : endS z := by unfold endS; rw [endW_walkN]; exact hE
    have h18 := fun W v (t : Tabs W) (h : NodeV W v z) => Width_any z v W HZ.out.2.1 HZ.out.2.2 t h
    rw [hf] at h18
    simp only [if_true] at h18
    obtain ⟨S, hS⟩ : ∃ S, S = sumT (leavesN z) := ⟨_, rfl⟩
    have hSs : S ≤ 1000000000000 := by rw [hS]; exact HZ.out.2.2
    obtain ⟨fr, hfr⟩ : ∃ fr, fr = an % (S + 1) := ⟨_, rfl⟩
    obtain ⟨tq, hto⟩ : ∃ tq, tq = bn % (S + 1) := ⟨_, rfl⟩
    obtain ⟨lo, hlo⟩ : ∃ lo, lo = min fr tq := ⟨_, rfl⟩
    obtain ⟨hi, hhi⟩ : ∃ hi, hi = max fr tq := ⟨_, rfl⟩
    have hfrS : fr ≤ S := by rw [hfr]; have := Nat.mod_lt an (show 0 < S + 1 by omega); omega
    have htoS : tq ≤ S := by rw [hto]; have := Nat.mod_lt bn (show 0 < S + 1 by omega); omega
    obtain ⟨p, x, b, hcov, hgo, hb1x, hb2x, hpl, hkid⟩ := cover_holds (a := lo) (c := hi) hf (by omega) (by omega)
    have hcv := fun W v (t : Tabs W) (h : NodeV W v z) => Cover_any z (lo : Nat) (hi : Nat) v W HZ.out.2.1 hE t h
    rw [hcov] at hcv
    have hfd := fun W v (t : Tabs W) (h : NodeV W v z) => Find_any z (fr : Nat) v W HZ.out.2.1 HZ.out.2.2 hE2 t h
    rw [← hS] at h18
    have g1 : IntKind.i64.wrap (an : Int) = (an : Int) := IntWalk.i64_in _ (by omega)
    have g2 : IntKind.i64.wrap (bn : Int) = (bn : Int) := IntWalk.i64_in _ (by omega)
    have g3 : IntKind.i64.wrap ((S : Int) + 1) = ((S + 1 : Nat) : Int) := by rw [IntWalk.i64_in _ (by omega)]; omega
    have g4 : ((an : Int)).tmod ((S + 1 : Nat) : Int) = (fr : Int) := by rw [tmodN, hfr]
    have g5 : ((bn : Int)).tmod ((S + 1 : Nat) : Int) = (tq : Int) := by rw [tmodN, hto]
    have g6 : ¬ ((S + 1 : Nat) : Int) = 0 := by omega
    have g7 : min (fr : Int) (tq : Int) = (lo : Int) := by omega
    have g8 : max (fr : Int) (tq : Int) = (hi : Int) := by omega
    have g9 : IntKind.i64.wrap (fr : Int) = (fr : Int) := IntWalk.i64_in _ (by omega)
    have g10 : IntKind.i64.wrap (tq : Int) = (tq : Int) := IntWalk.i64_in _ (by omega)
    have hxp : partsN x = true := (goR_facts hgo).2.2 hparts
    have hxc : x.kids.length ≤ 600 := by
      have h1 := countN_kids x
      have h2 := len_countL x.kids
      have h3 := HZ.out.1.count
      have h4 := (goR_facts hgo).1
      omega
    have r1 : ((an : Int) % ((S : Int) + 1)) = (fr : Int) := by rw [hfr]; simp
    have r2 : ((bn : Int) % ((S : Int) + 1)) = (tq : Int) := by rw [hto]; simp
    have HR := Lib.hid (show _ ∧ _ from ⟨r1, r2⟩)
    have HCV : Hid (∀ W v, Tabs W → NodeV W v z → Calls Tryd.prog 45 #[v, .agg #[.int .i64 (lo : Nat), .int .i64 (hi : Nat)]] W fun e w' => ∃ v', e = .returned (.tuple #[v', .int .i64 0]) ∧ w'.ownsRow W.heap.size 3 1 v' p.length (intCells p) ∧ Below W.heap.size W w') := hcv
    have HFD := Lib.hid hfd
    have H18 := Lib.hid h18
    have HF := Lib.hid (show _ ∧ _ ∧ _ ∧ _ ∧ _ from ⟨hf, hparts, hgo, hkid, (by simpa [intL] using (by omega : p.length ≤ 1000000000) : (intL p).length ≤ 1000000000)⟩)
    have HS := Lib.hid hS
    have HPL := Lib.hid (show p.length ≤ 1000000000 - 1 by omega)
    have HPL2 := Lib.hid hpl
    have hfind : fr < S → ∃ p x b, findR z fr = (0, p) ∧ goR z (intL p) 0 = some (x, b) ∧ x.kind = 1 ∧ b ≤ fr ∧ fr < b + sumT (leavesN x) ∧ p.length ≤ 1000 := fun h => find_holds hf (by omega)
    have HFI := Lib.hid hfind
    clear r1 r2
    clear hf hparts hE hE2 h18 hS hfr hto hlo hhi hcov hgo hkid hcv hfd hxp hfind ha1 hb1 hpl
    go_enter Tryd.func11, Tryd.ntmps11
    go_wp2_with (go_at_call 15; refine Hcut.out.mono ?_; rintro e w1 ⟨v1, rfl, ⟨A, c, rfl, hcc, hkp⟩, hb1⟩)
    have hBw : Below w.heap.size w w1 := HB0.out.trans (hb1.mono HB0.out.size)
    have KZ := Lib.hid (KeepZ.of (c := c) hcc hkp (HT.out.below hb1))
    have BB := Lib.hid (hBw.alloc (o := .cells (nodeCells z A c) 26) hBw.size)
    clear hBw hb1 hkp hcc
    obtain ⟨wa, hwa⟩ : ∃ x, x = w1.alloc (.cells (nodeCells z A c) 26) := ⟨_, rfl⟩
    rw [show w1.alloc (.cells #[.int .i64 z.kind, .int .i64 z.tok.1, .string z.tok.2, .slice A z.kids.length c] 26) = wa from hwa.symm]
    rw [← hwa] at KZ BB
    obtain ⟨bz, hbz⟩ : ∃ x, x = w1.heap.size := ⟨_, rfl⟩
    rw [← hbz] at KZ
    rw [← hbz]
    clear hwa hbz
    refine (H18.out wa _ KZ.out.tabs KZ.out.node).mono ?_
    rintro e w2 ⟨rfl, hb⟩
    have KZ := Lib.hid (KZ.out.below hb)
    have BB := Lib.hid (BB.out.trans (hb.mono BB.out.size))
    clear hb
    go_wp2_with fail
    go_quiet (fail)
    rw [HR.out.1, HR.out.2]
    clear g1 g2 g3 g4 g5 g6
    obtain ⟨w3, hw⟩ : ∃ u, u = w2.drewN nq := ⟨_, rfl⟩
    have hb : Below w2.heap.size w2 w3 := by rw [hw]; exact Below.drewN' (Below.refl _ _)
    rw [← hw]
    have KZ := Lib.hid (KZ.out.below hb)
    have BB := Lib.hid (BB.out.trans (hb.mono BB.out.size))
    clear hw hb
    go_upto_if 57 with fail
    clear g7 g8 g9 g10
    have hb := allocB w3 (.cells #[.int .i64 (lo : Nat), .int .i64 (hi : Nat)] 62)
    obtain ⟨w3a, hw⟩ : ∃ u, u = w3.alloc (.cells #[.int .i64 (lo : Nat), .int .i64 (hi : Nat)] 62) := ⟨_, rfl⟩
    have h12 : w3a.heap[w3.heap.size]? = some (.cells #[.int .i64 (lo : Nat), .int .i64 (hi : Nat)] 62 (0, 0)) := by rw [hw]; exact alloc_at _ _ _ rfl
    rw [← hw] at hb
    rw [← hw]
    obtain ⟨b12, hbb⟩ : ∃ x, x = w3.heap.size := ⟨_, rfl⟩
    rw [← hbb] at h12
    rw [← hbb]
    have KZ := Lib.hid (KZ.out.below hb)
    have BB := Lib.hid (BB.out.trans (hb.mono BB.out.size))
    have N12 := Lib.hid h12
    clear hw hb hbb h12
    go_cut [6] (fun s6 W5 => s6 = .bool false ∧ Below w3a.heap.size w3a W5)
    case first =>
      by_cases hlt : fr < S
      · obtain ⟨p1, x1, b1, e1, e2, e3, e4, e5, e6⟩ := HFI.out hlt
        have l1 : (fr : Int) < (S : Int) := by omega
        have HFD1 : Hid (∀ W v, Tabs W → NodeV W v z → Calls Tryd.prog 44 #[v, .int .i64 (fr : Nat)] W fun e w' => ∃ v', e = .returned (.tuple #[v', .int .i64 0]) ∧ w'.ownsRow W.heap.size 3 1 v' p1.length (intCells p1) ∧ Below W.heap.size W w') := fun W v t h => by
          have := HFD.out W v t h
          rw [e1] at this
          exact this
        have hl1 : (intL p1).length ≤ 1000000000 := by simpa [intL] using (by omega : p1.length ≤ 1000000000)
        obtain ⟨be1, hbe1⟩ : ∃ be, be = b1 + sumT (leavesN x1) := ⟨_, rfl⟩
        rw [← hbe1] at e5
        have i1 : decide ((fr : Int) < (b1 : Int)) = false := decide_eq_false (by omega)
        have i2 : ¬ (fr : Int) < (b1 : Int) := by omega
        have i3 : decide ((be1 : Int) ≤ (fr : Int)) = false := decide_eq_false (by omega)
        have i4 : ¬ (be1 : Int) ≤ (fr : Int) := by omega
        have HI := Lib.hid (show _ ∧ _ ∧ _ ∧ _ from ⟨e2, hl1, hbe1, e3⟩)
        have BW := Lib.hid (Below.refl w3a.heap.size w3a)
        clear e1 e2 e3 e4 e5 e6 hl1 hbe1
        obtain ⟨q0, q1, q2, q3⟩ := cells_of_block KZ.out.box
        go_wp2_with fail
        try clear q0 q1 q2 q3
        try clear hlt5
        refine (HFD1.out w3a _ KZ.out.tabs KZ.out.node).mono ?_
        rintro e w4 ⟨v4, rfl, hrow, hb⟩
        have KZ := Lib.hid (KZ.out.below hb)
        have BB := Lib.hid (BB.out.trans (hb.mono BB.out.size))
        have N12 := Lib.hid (keepB N12.out hb)
        have BW := Lib.hid (BW.out.trans (hb.mono BW.out.size))
        obtain ⟨Ap, cp, hv, hI⟩ := IntsR.of_own hrow
        have hv2 : v4 = .slice Ap (intL p1).length cp := by simpa [intL] using hv
        clear hv
        subst hv2
        have PR := Lib.hid hrow
        have IP := Lib.hid (show IntsR w4 Ap (intL p1) from hI)
        clear hrow hI
        obtain ⟨q0, q1, q2, q3⟩ := cells_of_block KZ.out.box
        have hlt5 : bz < w4.heap.size := (Array.getElem?_eq_some_iff.1 KZ.out.box).1
        clear hb
        go_wp2_with fail
        try clear q0 q1 q2 q3
        try clear hlt5
        refine (Span_ok z x1 b1 _ (intL p1) Ap cp w4 HZ.out.2.1 HZ.out.2.2 KZ.out.tabs KZ.out.nodeC HI.out.2.1 IP.out HF.out.1 HI.out.1).mono ?_
        rintro e w5 ⟨rfl, hb⟩
        have KZ := Lib.hid (KZ.out.below hb)
        have BB := Lib.hid (BB.out.trans (hb.mono BB.out.size))
        have N12 := Lib.hid (keepB N12.out hb)
        have BW := Lib.hid (BW.out.trans (hb.mono BW.out.size))
        have PR := Lib.hid (own_keep PR.out hb)
        have IP := Lib.hid (IP.out.below hb)
        rw [← HI.out.2.2.1]
        obtain ⟨q0, q1, q2, q3⟩ := cells_of_block KZ.out.box
        have hlt5 : bz < w5.heap.size := (Array.getElem?_eq_some_iff.1 KZ.out.box).1
        clear hb
        go_wp2_with fail
        try clear q0 q1 q2 q3
        try clear hlt5
        have hb := allocB w5 (.cells #[.int .i64 (b1 : Nat), .int .i64 (be1 : Nat)] 62)
        obtain ⟨w5a, hw⟩ : ∃ u, u = w5.alloc (.cells #[.int .i64 (b1 : Nat), .int .i64 (be1 : Nat)] 62) := ⟨_, rfl⟩
        have h15 : w5a.heap[w5.heap.size]? = some (.cells #[.int .i64 (b1 : Nat), .int .i64 (be1 : Nat)] 62 (0, 0)) := by rw [hw]; exact alloc_at _ _ _ rfl
        rw [← hw] at hb
        rw [← hw]
        obtain ⟨b15, hbb⟩ : ∃ x, x = w5.heap.size := ⟨_, rfl⟩
        rw [← hbb] at h15
        rw [← hbb]
        have KZ := Lib.hid (KZ.out.below hb)
        have BB := Lib.hid (BB.out.trans (hb.mono BB.out.size))
        have N12 := Lib.hid (keepB N12.out hb)
        have BW := Lib.hid (BW.out.trans (hb.mono BW.out.size))
        have PR := Lib.hid (own_keep PR.out hb)
        have IP := Lib.hid (IP.out.below hb)
        have N15 := Lib.hid h15
        clear hw hb hbb h15
        refine (At_ok z x1 b1 _ (intL p1) Ap cp w5a HZ.out.2.1 HZ.out.2.2 KZ.out.tabs KZ.out.nodeC HI.out.2.1 IP.out HF.out.1 HI.out.1).mono ?_
        rintro e w6 ⟨⟨v6, rfl, ⟨A2, c2, rfl, hc2, _⟩⟩, hb⟩
        have KZ := Lib.hid (KZ.out.below hb)
        have BB := Lib.hid (BB.out.trans (hb.mono BB.out.size))
        have N12 := Lib.hid (keepB N12.out hb)
        have BW := Lib.hid (BW.out.trans (hb.mono BW.out.size))
        have PR := Lib.hid (own_keep PR.out hb)
        have IP := Lib.hid (IP.out.below hb)
        have N15 := Lib.hid (keepB N15.out hb)
        have k1 : (x1.kind != 1) = false := by rw [HI.out.2.2.2]; rfl
        have s0 := Lib.cell_of_heap N15.out 0
        have s1 := Lib.cell_of_heap N15.out 1
        have hlt15 : b15 < w6.heap.size := (Array.getElem?_eq_some_iff.1 N15.out).1
        clear hb
        go_wp2_with fail
        go_meet
        exact ⟨rfl, BW.out.alloc BW.out.size _⟩
      · have l1 : decide ((fr : Int) < (S : Int)) = false := decide_eq_false (by omega)
        have l2 : ¬ (fr : Int) < (S : Int) := by omega
        go_wp2_with fail
        go_meet
        exact ⟨rfl, Below.refl _ _⟩
    case rest =>
      obtain ⟨rfl, hb⟩ := hcut
      have KZ := Lib.hid (KZ.out.below hb)
      have BB := Lib.hid (BB.out.trans (hb.mono BB.out.size))
      have N12 := Lib.hid (keepB N12.out hb)
      clear hb

      have s0 := Lib.cell_of_heap N12.out 0
      have s1 := Lib.cell_of_heap N12.out 1
      obtain ⟨q0, q1, q2, q3⟩ := cells_of_block KZ.out.box
      go_wp2_with fail
      try clear q0 q1 q2 q3
      try clear hlt5
      clear s0 s1
      refine (HCV.out wc _ KZ.out.tabs KZ.out.node).mono ?_
      rintro e w4 ⟨v4, rfl, hrow, hb⟩
      have KZ := Lib.hid (KZ.out.below hb)
      have BB := Lib.hid (BB.out.trans (hb.mono BB.out.size))
      have N12 := Lib.hid (keepB N12.out hb)
      obtain ⟨Ap, cp, hv, hI⟩ := IntsR.of_own hrow
      have hv2 : v4 = .slice Ap (intL p).length cp := by simpa [intL] using hv
      clear hv
      subst hv2
      have PR := Lib.hid hrow
      have IP := Lib.hid (show IntsR w4 Ap (intL p) from hI)
      clear hrow hI
      obtain ⟨q0, q1, q2, q3⟩ := cells_of_block KZ.out.box
      have hlt5 : bz < w4.heap.size := (Array.getElem?_eq_some_iff.1 KZ.out.box).1
      clear hb
      go_wp2_with fail
      try clear q0 q1 q2 q3
      try clear hlt5
      refine (Span_ok z x b _ (intL p) Ap cp w4 HZ.out.2.1 HZ.out.2.2 KZ.out.tabs KZ.out.nodeC HF.out.2.2.2.2 IP.out HF.out.1 HF.out.2.2.1).mono ?_
      rintro e w5 ⟨rfl, hb⟩
      have KZ := Lib.hid (KZ.out.below hb)
      have BB := Lib.hid (BB.out.trans (hb.mono BB.out.size))
      have N12 := Lib.hid (keepB N12.out hb)
      have PR := Lib.hid (own_keep PR.out hb)
      have IP := Lib.hid (IP.out.below hb)
      obtain ⟨q0, q1, q2, q3⟩ := cells_of_block KZ.out.box
      have hlt5 : bz < w5.heap.size := (Array.getElem?_eq_some_iff.1 KZ.out.box).1
      clear hb
      obtain ⟨be, hbe⟩ : ∃ be, be = b + sumT (leavesN x) := ⟨_, rfl⟩
      rw [← hbe] at hb2x
      rw [← hbe]
      clear hbe
      go_wp2_with fail
      try clear q0 q1 q2 q3
      try clear hlt5
      have hb := allocB w5 (.cells #[.int .i64 (b : Nat), .int .i64 (be : Nat)] 62)
      obtain ⟨w5a, hw⟩ : ∃ u, u = w5.alloc (.cells #[.int .i64 (b : Nat), .int .i64 (be : Nat)] 62) := ⟨_, rfl⟩
      have h21 : w5a.heap[w5.heap.size]? = some (.cells #[.int .i64 (b : Nat), .int .i64 (be : Nat)] 62 (0, 0)) := by rw [hw]; exact alloc_at _ _ _ rfl
      rw [← hw] at hb
      rw [← hw]
      obtain ⟨b21, hbb⟩ : ∃ x, x = w5.heap.size := ⟨_, rfl⟩
      rw [← hbb] at h21
      rw [← hbb]
      have KZ := Lib.hid (KZ.out.below hb)
      have BB := Lib.hid (BB.out.trans (hb.mono BB.out.size))
      have N12 := Lib.hid (keepB N12.out hb)
      have PR := Lib.hid (own_keep PR.out hb)
      have IP := Lib.hid (IP.out.below hb)
      have N21 := Lib.hid h21
      clear hw hb hbb h21
      refine (At_ok z x b _ (intL p) Ap cp w5a HZ.out.2.1 HZ.out.2.2 KZ.out.tabs KZ.out.nodeC HF.out.2.2.2.2 IP.out HF.out.1 HF.out.2.2.1).mono ?_
      rintro e w6 ⟨⟨v6, rfl, ⟨A2, c2, rfl, hc2, _⟩⟩, hb⟩
      have KZ := Lib.hid (KZ.out.below hb)
      have BB := Lib.hid (BB.out.trans (hb.mono BB.out.size))
      have N12 := Lib.hid (keepB N12.out hb)
      have PR := Lib.hid (own_keep PR.out hb)
      have IP := Lib.hid (IP.out.below hb)
      have N21 := Lib.hid (keepB N21.out hb)
      have j1 : decide ((lo : Int) < (b : Int)) = false := decide_eq_false (by omega)
      have j2 : ¬ (lo : Int) < (b : Int) := by omega
      have j5 : decide (lo < b) = false := decide_eq_false (by omega)
      have j6 : decide (be < hi) = false := decide_eq_false (by omega)
      have j3 : decide ((be : Int) < (hi : Int)) = false := decide_eq_false (by omega)
      have j4 : ¬ (be : Int) < (hi : Int) := by omega
      have s0 := Lib.cell_of_heap N21.out 0
      have s1 := Lib.cell_of_heap N21.out 1
      have s2 := Lib.cell_of_heap N12.out 0
      have s3 := Lib.cell_of_heap N12.out 1
      have hlt12 : b12 < w6.heap.size := (Array.getElem?_eq_some_iff.1 N12.out).1
      have hlt21 : b21 < w6.heap.size := (Array.getElem?_eq_some_iff.1 N21.out).1
      clear hb
      go_wp2_with fail
      clear s0 s1 s2 s3 hlt12 hlt21 j1 j2 j3 j4 j5 j6
      have hb := allocB w6 (.cells #[.int .i64 x.kind, .int .i64 x.tok.1, .string x.tok.2, .slice A2 x.kids.length c2] 26)
      obtain ⟨w6a, hw⟩ : ∃ u, u = w6.alloc (.cells #[.int .i64 x.kind, .int .i64 x.tok.1, .string x.tok.2, .slice A2 x.kids.length c2] 26) := ⟨_, rfl⟩
      have h23 : w6a.heap[w6.heap.size]? = some (.cells #[.int .i64 x.kind, .int .i64 x.tok.1, .string x.tok.2, .slice A2 x.kids.length c2] 26 (0, 0)) := by rw [hw]; exact alloc_at _ _ _ rfl
      rw [← hw] at hb
      rw [← hw]
      obtain ⟨b23, hbb⟩ : ∃ x, x = w6.heap.size := ⟨_, rfl⟩
      rw [← hbb] at h23
      rw [← hbb]
      have KZ := Lib.hid (KZ.out.below hb)
      have BB := Lib.hid (BB.out.trans (hb.mono BB.out.size))
      have N12 := Lib.hid (keepB N12.out hb)
      have PR := Lib.hid (own_keep PR.out hb)
      have IP := Lib.hid (IP.out.below hb)
      have N21 := Lib.hid (keepB N21.out hb)
      have N23 := Lib.hid h23
      clear hw hb hbb h23
      go_loopw [25] (fun i wr => ∃ k : Nat, k ≤ x.kids.length ∧ i = .int .i64 k ∧ Below w6a.heap.size w6a wr) (fun i _ => x.kids.length - (intOf i).toNat)
      case atStart => exact ⟨0, Nat.zero_le _, rfl, Below.refl _ _⟩
      case round =>
        obtain ⟨k, hkl, rfl, hb⟩ := hrel
        have KZ := Lib.hid (KZ.out.below hb)
        have BB := Lib.hid (BB.out.trans (hb.mono BB.out.size))
        have PR := Lib.hid (own_keep PR.out hb)
        have N12 := Lib.hid (keepB N12.out hb)
        have N23 := Lib.hid (keepB N23.out hb)
        have BR := Lib.hid hb
        have q23 := Lib.cell_of_heap N23.out 3
        have hk00 : (0 : Int) ≤ (k : Int) := by omega
        clear hb
        by_cases hlt : k < x.kids.length
        · have hk2 : (k : Int) < (x.kids.length : Int) := by omega
          have hy0 : x.kids[k]? = some x.kids[k] := List.getElem?_eq_getElem hlt
          obtain ⟨y, hy⟩ : ∃ y, y = x.kids[k] := ⟨_, rfl⟩
          rw [← hy] at hy0
          have hkd := HF.out.2.2.2.1 k y hy0
          obtain ⟨fk, hfk⟩ : ∃ fk, fk = b + sumT (leavesL (x.kids.take k)) := ⟨_, rfl⟩
          obtain ⟨tk, htk⟩ : ∃ tk, tk = fk + sumT (leavesN y) := ⟨_, rfl⟩
          rw [← hfk, ← htk] at hkd
          have hgk : goR z (intL (p ++ [k])) 0 = some (y, fk) := by rw [intL_append, hfk]; exact goR_snoc HF.out.2.2.1 hy0
          have hpl2 : p.length ≤ 1000000000 - 1 := HPL.out
          have hspan : ∀ W v f g, PkSt wr k (p ++ [k]) v f g W → Calls Tryd.prog 38 #[.agg #[.int .i64 z.kind, .int .i64 z.tok.1, .string z.tok.2, .slice A z.kids.length c], v] W fun e w' => e = .returned (.tuple #[.agg #[.int .i64 (fk : Nat), .int .i64 (tk : Nat)], .int .i64 0]) ∧ Below W.heap.size W w' := fun W v f g st => by
            obtain ⟨Aq, cq, rfl, hI⟩ := st.arg
            have KW := KZ.out.below st.below
            rw [htk]
            exact Span_ok z y fk _ (intL (p ++ [k])) Aq cq W HZ.out.2.1 HZ.out.2.2 KW.tabs KW.nodeC (by simp [intL]; omega) hI HF.out.1 hgk
          have HSpan := Lib.hid hspan
          have HKD := Lib.hid hkd
          clear hfk hy hy0 htk hgk hspan hkd
          have hp10 : p.length ≤ 1000 := HPL2.out
          go_upto_region 21 with fail
          go_cut [26, 27] (fun s26 s27 W5 => ∃ bs : Nat, s26 = .pointer (some ⟨bs, 0, none⟩) ∧ s27 = .int .i64 0 ∧ W5.heap[bs]? = some (.cells #[.int .i64 (fk : Nat), .int .i64 (tk : Nat)] 62 (0, 0)) ∧ Below wr.heap.size wr W5)
          case first =>
            refine wp_region_held_drew (S := (fun W => W.cell? ⟨bz, 0, none⟩ = some (.int .i64 z.kind) ∧ W.cell? ⟨bz, 1, none⟩ = some (.int .i64 z.tok.1) ∧ W.cell? ⟨bz, 2, none⟩ = some (.string z.tok.2) ∧ W.cell? ⟨bz, 3, none⟩ = some (.slice A z.kids.length c))) (by kernel_rfl) ?_ (fun hHeld => ?_)
            · exact keptN (Below.drew (Below.refl _ _)) KZ.out.box
            have st := PkSt.init wr k
            obtain ⟨W0, hw⟩ : ∃ x, x = wr.drew := ⟨_, rfl⟩
            rw [← hw] at st hHeld
            rw [← hw]
            clear hw
            refine wpAnyH_take (i := 0) (oi := ⟨some 153, _, _, _, _, _⟩) (v := ?_) rfl (by kernel_rfl) (by kernel_rfl) (by kernel_rfl) (fun _ _ _ h => h) (Or.inl ⟨by rfl, ?hy⟩) (by assumption) ?_
            case hy => (intro w hSw; (try dsimp only at hSw); go_simp; (try with_reducible rfl))
            try simp only [Act.put, List.setIfInBounds_toArray, List.set_cons_zero, List.set_cons_succ]
            refine wpAnyH_take (i := 2) (oi := ⟨some 155, _, _, _, _, _⟩) (v := ?_) rfl (by kernel_rfl) (by kernel_rfl) (by kernel_rfl) (fun _ _ _ h => h) (Or.inl ⟨by rfl, ?hy⟩) (by assumption) ?_
            case hy => (intro w hSw; (try dsimp only at hSw); go_simp; (try with_reducible rfl))
            try simp only [Act.put, List.setIfInBounds_toArray, List.set_cons_zero, List.set_cons_succ]
            refine wpAnyH_take (i := 4) (oi := ⟨some 157, _, _, _, _, _⟩) (v := ?_) rfl (by kernel_rfl) (by kernel_rfl) (by kernel_rfl) (fun _ _ _ h => h) (Or.inl ⟨by rfl, ?hy⟩) (by assumption) ?_
            case hy => (intro w hSw; (try dsimp only at hSw); go_simp; (try with_reducible rfl))
            try simp only [Act.put, List.setIfInBounds_toArray, List.set_cons_zero, List.set_cons_succ]
            refine wpAnyH_ready (rs := [1, 5, 11]) (by kernel_rfl) (by simp) ?_
            refine AllReadyH.cons (o := ⟨some 154, _, _, _, _, _⟩) rfl (fun K hK => ?_) (AllReadyH.cons (o := ⟨some 158, _, _, _, _, _⟩) rfl (fun K hK => ?_) (AllReadyH.cons (o := ⟨some 26, _, _, _, _, _⟩) rfl (fun K hK => ?_) AllReadyH.nil))
            · go_simp
              have sn := st.zero
              refine hK.out _ _ ?_ (fun hHeld => ?_)
              · exact keptN sn.below KZ.out.box
              clear hK K st
              try simp only [Act.put, List.setIfInBounds_toArray, List.set_cons_zero, List.set_cons_succ]
              obtain ⟨bz, hc⟩ : ∃ x, x = W0.heap.size := ⟨_, rfl⟩
              obtain ⟨W1, hw⟩ : ∃ x, x = W0.alloc (.cells #[] 3) := ⟨_, rfl⟩
              rw [← hw] at sn hHeld
              rw [← hw]
              rw [← hc] at sn
              rw [← hc]
              obtain ⟨vz, hv⟩ : ∃ x : Value, x = .slice (some ⟨bz, 0, none⟩) 0 0 := ⟨_, rfl⟩
              rw [← hv] at sn
              rw [← hv]
              clear hv
              clear hw hc
              have st := sn
              clear sn
              refine wpAnyH_ready (rs := [3, 5, 11]) (by kernel_rfl) (by simp) ?_
              refine AllReadyH.cons (o := ⟨some 156, _, _, _, _, _⟩) rfl (fun K hK => ?_) (AllReadyH.cons (o := ⟨some 158, _, _, _, _, _⟩) rfl (fun K hK => ?_) (AllReadyH.cons (o := ⟨some 26, _, _, _, _, _⟩) rfl (fun K hK => ?_) AllReadyH.nil))
              · obtain ⟨va, W2, hrun, sn⟩ := st.app 51 (own_below PR.out st.below) (by simp; omega)
                rw [List.nil_append] at sn
                refine opH_append rfl _ _ _ rfl rfl rfl hrun ?_
                refine hK.out _ _ ?_ (fun hHeld => ?_)
                · exact keptN sn.below KZ.out.box
                clear hK K hrun st
                try simp only [Act.put, List.setIfInBounds_toArray, List.set_cons_zero, List.set_cons_succ]
                have st := sn
                clear sn
                refine wpAnyH_ready (rs := [5, 11]) (by kernel_rfl) (by simp) ?_
                refine AllReadyH.cons (o := ⟨some 158, _, _, _, _, _⟩) rfl (fun K hK => ?_) (AllReadyH.cons (o := ⟨some 26, _, _, _, _, _⟩) rfl (fun K hK => ?_) AllReadyH.nil)
                · go_simp
                  have sn := st.one
                  refine hK.out _ _ ?_ (fun hHeld => ?_)
                  · exact keptN sn.below KZ.out.box
                  clear hK K st
                  try simp only [Act.put, List.setIfInBounds_toArray, List.set_cons_zero, List.set_cons_succ]
                  obtain ⟨bo, hc⟩ : ∃ x, x = W2.heap.size := ⟨_, rfl⟩
                  obtain ⟨W3, hw⟩ : ∃ x, x = W2.alloc (.cells #[.int .i64 (k : Nat)] 3) := ⟨_, rfl⟩
                  rw [← hw] at sn hHeld
                  rw [← hw]
                  rw [← hc] at sn
                  rw [← hc]
                  clear hw hc
                  have st := sn
                  clear sn
                  refine wpAnyH_ready (rs := [6, 11]) (by kernel_rfl) (by simp) ?_
                  refine AllReadyH.cons (o := ⟨some 159, _, _, _, _, _⟩) rfl (fun K hK => ?_) (AllReadyH.cons (o := ⟨some 26, _, _, _, _, _⟩) rfl (fun K hK => ?_) AllReadyH.nil)
                  · obtain ⟨vb, W4, hrun, sn⟩ := st.app 51 st.oneRow (by simp; omega)
                    refine opH_append rfl _ _ _ rfl rfl rfl hrun ?_
                    refine hK.out _ _ ?_ (fun hHeld => ?_)
                    · exact keptN sn.below KZ.out.box
                    clear hK K hrun st
                    try simp only [Act.put, List.setIfInBounds_toArray, List.set_cons_zero, List.set_cons_succ]
                    have st := sn
                    clear sn
                    refine wpAnyH_ready (rs := [7, 11]) (by kernel_rfl) (by simp) ?_
                    refine AllReadyH.cons (o := ⟨some 160, _, _, _, _, _⟩) rfl (fun K hK => ?_) (AllReadyH.cons (o := ⟨some 26, _, _, _, _, _⟩) rfl (fun K hK => ?_) AllReadyH.nil)
                    · go_simp
                      go_at_call 38
                      with_reducible refine (HSpan.out _ _ _ _ st).mono ?_
                      rintro e W5 ⟨rfl, hbC⟩
                      have sn := st.call hbC
                      refine hK.out _ _ ?_ (fun hHeld => ?_)
                      · exact keptN sn.below KZ.out.box
                      clear hK K hbC st
                      try simp only [Act.put, List.setIfInBounds_toArray, List.set_cons_zero, List.set_cons_succ]
                      have st := sn
                      clear sn
                      refine wpAnyH_take (i := 8) (oi := ⟨some 152, _, _, _, _, _⟩) (v := ?_) rfl (by kernel_rfl) (by kernel_rfl) (by kernel_rfl) (fun _ _ _ h => h) (Or.inl ⟨by rfl, ?hy⟩) (by assumption) ?_
                      case hy => (intro w hSw; (try dsimp only at hSw); go_simp; (try with_reducible rfl))
                      try simp only [Act.put, List.setIfInBounds_toArray, List.set_cons_zero, List.set_cons_succ]
                      refine wpAnyH_take (i := 9) (oi := ⟨some 161, _, _, _, _, _⟩) (v := ?_) rfl (by kernel_rfl) (by kernel_rfl) (by kernel_rfl) (fun _ _ _ h => h) (Or.inl ⟨by rfl, ?hy⟩) (by assumption) ?_
                      case hy => (intro w hSw; (try dsimp only at hSw); go_simp; (try with_reducible rfl))
                      try simp only [Act.put, List.setIfInBounds_toArray, List.set_cons_zero, List.set_cons_succ]
                      refine wpAnyH_take (i := 10) (oi := ⟨some 162, _, _, _, _, _⟩) (v := ?_) rfl (by kernel_rfl) (by kernel_rfl) (by kernel_rfl) (fun _ _ _ h => h) (Or.inl ⟨by rfl, ?hy⟩) (by assumption) ?_
                      case hy => (intro w hSw; (try dsimp only at hSw); go_simp; (try with_reducible rfl))
                      try simp only [Act.put, List.setIfInBounds_toArray, List.set_cons_zero, List.set_cons_succ]
                      refine wpAnyH_ready (rs := [11]) (by kernel_rfl) (by simp) ?_
                      refine AllReadyH.cons (o := ⟨some 26, _, _, _, _, _⟩) rfl (fun K hK => ?_) AllReadyH.nil
                      go_simp
                      have sn := st.span
                      refine hK.out _ _ ?_ (fun hHeld => ?_)
                      · exact keptN sn.below KZ.out.box
                      clear hK K st
                      try simp only [Act.put, List.setIfInBounds_toArray, List.set_cons_zero, List.set_cons_succ]
                      obtain ⟨bs, hc⟩ : ∃ x, x = W5.heap.size := ⟨_, rfl⟩
                      obtain ⟨W6, hw⟩ : ∃ x, x = W5.alloc (.cells #[.int .i64 0, .int .i64 0] 62) := ⟨_, rfl⟩
                      rw [← hw] at sn hHeld
                      rw [← hw]
                      rw [← hc] at sn
                      rw [← hc]
                      clear hw hc
                      have st := sn
                      clear sn
                      refine wpAnyH_ready (rs := [12]) (by kernel_rfl) (by simp) ?_
                      refine AllReadyH.cons (o := ⟨none, _, _, _, _, _⟩) rfl (fun K hK => ?_) AllReadyH.nil
                      have he := (st.elv _ rfl).2.1
                      have q0 := Lib.cell_of_heap he 0
                      have q1 := Lib.cell_of_heap he 1
                      have r0 := frozen_block (j := 0) he
                      have r1 := frozen_block (j := 1) he
                      clear he
                      go_simp
                      have sn := st.stored (.int .i64 (fk : Nat)) (.int .i64 (tk : Nat))
                      refine hK.out _ _ ?_ (fun hHeld => ?_)
                      · exact keptN sn.2.1 KZ.out.box
                      clear hK K q0 q1 r0 r1
                      try simp only [Act.put, List.setIfInBounds_toArray, List.set_cons_zero, List.set_cons_succ]
                      refine wpAnyH_take (i := 13) (oi := ⟨some 27, _, _, _, _, _⟩) (v := ?_) rfl (by kernel_rfl) (by kernel_rfl) (by kernel_rfl) (fun _ _ _ h => h) (Or.inl ⟨by rfl, ?hy⟩) (by assumption) ?_
                      case hy => (intro w hSw; (try dsimp only at hSw); go_simp; (try with_reducible rfl))
                      try simp only [Act.put, List.setIfInBounds_toArray, List.set_cons_zero, List.set_cons_succ]
                      refine wpAnyH_done (by kernel_rfl) ?_ _
                      go_wp2_with fail
                      go_meet
                      exact ⟨bs, rfl, rfl, sn.1, sn.2.1⟩
                    · go_simp
                      have sn := st.span
                      refine hK.out _ _ ?_ (fun hHeld => ?_)
                      · exact keptN sn.below KZ.out.box
                      clear hK K st
                      try simp only [Act.put, List.setIfInBounds_toArray, List.set_cons_zero, List.set_cons_succ]
                      obtain ⟨bs, hc⟩ : ∃ x, x = W4.heap.size := ⟨_, rfl⟩
                      obtain ⟨W8, hw⟩ : ∃ x, x = W4.alloc (.cells #[.int .i64 0, .int .i64 0] 62) := ⟨_, rfl⟩
                      rw [← hw] at sn hHeld
                      rw [← hw]
                      rw [← hc] at sn
                      rw [← hc]
                      clear hw hc
                      have st := sn
                      clear sn
                      refine wpAnyH_ready (rs := [7]) (by kernel_rfl) (by simp) ?_
                      refine AllReadyH.cons (o := ⟨some 160, _, _, _, _, _⟩) rfl (fun K hK => ?_) AllReadyH.nil
                      go_simp
                      go_at_call 38
                      with_reducible refine (HSpan.out _ _ _ _ st).mono ?_
                      rintro e W9 ⟨rfl, hbC⟩
                      have sn := st.call hbC
                      refine hK.out _ _ ?_ (fun hHeld => ?_)
                      · exact keptN sn.below KZ.out.box
                      clear hK K hbC st
                      try simp only [Act.put, List.setIfInBounds_toArray, List.set_cons_zero, List.set_cons_succ]
                      have st := sn
                      clear sn
                      refine wpAnyH_take (i := 8) (oi := ⟨some 152, _, _, _, _, _⟩) (v := ?_) rfl (by kernel_rfl) (by kernel_rfl) (by kernel_rfl) (fun _ _ _ h => h) (Or.inl ⟨by rfl, ?hy⟩) (by assumption) ?_
                      case hy => (intro w hSw; (try dsimp only at hSw); go_simp; (try with_reducible rfl))
                      try simp only [Act.put, List.setIfInBounds_toArray, List.set_cons_zero, List.set_cons_succ]
                      refine wpAnyH_take (i := 9) (oi := ⟨some 161, _, _, _, _, _⟩) (v := ?_) rfl (by kernel_rfl) (by kernel_rfl) (by kernel_rfl) (fun _ _ _ h => h) (Or.inl ⟨by rfl, ?hy⟩) (by assumption) ?_
                      case hy => (intro w hSw; (try dsimp only at hSw); go_simp; (try with_reducible rfl))
                      try simp only [Act.put, List.setIfInBounds_toArray, List.set_cons_zero, List.set_cons_succ]
                      refine wpAnyH_take (i := 10) (oi := ⟨some 162, _, _, _, _, _⟩) (v := ?_) rfl (by kernel_rfl) (by kernel_rfl) (by kernel_rfl) (fun _ _ _ h => h) (Or.inl ⟨by rfl, ?hy⟩) (by assumption) ?_
                      case hy => (intro w hSw; (try dsimp only at hSw); go_simp; (try with_reducible rfl))
                      try simp only [Act.put, List.setIfInBounds_toArray, List.set_cons_zero, List.set_cons_succ]
                      refine wpAnyH_ready (rs := [12]) (by kernel_rfl) (by simp) ?_
                      refine AllReadyH.cons (o := ⟨none, _, _, _, _, _⟩) rfl (fun K hK => ?_) AllReadyH.nil
                      have he := (st.elv _ rfl).2.1
                      have q0 := Lib.cell_of_heap he 0
                      have q1 := Lib.cell_of_heap he 1
                      have r0 := frozen_block (j := 0) he
                      have r1 := frozen_block (j := 1) he
                      clear he
                      go_simp
                      have sn := st.stored (.int .i64 (fk : Nat)) (.int .i64 (tk : Nat))
                      refine hK.out _ _ ?_ (fun hHeld => ?_)
                      · exact keptN sn.2.1 KZ.out.box
                      clear hK K q0 q1 r0 r1
                      try simp only [Act.put, List.setIfInBounds_toArray, List.set_cons_zero, List.set_cons_succ]
                      refine wpAnyH_take (i := 13) (oi := ⟨some 27, _, _, _, _, _⟩) (v := ?_) rfl (by kernel_rfl) (by kernel_rfl) (by kernel_rfl) (fun _ _ _ h => h) (Or.inl ⟨by rfl, ?hy⟩) (by assumption) ?_
                      case hy => (intro w hSw; (try dsimp only at hSw); go_simp; (try with_reducible rfl))
                      try simp only [Act.put, List.setIfInBounds_toArray, List.set_cons_zero, List.set_cons_succ]
                      refine wpAnyH_done (by kernel_rfl) ?_ _
                      go_wp2_with fail
                      go_meet
                      exact ⟨bs, rfl, rfl, sn.1, sn.2.1⟩
                  · go_simp
                    have sn := st.span
                    refine hK.out _ _ ?_ (fun hHeld => ?_)
                    · exact keptN sn.below KZ.out.box
                    clear hK K st
                    try simp only [Act.put, List.setIfInBounds_toArray, List.set_cons_zero, List.set_cons_succ]
                    obtain ⟨bs, hc⟩ : ∃ x, x = W3.heap.size := ⟨_, rfl⟩
                    obtain ⟨W11, hw⟩ : ∃ x, x = W3.alloc (.cells #[.int .i64 0, .int .i64 0] 62) := ⟨_, rfl⟩
                    rw [← hw] at sn hHeld
                    rw [← hw]
                    rw [← hc] at sn
                    rw [← hc]
                    clear hw hc
                    have st := sn
                    clear sn
                    refine wpAnyH_ready (rs := [6]) (by kernel_rfl) (by simp) ?_
                    refine AllReadyH.cons (o := ⟨some 159, _, _, _, _, _⟩) rfl (fun K hK => ?_) AllReadyH.nil
                    obtain ⟨vb, W12, hrun, sn⟩ := st.app 51 st.oneRow (by simp; omega)
                    refine opH_append rfl _ _ _ rfl rfl rfl hrun ?_
                    refine hK.out _ _ ?_ (fun hHeld => ?_)
                    · exact keptN sn.below KZ.out.box
                    clear hK K hrun st
                    try simp only [Act.put, List.setIfInBounds_toArray, List.set_cons_zero, List.set_cons_succ]
                    have st := sn
                    clear sn
                    refine wpAnyH_ready (rs := [7]) (by kernel_rfl) (by simp) ?_
                    refine AllReadyH.cons (o := ⟨some 160, _, _, _, _, _⟩) rfl (fun K hK => ?_) AllReadyH.nil
                    go_simp
                    go_at_call 38
                    with_reducible refine (HSpan.out _ _ _ _ st).mono ?_
                    rintro e W13 ⟨rfl, hbC⟩
                    have sn := st.call hbC
                    refine hK.out _ _ ?_ (fun hHeld => ?_)
                    · exact keptN sn.below KZ.out.box
                    clear hK K hbC st
                    try simp only [Act.put, List.setIfInBounds_toArray, List.set_cons_zero, List.set_cons_succ]
                    have st := sn
                    clear sn
                    refine wpAnyH_take (i := 8) (oi := ⟨some 152, _, _, _, _, _⟩) (v := ?_) rfl (by kernel_rfl) (by kernel_rfl) (by kernel_rfl) (fun _ _ _ h => h) (Or.inl ⟨by rfl, ?hy⟩) (by assumption) ?_
                    case hy => (intro w hSw; (try dsimp only at hSw); go_simp; (try with_reducible rfl))
                    try simp only [Act.put, List.setIfInBounds_toArray, List.set_cons_zero, List.set_cons_succ]
                    refine wpAnyH_take (i := 9) (oi := ⟨some 161, _, _, _, _, _⟩) (v := ?_) rfl (by kernel_rfl) (by kernel_rfl) (by kernel_rfl) (fun _ _ _ h => h) (Or.inl ⟨by rfl, ?hy⟩) (by assumption) ?_
                    case hy => (intro w hSw; (try dsimp only at hSw); go_simp; (try with_reducible rfl))
                    try simp only [Act.put, List.setIfInBounds_toArray, List.set_cons_zero, List.set_cons_succ]
                    refine wpAnyH_take (i := 10) (oi := ⟨some 162, _, _, _, _, _⟩) (v := ?_) rfl (by kernel_rfl) (by kernel_rfl) (by kernel_rfl) (fun _ _ _ h => h) (Or.inl ⟨by rfl, ?hy⟩) (by assumption) ?_
                    case hy => (intro w hSw; (try dsimp only at hSw); go_simp; (try with_reducible rfl))
                    try simp only [Act.put, List.setIfInBounds_toArray, List.set_cons_zero, List.set_cons_succ]
                    refine wpAnyH_ready (rs := [12]) (by kernel_rfl) (by simp) ?_
                    refine AllReadyH.cons (o := ⟨none, _, _, _, _, _⟩) rfl (fun K hK => ?_) AllReadyH.nil
                    have he := (st.elv _ rfl).2.1
                    have q0 := Lib.cell_of_heap he 0
                    have q1 := Lib.cell_of_heap he 1
                    have r0 := frozen_block (j := 0) he
                    have r1 := frozen_block (j := 1) he
                    clear he
                    go_simp
                    have sn := st.stored (.int .i64 (fk : Nat)) (.int .i64 (tk : Nat))
                    refine hK.out _ _ ?_ (fun hHeld => ?_)
                    · exact keptN sn.2.1 KZ.out.box
                    clear hK K q0 q1 r0 r1
                    try simp only [Act.put, List.setIfInBounds_toArray, List.set_cons_zero, List.set_cons_succ]
                    refine wpAnyH_take (i := 13) (oi := ⟨some 27, _, _, _, _, _⟩) (v := ?_) rfl (by kernel_rfl) (by kernel_rfl) (by kernel_rfl) (fun _ _ _ h => h) (Or.inl ⟨by rfl, ?hy⟩) (by assumption) ?_
                    case hy => (intro w hSw; (try dsimp only at hSw); go_simp; (try with_reducible rfl))
                    try simp only [Act.put, List.setIfInBounds_toArray, List.set_cons_zero, List.set_cons_succ]
                    refine wpAnyH_done (by kernel_rfl) ?_ _
                    go_wp2_with fail
                    go_meet
                    exact ⟨bs, rfl, rfl, sn.1, sn.2.1⟩
                · go_simp
                  have sn := st.span
                  refine hK.out _ _ ?_ (fun hHeld => ?_)
                  · exact keptN sn.below KZ.out.box
                  clear hK K st
                  try simp only [Act.put, List.setIfInBounds_toArray, List.set_cons_zero, List.set_cons_succ]
                  obtain ⟨bs, hc⟩ : ∃ x, x = W2.heap.size := ⟨_, rfl⟩
                  obtain ⟨W15, hw⟩ : ∃ x, x = W2.alloc (.cells #[.int .i64 0, .int .i64 0] 62) := ⟨_, rfl⟩
                  rw [← hw] at sn hHeld
                  rw [← hw]
                  rw [← hc] at sn
                  rw [← hc]
                  clear hw hc
                  have st := sn
                  clear sn
                  refine wpAnyH_ready (rs := [5]) (by kernel_rfl) (by simp) ?_
                  refine AllReadyH.cons (o := ⟨some 158, _, _, _, _, _⟩) rfl (fun K hK => ?_) AllReadyH.nil
                  go_simp
                  have sn := st.one
                  refine hK.out _ _ ?_ (fun hHeld => ?_)
                  · exact keptN sn.below KZ.out.box
                  clear hK K st
                  try simp only [Act.put, List.setIfInBounds_toArray, List.set_cons_zero, List.set_cons_succ]
                  obtain ⟨bo, hc⟩ : ∃ x, x = W15.heap.size := ⟨_, rfl⟩
                  obtain ⟨W16, hw⟩ : ∃ x, x = W15.alloc (.cells #[.int .i64 (k : Nat)] 3) := ⟨_, rfl⟩
                  rw [← hw] at sn hHeld
                  rw [← hw]
                  rw [← hc] at sn
                  rw [← hc]
                  clear hw hc
                  have st := sn
                  clear sn
                  refine wpAnyH_ready (rs := [6]) (by kernel_rfl) (by simp) ?_
                  refine AllReadyH.cons (o := ⟨some 159, _, _, _, _, _⟩) rfl (fun K hK => ?_) AllReadyH.nil
                  obtain ⟨vb, W17, hrun, sn⟩ := st.app 51 st.oneRow (by simp; omega)
                  refine opH_append rfl _ _ _ rfl rfl rfl hrun ?_
                  refine hK.out _ _ ?_ (fun hHeld => ?_)
                  · exact keptN sn.below KZ.out.box
                  clear hK K hrun st
                  try simp only [Act.put, List.setIfInBounds_toArray, List.set_cons_zero, List.set_cons_succ]
                  have st := sn
                  clear sn
                  refine wpAnyH_ready (rs := [7]) (by kernel_rfl) (by simp) ?_
                  refine AllReadyH.cons (o := ⟨some 160, _, _, _, _, _⟩) rfl (fun K hK => ?_) AllReadyH.nil
                  go_simp
                  go_at_call 38
                  with_reducible refine (HSpan.out _ _ _ _ st).mono ?_
                  rintro e W18 ⟨rfl, hbC⟩
                  have sn := st.call hbC
                  refine hK.out _ _ ?_ (fun hHeld => ?_)
                  · exact keptN sn.below KZ.out.box
                  clear hK K hbC st
                  try simp only [Act.put, List.setIfInBounds_toArray, List.set_cons_zero, List.set_cons_succ]
                  have st := sn
                  clear sn
                  refine wpAnyH_take (i := 8) (oi := ⟨some 152, _, _, _, _, _⟩) (v := ?_) rfl (by kernel_rfl) (by kernel_rfl) (by kernel_rfl) (fun _ _ _ h => h) (Or.inl ⟨by rfl, ?hy⟩) (by assumption) ?_
                  case hy => (intro w hSw; (try dsimp only at hSw); go_simp; (try with_reducible rfl))
                  try simp only [Act.put, List.setIfInBounds_toArray, List.set_cons_zero, List.set_cons_succ]
                  refine wpAnyH_take (i := 9) (oi := ⟨some 161, _, _, _, _, _⟩) (v := ?_) rfl (by kernel_rfl) (by kernel_rfl) (by kernel_rfl) (fun _ _ _ h => h) (Or.inl ⟨by rfl, ?hy⟩) (by assumption) ?_
                  case hy => (intro w hSw; (try dsimp only at hSw); go_simp; (try with_reducible rfl))
                  try simp only [Act.put, List.setIfInBounds_toArray, List.set_cons_zero, List.set_cons_succ]
                  refine wpAnyH_take (i := 10) (oi := ⟨some 162, _, _, _, _, _⟩) (v := ?_) rfl (by kernel_rfl) (by kernel_rfl) (by kernel_rfl) (fun _ _ _ h => h) (Or.inl ⟨by rfl, ?hy⟩) (by assumption) ?_
                  case hy => (intro w hSw; (try dsimp only at hSw); go_simp; (try with_reducible rfl))
                  try simp only [Act.put, List.setIfInBounds_toArray, List.set_cons_zero, List.set_cons_succ]
                  refine wpAnyH_ready (rs := [12]) (by kernel_rfl) (by simp) ?_
                  refine AllReadyH.cons (o := ⟨none, _, _, _, _, _⟩) rfl (fun K hK => ?_) AllReadyH.nil
                  have he := (st.elv _ rfl).2.1
                  have q0 := Lib.cell_of_heap he 0
                  have q1 := Lib.cell_of_heap he 1
                  have r0 := frozen_block (j := 0) he
                  have r1 := frozen_block (j := 1) he
                  clear he
                  go_simp
                  have sn := st.stored (.int .i64 (fk : Nat)) (.int .i64 (tk : Nat))
                  refine hK.out _ _ ?_ (fun hHeld => ?_)
                  · exact keptN sn.2.1 KZ.out.box
                  clear hK K q0 q1 r0 r1
                  try simp only [Act.put, List.setIfInBounds_toArray, List.set_cons_zero, List.set_cons_succ]
                  refine wpAnyH_take (i := 13) (oi := ⟨some 27, _, _, _, _, _⟩) (v := ?_) rfl (by kernel_rfl) (by kernel_rfl) (by kernel_rfl) (fun _ _ _ h => h) (Or.inl ⟨by rfl, ?hy⟩) (by assumption) ?_
                  case hy => (intro w hSw; (try dsimp only at hSw); go_simp; (try with_reducible rfl))
                  try simp only [Act.put, List.setIfInBounds_toArray, List.set_cons_zero, List.set_cons_succ]
                  refine wpAnyH_done (by kernel_rfl) ?_ _
                  go_wp2_with fail
                  go_meet
                  exact ⟨bs, rfl, rfl, sn.1, sn.2.1⟩
              · go_simp
                have sn := st.one
                refine hK.out _ _ ?_ (fun hHeld => ?_)
                · exact keptN sn.below KZ.out.box
                clear hK K st
                try simp only [Act.put, List.setIfInBounds_toArray, List.set_cons_zero, List.set_cons_succ]
                obtain ⟨bo, hc⟩ : ∃ x, x = W1.heap.size := ⟨_, rfl⟩
                obtain ⟨W20, hw⟩ : ∃ x, x = W1.alloc (.cells #[.int .i64 (k : Nat)] 3) := ⟨_, rfl⟩
                rw [← hw] at sn hHeld
                rw [← hw]
                rw [← hc] at sn
                rw [← hc]
                clear hw hc
                have st := sn
                clear sn
                refine wpAnyH_ready (rs := [3, 11]) (by kernel_rfl) (by simp) ?_
                refine AllReadyH.cons (o := ⟨some 156, _, _, _, _, _⟩) rfl (fun K hK => ?_) (AllReadyH.cons (o := ⟨some 26, _, _, _, _, _⟩) rfl (fun K hK => ?_) AllReadyH.nil)
                · obtain ⟨va, W21, hrun, sn⟩ := st.app 51 (own_below PR.out st.below) (by simp; omega)
                  rw [List.nil_append] at sn
                  refine opH_append rfl _ _ _ rfl rfl rfl hrun ?_
                  refine hK.out _ _ ?_ (fun hHeld => ?_)
                  · exact keptN sn.below KZ.out.box
                  clear hK K hrun st
                  try simp only [Act.put, List.setIfInBounds_toArray, List.set_cons_zero, List.set_cons_succ]
                  have st := sn
                  clear sn
                  refine wpAnyH_ready (rs := [6, 11]) (by kernel_rfl) (by simp) ?_
                  refine AllReadyH.cons (o := ⟨some 159, _, _, _, _, _⟩) rfl (fun K hK => ?_) (AllReadyH.cons (o := ⟨some 26, _, _, _, _, _⟩) rfl (fun K hK => ?_) AllReadyH.nil)
                  · obtain ⟨vb, W22, hrun, sn⟩ := st.app 51 st.oneRow (by simp; omega)
                    refine opH_append rfl _ _ _ rfl rfl rfl hrun ?_
                    refine hK.out _ _ ?_ (fun hHeld => ?_)
                    · exact keptN sn.below KZ.out.box
                    clear hK K hrun st
                    try simp only [Act.put, List.setIfInBounds_toArray, List.set_cons_zero, List.set_cons_succ]
                    have st := sn
                    clear sn
                    refine wpAnyH_ready (rs := [7, 11]) (by kernel_rfl) (by simp) ?_
                    refine AllReadyH.cons (o := ⟨some 160, _, _, _, _, _⟩) rfl (fun K hK => ?_) (AllReadyH.cons (o := ⟨some 26, _, _, _, _, _⟩) rfl (fun K hK => ?_) AllReadyH.nil)
                    · go_simp
                      go_at_call 38
                      with_reducible refine (HSpan.out _ _ _ _ st).mono ?_
                      rintro e W23 ⟨rfl, hbC⟩
                      have sn := st.call hbC
                      refine hK.out _ _ ?_ (fun hHeld => ?_)
                      · exact keptN sn.below KZ.out.box
                      clear hK K hbC st
                      try simp only [Act.put, List.setIfInBounds_toArray, List.set_cons_zero, List.set_cons_succ]
                      have st := sn
                      clear sn
                      refine wpAnyH_take (i := 8) (oi := ⟨some 152, _, _, _, _, _⟩) (v := ?_) rfl (by kernel_rfl) (by kernel_rfl) (by kernel_rfl) (fun _ _ _ h => h) (Or.inl ⟨by rfl, ?hy⟩) (by assumption) ?_
                      case hy => (intro w hSw; (try dsimp only at hSw); go_simp; (try with_reducible rfl))
                      try simp only [Act.put, List.setIfInBounds_toArray, List.set_cons_zero, List.set_cons_succ]
                      refine wpAnyH_take (i := 9) (oi := ⟨some 161, _, _, _, _, _⟩) (v := ?_) rfl (by kernel_rfl) (by kernel_rfl) (by kernel_rfl) (fun _ _ _ h => h) (Or.inl ⟨by rfl, ?hy⟩) (by assumption) ?_
                      case hy => (intro w hSw; (try dsimp only at hSw); go_simp; (try with_reducible rfl))
                      try simp only [Act.put, List.setIfInBounds_toArray, List.set_cons_zero, List.set_cons_succ]
                      refine wpAnyH_take (i := 10) (oi := ⟨some 162, _, _, _, _, _⟩) (v := ?_) rfl (by kernel_rfl) (by kernel_rfl) (by kernel_rfl) (fun _ _ _ h => h) (Or.inl ⟨by rfl, ?hy⟩) (by assumption) ?_
                      case hy => (intro w hSw; (try dsimp only at hSw); go_simp; (try with_reducible rfl))
                      try simp only [Act.put, List.setIfInBounds_toArray, List.set_cons_zero, List.set_cons_succ]
                      refine wpAnyH_ready (rs := [11]) (by kernel_rfl) (by simp) ?_
                      refine AllReadyH.cons (o := ⟨some 26, _, _, _, _, _⟩) rfl (fun K hK => ?_) AllReadyH.nil
                      go_simp
                      have sn := st.span
                      refine hK.out _ _ ?_ (fun hHeld => ?_)
                      · exact keptN sn.below KZ.out.box
                      clear hK K st
                      try simp only [Act.put, List.setIfInBounds_toArray, List.set_cons_zero, List.set_cons_succ]
                      obtain ⟨bs, hc⟩ : ∃ x, x = W23.heap.size := ⟨_, rfl⟩
                      obtain ⟨W24, hw⟩ : ∃ x, x = W23.alloc (.cells #[.int .i64 0, .int .i64 0] 62) := ⟨_, rfl⟩
                      rw [← hw] at sn hHeld
                      rw [← hw]
                      rw [← hc] at sn
                      rw [← hc]
                      clear hw hc
                      have st := sn
                      clear sn
                      refine wpAnyH_ready (rs := [12]) (by kernel_rfl) (by simp) ?_
                      refine AllReadyH.cons (o := ⟨none, _, _, _, _, _⟩) rfl (fun K hK => ?_) AllReadyH.nil
                      have he := (st.elv _ rfl).2.1
                      have q0 := Lib.cell_of_heap he 0
                      have q1 := Lib.cell_of_heap he 1
                      have r0 := frozen_block (j := 0) he
                      have r1 := frozen_block (j := 1) he
                      clear he
                      go_simp
                      have sn := st.stored (.int .i64 (fk : Nat)) (.int .i64 (tk : Nat))
                      refine hK.out _ _ ?_ (fun hHeld => ?_)
                      · exact keptN sn.2.1 KZ.out.box
                      clear hK K q0 q1 r0 r1
                      try simp only [Act.put, List.setIfInBounds_toArray, List.set_cons_zero, List.set_cons_succ]
                      refine wpAnyH_take (i := 13) (oi := ⟨some 27, _, _, _, _, _⟩) (v := ?_) rfl (by kernel_rfl) (by kernel_rfl) (by kernel_rfl) (fun _ _ _ h => h) (Or.inl ⟨by rfl, ?hy⟩) (by assumption) ?_
                      case hy => (intro w hSw; (try dsimp only at hSw); go_simp; (try with_reducible rfl))
                      try simp only [Act.put, List.setIfInBounds_toArray, List.set_cons_zero, List.set_cons_succ]
                      refine wpAnyH_done (by kernel_rfl) ?_ _
                      go_wp2_with fail
                      go_meet
                      exact ⟨bs, rfl, rfl, sn.1, sn.2.1⟩
                    · go_simp
                      have sn := st.span
                      refine hK.out _ _ ?_ (fun hHeld => ?_)
                      · exact keptN sn.below KZ.out.box
                      clear hK K st
                      try simp only [Act.put, List.setIfInBounds_toArray, List.set_cons_zero, List.set_cons_succ]
                      obtain ⟨bs, hc⟩ : ∃ x, x = W22.heap.size := ⟨_, rfl⟩
                      obtain ⟨W26, hw⟩ : ∃ x, x = W22.alloc (.cells #[.int .i64 0, .int .i64 0] 62) := ⟨_, rfl⟩
                      rw [← hw] at sn hHeld
                      rw [← hw]
                      rw [← hc] at sn
                      rw [← hc]
                      clear hw hc
                      have st := sn
                      clear sn
                      refine wpAnyH_ready (rs := [7]) (by kernel_rfl) (by simp) ?_
                      refine AllReadyH.cons (o := ⟨some 160, _, _, _, _, _⟩) rfl (fun K hK => ?_) AllReadyH.nil
                      go_simp
                      go_at_call 38
                      with_reducible refine (HSpan.out _ _ _ _ st).mono ?_
                      rintro e W27 ⟨rfl, hbC⟩
                      have sn := st.call hbC
                      refine hK.out _ _ ?_ (fun hHeld => ?_)
                      · exact keptN sn.below KZ.out.box
                      clear hK K hbC st
                      try simp only [Act.put, List.setIfInBounds_toArray, List.set_cons_zero, List.set_cons_succ]
                      have st := sn
                      clear sn
                      refine wpAnyH_take (i := 8) (oi := ⟨some 152, _, _, _, _, _⟩) (v := ?_) rfl (by kernel_rfl) (by kernel_rfl) (by kernel_rfl) (fun _ _ _ h => h) (Or.inl ⟨by rfl, ?hy⟩) (by assumption) ?_
                      case hy => (intro w hSw; (try dsimp only at hSw); go_simp; (try with_reducible rfl))
                      try simp only [Act.put, List.setIfInBounds_toArray, List.set_cons_zero, List.set_cons_succ]
                      refine wpAnyH_take (i := 9) (oi := ⟨some 161, _, _, _, _, _⟩) (v := ?_) rfl (by kernel_rfl) (by kernel_rfl) (by kernel_rfl) (fun _ _ _ h => h) (Or.inl ⟨by rfl, ?hy⟩) (by assumption) ?_
                      case hy => (intro w hSw; (try dsimp only at hSw); go_simp; (try with_reducible rfl))
                      try simp only [Act.put, List.setIfInBounds_toArray, List.set_cons_zero, List.set_cons_succ]
                      refine wpAnyH_take (i := 10) (oi := ⟨some 162, _, _, _, _, _⟩) (v := ?_) rfl (by kernel_rfl) (by kernel_rfl) (by kernel_rfl) (fun _ _ _ h => h) (Or.inl ⟨by rfl, ?hy⟩) (by assumption) ?_
                      case hy => (intro w hSw; (try dsimp only at hSw); go_simp; (try with_reducible rfl))
                      try simp only [Act.put, List.setIfInBounds_toArray, List.set_cons_zero, List.set_cons_succ]
                      refine wpAnyH_ready (rs := [12]) (by kernel_rfl) (by simp) ?_
                      refine AllReadyH.cons (o := ⟨none, _, _, _, _, _⟩) rfl (fun K hK => ?_) AllReadyH.nil
                      have he := (st.elv _ rfl).2.1
                      have q0 := Lib.cell_of_heap he 0
                      have q1 := Lib.cell_of_heap he 1
                      have r0 := frozen_block (j := 0) he
                      have r1 := frozen_block (j := 1) he
                      clear he
                      go_simp
                      have sn := st.stored (.int .i64 (fk : Nat)) (.int .i64 (tk : Nat))
                      refine hK.out _ _ ?_ (fun hHeld => ?_)
                      · exact keptN sn.2.1 KZ.out.box
                      clear hK K q0 q1 r0 r1
                      try simp only [Act.put, List.setIfInBounds_toArray, List.set_cons_zero, List.set_cons_succ]
                      refine wpAnyH_take (i := 13) (oi := ⟨some 27, _, _, _, _, _⟩) (v := ?_) rfl (by kernel_rfl) (by kernel_rfl) (by kernel_rfl) (fun _ _ _ h => h) (Or.inl ⟨by rfl, ?hy⟩) (by assumption) ?_
                      case hy => (intro w hSw; (try dsimp only at hSw); go_simp; (try with_reducible rfl))
                      try simp only [Act.put, List.setIfInBounds_toArray, List.set_cons_zero, List.set_cons_succ]
                      refine wpAnyH_done (by kernel_rfl) ?_ _
                      go_wp2_with fail
                      go_meet
                      exact ⟨bs, rfl, rfl, sn.1, sn.2.1⟩
                  · go_simp
                    have sn := st.span
                    refine hK.out _ _ ?_ (fun hHeld => ?_)
                    · exact keptN sn.below KZ.out.box
                    clear hK K st
                    try simp only [Act.put, List.setIfInBounds_toArray, List.set_cons_zero, List.set_cons_succ]
                    obtain ⟨bs, hc⟩ : ∃ x, x = W21.heap.size := ⟨_, rfl⟩
                    obtain ⟨W29, hw⟩ : ∃ x, x = W21.alloc (.cells #[.int .i64 0, .int .i64 0] 62) := ⟨_, rfl⟩
                    rw [← hw] at sn hHeld
                    rw [← hw]
                    rw [← hc] at sn
                    rw [← hc]
                    clear hw hc
                    have st := sn
                    clear sn
                    refine wpAnyH_ready (rs := [6]) (by kernel_rfl) (by simp) ?_
                    refine AllReadyH.cons (o := ⟨some 159, _, _, _, _, _⟩) rfl (fun K hK => ?_) AllReadyH.nil
                    obtain ⟨vb, W30, hrun, sn⟩ := st.app 51 st.oneRow (by simp; omega)
                    refine opH_append rfl _ _ _ rfl rfl rfl hrun ?_
                    refine hK.out _ _ ?_ (fun hHeld => ?_)
                    · exact keptN sn.below KZ.out.box
                    clear hK K hrun st
                    try simp only [Act.put, List.setIfInBounds_toArray, List.set_cons_zero, List.set_cons_succ]
                    have st := sn
                    clear sn
                    refine wpAnyH_ready (rs := [7]) (by kernel_rfl) (by simp) ?_
                    refine AllReadyH.cons (o := ⟨some 160, _, _, _, _, _⟩) rfl (fun K hK => ?_) AllReadyH.nil
                    go_simp
                    go_at_call 38
                    with_reducible refine (HSpan.out _ _ _ _ st).mono ?_
                    rintro e W31 ⟨rfl, hbC⟩
                    have sn := st.call hbC
                    refine hK.out _ _ ?_ (fun hHeld => ?_)
                    · exact keptN sn.below KZ.out.box
                    clear hK K hbC st
                    try simp only [Act.put, List.setIfInBounds_toArray, List.set_cons_zero, List.set_cons_succ]
                    have st := sn
                    clear sn
                    refine wpAnyH_take (i := 8) (oi := ⟨some 152, _, _, _, _, _⟩) (v := ?_) rfl (by kernel_rfl) (by kernel_rfl) (by kernel_rfl) (fun _ _ _ h => h) (Or.inl ⟨by rfl, ?hy⟩) (by assumption) ?_
                    case hy => (intro w hSw; (try dsimp only at hSw); go_simp; (try with_reducible rfl))
                    try simp only [Act.put, List.setIfInBounds_toArray, List.set_cons_zero, List.set_cons_succ]
                    refine wpAnyH_take (i := 9) (oi := ⟨some 161, _, _, _, _, _⟩) (v := ?_) rfl (by kernel_rfl) (by kernel_rfl) (by kernel_rfl) (fun _ _ _ h => h) (Or.inl ⟨by rfl, ?hy⟩) (by assumption) ?_
                    case hy => (intro w hSw; (try dsimp only at hSw); go_simp; (try with_reducible rfl))
                    try simp only [Act.put, List.setIfInBounds_toArray, List.set_cons_zero, List.set_cons_succ]
                    refine wpAnyH_take (i := 10) (oi := ⟨some 162, _, _, _, _, _⟩) (v := ?_) rfl (by kernel_rfl) (by kernel_rfl) (by kernel_rfl) (fun _ _ _ h => h) (Or.inl ⟨by rfl, ?hy⟩) (by assumption) ?_
                    case hy => (intro w hSw; (try dsimp only at hSw); go_simp; (try with_reducible rfl))
                    try simp only [Act.put, List.setIfInBounds_toArray, List.set_cons_zero, List.set_cons_succ]
                    refine wpAnyH_ready (rs := [12]) (by kernel_rfl) (by simp) ?_
                    refine AllReadyH.cons (o := ⟨none, _, _, _, _, _⟩) rfl (fun K hK => ?_) AllReadyH.nil
                    have he := (st.elv _ rfl).2.1
                    have q0 := Lib.cell_of_heap he 0
                    have q1 := Lib.cell_of_heap he 1
                    have r0 := frozen_block (j := 0) he
                    have r1 := frozen_block (j := 1) he
                    clear he
                    go_simp
                    have sn := st.stored (.int .i64 (fk : Nat)) (.int .i64 (tk : Nat))
                    refine hK.out _ _ ?_ (fun hHeld => ?_)
                    · exact keptN sn.2.1 KZ.out.box
                    clear hK K q0 q1 r0 r1
                    try simp only [Act.put, List.setIfInBounds_toArray, List.set_cons_zero, List.set_cons_succ]
                    refine wpAnyH_take (i := 13) (oi := ⟨some 27, _, _, _, _, _⟩) (v := ?_) rfl (by kernel_rfl) (by kernel_rfl) (by kernel_rfl) (fun _ _ _ h => h) (Or.inl ⟨by rfl, ?hy⟩) (by assumption) ?_
                    case hy => (intro w hSw; (try dsimp only at hSw); go_simp; (try with_reducible rfl))
                    try simp only [Act.put, List.setIfInBounds_toArray, List.set_cons_zero, List.set_cons_succ]
                    refine wpAnyH_done (by kernel_rfl) ?_ _
                    go_wp2_with fail
                    go_meet
                    exact ⟨bs, rfl, rfl, sn.1, sn.2.1⟩
                · go_simp
                  have sn := st.span
                  refine hK.out _ _ ?_ (fun hHeld => ?_)
                  · exact keptN sn.below KZ.out.box
                  clear hK K st
                  try simp only [Act.put, List.setIfInBounds_toArray, List.set_cons_zero, List.set_cons_succ]
                  obtain ⟨bs, hc⟩ : ∃ x, x = W20.heap.size := ⟨_, rfl⟩
                  obtain ⟨W33, hw⟩ : ∃ x, x = W20.alloc (.cells #[.int .i64 0, .int .i64 0] 62) := ⟨_, rfl⟩
                  rw [← hw] at sn hHeld
                  rw [← hw]
                  rw [← hc] at sn
                  rw [← hc]
                  clear hw hc
                  have st := sn
                  clear sn
                  refine wpAnyH_ready (rs := [3]) (by kernel_rfl) (by simp) ?_
                  refine AllReadyH.cons (o := ⟨some 156, _, _, _, _, _⟩) rfl (fun K hK => ?_) AllReadyH.nil
                  obtain ⟨va, W34, hrun, sn⟩ := st.app 51 (own_below PR.out st.below) (by simp; omega)
                  rw [List.nil_append] at sn
                  refine opH_append rfl _ _ _ rfl rfl rfl hrun ?_
                  refine hK.out _ _ ?_ (fun hHeld => ?_)
                  · exact keptN sn.below KZ.out.box
                  clear hK K hrun st
                  try simp only [Act.put, List.setIfInBounds_toArray, List.set_cons_zero, List.set_cons_succ]
                  have st := sn
                  clear sn
                  refine wpAnyH_ready (rs := [6]) (by kernel_rfl) (by simp) ?_
                  refine AllReadyH.cons (o := ⟨some 159, _, _, _, _, _⟩) rfl (fun K hK => ?_) AllReadyH.nil
                  obtain ⟨vb, W35, hrun, sn⟩ := st.app 51 st.oneRow (by simp; omega)
                  refine opH_append rfl _ _ _ rfl rfl rfl hrun ?_
                  refine hK.out _ _ ?_ (fun hHeld => ?_)
                  · exact keptN sn.below KZ.out.box
                  clear hK K hrun st
                  try simp only [Act.put, List.setIfInBounds_toArray, List.set_cons_zero, List.set_cons_succ]
                  have st := sn
                  clear sn
                  refine wpAnyH_ready (rs := [7]) (by kernel_rfl) (by simp) ?_
                  refine AllReadyH.cons (o := ⟨some 160, _, _, _, _, _⟩) rfl (fun K hK => ?_) AllReadyH.nil
                  go_simp
                  go_at_call 38
                  with_reducible refine (HSpan.out _ _ _ _ st).mono ?_
                  rintro e W36 ⟨rfl, hbC⟩
                  have sn := st.call hbC
                  refine hK.out _ _ ?_ (fun hHeld => ?_)
                  · exact keptN sn.below KZ.out.box
                  clear hK K hbC st
                  try simp only [Act.put, List.setIfInBounds_toArray, List.set_cons_zero, List.set_cons_succ]
                  have st := sn
                  clear sn
                  refine wpAnyH_take (i := 8) (oi := ⟨some 152, _, _, _, _, _⟩) (v := ?_) rfl (by kernel_rfl) (by kernel_rfl) (by kernel_rfl) (fun _ _ _ h => h) (Or.inl ⟨by rfl, ?hy⟩) (by assumption) ?_
                  case hy => (intro w hSw; (try dsimp only at hSw); go_simp; (try with_reducible rfl))
                  try simp only [Act.put, List.setIfInBounds_toArray, List.set_cons_zero, List.set_cons_succ]
                  refine wpAnyH_take (i := 9) (oi := ⟨some 161, _, _, _, _, _⟩) (v := ?_) rfl (by kernel_rfl) (by kernel_rfl) (by kernel_rfl) (fun _ _ _ h => h) (Or.inl ⟨by rfl, ?hy⟩) (by assumption) ?_
                  case hy => (intro w hSw; (try dsimp only at hSw); go_simp; (try with_reducible rfl))
                  try simp only [Act.put, List.setIfInBounds_toArray, List.set_cons_zero, List.set_cons_succ]
                  refine wpAnyH_take (i := 10) (oi := ⟨some 162, _, _, _, _, _⟩) (v := ?_) rfl (by kernel_rfl) (by kernel_rfl) (by kernel_rfl) (fun _ _ _ h => h) (Or.inl ⟨by rfl, ?hy⟩) (by assumption) ?_
                  case hy => (intro w hSw; (try dsimp only at hSw); go_simp; (try with_reducible rfl))
                  try simp only [Act.put, List.setIfInBounds_toArray, List.set_cons_zero, List.set_cons_succ]
                  refine wpAnyH_ready (rs := [12]) (by kernel_rfl) (by simp) ?_
                  refine AllReadyH.cons (o := ⟨none, _, _, _, _, _⟩) rfl (fun K hK => ?_) AllReadyH.nil
                  have he := (st.elv _ rfl).2.1
                  have q0 := Lib.cell_of_heap he 0
                  have q1 := Lib.cell_of_heap he 1
                  have r0 := frozen_block (j := 0) he
                  have r1 := frozen_block (j := 1) he
                  clear he
                  go_simp
                  have sn := st.stored (.int .i64 (fk : Nat)) (.int .i64 (tk : Nat))
                  refine hK.out _ _ ?_ (fun hHeld => ?_)
                  · exact keptN sn.2.1 KZ.out.box
                  clear hK K q0 q1 r0 r1
                  try simp only [Act.put, List.setIfInBounds_toArray, List.set_cons_zero, List.set_cons_succ]
                  refine wpAnyH_take (i := 13) (oi := ⟨some 27, _, _, _, _, _⟩) (v := ?_) rfl (by kernel_rfl) (by kernel_rfl) (by kernel_rfl) (fun _ _ _ h => h) (Or.inl ⟨by rfl, ?hy⟩) (by assumption) ?_
                  case hy => (intro w hSw; (try dsimp only at hSw); go_simp; (try with_reducible rfl))
                  try simp only [Act.put, List.setIfInBounds_toArray, List.set_cons_zero, List.set_cons_succ]
                  refine wpAnyH_done (by kernel_rfl) ?_ _
                  go_wp2_with fail
                  go_meet
                  exact ⟨bs, rfl, rfl, sn.1, sn.2.1⟩
              · go_simp
                have sn := st.span
                refine hK.out _ _ ?_ (fun hHeld => ?_)
                · exact keptN sn.below KZ.out.box
                clear hK K st
                try simp only [Act.put, List.setIfInBounds_toArray, List.set_cons_zero, List.set_cons_succ]
                obtain ⟨bs, hc⟩ : ∃ x, x = W1.heap.size := ⟨_, rfl⟩
                obtain ⟨W38, hw⟩ : ∃ x, x = W1.alloc (.cells #[.int .i64 0, .int .i64 0] 62) := ⟨_, rfl⟩
                rw [← hw] at sn hHeld
                rw [← hw]
                rw [← hc] at sn
                rw [← hc]
                clear hw hc
                have st := sn
                clear sn
                refine wpAnyH_ready (rs := [3, 5]) (by kernel_rfl) (by simp) ?_
                refine AllReadyH.cons (o := ⟨some 156, _, _, _, _, _⟩) rfl (fun K hK => ?_) (AllReadyH.cons (o := ⟨some 158, _, _, _, _, _⟩) rfl (fun K hK => ?_) AllReadyH.nil)
                · obtain ⟨va, W39, hrun, sn⟩ := st.app 51 (own_below PR.out st.below) (by simp; omega)
                  rw [List.nil_append] at sn
                  refine opH_append rfl _ _ _ rfl rfl rfl hrun ?_
                  refine hK.out _ _ ?_ (fun hHeld => ?_)
                  · exact keptN sn.below KZ.out.box
                  clear hK K hrun st
                  try simp only [Act.put, List.setIfInBounds_toArray, List.set_cons_zero, List.set_cons_succ]
                  have st := sn
                  clear sn
                  refine wpAnyH_ready (rs := [5]) (by kernel_rfl) (by simp) ?_
                  refine AllReadyH.cons (o := ⟨some 158, _, _, _, _, _⟩) rfl (fun K hK => ?_) AllReadyH.nil
                  go_simp
                  have sn := st.one
                  refine hK.out _ _ ?_ (fun hHeld => ?_)
                  · exact keptN sn.below KZ.out.box
                  clear hK K st
                  try simp only [Act.put, List.setIfInBounds_toArray, List.set_cons_zero, List.set_cons_succ]
                  obtain ⟨bo, hc⟩ : ∃ x, x = W39.heap.size := ⟨_, rfl⟩
                  obtain ⟨W40, hw⟩ : ∃ x, x = W39.alloc (.cells #[.int .i64 (k : Nat)] 3) := ⟨_, rfl⟩
                  rw [← hw] at sn hHeld
                  rw [← hw]
                  rw [← hc] at sn
                  rw [← hc]
                  clear hw hc
                  have st := sn
                  clear sn
                  refine wpAnyH_ready (rs := [6]) (by kernel_rfl) (by simp) ?_
                  refine AllReadyH.cons (o := ⟨some 159, _, _, _, _, _⟩) rfl (fun K hK => ?_) AllReadyH.nil
                  obtain ⟨vb, W41, hrun, sn⟩ := st.app 51 st.oneRow (by simp; omega)
                  refine opH_append rfl _ _ _ rfl rfl rfl hrun ?_
                  refine hK.out _ _ ?_ (fun hHeld => ?_)
                  · exact keptN sn.below KZ.out.box
                  clear hK K hrun st
                  try simp only [Act.put, List.setIfInBounds_toArray, List.set_cons_zero, List.set_cons_succ]
                  have st := sn
                  clear sn
                  refine wpAnyH_ready (rs := [7]) (by kernel_rfl) (by simp) ?_
                  refine AllReadyH.cons (o := ⟨some 160, _, _, _, _, _⟩) rfl (fun K hK => ?_) AllReadyH.nil
                  go_simp
                  go_at_call 38
                  with_reducible refine (HSpan.out _ _ _ _ st).mono ?_
                  rintro e W42 ⟨rfl, hbC⟩
                  have sn := st.call hbC
                  refine hK.out _ _ ?_ (fun hHeld => ?_)
                  · exact keptN sn.below KZ.out.box
                  clear hK K hbC st
                  try simp only [Act.put, List.setIfInBounds_toArray, List.set_cons_zero, List.set_cons_succ]
                  have st := sn
                  clear sn
                  refine wpAnyH_take (i := 8) (oi := ⟨some 152, _, _, _, _, _⟩) (v := ?_) rfl (by kernel_rfl) (by kernel_rfl) (by kernel_rfl) (fun _ _ _ h => h) (Or.inl ⟨by rfl, ?hy⟩) (by assumption) ?_
                  case hy => (intro w hSw; (try dsimp only at hSw); go_simp; (try with_reducible rfl))
                  try simp only [Act.put, List.setIfInBounds_toArray, List.set_cons_zero, List.set_cons_succ]
                  refine wpAnyH_take (i := 9) (oi := ⟨some 161, _, _, _, _, _⟩) (v := ?_) rfl (by kernel_rfl) (by kernel_rfl) (by kernel_rfl) (fun _ _ _ h => h) (Or.inl ⟨by rfl, ?hy⟩) (by assumption) ?_
                  case hy => (intro w hSw; (try dsimp only at hSw); go_simp; (try with_reducible rfl))
                  try simp only [Act.put, List.setIfInBounds_toArray, List.set_cons_zero, List.set_cons_succ]
                  refine wpAnyH_take (i := 10) (oi := ⟨some 162, _, _, _, _, _⟩) (v := ?_) rfl (by kernel_rfl) (by kernel_rfl) (by kernel_rfl) (fun _ _ _ h => h) (Or.inl ⟨by rfl, ?hy⟩) (by assumption) ?_
                  case hy => (intro w hSw; (try dsimp only at hSw); go_simp; (try with_reducible rfl))
                  try simp only [Act.put, List.setIfInBounds_toArray, List.set_cons_zero, List.set_cons_succ]
                  refine wpAnyH_ready (rs := [12]) (by kernel_rfl) (by simp) ?_
                  refine AllReadyH.cons (o := ⟨none, _, _, _, _, _⟩) rfl (fun K hK => ?_) AllReadyH.nil
                  have he := (st.elv _ rfl).2.1
                  have q0 := Lib.cell_of_heap he 0
                  have q1 := Lib.cell_of_heap he 1
                  have r0 := frozen_block (j := 0) he
                  have r1 := frozen_block (j := 1) he
                  clear he
                  go_simp
                  have sn := st.stored (.int .i64 (fk : Nat)) (.int .i64 (tk : Nat))
                  refine hK.out _ _ ?_ (fun hHeld => ?_)
                  · exact keptN sn.2.1 KZ.out.box
                  clear hK K q0 q1 r0 r1
                  try simp only [Act.put, List.setIfInBounds_toArray, List.set_cons_zero, List.set_cons_succ]
                  refine wpAnyH_take (i := 13) (oi := ⟨some 27, _, _, _, _, _⟩) (v := ?_) rfl (by kernel_rfl) (by kernel_rfl) (by kernel_rfl) (fun _ _ _ h => h) (Or.inl ⟨by rfl, ?hy⟩) (by assumption) ?_
                  case hy => (intro w hSw; (try dsimp only at hSw); go_simp; (try with_reducible rfl))
                  try simp only [Act.put, List.setIfInBounds_toArray, List.set_cons_zero, List.set_cons_succ]
                  refine wpAnyH_done (by kernel_rfl) ?_ _
                  go_wp2_with fail
                  go_meet
                  exact ⟨bs, rfl, rfl, sn.1, sn.2.1⟩
                · go_simp
                  have sn := st.one
                  refine hK.out _ _ ?_ (fun hHeld => ?_)
                  · exact keptN sn.below KZ.out.box
                  clear hK K st
                  try simp only [Act.put, List.setIfInBounds_toArray, List.set_cons_zero, List.set_cons_succ]
                  obtain ⟨bo, hc⟩ : ∃ x, x = W38.heap.size := ⟨_, rfl⟩
                  obtain ⟨W44, hw⟩ : ∃ x, x = W38.alloc (.cells #[.int .i64 (k : Nat)] 3) := ⟨_, rfl⟩
                  rw [← hw] at sn hHeld
                  rw [← hw]
                  rw [← hc] at sn
                  rw [← hc]
                  clear hw hc
                  have st := sn
                  clear sn
                  refine wpAnyH_ready (rs := [3]) (by kernel_rfl) (by simp) ?_
                  refine AllReadyH.cons (o := ⟨some 156, _, _, _, _, _⟩) rfl (fun K hK => ?_) AllReadyH.nil
                  obtain ⟨va, W45, hrun, sn⟩ := st.app 51 (own_below PR.out st.below) (by simp; omega)
                  rw [List.nil_append] at sn
                  refine opH_append rfl _ _ _ rfl rfl rfl hrun ?_
                  refine hK.out _ _ ?_ (fun hHeld => ?_)
                  · exact keptN sn.below KZ.out.box
                  clear hK K hrun st
                  try simp only [Act.put, List.setIfInBounds_toArray, List.set_cons_zero, List.set_cons_succ]
                  have st := sn
                  clear sn
                  refine wpAnyH_ready (rs := [6]) (by kernel_rfl) (by simp) ?_
                  refine AllReadyH.cons (o := ⟨some 159, _, _, _, _, _⟩) rfl (fun K hK => ?_) AllReadyH.nil
                  obtain ⟨vb, W46, hrun, sn⟩ := st.app 51 st.oneRow (by simp; omega)
                  refine opH_append rfl _ _ _ rfl rfl rfl hrun ?_
                  refine hK.out _ _ ?_ (fun hHeld => ?_)
                  · exact keptN sn.below KZ.out.box
                  clear hK K hrun st
                  try simp only [Act.put, List.setIfInBounds_toArray, List.set_cons_zero, List.set_cons_succ]
                  have st := sn
                  clear sn
                  refine wpAnyH_ready (rs := [7]) (by kernel_rfl) (by simp) ?_
                  refine AllReadyH.cons (o := ⟨some 160, _, _, _, _, _⟩) rfl (fun K hK => ?_) AllReadyH.nil
                  go_simp
                  go_at_call 38
                  with_reducible refine (HSpan.out _ _ _ _ st).mono ?_
                  rintro e W47 ⟨rfl, hbC⟩
                  have sn := st.call hbC
                  refine hK.out _ _ ?_ (fun hHeld => ?_)
                  · exact keptN sn.below KZ.out.box
                  clear hK K hbC st
                  try simp only [Act.put, List.setIfInBounds_toArray, List.set_cons_zero, List.set_cons_succ]
                  have st := sn
                  clear sn
                  refine wpAnyH_take (i := 8) (oi := ⟨some 152, _, _, _, _, _⟩) (v := ?_) rfl (by kernel_rfl) (by kernel_rfl) (by kernel_rfl) (fun _ _ _ h => h) (Or.inl ⟨by rfl, ?hy⟩) (by assumption) ?_
                  case hy => (intro w hSw; (try dsimp only at hSw); go_simp; (try with_reducible rfl))
                  try simp only [Act.put, List.setIfInBounds_toArray, List.set_cons_zero, List.set_cons_succ]
                  refine wpAnyH_take (i := 9) (oi := ⟨some 161, _, _, _, _, _⟩) (v := ?_) rfl (by kernel_rfl) (by kernel_rfl) (by kernel_rfl) (fun _ _ _ h => h) (Or.inl ⟨by rfl, ?hy⟩) (by assumption) ?_
                  case hy => (intro w hSw; (try dsimp only at hSw); go_simp; (try with_reducible rfl))
                  try simp only [Act.put, List.setIfInBounds_toArray, List.set_cons_zero, List.set_cons_succ]
                  refine wpAnyH_take (i := 10) (oi := ⟨some 162, _, _, _, _, _⟩) (v := ?_) rfl (by kernel_rfl) (by kernel_rfl) (by kernel_rfl) (fun _ _ _ h => h) (Or.inl ⟨by rfl, ?hy⟩) (by assumption) ?_
                  case hy => (intro w hSw; (try dsimp only at hSw); go_simp; (try with_reducible rfl))
                  try simp only [Act.put, List.setIfInBounds_toArray, List.set_cons_zero, List.set_cons_succ]
                  refine wpAnyH_ready (rs := [12]) (by kernel_rfl) (by simp) ?_
                  refine AllReadyH.cons (o := ⟨none, _, _, _, _, _⟩) rfl (fun K hK => ?_) AllReadyH.nil
                  have he := (st.elv _ rfl).2.1
                  have q0 := Lib.cell_of_heap he 0
                  have q1 := Lib.cell_of_heap he 1
                  have r0 := frozen_block (j := 0) he
                  have r1 := frozen_block (j := 1) he
                  clear he
                  go_simp
                  have sn := st.stored (.int .i64 (fk : Nat)) (.int .i64 (tk : Nat))
                  refine hK.out _ _ ?_ (fun hHeld => ?_)
                  · exact keptN sn.2.1 KZ.out.box
                  clear hK K q0 q1 r0 r1
                  try simp only [Act.put, List.setIfInBounds_toArray, List.set_cons_zero, List.set_cons_succ]
                  refine wpAnyH_take (i := 13) (oi := ⟨some 27, _, _, _, _, _⟩) (v := ?_) rfl (by kernel_rfl) (by kernel_rfl) (by kernel_rfl) (fun _ _ _ h => h) (Or.inl ⟨by rfl, ?hy⟩) (by assumption) ?_
                  case hy => (intro w hSw; (try dsimp only at hSw); go_simp; (try with_reducible rfl))
                  try simp only [Act.put, List.setIfInBounds_toArray, List.set_cons_zero, List.set_cons_succ]
                  refine wpAnyH_done (by kernel_rfl) ?_ _
                  go_wp2_with fail
                  go_meet
                  exact ⟨bs, rfl, rfl, sn.1, sn.2.1⟩
            · go_simp
              have sn := st.one
              refine hK.out _ _ ?_ (fun hHeld => ?_)
              · exact keptN sn.below KZ.out.box
              clear hK K st
              try simp only [Act.put, List.setIfInBounds_toArray, List.set_cons_zero, List.set_cons_succ]
              obtain ⟨bo, hc⟩ : ∃ x, x = W0.heap.size := ⟨_, rfl⟩
              obtain ⟨W49, hw⟩ : ∃ x, x = W0.alloc (.cells #[.int .i64 (k : Nat)] 3) := ⟨_, rfl⟩
              rw [← hw] at sn hHeld
              rw [← hw]
              rw [← hc] at sn
              rw [← hc]
              clear hw hc
              have st := sn
              clear sn
              refine wpAnyH_ready (rs := [1, 11]) (by kernel_rfl) (by simp) ?_
              refine AllReadyH.cons (o := ⟨some 154, _, _, _, _, _⟩) rfl (fun K hK => ?_) (AllReadyH.cons (o := ⟨some 26, _, _, _, _, _⟩) rfl (fun K hK => ?_) AllReadyH.nil)
              · go_simp
                have sn := st.zero
                refine hK.out _ _ ?_ (fun hHeld => ?_)
                · exact keptN sn.below KZ.out.box
                clear hK K st
                try simp only [Act.put, List.setIfInBounds_toArray, List.set_cons_zero, List.set_cons_succ]
                obtain ⟨bz, hc⟩ : ∃ x, x = W49.heap.size := ⟨_, rfl⟩
                obtain ⟨W50, hw⟩ : ∃ x, x = W49.alloc (.cells #[] 3) := ⟨_, rfl⟩
                rw [← hw] at sn hHeld
                rw [← hw]
                rw [← hc] at sn
                rw [← hc]
                obtain ⟨vz, hv⟩ : ∃ x : Value, x = .slice (some ⟨bz, 0, none⟩) 0 0 := ⟨_, rfl⟩
                rw [← hv] at sn
                rw [← hv]
                clear hv
                clear hw hc
                have st := sn
                clear sn
                refine wpAnyH_ready (rs := [3, 11]) (by kernel_rfl) (by simp) ?_
                refine AllReadyH.cons (o := ⟨some 156, _, _, _, _, _⟩) rfl (fun K hK => ?_) (AllReadyH.cons (o := ⟨some 26, _, _, _, _, _⟩) rfl (fun K hK => ?_) AllReadyH.nil)
                · obtain ⟨va, W51, hrun, sn⟩ := st.app 51 (own_below PR.out st.below) (by simp; omega)
                  rw [List.nil_append] at sn
                  refine opH_append rfl _ _ _ rfl rfl rfl hrun ?_
                  refine hK.out _ _ ?_ (fun hHeld => ?_)
                  · exact keptN sn.below KZ.out.box
                  clear hK K hrun st
                  try simp only [Act.put, List.setIfInBounds_toArray, List.set_cons_zero, List.set_cons_succ]
                  have st := sn
                  clear sn
                  refine wpAnyH_ready (rs := [6, 11]) (by kernel_rfl) (by simp) ?_
                  refine AllReadyH.cons (o := ⟨some 159, _, _, _, _, _⟩) rfl (fun K hK => ?_) (AllReadyH.cons (o := ⟨some 26, _, _, _, _, _⟩) rfl (fun K hK => ?_) AllReadyH.nil)
                  · obtain ⟨vb, W52, hrun, sn⟩ := st.app 51 st.oneRow (by simp; omega)
                    refine opH_append rfl _ _ _ rfl rfl rfl hrun ?_
                    refine hK.out _ _ ?_ (fun hHeld => ?_)
                    · exact keptN sn.below KZ.out.box
                    clear hK K hrun st
                    try simp only [Act.put, List.setIfInBounds_toArray, List.set_cons_zero, List.set_cons_succ]
                    have st := sn
                    clear sn
                    refine wpAnyH_ready (rs := [7, 11]) (by kernel_rfl) (by simp) ?_
                    refine AllReadyH.cons (o := ⟨some 160, _, _, _, _, _⟩) rfl (fun K hK => ?_) (AllReadyH.cons (o := ⟨some 26, _, _, _, _, _⟩) rfl (fun K hK => ?_) AllReadyH.nil)
                    · go_simp
                      go_at_call 38
                      with_reducible refine (HSpan.out _ _ _ _ st).mono ?_
                      rintro e W53 ⟨rfl, hbC⟩
                      have sn := st.call hbC
                      refine hK.out _ _ ?_ (fun hHeld => ?_)
                      · exact keptN sn.below KZ.out.box
                      clear hK K hbC st
                      try simp only [Act.put, List.setIfInBounds_toArray, List.set_cons_zero, List.set_cons_succ]
                      have st := sn
                      clear sn
                      refine wpAnyH_take (i := 8) (oi := ⟨some 152, _, _, _, _, _⟩) (v := ?_) rfl (by kernel_rfl) (by kernel_rfl) (by kernel_rfl) (fun _ _ _ h => h) (Or.inl ⟨by rfl, ?hy⟩) (by assumption) ?_
                      case hy => (intro w hSw; (try dsimp only at hSw); go_simp; (try with_reducible rfl))
                      try simp only [Act.put, List.setIfInBounds_toArray, List.set_cons_zero, List.set_cons_succ]
                      refine wpAnyH_take (i := 9) (oi := ⟨some 161, _, _, _, _, _⟩) (v := ?_) rfl (by kernel_rfl) (by kernel_rfl) (by kernel_rfl) (fun _ _ _ h => h) (Or.inl ⟨by rfl, ?hy⟩) (by assumption) ?_
                      case hy => (intro w hSw; (try dsimp only at hSw); go_simp; (try with_reducible rfl))
                      try simp only [Act.put, List.setIfInBounds_toArray, List.set_cons_zero, List.set_cons_succ]
                      refine wpAnyH_take (i := 10) (oi := ⟨some 162, _, _, _, _, _⟩) (v := ?_) rfl (by kernel_rfl) (by kernel_rfl) (by kernel_rfl) (fun _ _ _ h => h) (Or.inl ⟨by rfl, ?hy⟩) (by assumption) ?_
                      case hy => (intro w hSw; (try dsimp only at hSw); go_simp; (try with_reducible rfl))
                      try simp only [Act.put, List.setIfInBounds_toArray, List.set_cons_zero, List.set_cons_succ]
                      refine wpAnyH_ready (rs := [11]) (by kernel_rfl) (by simp) ?_
                      refine AllReadyH.cons (o := ⟨some 26, _, _, _, _, _⟩) rfl (fun K hK => ?_) AllReadyH.nil
                      go_simp
                      have sn := st.span
                      refine hK.out _ _ ?_ (fun hHeld => ?_)
                      · exact keptN sn.below KZ.out.box
                      clear hK K st
                      try simp only [Act.put, List.setIfInBounds_toArray, List.set_cons_zero, List.set_cons_succ]
                      obtain ⟨bs, hc⟩ : ∃ x, x = W53.heap.size := ⟨_, rfl⟩
                      obtain ⟨W54, hw⟩ : ∃ x, x = W53.alloc (.cells #[.int .i64 0, .int .i64 0] 62) := ⟨_, rfl⟩
                      rw [← hw] at sn hHeld
                      rw [← hw]
                      rw [← hc] at sn
                      rw [← hc]
                      clear hw hc
                      have st := sn
                      clear sn
                      refine wpAnyH_ready (rs := [12]) (by kernel_rfl) (by simp) ?_
                      refine AllReadyH.cons (o := ⟨none, _, _, _, _, _⟩) rfl (fun K hK => ?_) AllReadyH.nil
                      have he := (st.elv _ rfl).2.1
                      have q0 := Lib.cell_of_heap he 0
                      have q1 := Lib.cell_of_heap he 1
                      have r0 := frozen_block (j := 0) he
                      have r1 := frozen_block (j := 1) he
                      clear he
                      go_simp
                      have sn := st.stored (.int .i64 (fk : Nat)) (.int .i64 (tk : Nat))
                      refine hK.out _ _ ?_ (fun hHeld => ?_)
                      · exact keptN sn.2.1 KZ.out.box
                      clear hK K q0 q1 r0 r1
                      try simp only [Act.put, List.setIfInBounds_toArray, List.set_cons_zero, List.set_cons_succ]
                      refine wpAnyH_take (i := 13) (oi := ⟨some 27, _, _, _, _, _⟩) (v := ?_) rfl (by kernel_rfl) (by kernel_rfl) (by kernel_rfl) (fun _ _ _ h => h) (Or.inl ⟨by rfl, ?hy⟩) (by assumption) ?_
                      case hy => (intro w hSw; (try dsimp only at hSw); go_simp; (try with_reducible rfl))
                      try simp only [Act.put, List.setIfInBounds_toArray, List.set_cons_zero, List.set_cons_succ]
                      refine wpAnyH_done (by kernel_rfl) ?_ _
                      go_wp2_with fail
                      go_meet
                      exact ⟨bs, rfl, rfl, sn.1, sn.2.1⟩
                    · go_simp
                      have sn := st.span
                      refine hK.out _ _ ?_ (fun hHeld => ?_)
                      · exact keptN sn.below KZ.out.box
                      clear hK K st
                      try simp only [Act.put, List.setIfInBounds_toArray, List.set_cons_zero, List.set_cons_succ]
                      obtain ⟨bs, hc⟩ : ∃ x, x = W52.heap.size := ⟨_, rfl⟩
                      obtain ⟨W56, hw⟩ : ∃ x, x = W52.alloc (.cells #[.int .i64 0, .int .i64 0] 62) := ⟨_, rfl⟩
                      rw [← hw] at sn hHeld
                      rw [← hw]
                      rw [← hc] at sn
                      rw [← hc]
                      clear hw hc
                      have st := sn
                      clear sn
                      refine wpAnyH_ready (rs := [7]) (by kernel_rfl) (by simp) ?_
                      refine AllReadyH.cons (o := ⟨some 160, _, _, _, _, _⟩) rfl (fun K hK => ?_) AllReadyH.nil
                      go_simp
                      go_at_call 38
                      with_reducible refine (HSpan.out _ _ _ _ st).mono ?_
                      rintro e W57 ⟨rfl, hbC⟩
                      have sn := st.call hbC
                      refine hK.out _ _ ?_ (fun hHeld => ?_)
                      · exact keptN sn.below KZ.out.box
                      clear hK K hbC st
                      try simp only [Act.put, List.setIfInBounds_toArray, List.set_cons_zero, List.set_cons_succ]
                      have st := sn
                      clear sn
                      refine wpAnyH_take (i := 8) (oi := ⟨some 152, _, _, _, _, _⟩) (v := ?_) rfl (by kernel_rfl) (by kernel_rfl) (by kernel_rfl) (fun _ _ _ h => h) (Or.inl ⟨by rfl, ?hy⟩) (by assumption) ?_
                      case hy => (intro w hSw; (try dsimp only at hSw); go_simp; (try with_reducible rfl))
                      try simp only [Act.put, List.setIfInBounds_toArray, List.set_cons_zero, List.set_cons_succ]
                      refine wpAnyH_take (i := 9) (oi := ⟨some 161, _, _, _, _, _⟩) (v := ?_) rfl (by kernel_rfl) (by kernel_rfl) (by kernel_rfl) (fun _ _ _ h => h) (Or.inl ⟨by rfl, ?hy⟩) (by assumption) ?_
                      case hy => (intro w hSw; (try dsimp only at hSw); go_simp; (try with_reducible rfl))
                      try simp only [Act.put, List.setIfInBounds_toArray, List.set_cons_zero, List.set_cons_succ]
                      refine wpAnyH_take (i := 10) (oi := ⟨some 162, _, _, _, _, _⟩) (v := ?_) rfl (by kernel_rfl) (by kernel_rfl) (by kernel_rfl) (fun _ _ _ h => h) (Or.inl ⟨by rfl, ?hy⟩) (by assumption) ?_
                      case hy => (intro w hSw; (try dsimp only at hSw); go_simp; (try with_reducible rfl))
                      try simp only [Act.put, List.setIfInBounds_toArray, List.set_cons_zero, List.set_cons_succ]
                      refine wpAnyH_ready (rs := [12]) (by kernel_rfl) (by simp) ?_
                      refine AllReadyH.cons (o := ⟨none, _, _, _, _, _⟩) rfl (fun K hK => ?_) AllReadyH.nil
                      have he := (st.elv _ rfl).2.1
                      have q0 := Lib.cell_of_heap he 0
                      have q1 := Lib.cell_of_heap he 1
                      have r0 := frozen_block (j := 0) he
                      have r1 := frozen_block (j := 1) he
                      clear he
                      go_simp
                      have sn := st.stored (.int .i64 (fk : Nat)) (.int .i64 (tk : Nat))
                      refine hK.out _ _ ?_ (fun hHeld => ?_)
                      · exact keptN sn.2.1 KZ.out.box
                      clear hK K q0 q1 r0 r1
                      try simp only [Act.put, List.setIfInBounds_toArray, List.set_cons_zero, List.set_cons_succ]
                      refine wpAnyH_take (i := 13) (oi := ⟨some 27, _, _, _, _, _⟩) (v := ?_) rfl (by kernel_rfl) (by kernel_rfl) (by kernel_rfl) (fun _ _ _ h => h) (Or.inl ⟨by rfl, ?hy⟩) (by assumption) ?_
                      case hy => (intro w hSw; (try dsimp only at hSw); go_simp; (try with_reducible rfl))
                      try simp only [Act.put, List.setIfInBounds_toArray, List.set_cons_zero, List.set_cons_succ]
                      refine wpAnyH_done (by kernel_rfl) ?_ _
                      go_wp2_with fail
                      go_meet
                      exact ⟨bs, rfl, rfl, sn.1, sn.2.1⟩
                  · go_simp
                    have sn := st.span
                    refine hK.out _ _ ?_ (fun hHeld => ?_)
                    · exact keptN sn.below KZ.out.box
                    clear hK K st
                    try simp only [Act.put, List.setIfInBounds_toArray, List.set_cons_zero, List.set_cons_succ]
                    obtain ⟨bs, hc⟩ : ∃ x, x = W51.heap.size := ⟨_, rfl⟩
                    obtain ⟨W59, hw⟩ : ∃ x, x = W51.alloc (.cells #[.int .i64 0, .int .i64 0] 62) := ⟨_, rfl⟩
                    rw [← hw] at sn hHeld
                    rw [← hw]
                    rw [← hc] at sn
                    rw [← hc]
                    clear hw hc
                    have st := sn
                    clear sn
                    refine wpAnyH_ready (rs := [6]) (by kernel_rfl) (by simp) ?_
                    refine AllReadyH.cons (o := ⟨some 159, _, _, _, _, _⟩) rfl (fun K hK => ?_) AllReadyH.nil
                    obtain ⟨vb, W60, hrun, sn⟩ := st.app 51 st.oneRow (by simp; omega)
                    refine opH_append rfl _ _ _ rfl rfl rfl hrun ?_
                    refine hK.out _ _ ?_ (fun hHeld => ?_)
                    · exact keptN sn.below KZ.out.box
                    clear hK K hrun st
                    try simp only [Act.put, List.setIfInBounds_toArray, List.set_cons_zero, List.set_cons_succ]
                    have st := sn
                    clear sn
                    refine wpAnyH_ready (rs := [7]) (by kernel_rfl) (by simp) ?_
                    refine AllReadyH.cons (o := ⟨some 160, _, _, _, _, _⟩) rfl (fun K hK => ?_) AllReadyH.nil
                    go_simp
                    go_at_call 38
                    with_reducible refine (HSpan.out _ _ _ _ st).mono ?_
                    rintro e W61 ⟨rfl, hbC⟩
                    have sn := st.call hbC
                    refine hK.out _ _ ?_ (fun hHeld => ?_)
                    · exact keptN sn.below KZ.out.box
                    clear hK K hbC st
                    try simp only [Act.put, List.setIfInBounds_toArray, List.set_cons_zero, List.set_cons_succ]
                    have st := sn
                    clear sn
                    refine wpAnyH_take (i := 8) (oi := ⟨some 152, _, _, _, _, _⟩) (v := ?_) rfl (by kernel_rfl) (by kernel_rfl) (by kernel_rfl) (fun _ _ _ h => h) (Or.inl ⟨by rfl, ?hy⟩) (by assumption) ?_
                    case hy => (intro w hSw; (try dsimp only at hSw); go_simp; (try with_reducible rfl))
                    try simp only [Act.put, List.setIfInBounds_toArray, List.set_cons_zero, List.set_cons_succ]
                    refine wpAnyH_take (i := 9) (oi := ⟨some 161, _, _, _, _, _⟩) (v := ?_) rfl (by kernel_rfl) (by kernel_rfl) (by kernel_rfl) (fun _ _ _ h => h) (Or.inl ⟨by rfl, ?hy⟩) (by assumption) ?_
                    case hy => (intro w hSw; (try dsimp only at hSw); go_simp; (try with_reducible rfl))
                    try simp only [Act.put, List.setIfInBounds_toArray, List.set_cons_zero, List.set_cons_succ]
                    refine wpAnyH_take (i := 10) (oi := ⟨some 162, _, _, _, _, _⟩) (v := ?_) rfl (by kernel_rfl) (by kernel_rfl) (by kernel_rfl) (fun _ _ _ h => h) (Or.inl ⟨by rfl, ?hy⟩) (by assumption) ?_
                    case hy => (intro w hSw; (try dsimp only at hSw); go_simp; (try with_reducible rfl))
                    try simp only [Act.put, List.setIfInBounds_toArray, List.set_cons_zero, List.set_cons_succ]
                    refine wpAnyH_ready (rs := [12]) (by kernel_rfl) (by simp) ?_
                    refine AllReadyH.cons (o := ⟨none, _, _, _, _, _⟩) rfl (fun K hK => ?_) AllReadyH.nil
                    have he := (st.elv _ rfl).2.1
                    have q0 := Lib.cell_of_heap he 0
                    have q1 := Lib.cell_of_heap he 1
                    have r0 := frozen_block (j := 0) he
                    have r1 := frozen_block (j := 1) he
                    clear he
                    go_simp
                    have sn := st.stored (.int .i64 (fk : Nat)) (.int .i64 (tk : Nat))
                    refine hK.out _ _ ?_ (fun hHeld => ?_)
                    · exact keptN sn.2.1 KZ.out.box
                    clear hK K q0 q1 r0 r1
                    try simp only [Act.put, List.setIfInBounds_toArray, List.set_cons_zero, List.set_cons_succ]
                    refine wpAnyH_take (i := 13) (oi := ⟨some 27, _, _, _, _, _⟩) (v := ?_) rfl (by kernel_rfl) (by kernel_rfl) (by kernel_rfl) (fun _ _ _ h => h) (Or.inl ⟨by rfl, ?hy⟩) (by assumption) ?_
                    case hy => (intro w hSw; (try dsimp only at hSw); go_simp; (try with_reducible rfl))
                    try simp only [Act.put, List.setIfInBounds_toArray, List.set_cons_zero, List.set_cons_succ]
                    refine wpAnyH_done (by kernel_rfl) ?_ _
                    go_wp2_with fail
                    go_meet
                    exact ⟨bs, rfl, rfl, sn.1, sn.2.1⟩
                · go_simp
                  have sn := st.span
                  refine hK.out _ _ ?_ (fun hHeld => ?_)
                  · exact keptN sn.below KZ.out.box
                  clear hK K st
                  try simp only [Act.put, List.setIfInBounds_toArray, List.set_cons_zero, List.set_cons_succ]
                  obtain ⟨bs, hc⟩ : ∃ x, x = W50.heap.size := ⟨_, rfl⟩
                  obtain ⟨W63, hw⟩ : ∃ x, x = W50.alloc (.cells #[.int .i64 0, .int .i64 0] 62) := ⟨_, rfl⟩
                  rw [← hw] at sn hHeld
                  rw [← hw]
                  rw [← hc] at sn
                  rw [← hc]
                  clear hw hc
                  have st := sn
                  clear sn
                  refine wpAnyH_ready (rs := [3]) (by kernel_rfl) (by simp) ?_
                  refine AllReadyH.cons (o := ⟨some 156, _, _, _, _, _⟩) rfl (fun K hK => ?_) AllReadyH.nil
                  obtain ⟨va, W64, hrun, sn⟩ := st.app 51 (own_below PR.out st.below) (by simp; omega)
                  rw [List.nil_append] at sn
                  refine opH_append rfl _ _ _ rfl rfl rfl hrun ?_
                  refine hK.out _ _ ?_ (fun hHeld => ?_)
                  · exact keptN sn.below KZ.out.box
                  clear hK K hrun st
                  try simp only [Act.put, List.setIfInBounds_toArray, List.set_cons_zero, List.set_cons_succ]
                  have st := sn
                  clear sn
                  refine wpAnyH_ready (rs := [6]) (by kernel_rfl) (by simp) ?_
                  refine AllReadyH.cons (o := ⟨some 159, _, _, _, _, _⟩) rfl (fun K hK => ?_) AllReadyH.nil
                  obtain ⟨vb, W65, hrun, sn⟩ := st.app 51 st.oneRow (by simp; omega)
                  refine opH_append rfl _ _ _ rfl rfl rfl hrun ?_
                  refine hK.out _ _ ?_ (fun hHeld => ?_)
                  · exact keptN sn.below KZ.out.box
                  clear hK K hrun st
                  try simp only [Act.put, List.setIfInBounds_toArray, List.set_cons_zero, List.set_cons_succ]
                  have st := sn
                  clear sn
                  refine wpAnyH_ready (rs := [7]) (by kernel_rfl) (by simp) ?_
                  refine AllReadyH.cons (o := ⟨some 160, _, _, _, _, _⟩) rfl (fun K hK => ?_) AllReadyH.nil
                  go_simp
                  go_at_call 38
                  with_reducible refine (HSpan.out _ _ _ _ st).mono ?_
                  rintro e W66 ⟨rfl, hbC⟩
                  have sn := st.call hbC
                  refine hK.out _ _ ?_ (fun hHeld => ?_)
                  · exact keptN sn.below KZ.out.box
                  clear hK K hbC st
                  try simp only [Act.put, List.setIfInBounds_toArray, List.set_cons_zero, List.set_cons_succ]
                  have st := sn
                  clear sn
                  refine wpAnyH_take (i := 8) (oi := ⟨some 152, _, _, _, _, _⟩) (v := ?_) rfl (by kernel_rfl) (by kernel_rfl) (by kernel_rfl) (fun _ _ _ h => h) (Or.inl ⟨by rfl, ?hy⟩) (by assumption) ?_
                  case hy => (intro w hSw; (try dsimp only at hSw); go_simp; (try with_reducible rfl))
                  try simp only [Act.put, List.setIfInBounds_toArray, List.set_cons_zero, List.set_cons_succ]
                  refine wpAnyH_take (i := 9) (oi := ⟨some 161, _, _, _, _, _⟩) (v := ?_) rfl (by kernel_rfl) (by kernel_rfl) (by kernel_rfl) (fun _ _ _ h => h) (Or.inl ⟨by rfl, ?hy⟩) (by assumption) ?_
                  case hy => (intro w hSw; (try dsimp only at hSw); go_simp; (try with_reducible rfl))
                  try simp only [Act.put, List.setIfInBounds_toArray, List.set_cons_zero, List.set_cons_succ]
                  refine wpAnyH_take (i := 10) (oi := ⟨some 162, _, _, _, _, _⟩) (v := ?_) rfl (by kernel_rfl) (by kernel_rfl) (by kernel_rfl) (fun _ _ _ h => h) (Or.inl ⟨by rfl, ?hy⟩) (by assumption) ?_
                  case hy => (intro w hSw; (try dsimp only at hSw); go_simp; (try with_reducible rfl))
                  try simp only [Act.put, List.setIfInBounds_toArray, List.set_cons_zero, List.set_cons_succ]
                  refine wpAnyH_ready (rs := [12]) (by kernel_rfl) (by simp) ?_
                  refine AllReadyH.cons (o := ⟨none, _, _, _, _, _⟩) rfl (fun K hK => ?_) AllReadyH.nil
                  have he := (st.elv _ rfl).2.1
                  have q0 := Lib.cell_of_heap he 0
                  have q1 := Lib.cell_of_heap he 1
                  have r0 := frozen_block (j := 0) he
                  have r1 := frozen_block (j := 1) he
                  clear he
                  go_simp
                  have sn := st.stored (.int .i64 (fk : Nat)) (.int .i64 (tk : Nat))
                  refine hK.out _ _ ?_ (fun hHeld => ?_)
                  · exact keptN sn.2.1 KZ.out.box
                  clear hK K q0 q1 r0 r1
                  try simp only [Act.put, List.setIfInBounds_toArray, List.set_cons_zero, List.set_cons_succ]
                  refine wpAnyH_take (i := 13) (oi := ⟨some 27, _, _, _, _, _⟩) (v := ?_) rfl (by kernel_rfl) (by kernel_rfl) (by kernel_rfl) (fun _ _ _ h => h) (Or.inl ⟨by rfl, ?hy⟩) (by assumption) ?_
                  case hy => (intro w hSw; (try dsimp only at hSw); go_simp; (try with_reducible rfl))
                  try simp only [Act.put, List.setIfInBounds_toArray, List.set_cons_zero, List.set_cons_succ]
                  refine wpAnyH_done (by kernel_rfl) ?_ _
                  go_wp2_with fail
                  go_meet
                  exact ⟨bs, rfl, rfl, sn.1, sn.2.1⟩
              · go_simp
                have sn := st.span
                refine hK.out _ _ ?_ (fun hHeld => ?_)
                · exact keptN sn.below KZ.out.box
                clear hK K st
                try simp only [Act.put, List.setIfInBounds_toArray, List.set_cons_zero, List.set_cons_succ]
                obtain ⟨bs, hc⟩ : ∃ x, x = W49.heap.size := ⟨_, rfl⟩
                obtain ⟨W68, hw⟩ : ∃ x, x = W49.alloc (.cells #[.int .i64 0, .int .i64 0] 62) := ⟨_, rfl⟩
                rw [← hw] at sn hHeld
                rw [← hw]
                rw [← hc] at sn
                rw [← hc]
                clear hw hc
                have st := sn
                clear sn
                refine wpAnyH_ready (rs := [1]) (by kernel_rfl) (by simp) ?_
                refine AllReadyH.cons (o := ⟨some 154, _, _, _, _, _⟩) rfl (fun K hK => ?_) AllReadyH.nil
                go_simp
                have sn := st.zero
                refine hK.out _ _ ?_ (fun hHeld => ?_)
                · exact keptN sn.below KZ.out.box
                clear hK K st
                try simp only [Act.put, List.setIfInBounds_toArray, List.set_cons_zero, List.set_cons_succ]
                obtain ⟨bz, hc⟩ : ∃ x, x = W68.heap.size := ⟨_, rfl⟩
                obtain ⟨W69, hw⟩ : ∃ x, x = W68.alloc (.cells #[] 3) := ⟨_, rfl⟩
                rw [← hw] at sn hHeld
                rw [← hw]
                rw [← hc] at sn
                rw [← hc]
                obtain ⟨vz, hv⟩ : ∃ x : Value, x = .slice (some ⟨bz, 0, none⟩) 0 0 := ⟨_, rfl⟩
                rw [← hv] at sn
                rw [← hv]
                clear hv
                clear hw hc
                have st := sn
                clear sn
                refine wpAnyH_ready (rs := [3]) (by kernel_rfl) (by simp) ?_
                refine AllReadyH.cons (o := ⟨some 156, _, _, _, _, _⟩) rfl (fun K hK => ?_) AllReadyH.nil
                obtain ⟨va, W70, hrun, sn⟩ := st.app 51 (own_below PR.out st.below) (by simp; omega)
                rw [List.nil_append] at sn
                refine opH_append rfl _ _ _ rfl rfl rfl hrun ?_
                refine hK.out _ _ ?_ (fun hHeld => ?_)
                · exact keptN sn.below KZ.out.box
                clear hK K hrun st
                try simp only [Act.put, List.setIfInBounds_toArray, List.set_cons_zero, List.set_cons_succ]
                have st := sn
                clear sn
                refine wpAnyH_ready (rs := [6]) (by kernel_rfl) (by simp) ?_
                refine AllReadyH.cons (o := ⟨some 159, _, _, _, _, _⟩) rfl (fun K hK => ?_) AllReadyH.nil
                obtain ⟨vb, W71, hrun, sn⟩ := st.app 51 st.oneRow (by simp; omega)
                refine opH_append rfl _ _ _ rfl rfl rfl hrun ?_
                refine hK.out _ _ ?_ (fun hHeld => ?_)
                · exact keptN sn.below KZ.out.box
                clear hK K hrun st
                try simp only [Act.put, List.setIfInBounds_toArray, List.set_cons_zero, List.set_cons_succ]
                have st := sn
                clear sn
                refine wpAnyH_ready (rs := [7]) (by kernel_rfl) (by simp) ?_
                refine AllReadyH.cons (o := ⟨some 160, _, _, _, _, _⟩) rfl (fun K hK => ?_) AllReadyH.nil
                go_simp
                go_at_call 38
                with_reducible refine (HSpan.out _ _ _ _ st).mono ?_
                rintro e W72 ⟨rfl, hbC⟩
                have sn := st.call hbC
                refine hK.out _ _ ?_ (fun hHeld => ?_)
                · exact keptN sn.below KZ.out.box
                clear hK K hbC st
                try simp only [Act.put, List.setIfInBounds_toArray, List.set_cons_zero, List.set_cons_succ]
                have st := sn
                clear sn
                refine wpAnyH_take (i := 8) (oi := ⟨some 152, _, _, _, _, _⟩) (v := ?_) rfl (by kernel_rfl) (by kernel_rfl) (by kernel_rfl) (fun _ _ _ h => h) (Or.inl ⟨by rfl, ?hy⟩) (by assumption) ?_
                case hy => (intro w hSw; (try dsimp only at hSw); go_simp; (try with_reducible rfl))
                try simp only [Act.put, List.setIfInBounds_toArray, List.set_cons_zero, List.set_cons_succ]
                refine wpAnyH_take (i := 9) (oi := ⟨some 161, _, _, _, _, _⟩) (v := ?_) rfl (by kernel_rfl) (by kernel_rfl) (by kernel_rfl) (fun _ _ _ h => h) (Or.inl ⟨by rfl, ?hy⟩) (by assumption) ?_
                case hy => (intro w hSw; (try dsimp only at hSw); go_simp; (try with_reducible rfl))
                try simp only [Act.put, List.setIfInBounds_toArray, List.set_cons_zero, List.set_cons_succ]
                refine wpAnyH_take (i := 10) (oi := ⟨some 162, _, _, _, _, _⟩) (v := ?_) rfl (by kernel_rfl) (by kernel_rfl) (by kernel_rfl) (fun _ _ _ h => h) (Or.inl ⟨by rfl, ?hy⟩) (by assumption) ?_
                case hy => (intro w hSw; (try dsimp only at hSw); go_simp; (try with_reducible rfl))
                try simp only [Act.put, List.setIfInBounds_toArray, List.set_cons_zero, List.set_cons_succ]
                refine wpAnyH_ready (rs := [12]) (by kernel_rfl) (by simp) ?_
                refine AllReadyH.cons (o := ⟨none, _, _, _, _, _⟩) rfl (fun K hK => ?_) AllReadyH.nil
                have he := (st.elv _ rfl).2.1
                have q0 := Lib.cell_of_heap he 0
                have q1 := Lib.cell_of_heap he 1
                have r0 := frozen_block (j := 0) he
                have r1 := frozen_block (j := 1) he
                clear he
                go_simp
                have sn := st.stored (.int .i64 (fk : Nat)) (.int .i64 (tk : Nat))
                refine hK.out _ _ ?_ (fun hHeld => ?_)
                · exact keptN sn.2.1 KZ.out.box
                clear hK K q0 q1 r0 r1
                try simp only [Act.put, List.setIfInBounds_toArray, List.set_cons_zero, List.set_cons_succ]
                refine wpAnyH_take (i := 13) (oi := ⟨some 27, _, _, _, _, _⟩) (v := ?_) rfl (by kernel_rfl) (by kernel_rfl) (by kernel_rfl) (fun _ _ _ h => h) (Or.inl ⟨by rfl, ?hy⟩) (by assumption) ?_
                case hy => (intro w hSw; (try dsimp only at hSw); go_simp; (try with_reducible rfl))
                try simp only [Act.put, List.setIfInBounds_toArray, List.set_cons_zero, List.set_cons_succ]
                refine wpAnyH_done (by kernel_rfl) ?_ _
                go_wp2_with fail
                go_meet
                exact ⟨bs, rfl, rfl, sn.1, sn.2.1⟩
            · go_simp
              have sn := st.span
              refine hK.out _ _ ?_ (fun hHeld => ?_)
              · exact keptN sn.below KZ.out.box
              clear hK K st
              try simp only [Act.put, List.setIfInBounds_toArray, List.set_cons_zero, List.set_cons_succ]
              obtain ⟨bs, hc⟩ : ∃ x, x = W0.heap.size := ⟨_, rfl⟩
              obtain ⟨W74, hw⟩ : ∃ x, x = W0.alloc (.cells #[.int .i64 0, .int .i64 0] 62) := ⟨_, rfl⟩
              rw [← hw] at sn hHeld
              rw [← hw]
              rw [← hc] at sn
              rw [← hc]
              clear hw hc
              have st := sn
              clear sn
              refine wpAnyH_ready (rs := [1, 5]) (by kernel_rfl) (by simp) ?_
              refine AllReadyH.cons (o := ⟨some 154, _, _, _, _, _⟩) rfl (fun K hK => ?_) (AllReadyH.cons (o := ⟨some 158, _, _, _, _, _⟩) rfl (fun K hK => ?_) AllReadyH.nil)
              · go_simp
                have sn := st.zero
                refine hK.out _ _ ?_ (fun hHeld => ?_)
                · exact keptN sn.below KZ.out.box
                clear hK K st
                try simp only [Act.put, List.setIfInBounds_toArray, List.set_cons_zero, List.set_cons_succ]
                obtain ⟨bz, hc⟩ : ∃ x, x = W74.heap.size := ⟨_, rfl⟩
                obtain ⟨W75, hw⟩ : ∃ x, x = W74.alloc (.cells #[] 3) := ⟨_, rfl⟩
                rw [← hw] at sn hHeld
                rw [← hw]
                rw [← hc] at sn
                rw [← hc]
                obtain ⟨vz, hv⟩ : ∃ x : Value, x = .slice (some ⟨bz, 0, none⟩) 0 0 := ⟨_, rfl⟩
                rw [← hv] at sn
                rw [← hv]
                clear hv
                clear hw hc
                have st := sn
                clear sn
                refine wpAnyH_ready (rs := [3, 5]) (by kernel_rfl) (by simp) ?_
                refine AllReadyH.cons (o := ⟨some 156, _, _, _, _, _⟩) rfl (fun K hK => ?_) (AllReadyH.cons (o := ⟨some 158, _, _, _, _, _⟩) rfl (fun K hK => ?_) AllReadyH.nil)
                · obtain ⟨va, W76, hrun, sn⟩ := st.app 51 (own_below PR.out st.below) (by simp; omega)
                  rw [List.nil_append] at sn
                  refine opH_append rfl _ _ _ rfl rfl rfl hrun ?_
                  refine hK.out _ _ ?_ (fun hHeld => ?_)
                  · exact keptN sn.below KZ.out.box
                  clear hK K hrun st
                  try simp only [Act.put, List.setIfInBounds_toArray, List.set_cons_zero, List.set_cons_succ]
                  have st := sn
                  clear sn
                  refine wpAnyH_ready (rs := [5]) (by kernel_rfl) (by simp) ?_
                  refine AllReadyH.cons (o := ⟨some 158, _, _, _, _, _⟩) rfl (fun K hK => ?_) AllReadyH.nil
                  go_simp
                  have sn := st.one
                  refine hK.out _ _ ?_ (fun hHeld => ?_)
                  · exact keptN sn.below KZ.out.box
                  clear hK K st
                  try simp only [Act.put, List.setIfInBounds_toArray, List.set_cons_zero, List.set_cons_succ]
                  obtain ⟨bo, hc⟩ : ∃ x, x = W76.heap.size := ⟨_, rfl⟩
                  obtain ⟨W77, hw⟩ : ∃ x, x = W76.alloc (.cells #[.int .i64 (k : Nat)] 3) := ⟨_, rfl⟩
                  rw [← hw] at sn hHeld
                  rw [← hw]
                  rw [← hc] at sn
                  rw [← hc]
                  clear hw hc
                  have st := sn
                  clear sn
                  refine wpAnyH_ready (rs := [6]) (by kernel_rfl) (by simp) ?_
                  refine AllReadyH.cons (o := ⟨some 159, _, _, _, _, _⟩) rfl (fun K hK => ?_) AllReadyH.nil
                  obtain ⟨vb, W78, hrun, sn⟩ := st.app 51 st.oneRow (by simp; omega)
                  refine opH_append rfl _ _ _ rfl rfl rfl hrun ?_
                  refine hK.out _ _ ?_ (fun hHeld => ?_)
                  · exact keptN sn.below KZ.out.box
                  clear hK K hrun st
                  try simp only [Act.put, List.setIfInBounds_toArray, List.set_cons_zero, List.set_cons_succ]
                  have st := sn
                  clear sn
                  refine wpAnyH_ready (rs := [7]) (by kernel_rfl) (by simp) ?_
                  refine AllReadyH.cons (o := ⟨some 160, _, _, _, _, _⟩) rfl (fun K hK => ?_) AllReadyH.nil
                  go_simp
                  go_at_call 38
                  with_reducible refine (HSpan.out _ _ _ _ st).mono ?_
                  rintro e W79 ⟨rfl, hbC⟩
                  have sn := st.call hbC
                  refine hK.out _ _ ?_ (fun hHeld => ?_)
                  · exact keptN sn.below KZ.out.box
                  clear hK K hbC st
                  try simp only [Act.put, List.setIfInBounds_toArray, List.set_cons_zero, List.set_cons_succ]
                  have st := sn
                  clear sn
                  refine wpAnyH_take (i := 8) (oi := ⟨some 152, _, _, _, _, _⟩) (v := ?_) rfl (by kernel_rfl) (by kernel_rfl) (by kernel_rfl) (fun _ _ _ h => h) (Or.inl ⟨by rfl, ?hy⟩) (by assumption) ?_
                  case hy => (intro w hSw; (try dsimp only at hSw); go_simp; (try with_reducible rfl))
                  try simp only [Act.put, List.setIfInBounds_toArray, List.set_cons_zero, List.set_cons_succ]
                  refine wpAnyH_take (i := 9) (oi := ⟨some 161, _, _, _, _, _⟩) (v := ?_) rfl (by kernel_rfl) (by kernel_rfl) (by kernel_rfl) (fun _ _ _ h => h) (Or.inl ⟨by rfl, ?hy⟩) (by assumption) ?_
                  case hy => (intro w hSw; (try dsimp only at hSw); go_simp; (try with_reducible rfl))
                  try simp only [Act.put, List.setIfInBounds_toArray, List.set_cons_zero, List.set_cons_succ]
                  refine wpAnyH_take (i := 10) (oi := ⟨some 162, _, _, _, _, _⟩) (v := ?_) rfl (by kernel_rfl) (by kernel_rfl) (by kernel_rfl) (fun _ _ _ h => h) (Or.inl ⟨by rfl, ?hy⟩) (by assumption) ?_
                  case hy => (intro w hSw; (try dsimp only at hSw); go_simp; (try with_reducible rfl))
                  try simp only [Act.put, List.setIfInBounds_toArray, List.set_cons_zero, List.set_cons_succ]
                  refine wpAnyH_ready (rs := [12]) (by kernel_rfl) (by simp) ?_
                  refine AllReadyH.cons (o := ⟨none, _, _, _, _, _⟩) rfl (fun K hK => ?_) AllReadyH.nil
                  have he := (st.elv _ rfl).2.1
                  have q0 := Lib.cell_of_heap he 0
                  have q1 := Lib.cell_of_heap he 1
                  have r0 := frozen_block (j := 0) he
                  have r1 := frozen_block (j := 1) he
                  clear he
                  go_simp
                  have sn := st.stored (.int .i64 (fk : Nat)) (.int .i64 (tk : Nat))
                  refine hK.out _ _ ?_ (fun hHeld => ?_)
                  · exact keptN sn.2.1 KZ.out.box
                  clear hK K q0 q1 r0 r1
                  try simp only [Act.put, List.setIfInBounds_toArray, List.set_cons_zero, List.set_cons_succ]
                  refine wpAnyH_take (i := 13) (oi := ⟨some 27, _, _, _, _, _⟩) (v := ?_) rfl (by kernel_rfl) (by kernel_rfl) (by kernel_rfl) (fun _ _ _ h => h) (Or.inl ⟨by rfl, ?hy⟩) (by assumption) ?_
                  case hy => (intro w hSw; (try dsimp only at hSw); go_simp; (try with_reducible rfl))
                  try simp only [Act.put, List.setIfInBounds_toArray, List.set_cons_zero, List.set_cons_succ]
                  refine wpAnyH_done (by kernel_rfl) ?_ _
                  go_wp2_with fail
                  go_meet
                  exact ⟨bs, rfl, rfl, sn.1, sn.2.1⟩
                · go_simp
                  have sn := st.one
                  refine hK.out _ _ ?_ (fun hHeld => ?_)
                  · exact keptN sn.below KZ.out.box
                  clear hK K st
                  try simp only [Act.put, List.setIfInBounds_toArray, List.set_cons_zero, List.set_cons_succ]
                  obtain ⟨bo, hc⟩ : ∃ x, x = W75.heap.size := ⟨_, rfl⟩
                  obtain ⟨W81, hw⟩ : ∃ x, x = W75.alloc (.cells #[.int .i64 (k : Nat)] 3) := ⟨_, rfl⟩
                  rw [← hw] at sn hHeld
                  rw [← hw]
                  rw [← hc] at sn
                  rw [← hc]
                  clear hw hc
                  have st := sn
                  clear sn
                  refine wpAnyH_ready (rs := [3]) (by kernel_rfl) (by simp) ?_
                  refine AllReadyH.cons (o := ⟨some 156, _, _, _, _, _⟩) rfl (fun K hK => ?_) AllReadyH.nil
                  obtain ⟨va, W82, hrun, sn⟩ := st.app 51 (own_below PR.out st.below) (by simp; omega)
                  rw [List.nil_append] at sn
                  refine opH_append rfl _ _ _ rfl rfl rfl hrun ?_
                  refine hK.out _ _ ?_ (fun hHeld => ?_)
                  · exact keptN sn.below KZ.out.box
                  clear hK K hrun st
                  try simp only [Act.put, List.setIfInBounds_toArray, List.set_cons_zero, List.set_cons_succ]
                  have st := sn
                  clear sn
                  refine wpAnyH_ready (rs := [6]) (by kernel_rfl) (by simp) ?_
                  refine AllReadyH.cons (o := ⟨some 159, _, _, _, _, _⟩) rfl (fun K hK => ?_) AllReadyH.nil
                  obtain ⟨vb, W83, hrun, sn⟩ := st.app 51 st.oneRow (by simp; omega)
                  refine opH_append rfl _ _ _ rfl rfl rfl hrun ?_
                  refine hK.out _ _ ?_ (fun hHeld => ?_)
                  · exact keptN sn.below KZ.out.box
                  clear hK K hrun st
                  try simp only [Act.put, List.setIfInBounds_toArray, List.set_cons_zero, List.set_cons_succ]
                  have st := sn
                  clear sn
                  refine wpAnyH_ready (rs := [7]) (by kernel_rfl) (by simp) ?_
                  refine AllReadyH.cons (o := ⟨some 160, _, _, _, _, _⟩) rfl (fun K hK => ?_) AllReadyH.nil
                  go_simp
                  go_at_call 38
                  with_reducible refine (HSpan.out _ _ _ _ st).mono ?_
                  rintro e W84 ⟨rfl, hbC⟩
                  have sn := st.call hbC
                  refine hK.out _ _ ?_ (fun hHeld => ?_)
                  · exact keptN sn.below KZ.out.box
                  clear hK K hbC st
                  try simp only [Act.put, List.setIfInBounds_toArray, List.set_cons_zero, List.set_cons_succ]
                  have st := sn
                  clear sn
                  refine wpAnyH_take (i := 8) (oi := ⟨some 152, _, _, _, _, _⟩) (v := ?_) rfl (by kernel_rfl) (by kernel_rfl) (by kernel_rfl) (fun _ _ _ h => h) (Or.inl ⟨by rfl, ?hy⟩) (by assumption) ?_
                  case hy => (intro w hSw; (try dsimp only at hSw); go_simp; (try with_reducible rfl))
                  try simp only [Act.put, List.setIfInBounds_toArray, List.set_cons_zero, List.set_cons_succ]
                  refine wpAnyH_take (i := 9) (oi := ⟨some 161, _, _, _, _, _⟩) (v := ?_) rfl (by kernel_rfl) (by kernel_rfl) (by kernel_rfl) (fun _ _ _ h => h) (Or.inl ⟨by rfl, ?hy⟩) (by assumption) ?_
                  case hy => (intro w hSw; (try dsimp only at hSw); go_simp; (try with_reducible rfl))
                  try simp only [Act.put, List.setIfInBounds_toArray, List.set_cons_zero, List.set_cons_succ]
                  refine wpAnyH_take (i := 10) (oi := ⟨some 162, _, _, _, _, _⟩) (v := ?_) rfl (by kernel_rfl) (by kernel_rfl) (by kernel_rfl) (fun _ _ _ h => h) (Or.inl ⟨by rfl, ?hy⟩) (by assumption) ?_
                  case hy => (intro w hSw; (try dsimp only at hSw); go_simp; (try with_reducible rfl))
                  try simp only [Act.put, List.setIfInBounds_toArray, List.set_cons_zero, List.set_cons_succ]
                  refine wpAnyH_ready (rs := [12]) (by kernel_rfl) (by simp) ?_
                  refine AllReadyH.cons (o := ⟨none, _, _, _, _, _⟩) rfl (fun K hK => ?_) AllReadyH.nil
                  have he := (st.elv _ rfl).2.1
                  have q0 := Lib.cell_of_heap he 0
                  have q1 := Lib.cell_of_heap he 1
                  have r0 := frozen_block (j := 0) he
                  have r1 := frozen_block (j := 1) he
                  clear he
                  go_simp
                  have sn := st.stored (.int .i64 (fk : Nat)) (.int .i64 (tk : Nat))
                  refine hK.out _ _ ?_ (fun hHeld => ?_)
                  · exact keptN sn.2.1 KZ.out.box
                  clear hK K q0 q1 r0 r1
                  try simp only [Act.put, List.setIfInBounds_toArray, List.set_cons_zero, List.set_cons_succ]
                  refine wpAnyH_take (i := 13) (oi := ⟨some 27, _, _, _, _, _⟩) (v := ?_) rfl (by kernel_rfl) (by kernel_rfl) (by kernel_rfl) (fun _ _ _ h => h) (Or.inl ⟨by rfl, ?hy⟩) (by assumption) ?_
                  case hy => (intro w hSw; (try dsimp only at hSw); go_simp; (try with_reducible rfl))
                  try simp only [Act.put, List.setIfInBounds_toArray, List.set_cons_zero, List.set_cons_succ]
                  refine wpAnyH_done (by kernel_rfl) ?_ _
                  go_wp2_with fail
                  go_meet
                  exact ⟨bs, rfl, rfl, sn.1, sn.2.1⟩
              · go_simp
                have sn := st.one
                refine hK.out _ _ ?_ (fun hHeld => ?_)
                · exact keptN sn.below KZ.out.box
                clear hK K st
                try simp only [Act.put, List.setIfInBounds_toArray, List.set_cons_zero, List.set_cons_succ]
                obtain ⟨bo, hc⟩ : ∃ x, x = W74.heap.size := ⟨_, rfl⟩
                obtain ⟨W86, hw⟩ : ∃ x, x = W74.alloc (.cells #[.int .i64 (k : Nat)] 3) := ⟨_, rfl⟩
                rw [← hw] at sn hHeld
                rw [← hw]
                rw [← hc] at sn
                rw [← hc]
                clear hw hc
                have st := sn
                clear sn
                refine wpAnyH_ready (rs := [1]) (by kernel_rfl) (by simp) ?_
                refine AllReadyH.cons (o := ⟨some 154, _, _, _, _, _⟩) rfl (fun K hK => ?_) AllReadyH.nil
                go_simp
                have sn := st.zero
                refine hK.out _ _ ?_ (fun hHeld => ?_)
                · exact keptN sn.below KZ.out.box
                clear hK K st
                try simp only [Act.put, List.setIfInBounds_toArray, List.set_cons_zero, List.set_cons_succ]
                obtain ⟨bz, hc⟩ : ∃ x, x = W86.heap.size := ⟨_, rfl⟩
                obtain ⟨W87, hw⟩ : ∃ x, x = W86.alloc (.cells #[] 3) := ⟨_, rfl⟩
                rw [← hw] at sn hHeld
                rw [← hw]
                rw [← hc] at sn
                rw [← hc]
                obtain ⟨vz, hv⟩ : ∃ x : Value, x = .slice (some ⟨bz, 0, none⟩) 0 0 := ⟨_, rfl⟩
                rw [← hv] at sn
                rw [← hv]
                clear hv
                clear hw hc
                have st := sn
                clear sn
                refine wpAnyH_ready (rs := [3]) (by kernel_rfl) (by simp) ?_
                refine AllReadyH.cons (o := ⟨some 156, _, _, _, _, _⟩) rfl (fun K hK => ?_) AllReadyH.nil
                obtain ⟨va, W88, hrun, sn⟩ := st.app 51 (own_below PR.out st.below) (by simp; omega)
                rw [List.nil_append] at sn
                refine opH_append rfl _ _ _ rfl rfl rfl hrun ?_
                refine hK.out _ _ ?_ (fun hHeld => ?_)
                · exact keptN sn.below KZ.out.box
                clear hK K hrun st
                try simp only [Act.put, List.setIfInBounds_toArray, List.set_cons_zero, List.set_cons_succ]
                have st := sn
                clear sn
                refine wpAnyH_ready (rs := [6]) (by kernel_rfl) (by simp) ?_
                refine AllReadyH.cons (o := ⟨some 159, _, _, _, _, _⟩) rfl (fun K hK => ?_) AllReadyH.nil
                obtain ⟨vb, W89, hrun, sn⟩ := st.app 51 st.oneRow (by simp; omega)
                refine opH_append rfl _ _ _ rfl rfl rfl hrun ?_
                refine hK.out _ _ ?_ (fun hHeld => ?_)
                · exact keptN sn.below KZ.out.box
                clear hK K hrun st
                try simp only [Act.put, List.setIfInBounds_toArray, List.set_cons_zero, List.set_cons_succ]
                have st := sn
                clear sn
                refine wpAnyH_ready (rs := [7]) (by kernel_rfl) (by simp) ?_
                refine AllReadyH.cons (o := ⟨some 160, _, _, _, _, _⟩) rfl (fun K hK => ?_) AllReadyH.nil
                go_simp
                go_at_call 38
                with_reducible refine (HSpan.out _ _ _ _ st).mono ?_
                rintro e W90 ⟨rfl, hbC⟩
                have sn := st.call hbC
                refine hK.out _ _ ?_ (fun hHeld => ?_)
                · exact keptN sn.below KZ.out.box
                clear hK K hbC st
                try simp only [Act.put, List.setIfInBounds_toArray, List.set_cons_zero, List.set_cons_succ]
                have st := sn
                clear sn
                refine wpAnyH_take (i := 8) (oi := ⟨some 152, _, _, _, _, _⟩) (v := ?_) rfl (by kernel_rfl) (by kernel_rfl) (by kernel_rfl) (fun _ _ _ h => h) (Or.inl ⟨by rfl, ?hy⟩) (by assumption) ?_
                case hy => (intro w hSw; (try dsimp only at hSw); go_simp; (try with_reducible rfl))
                try simp only [Act.put, List.setIfInBounds_toArray, List.set_cons_zero, List.set_cons_succ]
                refine wpAnyH_take (i := 9) (oi := ⟨some 161, _, _, _, _, _⟩) (v := ?_) rfl (by kernel_rfl) (by kernel_rfl) (by kernel_rfl) (fun _ _ _ h => h) (Or.inl ⟨by rfl, ?hy⟩) (by assumption) ?_
                case hy => (intro w hSw; (try dsimp only at hSw); go_simp; (try with_reducible rfl))
                try simp only [Act.put, List.setIfInBounds_toArray, List.set_cons_zero, List.set_cons_succ]
                refine wpAnyH_take (i := 10) (oi := ⟨some 162, _, _, _, _, _⟩) (v := ?_) rfl (by kernel_rfl) (by kernel_rfl) (by kernel_rfl) (fun _ _ _ h => h) (Or.inl ⟨by rfl, ?hy⟩) (by assumption) ?_
                case hy => (intro w hSw; (try dsimp only at hSw); go_simp; (try with_reducible rfl))
                try simp only [Act.put, List.setIfInBounds_toArray, List.set_cons_zero, List.set_cons_succ]
                refine wpAnyH_ready (rs := [12]) (by kernel_rfl) (by simp) ?_
                refine AllReadyH.cons (o := ⟨none, _, _, _, _, _⟩) rfl (fun K hK => ?_) AllReadyH.nil
                have he := (st.elv _ rfl).2.1
                have q0 := Lib.cell_of_heap he 0
                have q1 := Lib.cell_of_heap he 1
                have r0 := frozen_block (j := 0) he
                have r1 := frozen_block (j := 1) he
                clear he
                go_simp
                have sn := st.stored (.int .i64 (fk : Nat)) (.int .i64 (tk : Nat))
                refine hK.out _ _ ?_ (fun hHeld => ?_)
                · exact keptN sn.2.1 KZ.out.box
                clear hK K q0 q1 r0 r1
                try simp only [Act.put, List.setIfInBounds_toArray, List.set_cons_zero, List.set_cons_succ]
                refine wpAnyH_take (i := 13) (oi := ⟨some 27, _, _, _, _, _⟩) (v := ?_) rfl (by kernel_rfl) (by kernel_rfl) (by kernel_rfl) (fun _ _ _ h => h) (Or.inl ⟨by rfl, ?hy⟩) (by assumption) ?_
                case hy => (intro w hSw; (try dsimp only at hSw); go_simp; (try with_reducible rfl))
                try simp only [Act.put, List.setIfInBounds_toArray, List.set_cons_zero, List.set_cons_succ]
                refine wpAnyH_done (by kernel_rfl) ?_ _
                go_wp2_with fail
                go_meet
                exact ⟨bs, rfl, rfl, sn.1, sn.2.1⟩
          case rest =>
            obtain ⟨bs, rfl, rfl, hs, hb⟩ := hcut
            have s0 := Lib.cell_of_heap hs 0
            have s1 := Lib.cell_of_heap hs 1
            have hN := keepB N12.out hb
            have s2 := Lib.cell_of_heap hN 0
            have s3 := Lib.cell_of_heap hN 1
            have HB2 := Lib.hid (BR.out.trans (hb.mono BR.out.size))
            clear hs hb hN
            by_cases hc1 : fk ≤ lo
            · have i1 : decide ((fk : Int) ≤ (lo : Int)) = true := decide_eq_true (by omega)
              have i2 : (fk : Int) ≤ (lo : Int) := by omega
              have hc2 : ¬ hi ≤ tk := fun h => HKD.out ⟨hc1, h⟩
              have i3 : decide ((hi : Int) ≤ (tk : Int)) = false := decide_eq_false (by omega)
              have i4 : ¬ (hi : Int) ≤ (tk : Int) := by omega
              go_wp2_with fail
              exact ⟨⟨k + 1, by omega, by go_num, HB2.out⟩, by simp only [intOf]; omega⟩
            · have i1 : decide ((fk : Int) ≤ (lo : Int)) = false := decide_eq_false (by omega)
              have i2 : ¬ (fk : Int) ≤ (lo : Int) := by omega
              go_wp2_with fail
              exact ⟨⟨k + 1, by omega, by go_num, HB2.out⟩, by simp only [intOf]; omega⟩
        · have hke : k = x.kids.length := by omega
          subst hke
          have hk2 : decide ((x.kids.length : Int) < (x.kids.length : Int)) = false := by simp
          have hk3 : ¬ (x.kids.length : Int) < (x.kids.length : Int) := by omega
          go_wp2_with fail
          refine (alive5_any wr KZ.out.tabs).mono ?_
          rintro e w10 ⟨rfl, hb⟩
          have BB := Lib.hid (BB.out.trans (hb.mono BB.out.size))
          clear hb
          go_wp2_with fail
          go_ret
          exact ⟨rfl, BB.out⟩
end Go.Proofs.YtpjlgahbbmlngaaDoor.lawTreeFound
