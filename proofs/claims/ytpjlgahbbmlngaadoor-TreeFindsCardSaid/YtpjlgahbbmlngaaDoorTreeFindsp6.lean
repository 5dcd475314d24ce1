/-
  TreeFinds: Find returns the position of the leaf with an offset, Cover that of the last kid of the last kid whose span holds a span, and All those of a kind, of any Node, or the error. No condition: every input. (gen_wtn.py)
-/
import Derived.Test.YtpjlgahbbmlngaaDoorTreeFindsp3
import Derived.Test.YtpjlgahbbmlngaaDoorTreeFindsp4
import Derived.Test.YtpjlgahbbmlngaaDoorTreeFindsp5
import Derived.Test.YtpjlgahbbmlngaaDoorTreeLeavesp25
import Derived.Test.YtpjlgahbbmlngaaDoorTreeLeavesp24
import Derived.Deep.RegionHeld3
import Derived.Deep.DeepCutAuto
namespace Go.Proofs.YtpjlgahbbmlngaaDoor.lawTreeFinds
set_option linter.unusedVariables false
set_option linter.unusedSimpArgs false
open Go.ChangeShapes Go.WideShapes Go.RowKit

/-- a slice of positions: one of them -/
theorem possq_get {base : Nat} {W : World} {v : Value} {ps : List (List Nat)} (h : PossQ base W v ps) {k : Nat} (hk : k < ps.length) :
    ∃ b cap A c, v = .slice (some ⟨b, 0, none⟩) ps.length cap ∧ W.cell? ⟨b, k, none⟩ = some (.slice A (intL ps[k]).length c) ∧ IntsR W A (intL ps[k]) := by
  obtain ⟨vs, h1, h2⟩ := h.vals
  obtain ⟨b, cap, rfl, _, _⟩ := h1.form (by omega)
  have hl : vs.length = ps.length := by have := h1.1; omega
  have hv : vs[k]? = some (vs[k]'(by omega)) := List.getElem?_eq_getElem (by omega)
  have hp : ps[k]? = some ps[k] := List.getElem?_eq_getElem hk
  have hr := h2 k _ _ hv hp
  obtain ⟨A, c, e, hI⟩ := IntsR.of_own hr
  have hc := h1.cellAt k (by omega)
  rw [hv, e] at hc
  exact ⟨b, cap, A, c, rfl, by simpa [intL] using hc, hI⟩
theorem possq_shape {base : Nat} {W : World} {v : Value} {ps : List (List Nat)} (h : PossQ base W v ps) : ∃ A c, v = .slice A ps.length c := by
  obtain ⟨vs, h1, _⟩ := h.vals
  exact own_slice h1
theorem possq_ofR {base : Nat} {W : World} {v : Value} {ps : List (List Nat)} (h : PossR base (fun _ => False) W v ps) : PossQ base W v ps := by
  obtain ⟨⟨vs, h1, _, h3⟩, _⟩ := h
  exact ⟨⟨vs, h1, fun i u p hi hp => (h3 i u p hi hp).1⟩⟩
theorem row_arg {W : World} {base : Nat} {v : Value} {p : List Nat} (h : W.ownsRow base 3 1 v p.length (intCells p)) : ∃ A c, v = .slice A (intL p).length c ∧ IntsR W A (intL p) := by
  obtain ⟨A, c, e, hI⟩ := IntsR.of_own h
  exact ⟨A, c, by simpa [intL] using e, hI⟩
/-- Find's and Cover's error and position -/
def fdE (z : Nd) (off : Int) : Int := (findR z off).1
def fdP (z : Nd) (off : Int) : List Int := intL (findR z off).2
def cvE (z : Nd) (a c : Int) : Int := (coverR z a c).1
def cvP (z : Nd) (a c : Int) : List Int := intL (coverR z a c).2
theorem intsSame (c1 c2 : Nat) (A1 A2 : Option Addr) (l : List Int) (w : World) (hl : l.length ≤ 1000000000) (hE1 : IntsR w A1 l) (hE2 : IntsR w A2 l) :
    Calls Tryd.prog 35 #[.slice A1 l.length c1, .slice A2 l.length c2] w fun e w' => e = .returned (.bool true) ∧ Below w.heap.size w w' := by
  have h := Ints_any c1 c2 A1 A2 l l w hl hE1 hE2
  rw [decide_eq_true rfl] at h
  exact h

set_option maxRecDepth 100000 in
set_option maxHeartbeats 8000000 in
theorem walk (n0 : Nd) (v0 : Value) (hr0 : rawN n0) (off : Int) (sa sc : Int) (kd : Int) (w : World) (hT : Tabs w) (hN0 : NodeV w v0 n0) :
    Calls Tryd.prog 7 #[v0, .int .i64 off, .agg #[.int .i64 sa, .int .i64 sc], .int .i64 kd] w fun e w' => e = .returned (.bool true) ∧ Below w.heap.size w w' := by
  have hN := hN0
  obtain ⟨A0, c0, rfl, hk0⟩ := hN0
  obtain ⟨w0, hw0⟩ : ∃ w0, w0 = (w.alloc (.cells #[.int .i64 n0.kind, .int .i64 n0.tok.1, .string n0.tok.2, .slice A0 n0.kids.length c0] 26)).alloc (.cells #[.int .i64 sa, .int .i64 sc] 62) := ⟨_, rfl⟩
  have hB0 : Below w.heap.size w w0 := by rw [hw0]; exact ((Below.refl _ _).alloc (Nat.le_refl _) _).alloc (by simp) _
  have hb1 : w0.heap[w.heap.size + 1]? = some (.cells #[.int .i64 sa, .int .i64 sc] 62 (0, 0)) := by rw [hw0]; exact alloc_at _ _ _ (by simp)
  have hcut := Cut_any n0 _ w0 hr0 (hN.below hB0)
  have hz := SmZ.of_cut (most := 600) (by decide) (by decide) n0
  have HT := Lib.hid (hT.below hB0)
  generalize cutM 600 n0 = z at hcut hz
  have Hcut := Lib.hid hcut
  have HZ := Lib.hid (show _ ∧ _ ∧ _ from ⟨hz, hz.size, hz.sum⟩)
  have HB0 := Lib.hid (show _ ∧ _ from ⟨hB0, hb1⟩)
  have HW := Lib.hid hw0
  have hsm : sumT (leavesN z) ≤ 1000000000000 := hz.sum
  clear hcut hz hT hN hk0 hr0 hB0 hb1 hw0
  cases hf : formedB z with
  | false =>
    have hE : totN z ≤ 1000000000000 := tot_small HZ.out.1
    have hE2 : endS z := by unfold endS; rw [endW_walkN]; exact hE
    have hfd : ∀ W v, Tabs W → NodeV W v z → Calls Tryd.prog 44 #[v, .int .i64 off] W fun e w' => (∃ A c, e = .returned (.tuple #[.slice A (fdP z off).length c, .int .i64 (fdE z off)]) ∧ IntsR w' A (fdP z off)) ∧ Below W.heap.size W w' := fun W v t h =>
      (Find_any z off v W HZ.out.2.1 HZ.out.2.2 hE2 t h).mono fun e w' ⟨v', h1, h2, h3⟩ => by
        obtain ⟨A, c, rfl, hI⟩ := row_arg h2
        exact ⟨⟨A, c, h1, hI⟩, h3⟩
    have hcv : ∀ W v, Tabs W → NodeV W v z → Calls Tryd.prog 45 #[v, .agg #[.int .i64 sa, .int .i64 sc]] W fun e w' => (∃ A c, e = .returned (.tuple #[.slice A (cvP z sa sc).length c, .int .i64 (cvE z sa sc)]) ∧ IntsR w' A (cvP z sa sc)) ∧ Below W.heap.size W w' := fun W v t h =>
      (Cover_any z sa sc v W HZ.out.2.1 hE t h).mono fun e w' ⟨v', h1, h2, h3⟩ => by
        obtain ⟨A, c, rfl, hI⟩ := row_arg h2
        exact ⟨⟨A, c, h1, hI⟩, h3⟩
    have h16 := fun W v (h : NodeV W v z) => RIsFormed_any z v W (Nat.le_trans HZ.out.1.count (by decide)) HZ.out.1.sm h
    rw [rFormB_eq, hf] at h16
    have H16 := Lib.hid h16
    have e1 : fdP z off = [] := by unfold fdP findR; rw [if_pos hf]; rfl
    have e2 : fdE z off = 4 := by unfold fdE findR; rw [if_pos hf]
    have e3 : cvP z sa sc = [] := by unfold cvP coverR; rw [if_pos hf]; rfl
    have e4 : cvE z sa sc = 4 := by unfold cvE coverR; rw [if_pos hf]
    have hal := fun W v (t : Tabs W) (h : NodeV W v z) => All_any z kd v W HZ.out.2.1 t h
    rw [hf] at hal
    simp only [Bool.false_eq_true, if_false] at hal
    rw [e1, e2] at hfd
    rw [e3, e4] at hcv
    have HFD := Lib.hid hfd
    have HCV := Lib.hid hcv
    have HAL := Lib.hid hal
    clear hE hE2 hfd hcv h16 e1 e2 e3 e4 hal hf
    go_enter Tryd.func7, Tryd.ntmps7
    go_wp2_with fail
    rw [← HW.out]
    refine Hcut.out.mono ?_
    rintro e w1 ⟨v1, rfl, ⟨A, c, rfl, hcc, hkp⟩, hb1⟩
    have hBw : Below w.heap.size w w1 := HB0.out.1.trans (hb1.mono HB0.out.1.size)
    have KZ := Lib.hid (KeepZ.of (c := c) hcc hkp (HT.out.below hb1))
    have BB := Lib.hid (hBw.alloc (o := .cells (nodeCells z A c) 26) hBw.size)
    have N6 := Lib.hid (keepB (keepB HB0.out.2 hb1) (allocB w1 (.cells (nodeCells z A c) 26)))
    clear hBw hb1 hkp hcc
    obtain ⟨wa, hwa⟩ : ∃ x, x = w1.alloc (.cells (nodeCells z A c) 26) := ⟨_, rfl⟩
    obtain ⟨bz, hbz⟩ : ∃ x, x = w1.heap.size := ⟨_, rfl⟩
    rw [← hwa] at KZ BB N6
    rw [← hbz] at KZ
    obtain ⟨q0, q1, q2, q3⟩ := cells_of_block KZ.out.box
    go_wp2_with fail
    try clear q0 q1 q2 q3
    try clear s0 s1
    try rw [show w1.alloc (.cells #[.int .i64 z.kind, .int .i64 z.tok.1, .string z.tok.2, .slice A z.kids.length c] 26) = wa from hwa.symm]
    rw [← hbz]
    clear hwa hbz
    refine (HFD.out wa _ KZ.out.tabs KZ.out.node).mono ?_
    rintro e w2 ⟨⟨Af, cf, rfl, _⟩, hb⟩
    have KZ := Lib.hid (KZ.out.below hb)
    have BB := Lib.hid (BB.out.trans (hb.mono BB.out.size))
    have N6 := Lib.hid (keepB N6.out hb)
    obtain ⟨q0, q1, q2, q3⟩ := cells_of_block KZ.out.box
    have s0 := Lib.cell_of_heap N6.out 0
    have s1 := Lib.cell_of_heap N6.out 1
    clear hb
    go_wp2_with fail
    try clear q0 q1 q2 q3
    try clear s0 s1
    refine (HCV.out w2 _ KZ.out.tabs KZ.out.node).mono ?_
    rintro e w3 ⟨⟨Ac, cc, rfl, _⟩, hb⟩
    have KZ := Lib.hid (KZ.out.below hb)
    have BB := Lib.hid (BB.out.trans (hb.mono BB.out.size))
    have N6 := Lib.hid (keepB N6.out hb)
    obtain ⟨q0, q1, q2, q3⟩ := cells_of_block KZ.out.box
    clear hb
    go_wp2_with fail
    try clear q0 q1 q2 q3
    try clear s0 s1
    refine (HAL.out w3 _ KZ.out.tabs KZ.out.node).mono ?_
    rintro e w4 ⟨rfl, hb⟩
    have KZ := Lib.hid (KZ.out.below hb)
    have BB := Lib.hid (BB.out.trans (hb.mono BB.out.size))
    have N6 := Lib.hid (keepB N6.out hb)
    obtain ⟨q0, q1, q2, q3⟩ := cells_of_block KZ.out.box
    clear hb
    go_wp2_with fail
    try clear q0 q1 q2 q3
    try clear s0 s1
    refine (H16.out w4 _ KZ.out.node).mono ?_
    rintro e w5 ⟨rfl, hb⟩
    have KZ := Lib.hid (KZ.out.below hb)
    have BB := Lib.hid (BB.out.trans (hb.mono BB.out.size))
    have N6 := Lib.hid (keepB N6.out hb)
    clear hb
    go_wp2_with fail
    refine (alive5_any w5 KZ.out.tabs).mono ?_
    rintro e w6 ⟨rfl, hb⟩
    have KZ := Lib.hid (KZ.out.below hb)
    have BB := Lib.hid (BB.out.trans (hb.mono BB.out.size))
    have N6 := Lib.hid (keepB N6.out hb)
    clear hb
    go_wp2_with fail
    go_ret
    exact ⟨rfl, BB.out⟩
  | true =>
    have hparts : partsN z = true := by
      have := hf
      unfold formedB at this
      simp only [Bool.and_eq_true] at this
      exact this.1.1
    have hE : totN z ≤ 1000000000000 := by rw [totN_sum z hparts]; exact hsm
    have hE2 : endS z := by unfold endS; rw [endW_walkN]; exact hE
    have hfd : ∀ W v, Tabs W → NodeV W v z → Calls Tryd.prog 44 #[v, .int .i64 off] W fun e w' => (∃ A c, e = .returned (.tuple #[.slice A (fdP z off).length c, .int .i64 (fdE z off)]) ∧ IntsR w' A (fdP z off)) ∧ Below W.heap.size W w' := fun W v t h =>
      (Find_any z off v W HZ.out.2.1 HZ.out.2.2 hE2 t h).mono fun e w' ⟨v', h1, h2, h3⟩ => by
        obtain ⟨A, c, rfl, hI⟩ := row_arg h2
        exact ⟨⟨A, c, h1, hI⟩, h3⟩
    have hcv : ∀ W v, Tabs W → NodeV W v z → Calls Tryd.prog 45 #[v, .agg #[.int .i64 sa, .int .i64 sc]] W fun e w' => (∃ A c, e = .returned (.tuple #[.slice A (cvP z sa sc).length c, .int .i64 (cvE z sa sc)]) ∧ IntsR w' A (cvP z sa sc)) ∧ Below W.heap.size W w' := fun W v t h =>
      (Cover_any z sa sc v W HZ.out.2.1 hE t h).mono fun e w' ⟨v', h1, h2, h3⟩ => by
        obtain ⟨A, c, rfl, hI⟩ := row_arg h2
        exact ⟨⟨A, c, h1, hI⟩, h3⟩
    have h16 := fun W v (h : NodeV W v z) => RIsFormed_any z v W (Nat.le_trans HZ.out.1.count (by decide)) HZ.out.1.sm h
    rw [rFormB_eq, hf] at h16
    have H16 := Lib.hid h16
    have hfe : fdE z off = (if off < 0 ∨ ((sumT (leavesN z) : Nat) : Int) < off then 2 else if leavesN z = [] then 5 else 0) ∧ fdP z off = (if off < 0 ∨ ((sumT (leavesN z) : Nat) : Int) < off then [] else if leavesN z = [] then [] else intL (rfindN (deepN z + 1) z off)) := by
      unfold fdE fdP
      rw [findR_eq hf (Nat.lt_succ_self _)]
      split
      · exact ⟨rfl, rfl⟩
      · split
        · exact ⟨rfl, rfl⟩
        · exact ⟨rfl, rfl⟩
    have hce : cvE z sa sc = (if sa < 0 ∨ sc < sa ∨ ((sumT (leavesN z) : Nat) : Int) < sc then 2 else 0) ∧ cvP z sa sc = (if sa < 0 ∨ sc < sa ∨ ((sumT (leavesN z) : Nat) : Int) < sc then [] else intL (rcovN (deepN z + 1) z 0 sa sc)) := by
      unfold cvE cvP
      rw [coverR_eq hf (Nat.lt_succ_self _)]
      split
      · exact ⟨rfl, rfl⟩
      · exact ⟨rfl, rfl⟩
    have hal : ∀ W v, Tabs W → NodeV W v z → Calls Tryd.prog 46 #[v, .int .i64 kd] W fun e w' => (∃ v', e = .returned (.tuple #[v', .int .i64 0]) ∧ PossQ W.heap.size w' v' (kindW kd (walkN [] z))) ∧ Below W.heap.size W w' := fun W v t h =>
      (All_any z kd v W HZ.out.2.1 t h).mono fun e w' ⟨h1, h2⟩ => by
        rw [if_pos hf] at h1
        obtain ⟨v', h1, h3⟩ := h1
        exact ⟨⟨v', h1, possq_ofR h3⟩, h2⟩
    have hwi := fun W v (h : NodeV W v z) => RWidth_any (deepN z + 1) z v W (Nat.lt_succ_self _) (Nat.le_trans HZ.out.1.count (by decide)) (by rw [sumF_leaves hparts]; exact hsm) h
    rw [sumF_leaves hparts] at hwi
    have hra := fun W v (h : NodeV W v z) => RAll_any z kd v W (Nat.le_trans HZ.out.1.count (by decide)) h
    have hpl : (kindW kd (walkN [] z)).length ≤ 600 := by
      have h1 := kindW_le kd (walkN [] z)
      rw [walkN_length] at h1
      have := HZ.out.1.count
      omega
    have hlens : ∀ p ∈ kindW kd (walkN [] z), (intL p).length ≤ 1000000000 := fun p hp => by
      simp only [kindW, List.mem_map, List.mem_filter] at hp
      obtain ⟨x, ⟨hx, _⟩, rfl⟩ := hp
      have h1 := longW_mem hx
      rw [longW_walkN] at h1
      have h2 := atN_small_len z
      have h3 := HZ.out.1.count
      simp only [List.length_nil, Nat.zero_add] at h1
      simp [intL]; omega
    have hl1 : (fdP z off).length ≤ 1000000000 := by
      unfold fdP findR
      split
      · simp [intL]
      · split
        · simp [intL]
        · split
          · rename_i p hp
            obtain ⟨k, x, g1, _⟩ := findL_mem _ _ hp
            have h1 := longW_mem (List.mem_of_getElem? g1)
            rw [longW_walkN] at h1
            have h2 := atN_small_len z
            have h3 := HZ.out.1.count
            simp only [List.length_nil, Nat.zero_add] at h1
            simp [intL]; omega
          · simp [intL]
    have hl2 : (cvP z sa sc).length ≤ 1000000000 := by
      unfold cvP coverR
      split
      · simp [intL]
      · split
        · simp [intL]
        · rcases covK_last (L := walkN [] z) (sp := spansN 0 z) (s1 := sa) (s2 := sc) (by rw [walkN_length, spansN_length]) (walkN [] z).length (Nat.le_refl _) with ⟨h1, _⟩ | ⟨k, x, s, h1, h2, h3, h4, _⟩
          · simp [h1, intL]
          · have g1 := longW_mem (List.mem_of_getElem? h2)
            rw [longW_walkN] at g1
            have g2 := atN_small_len z
            have g3 := HZ.out.1.count
            simp only [List.length_nil, Nat.zero_add] at g1
            simp [h4, intL]; omega
    generalize kindW kd (walkN [] z) = ps at hal hra hpl hlens
    generalize fdE z off = ef at hfd hfe
    generalize fdP z off = lf at hfd hfe hl1
    generalize cvE z sa sc = ec at hcv hce
    generalize cvP z sa sc = lc at hcv hce hl2
    obtain ⟨S, hS⟩ : ∃ S, S = sumT (leavesN z) := ⟨_, rfl⟩
    rw [← hS] at hfe hce hwi hsm
    have HFD := Lib.hid hfd
    have HCV := Lib.hid hcv
    have HAL := Lib.hid hal
    have HWI := Lib.hid hwi
    have HRA := Lib.hid hra
    have HF := Lib.hid (show _ ∧ _ ∧ _ ∧ _ ∧ _ ∧ _ ∧ _ ∧ _ from ⟨hf, hparts, hfe, hce, hl1, hl2, hlens, hpl⟩)
    clear hE hE2 hfd hcv h16 hfe hce hal hwi hra hpl hlens hf hparts hS hl1 hl2
    go_enter Tryd.func7, Tryd.ntmps7
    go_wp2_with fail
    rw [← HW.out]
    refine Hcut.out.mono ?_
    rintro e w1 ⟨v1, rfl, ⟨A, c, rfl, hcc, hkp⟩, hb1⟩
    have hBw : Below w.heap.size w w1 := HB0.out.1.trans (hb1.mono HB0.out.1.size)
    have KZ := Lib.hid (KeepZ.of (c := c) hcc hkp (HT.out.below hb1))
    have BB := Lib.hid (hBw.alloc (o := .cells (nodeCells z A c) 26) hBw.size)
    have N6 := Lib.hid (keepB (keepB HB0.out.2 hb1) (allocB w1 (.cells (nodeCells z A c) 26)))
    clear hBw hb1 hkp hcc
    obtain ⟨wa, hwa⟩ : ∃ x, x = w1.alloc (.cells (nodeCells z A c) 26) := ⟨_, rfl⟩
    obtain ⟨bz, hbz⟩ : ∃ x, x = w1.heap.size := ⟨_, rfl⟩
    rw [← hwa] at KZ BB N6
    rw [← hbz] at KZ
    obtain ⟨q0, q1, q2, q3⟩ := cells_of_block KZ.out.box
    go_wp2_with fail
    try clear q0 q1 q2 q3
    try clear s0 s1
    try rw [show w1.alloc (.cells #[.int .i64 z.kind, .int .i64 z.tok.1, .string z.tok.2, .slice A z.kids.length c] 26) = wa from hwa.symm]
    rw [← hbz]
    clear hwa hbz
    refine (HFD.out wa _ KZ.out.tabs KZ.out.node).mono ?_
    rintro e w2 ⟨⟨Af, cf, rfl, hI⟩, hb⟩
    have KZ := Lib.hid (KZ.out.below hb)
    have BB := Lib.hid (BB.out.trans (hb.mono BB.out.size))
    have N6 := Lib.hid (keepB N6.out hb)
    have IF := Lib.hid hI
    clear hI
    obtain ⟨q0, q1, q2, q3⟩ := cells_of_block KZ.out.box
    have s0 := Lib.cell_of_heap N6.out 0
    have s1 := Lib.cell_of_heap N6.out 1
    clear hb
    go_wp2_with fail
    try clear q0 q1 q2 q3
    try clear s0 s1
    refine (HCV.out w2 _ KZ.out.tabs KZ.out.node).mono ?_
    rintro e w3 ⟨⟨Ac, cc, rfl, hI⟩, hb⟩
    have KZ := Lib.hid (KZ.out.below hb)
    have BB := Lib.hid (BB.out.trans (hb.mono BB.out.size))
    have N6 := Lib.hid (keepB N6.out hb)
    have IF := Lib.hid (IF.out.below hb)
    have IC := Lib.hid hI
    clear hI
    obtain ⟨q0, q1, q2, q3⟩ := cells_of_block KZ.out.box
    clear hb
    go_wp2_with fail
    try clear q0 q1 q2 q3
    try clear s0 s1
    refine (HAL.out w3 _ KZ.out.tabs KZ.out.node).mono ?_
    rintro e w4 ⟨⟨vl, rfl, hq⟩, hb⟩
    have KZ := Lib.hid (KZ.out.below hb)
    have BB := Lib.hid (BB.out.trans (hb.mono BB.out.size))
    have N6 := Lib.hid (keepB N6.out hb)
    have IF := Lib.hid (IF.out.below hb)
    have IC := Lib.hid (IC.out.below hb)
    obtain ⟨Al, cl, rfl⟩ := possq_shape hq
    have PL := Lib.hid hq
    clear hq
    obtain ⟨q0, q1, q2, q3⟩ := cells_of_block KZ.out.box
    clear hb
    go_wp2_with fail
    try clear q0 q1 q2 q3
    try clear s0 s1
    refine (H16.out w4 _ KZ.out.node).mono ?_
    rintro e w5 ⟨rfl, hb⟩
    have KZ := Lib.hid (KZ.out.below hb)
    have BB := Lib.hid (BB.out.trans (hb.mono BB.out.size))
    have N6 := Lib.hid (keepB N6.out hb)
    have IF := Lib.hid (IF.out.below hb)
    have IC := Lib.hid (IC.out.below hb)
    have PL := Lib.hid (PL.out.call hb)
    obtain ⟨q0, q1, q2, q3⟩ := cells_of_block KZ.out.box
    clear hb
    go_wp2_with fail
    try clear q0 q1 q2 q3
    try clear s0 s1
    refine (HWI.out w5 _ KZ.out.node).mono ?_
    rintro e w6 ⟨rfl, hb⟩
    have KZ := Lib.hid (KZ.out.below hb)
    have BB := Lib.hid (BB.out.trans (hb.mono BB.out.size))
    have N6 := Lib.hid (keepB N6.out hb)
    have IF := Lib.hid (IF.out.below hb)
    have IC := Lib.hid (IC.out.below hb)
    have PL := Lib.hid (PL.out.call hb)
    clear hb
    obtain ⟨bA, hbA⟩ : ∃ b, b = decide (off < 0 ∨ (S : Int) < off) := ⟨_, rfl⟩
    have HBA := Lib.hid hbA
    clear hbA
    go_upto_region 8 with fail
    go_cut [80] (fun s80 W => s80 = .bool bA ∧ Below w6.heap.size w6 W)
    case first =>
      by_cases h0 : off < 0
      · have hb1 : bA = true := by rw [HBA.out]; simp [h0]
        subst hb1
        have h1 : decide (off < 0) = true := decide_eq_true h0
        go_wp2_with fail
        go_meet
        exact ⟨rfl, Below.refl _ _⟩
      · have h1 : decide (off < 0) = false := decide_eq_false h0
        by_cases h2 : (S : Int) < off
        · have hb1 : bA = true := by rw [HBA.out]; simp [h2]
          subst hb1
          have h3 : decide ((S : Int) < off) = true := decide_eq_true h2
          go_wp2_with fail
          go_meet
          exact ⟨rfl, Below.refl _ _⟩
        · have hb1 : bA = false := by rw [HBA.out]; simp [h0, h2]
          subst hb1
          have h3 : decide ((S : Int) < off) = false := decide_eq_false h2
          go_wp2_with fail
          go_meet
          exact ⟨rfl, Below.refl _ _⟩
    case rest =>
      obtain ⟨rfl, hb⟩ := hcut
      have KZ := Lib.hid (KZ.out.below hb)
      have BB := Lib.hid (BB.out.trans (hb.mono BB.out.size))
      have N6 := Lib.hid (keepB N6.out hb)
      have IF := Lib.hid (IF.out.below hb)
      have IC := Lib.hid (IC.out.below hb)
      have PL := Lib.hid (PL.out.call hb)
      clear hb
      obtain ⟨wq, hwq⟩ : ∃ wq, wq = wc := ⟨_, rfl⟩
      rw [← hwq]
      rw [← hwq] at KZ BB N6 IF IC PL
      clear hwq
      go_upto_if 80 with fail
      go_cut [8] (fun s8 W => s8 = .bool false ∧ Below wq.heap.size wq W)
      case first =>
        cases hbb : bA with
        | true =>
          have hd := HBA.out
          rw [hbb] at hd
          have hd2 := of_decide_eq_true hd.symm
          have he := HF.out.2.2.1
          rw [if_pos hd2, if_pos hd2] at he
          obtain ⟨rfl, rfl⟩ := he
          clear hd hd2
          go_wp2_with fail
          go_meet
          exact ⟨rfl, Below.refl _ _⟩
        | false =>
          have hd := HBA.out
          rw [hbb] at hd
          have hd2 := of_decide_eq_false hd.symm
          have he := HF.out.2.2.1
          rw [if_neg hd2, if_neg hd2] at he
          by_cases hl : leavesN z = []
          · rw [if_pos hl, if_pos hl] at he
            obtain ⟨rfl, rfl⟩ := he
            have HRF := Lib.hid (fun W v (h : NodeV W v z) => RFind_none z off v W HF.out.2.1 HZ.out.2.1 h hl)
            clear hd hd2 hl
            obtain ⟨q0, q1, q2, q3⟩ := cells_of_block KZ.out.box
            go_wp2_with fail
            refine (HRF.out wq _ KZ.out.node).mono ?_
            rintro e w7 ⟨rfl, hb⟩
            have BX := Lib.hid hb
            clear hb
            go_wp2_with fail
            go_meet
            exact ⟨rfl, BX.out⟩
          · rw [if_neg hl, if_neg hl] at he
            obtain ⟨rfl, hlf⟩ := he
            have HRF := Lib.hid (fun W v (h : NodeP (fun _ => True) W v z) => RFind_some z off v W HF.out.2.1 HZ.out.2.1 HZ.out.2.2 h hl (by omega) (by omega))
            have HLF := Lib.hid hlf
            clear hd hd2 hl hlf
            obtain ⟨q0, q1, q2, q3⟩ := cells_of_block KZ.out.box
            go_wp2_with fail
            refine (HRF.out wq _ KZ.out.nodeC).mono ?_
            rintro e w7 ⟨vr, rfl, hrow, hb⟩
            obtain ⟨Ar, cr, rfl, hI⟩ := row_arg hrow
            rw [← HLF.out] at hI
            rw [← HLF.out]
            have IR := Lib.hid hI
            have IFx := Lib.hid (IF.out.below hb)
            have BX := Lib.hid hb
            clear hb hI hrow q0 q1 q2 q3
            go_wp2_with fail
            refine (intsSame cf cr Af Ar lf w7 HF.out.2.2.2.2.1 IFx.out IR.out).mono ?_
            rintro e w8 ⟨rfl, hb⟩
            have BX := Lib.hid (BX.out.trans (hb.mono BX.out.size))
            clear hb
            go_wp2_with fail
            go_meet
            exact ⟨rfl, BX.out⟩
      case rest =>
        obtain ⟨rfl, hb⟩ := hcut
        have KZ := Lib.hid (KZ.out.below hb)
        have BB := Lib.hid (BB.out.trans (hb.mono BB.out.size))
        have N6 := Lib.hid (keepB N6.out hb)
        have IF := Lib.hid (IF.out.below hb)
        have IC := Lib.hid (IC.out.below hb)
        have PL := Lib.hid (PL.out.call hb)
        clear hb
        obtain ⟨wp, hwp⟩ : ∃ wp, wp = wc := ⟨_, rfl⟩
        rw [← hwp]
        rw [← hwp] at KZ BB N6 IF IC PL
        clear hwp
        obtain ⟨bB, hbB⟩ : ∃ b, b = decide (sa < 0 ∨ sc < sa ∨ (S : Int) < sc) := ⟨_, rfl⟩
        have HBB := Lib.hid hbB
        clear hbB
        go_upto_region 17 with fail
        go_cut [126] (fun s126 W => s126 = .bool bB ∧ Below wp.heap.size wp W)
        case first =>
          have s0 := Lib.cell_of_heap N6.out 0
          have s1 := Lib.cell_of_heap N6.out 1
          by_cases h0 : sa < 0
          · have hb1 : bB = true := by rw [HBB.out]; simp [h0]
            subst hb1
            have h1 : decide (sa < 0) = true := decide_eq_true h0
            go_wp2_with fail
            go_meet
            exact ⟨rfl, Below.refl _ _⟩
          · have h1 : decide (sa < 0) = false := decide_eq_false h0
            by_cases h2 : sc < sa
            · have hb1 : bB = true := by rw [HBB.out]; simp [h2]
              subst hb1
              have h3 : decide (sc < sa) = true := decide_eq_true h2
              go_wp2_with fail
              go_meet
              exact ⟨rfl, Below.refl _ _⟩
            · have h3 : decide (sc < sa) = false := decide_eq_false h2
              by_cases h4 : (S : Int) < sc
              · have hb1 : bB = true := by rw [HBB.out]; simp [h4]
                subst hb1
                have h5 : decide ((S : Int) < sc) = true := decide_eq_true h4
                go_wp2_with fail
                go_meet
                exact ⟨rfl, Below.refl _ _⟩
              · have hb1 : bB = false := by rw [HBB.out]; simp [h0, h2, h4]
                subst hb1
                have h5 : decide ((S : Int) < sc) = false := decide_eq_false h4
                go_wp2_with fail
                go_meet
                exact ⟨rfl, Below.refl _ _⟩
        case rest =>
          obtain ⟨rfl, hb⟩ := hcut
          have KZ := Lib.hid (KZ.out.below hb)
          have BB := Lib.hid (BB.out.trans (hb.mono BB.out.size))
          have N6 := Lib.hid (keepB N6.out hb)
          have IF := Lib.hid (IF.out.below hb)
          have IC := Lib.hid (IC.out.below hb)
          have PL := Lib.hid (PL.out.call hb)
          clear hb
          obtain ⟨wr0, hwr⟩ : ∃ wr0, wr0 = wc := ⟨_, rfl⟩
          rw [← hwr]
          rw [← hwr] at KZ BB N6 IF IC PL
          clear hwr
          go_upto_if 126 with fail
          go_cut [8] (fun s8 W => s8 = .bool false ∧ Below wr0.heap.size wr0 W)
          case first =>
            cases hbb : bB with
            | true =>
              have hd := HBB.out
              rw [hbb] at hd
              have hd2 := of_decide_eq_true hd.symm
              have he := HF.out.2.2.2.1
              rw [if_pos hd2, if_pos hd2] at he
              obtain ⟨rfl, rfl⟩ := he
              clear hd hd2
              go_wp2_with fail
              go_meet
              exact ⟨rfl, Below.refl _ _⟩
            | false =>
              have hd := HBB.out
              rw [hbb] at hd
              have hd2 := of_decide_eq_false hd.symm
              have he := HF.out.2.2.2.1
              rw [if_neg hd2, if_neg hd2] at he
              obtain ⟨rfl, hlf⟩ := he
              have HRC := Lib.hid (fun W v (h : NodeP (fun _ => True) W v z) => RCover_any z sa sc v W HF.out.2.1 HZ.out.2.1 HZ.out.2.2 h)
              have HLF := Lib.hid hlf
              clear hd hd2 hlf
              obtain ⟨q0, q1, q2, q3⟩ := cells_of_block KZ.out.box
              have s0 := Lib.cell_of_heap N6.out 0
              have s1 := Lib.cell_of_heap N6.out 1
              go_wp2_with fail
              refine (HRC.out wr0 _ KZ.out.nodeC).mono ?_
              rintro e w7 ⟨vr, rfl, hrow, hb⟩
              obtain ⟨Ar, cr, rfl, hI⟩ := row_arg hrow
              rw [← HLF.out] at hI
              rw [← HLF.out]
              have IR := Lib.hid hI
              have IFx := Lib.hid (IC.out.below hb)
              have BX := Lib.hid hb
              clear hb hI hrow q0 q1 q2 q3 s0 s1
              go_wp2_with fail
              refine (intsSame cc cr Ac Ar lc w7 HF.out.2.2.2.2.2.1 IFx.out IR.out).mono ?_
              rintro e w8 ⟨rfl, hb⟩
              have BX := Lib.hid (BX.out.trans (hb.mono BX.out.size))
              clear hb
              go_wp2_with fail
              go_meet
              exact ⟨rfl, BX.out⟩
          case rest =>
            obtain ⟨rfl, hb⟩ := hcut
            have KZ := Lib.hid (KZ.out.below hb)
            have BB := Lib.hid (BB.out.trans (hb.mono BB.out.size))
            have N6 := Lib.hid (keepB N6.out hb)
            have IF := Lib.hid (IF.out.below hb)
            have IC := Lib.hid (IC.out.below hb)
            have PL := Lib.hid (PL.out.call hb)
            clear hb
            obtain ⟨wt, hwt⟩ : ∃ wt, wt = wc := ⟨_, rfl⟩
            rw [← hwt]
            rw [← hwt] at KZ BB N6 IF IC PL
            clear hwt
            obtain ⟨q0, q1, q2, q3⟩ := cells_of_block KZ.out.box
            go_wp2_with fail
            refine (HRA.out wt _ KZ.out.node).mono ?_
            rintro e w20 ⟨vw, rfl, hq, hb⟩
            obtain ⟨Aw, cw, rfl⟩ := possq_shape hq
            have KZ := Lib.hid (KZ.out.below hb)
            have BB := Lib.hid (BB.out.trans (hb.mono BB.out.size))
            have PL := Lib.hid (PL.out.call hb)
            have PW := Lib.hid hq
            clear hb hq q0 q1 q2 q3
            go_wp2_with fail
            go_loopw [20] (fun i wr => ∃ k : Nat, k ≤ ps.length ∧ i = .int .i64 k ∧ Below w20.heap.size w20 wr) (fun i _ => ps.length - (intOf i).toNat)
            case atStart => exact ⟨0, Nat.zero_le _, rfl, Below.refl _ _⟩
            case round =>
              obtain ⟨k, hk, rfl, hb⟩ := hrel
              have KZ := Lib.hid (KZ.out.below hb)
              have BB := Lib.hid (BB.out.trans (hb.mono BB.out.size))
              have PL := Lib.hid (PL.out.call hb)
              have PW := Lib.hid (PW.out.call hb)
              have BR := Lib.hid hb
              have hk0 : (0 : Int) ≤ (k : Int) := by omega
              clear hb
              by_cases hlt : k < ps.length
              · have hk2 : (k : Int) < (ps.length : Int) := by omega
                obtain ⟨b1, cp1, A1, c1, e1, f1, g1⟩ := possq_get PL.out hlt
                obtain ⟨b2, cp2, A2, c2, e2, f2, g2⟩ := possq_get PW.out hlt
                obtain ⟨rfl, _, rfl⟩ := Value.slice.inj e1
                obtain ⟨rfl, _, rfl⟩ := Value.slice.inj e2
                have hln := HF.out.2.2.2.2.2.2.1 _ (List.getElem_mem hlt)
                obtain ⟨lp, hlp⟩ : ∃ lp, lp = intL ps[k] := ⟨_, rfl⟩
                rw [← hlp] at f1 f2 g1 g2 hln
                have HI := Lib.hid (show ∀ W, Below wr.heap.size wr W → _ ∧ _ from fun W hW => And.intro (g1.below hW) (g2.below hW))
                have hbl1 : b1 < wr.heap.size := World.block_lt_of_cell? wr ⟨b1, k, none⟩ f1
                have hbl2 : b2 < wr.heap.size := World.block_lt_of_cell? wr ⟨b2, k, none⟩ f2
                have HFc := Lib.hid (show ∀ W, Below wr.heap.size wr W → W.cell? ⟨b1, k, none⟩ = some (.slice A1 lp.length c1) ∧ W.cell? ⟨b2, k, none⟩ = some (.slice A2 lp.length c2) from fun W hW => ⟨(hW.cell (p := ⟨b1, k, none⟩) hbl1).trans f1, (hW.cell (p := ⟨b2, k, none⟩) hbl2).trans f2⟩)
                clear e1 e2 f1 f2 g1 g2 hlp hbl1 hbl2
                have e3 : IntKind.i64.wrap ((k : Int) + 1) = ((k + 1 : Nat) : Int) := by rw [IntWalk.i64_in _ (by have := HF.out.2.2.2.2.2.2.2; omega)]; omega
                go_wp2_with fail
                refine wp_region_held_drew (S := fun W => W.cell? ⟨b1, k, none⟩ = some (.slice A1 lp.length c1) ∧ W.cell? ⟨b2, k, none⟩ = some (.slice A2 lp.length c2)) (by kernel_rfl) ?_ (fun hHeld => ?_)
                · exact HFc.out _ (Below.drew (Below.refl _ _))
                obtain ⟨W0, hw⟩ : ∃ u, u = wr.drew := ⟨_, rfl⟩
                have hb0 : Below wr.heap.size wr W0 := by rw [hw]; exact Below.drew (Below.refl _ _)
                rw [← hw] at hHeld
                rw [← hw]
                clear hw
                refine wpAnyH_take (i := 0) (oi := ⟨some 162, _, _, _, _, _⟩) (v := ?_) rfl (by kernel_rfl) (by kernel_rfl) (by kernel_rfl) (fun _ _ _ h => h) (Or.inl ⟨by rfl, ?hy⟩) (by assumption) ?_
                case hy => (intro w hSw; (try dsimp only at hSw); go_simp; (try with_reducible rfl))
                try simp only [Act.put, List.setIfInBounds_toArray, List.set_cons_zero, List.set_cons_succ]
                refine wpAnyH_take (i := 1) (oi := ⟨some 163, _, _, _, _, _⟩) (v := ?_) rfl (by kernel_rfl) (by kernel_rfl) (by kernel_rfl) (fun _ _ _ h => h) (Or.inl ⟨by rfl, ?hy⟩) (by assumption) ?_
                case hy => (intro w hSw; (try dsimp only at hSw); go_simp; (try with_reducible rfl))
                try simp only [Act.put, List.setIfInBounds_toArray, List.set_cons_zero, List.set_cons_succ]
                refine wpAnyH_take (i := 2) (oi := ⟨some 164, _, _, _, _, _⟩) (v := ?_) rfl (by kernel_rfl) (by kernel_rfl) (by kernel_rfl) (fun _ _ _ h => h) (Or.inl ⟨by rfl, ?hy⟩) (by assumption) ?_
                case hy => (intro w hSw; (try dsimp only at hSw); go_simp; (try with_reducible rfl))
                try simp only [Act.put, List.setIfInBounds_toArray, List.set_cons_zero, List.set_cons_succ]
                refine wpAnyH_take (i := 3) (oi := ⟨some 165, _, _, _, _, _⟩) (v := ?_) rfl (by kernel_rfl) (by kernel_rfl) (by kernel_rfl) (fun _ _ _ h => h) (Or.inl ⟨by rfl, ?hy⟩) (by assumption) ?_
                case hy => (intro w hSw; (try dsimp only at hSw); go_simp; (try with_reducible rfl))
                try simp only [Act.put, List.setIfInBounds_toArray, List.set_cons_zero, List.set_cons_succ]
                refine wpAnyH_take (i := 4) (oi := ⟨some 166, _, _, _, _, _⟩) (v := ?_) rfl (by kernel_rfl) (by kernel_rfl) (by kernel_rfl) (fun _ _ _ h => h) (Or.inl ⟨by rfl, ?hy⟩) (by assumption) ?_
                case hy => (intro w hSw; (try dsimp only at hSw); go_simp; (try with_reducible rfl))
                try simp only [Act.put, List.setIfInBounds_toArray, List.set_cons_zero, List.set_cons_succ]
                refine wpAnyH_take (i := 5) (oi := ⟨some 167, _, _, _, _, _⟩) (v := ?_) rfl (by kernel_rfl) (by kernel_rfl) (by kernel_rfl) (fun _ _ _ h => h) (Or.inl ⟨by rfl, ?hy⟩) (by assumption) ?_
                case hy => (intro w hSw; (try dsimp only at hSw); go_simp; (try with_reducible rfl))
                try simp only [Act.put, List.setIfInBounds_toArray, List.set_cons_zero, List.set_cons_succ]
                refine wpAnyH_take (i := 6) (oi := ⟨some 168, _, _, _, _, _⟩) (v := ?_) rfl (by kernel_rfl) (by kernel_rfl) (by kernel_rfl) (fun _ _ _ h => h) (Or.inl ⟨by rfl, ?hy⟩) (by assumption) ?_
                case hy => (intro w hSw; (try dsimp only at hSw); go_simp; (try with_reducible rfl))
                try simp only [Act.put, List.setIfInBounds_toArray, List.set_cons_zero, List.set_cons_succ]
                refine wpAnyH_take (i := 7) (oi := ⟨some 169, _, _, _, _, _⟩) (v := ?_) rfl (by kernel_rfl) (by kernel_rfl) (by kernel_rfl) (fun _ _ _ h => h) (Or.inl ⟨by rfl, ?hy⟩) (by assumption) ?_
                case hy => (intro w hSw; (try dsimp only at hSw); go_simp; (try with_reducible rfl))
                try simp only [Act.put, List.setIfInBounds_toArray, List.set_cons_zero, List.set_cons_succ]
                refine wpAnyH_ready (rs := [8]) (by kernel_rfl) (by simp) ?_
                refine AllReadyH.cons (o := ⟨some 170, _, _, _, _, _⟩) rfl (fun K hK => ?_) AllReadyH.nil
                go_simp
                go_at_call 35
                with_reducible refine (intsSame c1 c2 A1 A2 lp W0 hln (HI.out W0 hb0).1 (HI.out W0 hb0).2).mono ?_
                rintro e W1 ⟨rfl, hb⟩
                have hb1 := hb0.trans (hb.mono hb0.size)
                refine hK.out _ _ ?_ (fun hHeld => ?_)
                · exact HFc.out _ hb1
                clear hK K hb
                try simp only [Act.put, List.setIfInBounds_toArray, List.set_cons_zero, List.set_cons_succ]
                refine wpAnyH_take (i := 9) (oi := ⟨some 171, _, _, _, _, _⟩) (v := ?_) rfl (by kernel_rfl) (by kernel_rfl) (by kernel_rfl) (fun _ _ _ h => h) (Or.inl ⟨by rfl, ?hy⟩) (by assumption) ?_
                case hy => (intro w hSw; (try dsimp only at hSw); go_simp; (try with_reducible rfl))
                try simp only [Act.put, List.setIfInBounds_toArray, List.set_cons_zero, List.set_cons_succ]
                refine wpAnyH_done (by kernel_rfl) ?_ _
                have HB2 := Lib.hid (BR.out.trans (hb1.mono BR.out.size))
                clear hb1 hb0
                go_wp2_with fail
                exact ⟨⟨k + 1, by omega, by go_num, HB2.out⟩, by simp only [intOf]; omega⟩
              · have hke : k = ps.length := by omega
                subst hke
                have hk2 : decide ((ps.length : Int) < (ps.length : Int)) = false := by simp
                have hk3 : ¬ (ps.length : Int) < (ps.length : Int) := by omega
                go_wp2_with fail
                refine (alive5_any wr KZ.out.tabs).mono ?_
                rintro e w90 ⟨rfl, hb⟩
                have BB := Lib.hid (BB.out.trans (hb.mono BB.out.size))
                clear hb
                go_wp2_with fail
                go_ret
                exact ⟨rfl, BB.out⟩
end Go.Proofs.YtpjlgahbbmlngaaDoor.lawTreeFinds
