/-
  Trees: the specification's Has and At.; Positions made of any numbers: the statements' position.
-/
import Derived.Test.YtpjlgahbbmlngaaDoorTreeLeavesp31
import Derived.Test.YtpjlgahbbmlngaaDoorTreeLeavesp33
import Derived.Test.YtpjlgahbbmlngaaDoorTreeLeavesp32
import Derived.BigRegion
import Derived.BigQuiet
import Derived.Deep.QuietTactic
namespace Go.Proofs.YtpjlgahbbmlngaaDoor
set_option linter.unusedVariables false
set_option linter.unusedSimpArgs false
open Go Go.RowKit

theorem GoSt.next {w wr W : World} {n x y : Nd} {l : List Int} {S bp k b j : Nat} {A A2 : Option Addr} {c c2 : Nat} (h : GoSt w n l S bp k x A c b wr) (hdrop : l.drop k = (j : Int) :: l.drop (k + 1)) (hy : x.kids[j]? = some y) (hz : W.heap[bp]? = some (.cells (nodeCells y A2 c2) 26 (0, 0)))
    (hc : y.kids.length ≤ c2) (hk : KidsP (fun k => k < w.heap.size) w A2 y.kids) (hb : Below w.heap.size w W) : GoSt w n l S bp (k + 1) y A2 c2 (b + sumT (leavesL (x.kids.take j))) W := by
  have hgk := h.goes
  rw [hdrop, goR_kid (by omega) (by simpa using hy)] at hgk
  simp only [Int.toNat_natCast] at hgk
  have hnx := leavesL_next hy
  have hcut := leavesL_cut x.kids (j + 1)
  have hkk := leavesN_kids x
  rw [hnx, sumT_append] at hcut
  have hcz := countL_get _ _ _ hy
  have hck := countN_kids x
  have h1 := h.count
  have h2 := h.sum
  exact ⟨hz, hc, hk, hgk, by omega, by omega, hb⟩

set_option maxRecDepth 100000 in
set_option maxHeartbeats 2000000 in
theorem Has_any (n : Nd) (v : Value) (l : List Int) (Ap : Option Addr) (cp : Nat) (w : World) (hV : NodeP (fun _ => True) w v n) (hl : l.length ≤ 1000000000) (hP : IntsR w Ap l) :
    Calls Tryd.prog 40 #[v, .slice Ap l.length cp] w fun e w' => e = .returned (.bool (goR n l 0).isSome) ∧ Below w.heap.size w w' := by
  obtain ⟨A, c, rfl, hcap, hkp⟩ := hV
  obtain ⟨w0, hw0⟩ : ∃ w0, w0 = w.alloc (.cells #[.int .i64 n.kind, .int .i64 n.tok.1, .string n.tok.2, .slice A n.kids.length c] 26) := ⟨_, rfl⟩
  have hB0 : Below w.heap.size w w0 := by rw [hw0]; exact (Below.refl _ _).alloc (Nat.le_refl _) _
  have hb0 : w0.heap[w.heap.size]? = some (.cells (nodeCells n A c) 26 (0, 0)) := by rw [hw0]; exact alloc_at _ _ _ rfl
  have hkw : KidsP (fun k => k < w.heap.size) w A n.kids := hkp.kept (Nat.le_refl _) (fun _ _ _ => rfl) (fun b _ hb => hb)
  have hst0 : GoSt w n l (sumT (leavesN n)) w.heap.size 0 n A c 0 w0 := ⟨hb0, hcap, hkw, rfl, Nat.le_refl _, by omega, hB0⟩
  have HW := Lib.hid hw0
  have HX := Lib.hid (show _ ∧ _ from ⟨hst0, hP⟩)
  clear hw0 hB0 hb0 hkp hkw hcap hP hst0
  obtain ⟨q, hq⟩ : ∃ q, q = (goR n l 0).isSome := ⟨_, rfl⟩
  rw [← hq]
  have HQ := Lib.hid hq
  clear hq
  go_enter Tryd.func40, Tryd.ntmps40
  go_wp2_with fail
  rw [← HW.out]
  go_loopw [5] (fun i wr => ∃ (k b : Nat) (x : Nd) (A' : Option Addr) (c' : Nat), k ≤ l.length ∧ i = .int .i64 k ∧ GoSt w n l (sumT (leavesN n)) w.heap.size k x A' c' b wr) (fun i _ => l.length - (intOf i).toNat)
  case atStart => exact ⟨0, 0, n, A, c, Nat.zero_le _, rfl, HX.out.1⟩
  case round =>
    obtain ⟨k, b, x, A', c', hk, rfl, hst⟩ := hrel
    have hz := hst.box
    obtain ⟨q0, q1, q2, q3⟩ := cells_of_block hz
    have f0 := frozen_block (j := 0) hz
    have f1 := frozen_block (j := 1) hz
    have f2 := frozen_block (j := 2) hz
    have f3 := frozen_block (j := 3) hz
    by_cases hlt : k < l.length
    · have hk0 : (0 : Int) ≤ (k : Int) := by omega
      have hk1 : (k : Int) < (l.length : Int) := by omega
      obtain ⟨bi, rfl, hbi, gi⟩ := HX.out.2 (by omega)
      have e1 := (hst.below.cell (p := ⟨bi, k, none⟩) hbi).trans (gi k _ (List.getElem?_eq_getElem hlt))
      have hdrop : l.drop k = l[k] :: l.drop (k + 1) := List.drop_eq_getElem_cons hlt
      obtain ⟨i, hi⟩ : ∃ i, i = l[k] := ⟨_, rfl⟩
      rw [← hi] at e1 hdrop
      have e3 : IntKind.i64.wrap ((k : Int) + 1) = ((k + 1 : Nat) : Int) := by rw [IntWalk.i64_in _ (by omega)]; omega
      have HG := Lib.hid (show _ ∧ _ ∧ _ from ⟨hst, hdrop, hz⟩)
      clear hi hdrop hst gi hz
      by_cases hneg : i < 0
      · have hd1 : decide (i < 0) = true := decide_eq_true hneg
        have hr := Lib.hid (show q = false by rw [HQ.out, HG.out.1.goes, HG.out.2.1, goR_no (.inl hneg)]; rfl)
        go_wp2_with fail
        go_ret
        exact ⟨ret_b hr.out.symm, HG.out.1.below⟩
      · have hd1 : decide (i < 0) = false := decide_eq_false hneg
        by_cases hbig : (x.kids.length : Int) ≤ i
        · have hd2 : decide ((x.kids.length : Int) ≤ i) = true := decide_eq_true hbig
          have hr := Lib.hid (show q = false by rw [HQ.out, HG.out.1.goes, HG.out.2.1, goR_no (.inr hbig)]; rfl)
          go_wp2_with fail
          go_ret
          exact ⟨ret_b hr.out.symm, HG.out.1.below⟩
        · have hd2 : decide ((x.kids.length : Int) ≤ i) = false := decide_eq_false hbig
          obtain ⟨j, rfl⟩ : ∃ j : Nat, i = (j : Int) := ⟨i.toNat, by omega⟩
          have hj : j < x.kids.length := by omega
          have hj1 : (j : Int) < (x.kids.length : Int) := by omega
          have hj0 : (0 : Int) ≤ (j : Int) := by omega
          have hd3 : decide (x.kids.length ≤ j) = false := decide_eq_false (by omega)
          have hd4 : ¬ x.kids.length ≤ j := by omega
          obtain ⟨bk, o, rfl, nk⟩ := HG.out.1.kids (by omega)
          have hx0 : x.kids[j]? = some x.kids[j] := List.getElem?_eq_getElem hj
          obtain ⟨y, hy⟩ : ∃ y, y = x.kids[j] := ⟨_, rfl⟩
          rw [← hy] at hx0
          obtain ⟨B1, d1, pz, s1, g0, g1, g2, g3, gc, gk⟩ := nk.get hx0
          have hBw := HG.out.1.below
          have x0 := (hBw.cell (p := ⟨bk, o + j * 4, none⟩) s1).trans g0
          have x1 := (hBw.cell (p := ⟨bk, o + j * 4 + 1, none⟩) s1).trans g1
          have x2 := (hBw.cell (p := ⟨bk, o + j * 4 + 2, none⟩) s1).trans g2
          have x3 := (hBw.cell (p := ⟨bk, o + j * 4 + 3, none⟩) s1).trans g3
          have hfin := set4 (v0 := .int .i64 y.kind) (v1 := .int .i64 y.tok.1) (v2 := .string y.tok.2) (v3 := .slice B1 y.kids.length d1) HG.out.2.2
          have hbel := below4 (b := w.heap.size) (v0 := .int .i64 y.kind) (v1 := .int .i64 y.tok.1) (v2 := .string y.tok.2) (v3 := .slice B1 y.kids.length d1) hBw (Nat.le_refl _)
          have HE := Lib.hid (HG.out.1.next HG.out.2.1 hx0 hfin gc gk hbel)
          clear hy hx0 nk hneg hbig hfin hbel gc gk g0 g1 g2 g3 pz hBw
          go_wp2_with fail
          exact ⟨⟨k + 1, _, y, B1, d1, by omega, by go_num, HE.out⟩, by simp [intOf]; omega⟩
    · have hke : k = l.length := by omega
      subst hke
      have hr := Lib.hid (show q = true by rw [HQ.out, hst.goes, List.drop_length]; rfl)
      have hj2 : ¬ (l.length : Int) < (l.length : Int) := by omega
      have hB := Lib.hid hst.below
      clear hst hz
      go_wp2_with fail
      go_ret
      exact ⟨ret_b hr.out.symm, hB.out⟩
end Go.Proofs.YtpjlgahbbmlngaaDoor

namespace Go.Proofs.YtpjlgahbbmlngaaDoor
set_option linter.unusedVariables false
set_option linter.unusedSimpArgs false
open Go Go.RowKit

theorem wrapU (n : Int) : IntKind.u64.wrap n = n % 18446744073709551616 := by simp [IntKind.wrap, IntKind.bits, IntKind.signed]
theorem tmodN (a b : Nat) : ((a : Int)).tmod (b : Int) = ((a % b : Nat) : Int) := by rw [Int.tmod_eq_emod_of_nonneg (by omega)]; rfl
/-- a number modulo so many -/
def pickI (r : Int) (m : Nat) : Nat := (r % 18446744073709551616).toNat % m
def posN : Nd → List Int → List Nat
  | _, [] => []
  | n, r :: rs => match n.kids[pickI r n.kids.length]? with
    | some k => pickI r n.kids.length :: posN k rs
    | none => []
theorem posN_goR : ∀ (l : List Int) (n : Nd) (b : Nat), ∃ x b', goR n ((posN n l).map fun (i : Nat) => (i : Int)) b = some (x, b')
  | [], n, b => ⟨n, b, rfl⟩
  | r :: rs, n, b => by
    simp only [posN]
    cases hk : n.kids[pickI r n.kids.length]? with
    | none => exact ⟨n, b, rfl⟩
    | some k =>
      obtain ⟨x, b', h⟩ := posN_goR rs k (b + sumT (leavesL (n.kids.take (pickI r n.kids.length))))
      refine ⟨x, b', ?_⟩
      simp only [List.map_cons]
      rw [goR_kid (by omega) (by simpa using hk)]
      simpa using h
theorem posN_len : ∀ (l : List Int) (n : Nd), (posN n l).length ≤ l.length
  | [], n => Nat.le_refl _
  | r :: rs, n => by
    simp only [posN]
    split
    · rename_i k hk
      have := posN_len rs k
      simp only [List.length_cons]; omega
    · simp

set_option maxRecDepth 100000 in
set_option maxHeartbeats 2000000 in
theorem position_any (n : Nd) (v : Value) (l : List Int) (Ap : Option Addr) (cp : Nat) (w : World) (hC : sizeN n) (hV : NodeP (fun _ => True) w v n) (hl : l.length ≤ 1000000) (hP : IntsR w Ap l) :
    Calls Tryd.prog 54 #[v, .slice Ap l.length cp] w fun e w' => ∃ v', e = .returned v' ∧ w'.ownsRow w.heap.size 3 1 v' (posN n l).length (intCells (posN n l)) ∧ Below w.heap.size w w' := by
  obtain ⟨A, c, rfl, hcap, hkp⟩ := hV
  obtain ⟨w0, hw0⟩ : ∃ w0, w0 = w.alloc (.cells #[.int .i64 n.kind, .int .i64 n.tok.1, .string n.tok.2, .slice A n.kids.length c] 26) := ⟨_, rfl⟩
  have hB0 : Below w.heap.size w w0 := by rw [hw0]; exact (Below.refl _ _).alloc (Nat.le_refl _) _
  have hs0 : w0.heap.size = w.heap.size + 1 := by rw [hw0]; simp
  have hb0 : w0.heap[w.heap.size]? = some (.cells (nodeCells n A c) 26 (0, 0)) := by rw [hw0]; exact alloc_at _ _ _ rfl
  have hkw : KidsP (fun k => k < w.heap.size) w A n.kids := hkp.kept (Nat.le_refl _) (fun _ _ _ => rfl) (fun b _ hb => hb)
  obtain ⟨i0, hi0, hz0, hz1, hz2⟩ := info_parts infoInt
  have HW := Lib.hid hw0
  have HS0 := Lib.hid hs0
  have HX := Lib.hid (show _ ∧ _ ∧ _ ∧ _ ∧ _ ∧ _ from ⟨hb0, hP, hkw, hB0, hcap, hC⟩)
  clear hw0 hB0 hb0 hkp hkw hcap hP hC hs0
  go_enter Tryd.func54, Tryd.ntmps54
  go_wp2_with fail
  rw [← HW.out]
  go_loopw [5, 6] (fun sv0 i wr => ∃ (k : Nat) (pre : List Nat) (sv : Value) (x : Nd) (A' : Option Addr) (c' : Nat), sv = sv0 ∧ k ≤ l.length ∧ i = .int .i64 k ∧ pre.length ≤ k ∧ posN n l = pre ++ posN x (l.drop k) ∧ wr.ownsRow w0.heap.size 3 1 sv pre.length (intCells pre) ∧ wr.heap[w.heap.size]? = some (.cells (nodeCells x A' c') 26 (0, 0)) ∧ x.kids.length ≤ c' ∧ countN x ≤ countN n ∧ KidsP (fun k => k < w.heap.size) w A' x.kids ∧ Below w.heap.size w wr) (fun _ i _ => l.length - (intOf i).toNat)
  case atStart => exact ⟨0, [], _, n, A, c, rfl, Nat.zero_le _, rfl, Nat.le_refl _, rfl, by simpa [intCells] using World.ownsRow_nil w0 w0.heap.size 3 1, HX.out.1, HX.out.2.2.2.2.1, Nat.le_refl _, HX.out.2.2.1, HX.out.2.2.2.1⟩
  case round =>
    obtain ⟨k, pre, sv, x, A', c', rfl, hk, rfl, hpl, hpos, hrow, hz, hcx, hcn, hkx, hBr⟩ := hrel
    obtain ⟨q0, q1, q2, q3⟩ := cells_of_block hz
    obtain ⟨aS, cS, rfl⟩ := own_slice hrow
    have f0 := frozen_block (j := 0) hz
    have f1 := frozen_block (j := 1) hz
    have f2 := frozen_block (j := 2) hz
    have f3 := frozen_block (j := 3) hz
    by_cases hgo : k < l.length ∧ 0 < x.kids.length
    · obtain ⟨hlt, hx1⟩ := hgo
      have hk0 : (0 : Int) ≤ (k : Int) := by omega
      have hk1 : (k : Int) < (l.length : Int) := by omega
      have hx2 : (0 : Int) < (x.kids.length : Int) := by omega
      obtain ⟨bi, rfl, hbi, gi⟩ := HX.out.2.1 (by omega)
      have e1 := (hBr.cell (p := ⟨bi, k, none⟩) hbi).trans (gi k _ (List.getElem?_eq_getElem hlt))
      have hdrop : l.drop k = l[k] :: l.drop (k + 1) := List.drop_eq_getElem_cons hlt
      obtain ⟨r, hr⟩ : ∃ r, r = l[k] := ⟨_, rfl⟩
      rw [← hr] at e1 hdrop
      have e3 : IntKind.i64.wrap ((k : Int) + 1) = ((k + 1 : Nat) : Int) := by rw [IntWalk.i64_in _ (by omega)]; omega
      have HR := Lib.hid (show _ ∧ _ ∧ _ ∧ _ ∧ _ ∧ _ ∧ _ from ⟨hpos, hrow, hz, hcn, hkx, hBr, hdrop⟩)
      clear hpos hrow hz hcn hkx hBr hdrop hr gi
      have hx0 : ¬ x.kids.length = 0 := by omega
      have hx3 : ¬ (x.kids.length : Int) = 0 := by omega
      have hck := countN_kids x
      have hlk := len_countL x.kids
      have hC2 := HX.out.2.2.2.2.2
      unfold sizeN at hC2
      have hcn2 := HR.out.2.2.2.1
      obtain ⟨R, hRR⟩ : ∃ R, R = (r % 18446744073709551616).toNat := ⟨_, rfl⟩
      have e7 : IntKind.u64.wrap (x.kids.length : Int) = (x.kids.length : Int) := by rw [wrapU]; omega
      have e8 : IntKind.u64.wrap r = (R : Int) := by rw [wrapU]; omega
      obtain ⟨j, hj⟩ : ∃ j, j = R % x.kids.length := ⟨_, rfl⟩
      have e9 : ((R : Int)).tmod (x.kids.length : Int) = (j : Int) := by rw [tmodN, hj]
      have hjl : j < x.kids.length := by rw [hj]; exact Nat.mod_lt _ hx1
      have hjp : j = pickI r x.kids.length := by rw [hj, hRR]; rfl
      have e10 : IntKind.i64.wrap (j : Int) = (j : Int) := by rw [IntWalk.i64_in _ (by omega)]
      have hj0 : (0 : Int) ≤ (j : Int) := by omega
      have hj1 : (j : Int) < (x.kids.length : Int) := by omega
      have HJ := Lib.hid hjp
      have hy0 : x.kids[j]? = some x.kids[j] := List.getElem?_eq_getElem hjl
      obtain ⟨bk, o, rfl, nk⟩ := HR.out.2.2.2.2.1 hx1
      obtain ⟨y, hy⟩ : ∃ y, y = x.kids[j] := ⟨_, rfl⟩
      rw [← hy] at hy0
      obtain ⟨B1, d1, pzz, s1, g0, g1, g2, g3, gc, gk⟩ := nk.get hy0
      have hBr := HR.out.2.2.2.2.2.1
      have x0 := (hBr.cell (p := ⟨bk, o + j * 4, none⟩) s1).trans g0
      have x1 := (hBr.cell (p := ⟨bk, o + j * 4 + 1, none⟩) s1).trans g1
      have x2 := (hBr.cell (p := ⟨bk, o + j * 4 + 2, none⟩) s1).trans g2
      have x3 := (hBr.cell (p := ⟨bk, o + j * 4 + 3, none⟩) s1).trans g3
      have hcy := countL_get _ _ _ hy0
      have HY := Lib.hid (show _ ∧ _ ∧ _ ∧ _ from ⟨hy0, gc, gk, (by omega : countN y ≤ countN n)⟩)
      clear hck hlk hC2 hcn2 hRR hj hjp hy0 hy nk g0 g1 g2 g3 gc gk hcy hBr
      go_wp2_with fail
      have hrowd : (wr.drew.alloc (.cells #[.int .i64 (j : Nat)] 3)).ownsRow w0.heap.size 3 1 (.slice aS pre.length cS) pre.length (intCells pre) := World.ownsRow.alloc (show wr.drew.ownsRow w0.heap.size 3 1 (.slice aS pre.length cS) pre.length (intCells pre) from HR.out.2.1) _
      have hnews := World.news_of_block (w := wr.drew.alloc (.cells #[.int .i64 (j : Nat)] 3)) (B := wr.heap.size) (cs := #[.int .i64 (j : Nat)]) (t := 3) (fr := (0, 0)) (alloc_at wr.drew _ _ rfl)
      have h63 : pre.length + 1 ≤ maxLen := by unfold maxLen; omega
      have hby : (pre.length + 1) * 8 ≤ 140737488355328 := by omega
      have hs0' := HX.out.2.2.2.1.size
      have hlow := HR.out.2.2.2.2.2.1.size
      have hwlt : w.heap.size < wr.heap.size := (Array.getElem?_eq_some_iff.1 HR.out.2.2.1).1
      have hbs : w0.heap.size ≤ (wr.drew.alloc (.cells #[.int .i64 (j : Nat)] 3)).heap.size := by
        have : w0.heap.size ≤ wr.heap.size := by rw [HS0.out]; omega
        have h2 : (wr.drew.alloc (.cells #[.int .i64 (j : Nat)] 3)).heap.size = wr.heap.size + 1 := by simp
        omega
      go_region
      go_wp2_with (at_builtin; refine wpList_append_lies _ rfl _ _ 51 rfl w0.heap.size 3 i0 _ 1 8 Tryd.underlying51 hi0 hz0 hz1 hz2 rfl (by decide) _ _ _ rfl hrowd ⟨wr.heap.size, 0, none⟩ 1 1 [.int .i64 (j : Nat)] rfl rfl hnews (by intro u hu; simp at hu; subst hu; rfl) (by decide) h63 hby hbs (wr.heap.size + 1) (by simp) ?_)
      intro g cap w6 hrow6 hgr6 hat6 hlt6
      have hlt9 : ∀ k, (Value.slice aS pre.length cS).ownBlock = some k → w0.heap.size ≤ k ∧ k < wr.heap.size := fun k e => HR.out.2.1.lt k e
      have hold : ∀ b, b < wr.heap.size → (Value.slice aS pre.length cS).ownBlock ≠ some b → w6.heap[b]? = wr.heap[b]? := fun b h1 h2 =>
        (hgr6.block b (by simp; omega) (fun e => h2 e.symm)).trans (alloc_old wr.drew _ _ h1)
      have hneB : (Value.slice aS pre.length cS).ownBlock ≠ some w.heap.size := fun e => by have := (hlt9 _ e).1; rw [HS0.out] at this; omega
      have hz6 := (hold w.heap.size hwlt hneB).trans HR.out.2.2.1
      have hB6 : Below w.heap.size w w6 := by
        refine HR.out.2.2.2.2.2.1.trans ⟨hgr6.os, hgr6.tape, hgr6.output, ?_, fun b hb => hold b (by omega) (fun e => by have := (hlt9 b e).1; rw [HS0.out] at this; omega)⟩
        have := hgr6.size
        simp at this
        omega
      obtain ⟨r0, r1, r2, r3⟩ := cells_of_block hz6
      have f60 := frozen_block (j := 0) hz6
      have f61 := frozen_block (j := 1) hz6
      have f62 := frozen_block (j := 2) hz6
      have f63 := frozen_block (j := 3) hz6
      have hslt : bk < w.heap.size := pzz
      have y0 := (hB6.cell (p := ⟨bk, o + j * 4, none⟩) hslt).trans ((HR.out.2.2.2.2.2.1.cell (p := ⟨bk, o + j * 4, none⟩) hslt).symm.trans x0)
      have y1 := (hB6.cell (p := ⟨bk, o + j * 4 + 1, none⟩) hslt).trans ((HR.out.2.2.2.2.2.1.cell (p := ⟨bk, o + j * 4 + 1, none⟩) hslt).symm.trans x1)
      have y2 := (hB6.cell (p := ⟨bk, o + j * 4 + 2, none⟩) hslt).trans ((HR.out.2.2.2.2.2.1.cell (p := ⟨bk, o + j * 4 + 2, none⟩) hslt).symm.trans x2)
      have y3 := (hB6.cell (p := ⟨bk, o + j * 4 + 3, none⟩) hslt).trans ((HR.out.2.2.2.2.2.1.cell (p := ⟨bk, o + j * 4 + 3, none⟩) hslt).symm.trans x3)
      have hfin := set4 (v0 := .int .i64 y.kind) (v1 := .int .i64 y.tok.1) (v2 := .string y.tok.2) (v3 := .slice B1 y.kids.length d1) hz6
      have hbel := below4 (b := w.heap.size) (v0 := .int .i64 y.kind) (v1 := .int .i64 y.tok.1) (v2 := .string y.tok.2) (v3 := .slice B1 y.kids.length d1) hB6 (Nat.le_refl _)
      have hpos2 : posN n l = (pre ++ [j]) ++ posN y (l.drop (k + 1)) := by
        rw [HR.out.1, HR.out.2.2.2.2.2.2]
        simp only [posN]
        rw [← HJ.out, HY.out.1]
        simp
      have hgne : g ≠ w.heap.size := by
        have := (hrow6.lt g rfl).1
        rw [HS0.out] at this
        omega
      have hrow7 : (((((w6.setCell ⟨w.heap.size, 0, none⟩ (.int .i64 y.kind)).setCell ⟨w.heap.size, 1, none⟩ (.int .i64 y.tok.1)).setCell ⟨w.heap.size, 2, none⟩ (.string y.tok.2)).setCell ⟨w.heap.size, 3, none⟩ (.slice B1 y.kids.length d1))).ownsRow w0.heap.size 3 1 (.slice (some ⟨g, 0, none⟩) (pre.length + 1) cap) (pre ++ [j]).length (intCells (pre ++ [j])) := by
        rw [show (pre ++ [j]).length = pre.length + 1 by simp, show intCells (pre ++ [j]) = intCells pre ++ [.int .i64 (j : Nat)] by simp [intCells]]
        exact own_same hrow6 (fun b e => other4 (by
          have e' : g = b := by simpa [Value.ownBlock] using e
          omega))
      have HF := Lib.hid (show _ ∧ _ ∧ _ ∧ _ from ⟨hpos2, hrow7, hfin, hbel⟩)
      clear hpos2 hrow7 hfin hbel hgne hneB hold hlt9 hz6 hB6 hrow6 hgr6 hat6 hlt6 hrowd hnews h63 hby hbs
      go_wp2_with fail
      refine ⟨?_, by simp [intOf]; omega⟩
      exact ⟨k + 1, pre ++ [j], _, y, B1, d1, rfl, by omega, by go_num, by simp; omega, HF.out.1, HF.out.2.1, HF.out.2.2.1, HY.out.2.1, HY.out.2.2.2, HY.out.2.2.1, HF.out.2.2.2⟩
    · have hend : posN x (l.drop k) = [] := by
        rcases Nat.lt_or_ge k l.length with h | h
        · have h0 : x.kids.length = 0 := by
            rcases Nat.eq_zero_or_pos x.kids.length with h1 | h1
            · exact h1
            · exact absurd ⟨h, h1⟩ hgo
          rw [List.drop_eq_getElem_cons h]
          simp only [posN]
          rw [List.getElem?_eq_none (by omega)]
        · rw [List.drop_eq_nil_of_le h]; rfl
      rw [hend, List.append_nil] at hpos
      have hrw := own_le hrow (show w.heap.size ≤ w0.heap.size by rw [HS0.out]; omega)
      have HE := Lib.hid (show _ ∧ _ ∧ _ from ⟨hpos, hrw, hBr⟩)
      have hway : l.length ≤ k ∨ (k < l.length ∧ x.kids.length = 0) := by
        rcases Nat.lt_or_ge k l.length with h | h
        · refine .inr ⟨h, ?_⟩
          rcases Nat.eq_zero_or_pos x.kids.length with h1 | h1
          · exact h1
          · exact absurd ⟨h, h1⟩ hgo
        · exact .inl h
      clear hpos hrw hBr hend hgo hrow hz hcn hkx
      rcases hway with h | ⟨h, h0⟩
      · have t1 : ¬ (k : Int) < (l.length : Int) := by omega
        have t2 : decide ((k : Int) < (l.length : Int)) = false := decide_eq_false t1
        go_wp2_with fail
        go_ret
        rw [HE.out.1]
        exact ⟨_, rfl, HE.out.2.1, HE.out.2.2⟩
      · have t1 : (k : Int) < (l.length : Int) := by omega
        have t3 : ¬ (0 : Int) < (x.kids.length : Int) := by omega
        have t4 : decide ((0 : Int) < (x.kids.length : Int)) = false := decide_eq_false t3
        go_wp2_with fail
        go_ret
        rw [HE.out.1]
        exact ⟨_, rfl, HE.out.2.1, HE.out.2.2⟩
end Go.Proofs.YtpjlgahbbmlngaaDoor
