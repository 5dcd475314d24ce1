/-
  Trees: the specification's Cover.
-/
import Derived.Test.YtpjlgahbbmlngaaDoorTreeFindsp1
import Derived.Test.YtpjlgahbbmlngaaDoorTreeFindsp2
import Derived.Test.YtpjlgahbbmlngaaDoorTreeLeavesp35
import Derived.Deep.LoopGhost
namespace Go.Proofs.YtpjlgahbbmlngaaDoor
set_option linter.unusedVariables false
set_option linter.unusedSimpArgs false
open Go Go.RowKit

/-- where that kid begins -/
def begC (a c : Int) (l : List Nd) (e : Nat) : Nat → Nat
  | 0 => 0
  | k + 1 => match l[k]? with
    | some y => if decide (((e + sumT (leavesL (l.take k)) : Nat) : Int) ≤ a) && decide (c ≤ ((e + sumT (leavesL (l.take k)) + sumT (leavesN y) : Nat) : Int)) then e + sumT (leavesL (l.take k)) else begC a c l e k
    | none => begC a c l e k
theorem begC_is (a c : Int) (l : List Nd) (e : Nat) : ∀ k, k ≤ l.length → ∀ b : Nat, bestC a c l e k = (b : Int) → begC a c l e k = e + sumT (leavesL (l.take b))
  | 0, _, b, h => by simp only [bestC] at h; omega
  | k + 1, hk, b, h => by
    have e1 : l[k]? = some l[k] := List.getElem?_eq_getElem (by omega)
    simp only [bestC, begC, e1] at h ⊢
    by_cases hh : (decide (((e + sumT (leavesL (l.take k)) : Nat) : Int) ≤ a) && decide (c ≤ ((e + sumT (leavesL (l.take k)) + sumT (leavesN l[k]) : Nat) : Int))) = true
    · rw [if_pos hh] at h ⊢
      have : k = b := by omega
      rw [this]
    · rw [if_neg hh] at h ⊢
      exact begC_is a c l e k (by omega) b h
/-- where the way down is -/
structure CvSt (w : World) (B N S M : Nat) (sa sc : Int) (full pre : List Nat) (m : Nat) (x : Nd) (e : Nat) (A : Option Addr) (c : Nat) (sv : Value) (wr : World) : Prop where
  box : wr.heap[w.heap.size]? = some (.cells (nodeCells x A c) 26 (0, 0))
  sbox : wr.heap[w.heap.size + 1]? = some (.cells #[.int .i64 sa, .int .i64 sc] 62 (0, 0))
  cap : x.kids.length ≤ c
  kids : KidsP (fun k => k < w.heap.size) w A x.kids
  row : wr.ownsRow B 3 1 sv pre.length (intCells pre)
  goes : full = pre ++ rcovN m x e sa sc
  deep : deepN x < m
  many : pre.length + m ≤ M
  parts : partsN x = true
  count : countN x ≤ N
  sum : e + sumT (leavesN x) ≤ S
  below : Below w.heap.size w wr

set_option maxRecDepth 100000 in
set_option maxHeartbeats 4000000 in
theorem RCover_any (n : Nd) (sa sc : Int) (v : Value) (w : World) (hp : partsN n = true) (hC : sizeN n) (hS : sumS n) (hV : NodeP (fun _ => True) w v n) :
    Calls Tryd.prog 48 #[v, .agg #[.int .i64 sa, .int .i64 sc]] w fun e w' => ∃ v', e = .returned v' ∧ w'.ownsRow w.heap.size 3 1 v' (rcovN (deepN n + 1) n 0 sa sc).length (intCells (rcovN (deepN n + 1) n 0 sa sc)) ∧ Below w.heap.size w w' := by
  obtain ⟨A, c, rfl, hcap, hkp⟩ := hV
  obtain ⟨w0, hw0⟩ : ∃ w0, w0 = (w.alloc (.cells #[.int .i64 n.kind, .int .i64 n.tok.1, .string n.tok.2, .slice A n.kids.length c] 26)).alloc (.cells #[.int .i64 sa, .int .i64 sc] 62) := ⟨_, rfl⟩
  have hB0 : Below w.heap.size w w0 := by rw [hw0]; exact ((Below.refl _ _).alloc (Nat.le_refl _) _).alloc (by simp) _
  have hb0 : w0.heap[w.heap.size]? = some (.cells (nodeCells n A c) 26 (0, 0)) := by rw [hw0, alloc_old _ _ _ (by simp)]; exact alloc_at _ _ _ rfl
  have hb1 : w0.heap[w.heap.size + 1]? = some (.cells #[.int .i64 sa, .int .i64 sc] 62 (0, 0)) := by rw [hw0]; exact alloc_at _ _ _ (by simp)
  have hs0 : w0.heap.size = w.heap.size + 2 := by rw [hw0]; simp
  have hkw : KidsP (fun k => k < w.heap.size) w A n.kids := hkp.kept (Nat.le_refl _) (fun _ _ _ => rfl) (fun b _ hb => hb)
  have hdn : deepN n < 100000000 := by
    have := atN_small_len n
    unfold sizeN at hC; omega
  obtain ⟨full, hfull⟩ : ∃ full, full = rcovN (deepN n + 1) n 0 sa sc := ⟨_, rfl⟩
  rw [← hfull]
  have hst0 : CvSt w w0.heap.size (countN n) (sumT (leavesN n)) (deepN n + 1) sa sc full [] (deepN n + 1) n 0 A c (.slice none 0 0) w0 :=
    ⟨hb0, hb1, hcap, hkw, by simpa [intCells] using World.ownsRow_nil w0 w0.heap.size 3 1, by simpa using hfull, Nat.lt_succ_self _, by simp, hp, Nat.le_refl _, by omega, hB0⟩
  have HW := Lib.hid hw0
  have HX := Lib.hid (show _ ∧ _ ∧ _ ∧ _ ∧ _ from ⟨hst0, hs0, hC, hS, hdn⟩)
  obtain ⟨i0, hi0, hz0, hz1, hz2⟩ := info_parts infoInt
  clear hw0 hB0 hb0 hb1 hs0 hkp hkw hcap hst0 hp hC hS hfull hdn
  go_enter Tryd.func48, Tryd.ntmps48
  go_wp2_with fail
  rw [← HW.out]
  go_loopg [5, 6] (deepN n + 1) (fun g sv0 at0 wr => ∃ (pre : List Nat) (x : Nd) (e : Nat) (A' : Option Addr) (c' : Nat), at0 = .int .i64 (e : Nat) ∧ CvSt w w0.heap.size (countN n) (sumT (leavesN n)) (deepN n + 1) sa sc full pre g x e A' c' sv0 wr)
  case atStart => exact ⟨[], n, 0, A, c, rfl, HX.out.1⟩
  case round =>
    obtain ⟨pre, x, e, A', c', rfl, hst⟩ := hrel
    have hz := hst.box
    have hzs := hst.sbox
    obtain ⟨m', rfl⟩ : ∃ m', gk = m' + 1 := ⟨gk - 1, by have := hst.deep; omega⟩
    obtain ⟨aS, cS, rfl⟩ := own_slice hst.row
    have hks := partsN_kids hst.parts
    have hpcw : ∀ (j : Nat) (z : Nd), x.kids[j]? = some z → partsN z = true ∧ countN z ≤ 10000000 ∧ sumT (leavesL (x.kids.take (j + 1))) = sumT (leavesL (x.kids.take j)) + sumT (leavesN z) ∧ e + sumT (leavesL (x.kids.take (j + 1))) ≤ 1000000000000 := fun j z hj => by
      have e1 := countL_get _ _ _ hj
      have e2 := countN_kids x
      have e3 := hst.count
      have e4 := HX.out.2.2.1
      unfold sizeN at e4
      have e5 := leavesL_cut x.kids (j + 1)
      have e6 := leavesN_kids x
      have e7 := hst.sum
      have e8 := HX.out.2.2.2.1
      unfold sumS at e8
      exact ⟨partsL_get hks hj, by omega, by rw [leavesL_next hj, sumT_append], by omega⟩
    have hkl : x.kids.length ≤ 10000000 := by
      have e2 := countN_kids x
      have e3 := hst.count
      have e4 := HX.out.2.2.1
      have e5 := len_countL x.kids
      unfold sizeN at e4
      omega
    have hen : e ≤ 1000000000000 := by
      have e7 := hst.sum
      have e8 := HX.out.2.2.2.1
      unfold sumS at e8
      omega
    have hwlt : w.heap.size + 1 < wr.heap.size := (Array.getElem?_eq_some_iff.1 hzs).1
    have HG := Lib.hid (show _ ∧ _ ∧ _ ∧ _ from ⟨hst, hz, hzs, hpcw⟩)
    clear hst hz hpcw hks hzs
    go_wp2_with fail
    obtain ⟨wo, hwo⟩ : ∃ wo, wo = wr := ⟨_, rfl⟩
    subst hwo
    go_loopw [7, 8, 9, 10] (fun bs at0 bg i wq => ∃ k : Nat, k ≤ x.kids.length ∧ i = .int .i64 k ∧ bs = .int .i64 (bestC sa sc x.kids e k) ∧ at0 = .int .i64 ((e + sumT (leavesL (x.kids.take k)) : Nat) : Int) ∧ (bg = .int .i64 ((begC sa sc x.kids e k : Nat) : Int)) ∧ Below wo.heap.size wo wq) (fun _ _ _ i _ => x.kids.length - (intOf i).toNat)
    case atStart => exact ⟨0, Nat.zero_le _, rfl, rfl, by simp [leavesL, sumT], rfl, Below.refl _ _⟩
    case round =>
      obtain ⟨k, hkk, rfl, rfl, rfl, rfl, hBq⟩ := hrel
      have hk0 : (0 : Int) ≤ (k : Int) := by omega
      have hzq := (hBq.block w.heap.size (by omega)).trans HG.out.2.1
      have hzsq := (hBq.block (w.heap.size + 1) (by omega)).trans HG.out.2.2.1
      obtain ⟨q0, q1, q2, q3⟩ := cells_of_block hzq
      have p0 := Lib.cell_of_heap hzsq 0
      have p1 := Lib.cell_of_heap hzsq 1
      by_cases hlt : k < x.kids.length
      · have hk3 : (k : Int) < (x.kids.length : Int) := by omega
        have hx1 : x.kids[k]? = some x.kids[k] := List.getElem?_eq_getElem hlt
        obtain ⟨z, hz⟩ : ∃ z, z = x.kids[k] := ⟨_, rfl⟩
        rw [← hz] at hx1
        obtain ⟨bk, o, rfl, nk⟩ := HG.out.1.kids (by omega)
        obtain ⟨B1, d1, pz, s1, g0, g1, g2, g3, gc, gk⟩ := nk.get hx1
        obtain ⟨hpz, hcz, hsz, hs1⟩ := HG.out.2.2.2 k z hx1
        have hBw : Below w.heap.size w wr := HG.out.1.below.trans (hBq.mono (by omega))
        have c0 := (hBw.cell (p := ⟨bk, o + k * 4, none⟩) s1).trans g0
        have c1 := (hBw.cell (p := ⟨bk, o + k * 4 + 1, none⟩) s1).trans g1
        have c2 := (hBw.cell (p := ⟨bk, o + k * 4 + 2, none⟩) s1).trans g2
        have c3 := (hBw.cell (p := ⟨bk, o + k * 4 + 3, none⟩) s1).trans g3
        have hwid := RWidth_any (deepN z + 1) z (.agg #[.int .i64 z.kind, .int .i64 z.tok.1, .string z.tok.2, .slice B1 z.kids.length d1]) wr (Nat.lt_succ_self _) hcz (by rw [sumF_leaves hpz]; omega) ⟨B1, d1, rfl, (gk.later hBw).kids⟩
        rw [sumF_leaves hpz] at hwid
        obtain ⟨fk, hfk⟩ : ∃ a, a = e + sumT (leavesL (x.kids.take k)) := ⟨_, rfl⟩
        obtain ⟨fk1, hfk1⟩ : ∃ a, a = e + sumT (leavesL (x.kids.take (k + 1))) := ⟨_, rfl⟩
        have hbs : bestC sa sc x.kids e (k + 1) = if decide ((fk : Int) ≤ sa) && decide (sc ≤ (fk1 : Int)) then (k : Int) else bestC sa sc x.kids e k := by
          simp only [bestC, hx1]
          rw [hfk, hfk1, hsz, Nat.add_assoc]
        have hbg : begC sa sc x.kids e (k + 1) = if decide ((fk : Int) ≤ sa) && decide (sc ≤ (fk1 : Int)) then fk else begC sa sc x.kids e k := by
          simp only [begC, hx1]
          rw [hfk, hfk1, hsz, Nat.add_assoc]
        rw [← hfk]
        have e5 : IntKind.i64.wrap ((k : Int) + 1) = ((k + 1 : Nat) : Int) := by rw [IntWalk.i64_in _ (by omega)]; omega
        have e6 : IntKind.i64.wrap ((fk : Int) + ((sumT (leavesN z) : Nat) : Int)) = (fk1 : Int) := by rw [IntWalk.i64_in _ (by omega)]; omega
        have HAK := Lib.hid hfk1
        have hs2 : fk + sumT (leavesN z) = fk1 := by omega
        have hs3 : fk1 ≤ 1000000000000 := by omega
        clear hfk hfk1
        generalize sumT (leavesN z) = wz at *
        generalize bestC sa sc x.kids e k = bp at *
        generalize begC sa sc x.kids e k = bb at *
        have HWid := Lib.hid hwid
        have HBq := Lib.hid hBq
        have HBS := Lib.hid (show _ ∧ _ from ⟨hbs, hbg⟩)
        clear hwid hBq hbs hbg hz hx1 g0 g1 g2 g3 gc gk pz hsz hs1 hcz hpz hBw hzq hzsq
        go_wp2_with fail
        refine HWid.out.mono ?_
        rintro en w5 ⟨rfl, hb5⟩
        have hb5' := HBq.out.trans (hb5.mono HBq.out.size)
        clear p0 p1
        have hzs5 := (hb5'.block (w.heap.size + 1) (by omega)).trans HG.out.2.2.1
        have p0 := Lib.cell_of_heap hzs5 0
        have p1 := Lib.cell_of_heap hzs5 1
        have H5 := Lib.hid hb5'
        clear hb5 hb5' hzs5
        by_cases hl0 : (fk : Int) ≤ sa
        · by_cases ha : sc ≤ (fk1 : Int)
          · have hbb := HBS.out
            rw [if_pos (by simp [hl0, ha]), if_pos (by simp [hl0, ha])] at hbb
            have HBB := Lib.hid hbb
            clear hbb
            go_wp2_with fail
            exact ⟨⟨k + 1, by omega, by go_num, by rw [HBB.out.1], by rw [HAK.out], by rw [HBB.out.2], H5.out⟩, by simp [intOf]; omega⟩
          · have hbb := HBS.out
            rw [if_neg (by simp [ha]), if_neg (by simp [ha])] at hbb
            have HBB := Lib.hid hbb
            have i2 : decide (sc ≤ (fk1 : Int)) = false := decide_eq_false ha
            clear hbb
            go_wp2_with fail
            exact ⟨⟨k + 1, by omega, by go_num, by rw [HBB.out.1], by rw [HAK.out], by rw [HBB.out.2], H5.out⟩, by simp [intOf]; omega⟩
        · have hbb := HBS.out
          rw [if_neg (by simp [hl0]), if_neg (by simp [hl0])] at hbb
          have HBB := Lib.hid hbb
          have i3 : decide ((fk : Int) ≤ sa) = false := decide_eq_false hl0
          clear hbb
          go_wp2_with fail
          exact ⟨⟨k + 1, by omega, by go_num, by rw [HBB.out.1], by rw [HAK.out], by rw [HBB.out.2], H5.out⟩, by simp [intOf]; omega⟩
      · have hke : k = x.kids.length := by omega
        subst hke
        have hj2 : ¬ (x.kids.length : Int) < (x.kids.length : Int) := by omega
        have hj3 : decide ((x.kids.length : Int) < (x.kids.length : Int)) = false := by simp
        have hBw : Below w.heap.size w wr := HG.out.1.below.trans (hBq.mono (by omega))
        have hrow0 : wr.ownsRow w0.heap.size 3 1 (.slice aS pre.length cS) pre.length (intCells pre) := own_same HG.out.1.row (fun g e => hBq.block g (HG.out.1.row.lt g e).2)
        rcases bestC_is sa sc x.kids e x.kids.length (Nat.le_refl _) with h | ⟨j, y, h1, h2, h3, h4, h5⟩
        · have hgo := HG.out.1.goes
          have hrf : rcovN (m' + 1) x e sa sc = [] := by simp [rcovN, h]
          rw [hrf, List.append_nil] at hgo
          have hrw := own_le hrow0 (show w.heap.size ≤ w0.heap.size by rw [HX.out.2.1]; omega)
          have HE := Lib.hid (show _ ∧ _ ∧ _ from ⟨hgo, hrw, hBw⟩)
          rw [h]
          clear hgo hrw hrf h hrow0 hBw hBq hzq hzsq
          go_wp2_with fail
          go_ret
          rw [HE.out.1]
          exact ⟨_, rfl, HE.out.2.1, HE.out.2.2⟩
        · have hbe := begC_is sa sc x.kids e x.kids.length (Nat.le_refl _) j h2
          have hrf : rcovN (m' + 1) x e sa sc = j :: rcovN m' y (e + sumT (leavesL (x.kids.take j))) sa sc := by
            simp only [rcovN, h2, Int.toNat_natCast, h3]
            rw [if_neg (by omega)]
          rw [h2, hbe]
          obtain ⟨ej, hej⟩ : ∃ ej, ej = e + sumT (leavesL (x.kids.take j)) := ⟨_, rfl⟩
          rw [← hej] at hrf
          rw [← hej]
          have hj4 : (j : Int) < (x.kids.length : Int) := by omega
          have hj5 : ¬ (j : Int) < 0 := by omega
          have hj6 : decide ((j : Int) < 0) = false := decide_eq_false hj5
          have hj7 : (0 : Int) ≤ (j : Int) := by omega
          obtain ⟨bk, o, rfl, nk⟩ := HG.out.1.kids (by omega)
          obtain ⟨B1, d1, pz, s1, g0, g1, g2, g3, gc, gk⟩ := nk.get h3
          have c0 := (hBw.cell (p := ⟨bk, o + j * 4, none⟩) s1).trans g0
          have c1 := (hBw.cell (p := ⟨bk, o + j * 4 + 1, none⟩) s1).trans g1
          have c2 := (hBw.cell (p := ⟨bk, o + j * 4 + 2, none⟩) s1).trans g2
          have c3 := (hBw.cell (p := ⟨bk, o + j * 4 + 3, none⟩) s1).trans g3
          have hlt1 := hBq.size
          have hpm := HG.out.1.many
          have hdn := HX.out.2.2.2.2
          have hrowd := hrow0.alloc (.cells #[.int .i64 (j : Nat)] 3)
          have hnews := World.news_of_block (w := wr.alloc (.cells #[.int .i64 (j : Nat)] 3)) (B := wr.heap.size) (cs := #[.int .i64 (j : Nat)]) (t := 3) (fr := (0, 0)) (alloc_at wr _ _ rfl)
          have h63 : pre.length + 1 ≤ maxLen := by unfold maxLen; omega
          have hby : (pre.length + 1) * 8 ≤ 140737488355328 := by omega
          have hbs : w0.heap.size ≤ (wr.alloc (.cells #[.int .i64 (j : Nat)] 3)).heap.size := by
            have h1 := HX.out.2.1
            have h2 : (wr.alloc (.cells #[.int .i64 (j : Nat)] 3)).heap.size = wr.heap.size + 1 := by simp
            omega
          have HR := Lib.hid (show _ ∧ _ ∧ _ ∧ _ ∧ _ ∧ _ ∧ _ ∧ _ ∧ _ from ⟨hBq, hBw, hzq, gc, gk, hrf, hej, h3, hzsq⟩)
          clear hBq hBw hzq gc gk g0 g1 g2 g3 hrf hej hbe h4 h5 h2 hzsq
          go_wp2_with (at_builtin; refine wpList_append_lies _ rfl _ _ 51 rfl w0.heap.size 3 i0 _ 1 8 Tryd.underlying51 hi0 hz0 hz1 hz2 rfl (by decide) _ _ _ rfl hrowd ⟨wr.heap.size, 0, none⟩ 1 1 [.int .i64 (j : Nat)] rfl rfl hnews (by intro u hu; simp at hu; subst hu; rfl) (by decide) h63 hby hbs (wr.heap.size + 1) (by simp) ?_)
          intro g cap w6 hrow6 hgr6 hat6 hlt6
          have hlt9 : ∀ k, (Value.slice aS pre.length cS).ownBlock = some k → w0.heap.size ≤ k ∧ k < wr.heap.size := fun k e => hrow0.lt k e
          have hold : ∀ b, b < wr.heap.size → (Value.slice aS pre.length cS).ownBlock ≠ some b → w6.heap[b]? = wr.heap[b]? := fun b h1 h2 =>
            (hgr6.block b (by simp; omega) (fun e => h2 e.symm)).trans (alloc_old wr _ _ h1)
          have hneB : (Value.slice aS pre.length cS).ownBlock ≠ some w.heap.size := fun e => by have := (hlt9 _ e).1; rw [HX.out.2.1] at this; omega
          have hneS : (Value.slice aS pre.length cS).ownBlock ≠ some (w.heap.size + 1) := fun e => by have := (hlt9 _ e).1; rw [HX.out.2.1] at this; omega
          have hz6 := (hold w.heap.size (by omega) hneB).trans HR.out.2.2.1
          have hzs6 := (hold (w.heap.size + 1) (by omega) hneS).trans HR.out.2.2.2.2.2.2.2.2
          have hB6 : Below w.heap.size w w6 := by
            refine HR.out.2.1.trans ⟨hgr6.os, hgr6.tape, hgr6.output, ?_, fun b hb => hold b (by omega) (fun e => by have := (hlt9 b e).1; rw [HX.out.2.1] at this; omega)⟩
            have := hgr6.size
            simp at this
            omega
          obtain ⟨r0, r1, r2, r3⟩ := cells_of_block hz6
          have f60 := frozen_block (j := 0) hz6
          have f61 := frozen_block (j := 1) hz6
          have f62 := frozen_block (j := 2) hz6
          have f63 := frozen_block (j := 3) hz6
          have hslt : bk < w.heap.size := pz
          have y0 := (hB6.cell (p := ⟨bk, o + j * 4, none⟩) hslt).trans ((HR.out.2.1.cell (p := ⟨bk, o + j * 4, none⟩) hslt).symm.trans c0)
          have y1 := (hB6.cell (p := ⟨bk, o + j * 4 + 1, none⟩) hslt).trans ((HR.out.2.1.cell (p := ⟨bk, o + j * 4 + 1, none⟩) hslt).symm.trans c1)
          have y2 := (hB6.cell (p := ⟨bk, o + j * 4 + 2, none⟩) hslt).trans ((HR.out.2.1.cell (p := ⟨bk, o + j * 4 + 2, none⟩) hslt).symm.trans c2)
          have y3 := (hB6.cell (p := ⟨bk, o + j * 4 + 3, none⟩) hslt).trans ((HR.out.2.1.cell (p := ⟨bk, o + j * 4 + 3, none⟩) hslt).symm.trans c3)
          have hfin := set4 (v0 := .int .i64 y.kind) (v1 := .int .i64 y.tok.1) (v2 := .string y.tok.2) (v3 := .slice B1 y.kids.length d1) hz6
          have hfs : (((((w6.setCell ⟨w.heap.size, 0, none⟩ (.int .i64 y.kind)).setCell ⟨w.heap.size, 1, none⟩ (.int .i64 y.tok.1)).setCell ⟨w.heap.size, 2, none⟩ (.string y.tok.2)).setCell ⟨w.heap.size, 3, none⟩ (.slice B1 y.kids.length d1))).heap[w.heap.size + 1]? = some (.cells #[.int .i64 sa, .int .i64 sc] 62 (0, 0)) := (other4 (Nat.succ_ne_self _)).trans hzs6
          have hbel := below4 (b := w.heap.size) (v0 := .int .i64 y.kind) (v1 := .int .i64 y.tok.1) (v2 := .string y.tok.2) (v3 := .slice B1 y.kids.length d1) hB6 (Nat.le_refl _)
          have hgne : g ≠ w.heap.size := by
            have := (hrow6.lt g rfl).1
            rw [HX.out.2.1] at this
            omega
          have hrow7 : (((((w6.setCell ⟨w.heap.size, 0, none⟩ (.int .i64 y.kind)).setCell ⟨w.heap.size, 1, none⟩ (.int .i64 y.tok.1)).setCell ⟨w.heap.size, 2, none⟩ (.string y.tok.2)).setCell ⟨w.heap.size, 3, none⟩ (.slice B1 y.kids.length d1))).ownsRow w0.heap.size 3 1 (.slice (some ⟨g, 0, none⟩) (pre.length + 1) cap) (pre ++ [j]).length (intCells (pre ++ [j])) := by
            rw [show (pre ++ [j]).length = pre.length + 1 by simp, show intCells (pre ++ [j]) = intCells pre ++ [.int .i64 (j : Nat)] by simp [intCells]]
            exact own_same hrow6 (fun b e => other4 (by
              have e' : g = b := by simpa [Value.ownBlock] using e
              omega))
          obtain ⟨hpy, hcy, hsy, hs1y⟩ := HG.out.2.2.2 j y HR.out.2.2.2.2.2.2.2.1
          have HF := Lib.hid (show _ ∧ _ ∧ _ ∧ _ from ⟨hrow7, hfin, hbel, hfs⟩)
          clear hrow7 hfin hbel hgne hneB hneS hold hlt9 hz6 hzs6 hB6 hrow6 hgr6 hat6 hlt6 hrowd hnews h63 hby hbs hfs
          go_wp2_with fail
          go_roundg m'
          case measure => exact Nat.lt_succ_self _
          case rel =>
            refine ⟨pre ++ [j], y, ej, B1, d1, rfl, ?_⟩
            have hst := HG.out.1
            have k1 := countL_get _ _ _ HR.out.2.2.2.2.2.2.2.1
            have k2 := countN_kids x
            have k3 := hst.count
            have k4 := hst.sum
            have k5 := leavesN_kids x
            have k6 := leavesL_cut x.kids (j + 1)
            have k7 := deepL_at HR.out.2.2.2.2.2.2.2.1
            have k8 := kids_deep x
            have k9 := hst.deep
            have k10 := HR.out.2.2.2.2.2.2.1
            exact ⟨HF.out.2.1, HF.out.2.2.2, HR.out.2.2.2.1, HR.out.2.2.2.2.1, HF.out.1, by rw [hst.goes, HR.out.2.2.2.2.2.1]; simp, by omega, by have := hst.many; simp; omega, hpy, by omega, by omega, HF.out.2.2.1⟩
end Go.Proofs.YtpjlgahbbmlngaaDoor
