/-
  Trees: allSpans.; Trees: allSpans, the call itself.; Trees: tree.leaves as what a range goes over.
-/
import Derived.Test.YtpjlgahbbmlngaaDoorTreeLeavesp7
import Derived.Test.YtpjlgahbbmlngaaDoorTreeLeavesp14
import Derived.Laws.EntriesVeiled
namespace Go.Proofs.YtpjlgahbbmlngaaDoor
set_option linter.unusedVariables false
set_option linter.unusedSimpArgs false
open Go Go.RowKit

/-- the three boxes that the closure shares -/
structure SpSt (base S E Ad : Nat) (l : List (Nat × Nat)) (e : Nat) (sv : Value) (w : World) : Prop where
  sp : w.heap[S]? = some (.cells #[sv] 114 (0, 0))
  en : w.heap[E]? = some (.cells #[.int .i64 (e : Int)] 3 (0, 0))
  ad : w.heap[Ad]? = some (.cells #[.func (.func 100) #[] #[.pointer (some ⟨S, 0, none⟩), .pointer (some ⟨E, 0, none⟩), .pointer (some ⟨Ad, 0, none⟩)]] 132 (0, 0))
  row : w.ownsRow base 62 2 sv l.length (spCells l)
/-- what a call of the closure leaves -/
structure SpLeft (S E : Nat) (sv sv' : Value) (w w' : World) : Prop where
  os : w'.os = w.os
  tape : w'.tape = w.tape
  output : w'.output = w.output
  size : w.heap.size ≤ w'.heap.size
  same : ∀ k, k < w.heap.size → k ≠ S → k ≠ E → sv.ownBlock ≠ some k → w'.heap[k]? = w.heap[k]?
  lies : ∀ g, sv'.ownBlock = some g → sv.ownBlock = some g ∨ w.heap.size ≤ g
theorem SpLeft.refl (S E : Nat) (sv : Value) (w : World) : SpLeft S E sv sv w w := ⟨rfl, rfl, rfl, Nat.le_refl _, fun _ _ _ _ _ => rfl, fun _ h => .inl h⟩
theorem SpLeft.trans {S E : Nat} {a b c : Value} {x y z : World} (h : SpLeft S E a b x y) (k : SpLeft S E b c y z) : SpLeft S E a c x z :=
  ⟨k.os.trans h.os, k.tape.trans h.tape, k.output.trans h.output, Nat.le_trans h.size k.size,
    fun i hi h1 h2 h3 => (k.same i (Nat.lt_of_lt_of_le hi h.size) h1 h2 (fun e => (h.lies i e).elim h3 (fun h' => by omega))).trans (h.same i hi h1 h2 h3),
    fun g hg => (k.lies g hg).elim (fun h' => h.lies g h') (fun h' => .inr (Nat.le_trans h.size h'))⟩
theorem SpLeft.alloc {S E : Nat} {a : Value} (x : World) (o : Obj) : SpLeft S E a a x (x.alloc o) := ⟨rfl, rfl, rfl, by simp, fun k hk _ _ _ => alloc_old _ _ _ hk, fun _ h => .inl h⟩
theorem SpSt.alloc {base S E Ad : Nat} {l : List (Nat × Nat)} {e : Nat} {sv : Value} {w : World} (h : SpSt base S E Ad l e sv w) (o : Obj) : SpSt base S E Ad l e sv (w.alloc o) :=
  ⟨(alloc_old _ _ _ (Array.getElem?_eq_some_iff.1 h.sp).1).trans h.sp, (alloc_old _ _ _ (Array.getElem?_eq_some_iff.1 h.en).1).trans h.en, (alloc_old _ _ _ (Array.getElem?_eq_some_iff.1 h.ad).1).trans h.ad, h.row.alloc o⟩

theorem own_ne {w : World} {base e e' size n k : Nat} {v : Value} {xs : List Value} {cs : Array Value} {fr : Nat × Nat} (h : w.ownsRow base e size v n xs) (hk : w.heap[k]? = some (.cells cs e' fr)) (hne : e ≠ e') : v.ownBlock ≠ some k := by
  intro hg
  rcases h.2 with ⟨rfl, _⟩ | ⟨g', cap, cur, rfl, _, hg', _⟩
  · simp [Value.ownBlock] at hg
  · simp only [Value.ownBlock, Option.some.injEq] at hg
    subst hg
    rw [hg'] at hk
    cases hk
    exact hne rfl
theorem w64d' {a : Nat} (h : a < 10000000) : wrap64 ((a : Int) + 1) = (a : Int) + 1 := by unfold wrap64; omega
theorem cast1 (i : Nat) : (i : Int) + 1 = ((i + 1 : Nat) : Int) := by simp
theorem arith1 {i g k : Nat} (h : i + (g + 1) = k) : i + 1 + g = k := by omega
theorem wrapE {a b c : Nat} (h : a + b ≤ c) (hc : c ≤ 1000000000000) : wrap64 ((a : Int) + (b : Int)) = (a : Int) + (b : Int) := by unfold wrap64; omega

set_option maxRecDepth 100000 in
set_option maxHeartbeats 2000000 in
theorem spans1_any (wt : World) (base S E Ad : Nat) (hbt : wt.heap.size ≤ base) (hS : base ≤ S) (hE : base ≤ E) (hAd : base ≤ Ad) (hSE : S ≠ E) (hSA : S ≠ Ad) (hEA : E ≠ Ad) : ∀ (m : Nat) (n : Nd) (v : Value) (l : List (Nat × Nat)) (e : Nat) (sv : Value) (w : World), countN n ≤ m → Below wt.heap.size wt w → NodeV wt v n →
    SpSt base S E Ad l e sv w → l.length + countN n ≤ 10000000 → e + totN n ≤ 1000000000000 →
    Calls Tryd.prog 100 #[v, .pointer (some ⟨S, 0, none⟩), .pointer (some ⟨E, 0, none⟩), .pointer (some ⟨Ad, 0, none⟩)] w fun en w' => (∃ r, en = .returned r) ∧ ∃ sv', SpSt base S E Ad (l ++ spansN e n) (e + totN n) sv' w' ∧ SpLeft S E sv sv' w w'
  | 0, n, v, l, e, sv, w, hm, _, _, _, _, _ => by have := countN_pos n; omega
  | m + 1, n, v, l, e, sv, w, hm, hwt, hV, hst, hlen, htot => by
    have IH := spans1_any wt base S E Ad hbt hS hE hAd hSE hSA hEA m
    obtain ⟨A, c, rfl, hk⟩ := hV
    obtain ⟨aS, cS, rfl⟩ := own_slice hst.row
    have hcn := countN_kids n
    have htn := totN_eq n
    obtain ⟨i1, hi1, hx1⟩ := Option.map_eq_some_iff.1 infoSpan
    simp only [Prod.mk.injEq] at hx1
    obtain ⟨hz3, hz4, hz5⟩ := hx1
    have sS := Lib.cell_of_heap hst.sp 0
    have sE := Lib.cell_of_heap hst.en 0
    have hSlt := (Array.getElem?_eq_some_iff.1 hst.sp).1
    have hElt := (Array.getElem?_eq_some_iff.1 hst.en).1
    have hSne : S ≠ w.heap.size := Nat.ne_of_lt hSlt
    have hEne : E ≠ w.heap.size := Nat.ne_of_lt hElt
    have hrow := (hst.row.alloc (.cells (nodeCells n A c) 26)).alloc (.cells #[.int .i64 (e : Int), .int .i64 0] 62)
    have hnews := World.news_of_block (w := (w.alloc (.cells (nodeCells n A c) 26)).alloc (.cells #[.int .i64 (e : Int), .int .i64 0] 62)) (B := w.heap.size + 1) (cs := #[.int .i64 (e : Int), .int .i64 0]) (t := 62) (fr := (0, 0)) (alloc_at _ _ _ (by simp))
    have hbs : base ≤ w.heap.size := by omega
    have h63 : l.length + 1 ≤ maxLen := by unfold maxLen; omega
    have hby : (l.length + 1) * 16 ≤ 140737488355328 := by omega
    have hbs2 : base ≤ ((w.alloc (.cells (nodeCells n A c) 26)).alloc (.cells #[.int .i64 (e : Int), .int .i64 0] 62)).heap.size := by simp; omega
    have HX := Lib.hid (show _ ∧ _ ∧ _ ∧ _ ∧ _ ∧ _ ∧ _ ∧ _ from ⟨hst, hk, hwt, hm, hlen, htot, hcn, htn⟩)
    have HIH := Lib.hid IH
    clear hst hk hwt hm hlen htot hcn htn IH
    go_enter Tryd.func100, Tryd.ntmps100
    go_wp2_with (at_builtin; refine wpList_append_lies _ rfl _ _ 114 rfl base 62 i1 _ 2 16 Tryd.underlying114 hi1 hz3 hz4 hz5 rfl (by decide) _ _ _ rfl hrow ⟨w.heap.size + 1, 0, none⟩ 1 1 [.int .i64 (e : Int), .int .i64 0] rfl rfl hnews (by intro u hu; simp at hu; rcases hu with rfl | rfl <;> rfl) (by decide) h63 hby hbs2 (w.heap.size + 2) (by simp) ?_)
    intro g cap w5 hown hgr hat hlt
    obtain ⟨hst, hk, hwt, hm, hlen, htot, hcn, htn⟩ := HX.out
    have hnS := own_ne hst.row hst.sp (by decide)
    have hnE := own_ne hst.row hst.en (by decide)
    have hnA := own_ne hst.row hst.ad (by decide)
    have hAlt := (Array.getElem?_eq_some_iff.1 hst.ad).1
    have hnP : (Value.slice aS l.length cS).ownBlock ≠ some w.heap.size := fun h => Nat.lt_irrefl _ (hst.row.lt _ h).2
    have g5 : ∀ k, k < w.heap.size → (Value.slice aS l.length cS).ownBlock ≠ some k → w5.heap[k]? = w.heap[k]? := fun k h1 h2 => (hgr.block k (by simp; omega) (fun h => h2 h.symm)).trans ((alloc_old _ _ _ (by simp; omega)).trans (alloc_old _ _ _ h1))
    have b5S := (g5 S hSlt hnS).trans hst.sp
    have b5E := (g5 E hElt hnE).trans hst.en
    have b5A := (g5 Ad hAlt hnA).trans hst.ad
    have b5P : w5.heap[w.heap.size]? = some (.cells (nodeCells n A c) 26 (0, 0)) := (hgr.block _ (by simp; omega) (fun h => hnP h.symm)).trans ((alloc_old _ _ _ (by simp)).trans (alloc_at _ _ _ rfl))
    have hs5 : w.heap.size + 2 ≤ w5.heap.size := by have := hgr.size; simpa using this
    have sS5 := Lib.cell_of_heap b5S 0
    have sE5 := Lib.cell_of_heap b5E 0
    have fS5 := frozen_block (j := 0) b5S
    have fE5 := frozen_block (j := 0) b5E
    have p2 := (cells_of_block b5P).2.2.1
    have p3 := (cells_of_block b5P).2.2.2
    have hPS : w.heap.size ≠ S := Ne.symm hSne
    have hPE : w.heap.size ≠ E := Ne.symm hEne
    have hES : E ≠ S := Ne.symm hSE
    have hwr : wrap64 ((e : Int) + (n.tok.2.size : Int)) = (e : Int) + (n.tok.2.size : Int) := wrapE (by rw [htn] at htot; omega) htot
    have hgS : g ≠ S := hat.elim (fun h => fun h' => hnS (by rw [h, h'])) (fun h => by omega)
    have hgE : g ≠ E := hat.elim (fun h => fun h' => hnE (by rw [h, h'])) (fun h => by omega)
    obtain ⟨W6, hW6⟩ : ∃ W6, W6 = (w5.setCell ⟨S, 0, none⟩ (.slice (some ⟨g, 0, none⟩) (l.length + 1) cap)).setCell ⟨E, 0, none⟩ (.int .i64 ((e : Int) + (n.tok.2.size : Int))) := ⟨_, rfl⟩
    have h6 : ∀ k, k ≠ S → k ≠ E → W6.heap[k]? = w5.heap[k]? := fun k h1 h2 => by rw [hW6]; exact (block_other h2).trans (block_other h1)
    have hst6 : SpSt base S E Ad (l ++ [(e, 0)] ++ spansL (e + n.tok.2.size) (n.kids.take 0)) (e + n.tok.2.size + totL (n.kids.take 0)) (.slice (some ⟨g, 0, none⟩) (l.length + 1) cap) W6 := by
      refine ⟨by rw [hW6]; exact (block_other hSE).trans (set_block b5S), ?_, (h6 Ad (Ne.symm hSA) (Ne.symm hEA)).trans b5A, ?_⟩
      · rw [hW6]
        have := set_block (v := .int .i64 ((e : Int) + (n.tok.2.size : Int))) ((block_other (j := 0) (v := .slice (some ⟨g, 0, none⟩) (l.length + 1) cap) hES).trans b5E)
        simpa [totL] using this
      · have hr6 := own_same hown (w' := W6) (fun g' h' => h6 g' (by have : g = g' := by simpa [Value.ownBlock] using h'
                                                                     rw [← this]; exact hgS) (by have : g = g' := by simpa [Value.ownBlock] using h'
                                                                                                 rw [← this]; exact hgE))
        simpa [spansL, spCells] using hr6
    have hlf6 : SpLeft S E (.slice aS l.length cS) (.slice (some ⟨g, 0, none⟩) (l.length + 1) cap) w W6 :=
      ⟨by rw [hW6]; exact hgr.os, by rw [hW6]; exact hgr.tape, by rw [hW6]; exact hgr.output, by rw [hW6]; simp [World.setCell]; omega, fun k h1 h2 h3 h4 => (h6 k h2 h3).trans (g5 k h1 h4), fun g' h' => by
        have : g = g' := by simpa [Value.ownBlock] using h'
        subst this
        exact hat.imp id (fun h => by omega)⟩
    have b6P : W6.heap[w.heap.size]? = some (.cells (nodeCells n A c) 26 (0, 0)) := (h6 _ hPS hPE).trans b5P
    have HY := Lib.hid (show _ ∧ _ ∧ _ ∧ _ from ⟨hst6, hlf6, b6P, hW6⟩)
    clear hst hk hwt hm hlen htot hcn htn hst6 hlf6 b6P hW6 h6 b5S b5E b5A b5P g5 hown hgr hat hlt hrow hnews hi1 hz3 hz4 hz5 sS sE hnS hnE hnA hnP hSne hEne h63 hby hbs2
    go_wp2_with fail
    rw [← HY.out.2.2.2]
    rw [hwr]
    go_loopg [24] n.kids.length (fun gk s24 wx => ∃ (i : Nat) (sv : Value), s24 = .int .i64 (i : Int) ∧ i + gk = n.kids.length ∧ SpSt base S E Ad (l ++ [(e, 0)] ++ spansL (e + n.tok.2.size) (n.kids.take i)) (e + n.tok.2.size + totL (n.kids.take i)) sv wx ∧ SpLeft S E (.slice aS l.length cS) sv w wx)
    case atStart => exact ⟨0, _, rfl, by omega, HY.out.1, HY.out.2.1⟩
    case round =>
      obtain ⟨i, sv, rfl, hig, hst, hlf⟩ := hrel
      cases gk with
      | zero =>
        have hi : i = n.kids.length := by omega
        subst hi
        rw [List.take_length] at hst
        obtain ⟨gz, cz, rfl, hgb, hglt⟩ := hst.row.form (by simp; omega)
        have sS := Lib.cell_of_heap hst.sp 0
        have sE := Lib.cell_of_heap hst.en 0
        have hrl : l.length < (l ++ [(e, 0)] ++ spansL (e + n.tok.2.size) n.kids).length := by simp
        have hcell := (hst.row.cellAt (l.length * 2 + 1) (by omega)).trans (spCells_get _ l.length (e, 0) (by simp)).2
        have hfz := hst.row.frozenAt (l.length * 2 + 1)
        have hsto := hst.row.stored (l.length * 2 + 1) (.int .i64 ((e + totN n : Nat) : Int))
        have hnS := own_ne hst.row hst.sp (by decide)
        have hnE := own_ne hst.row hst.en (by decide)
        have hnA := own_ne hst.row hst.ad (by decide)
        have hee : ((e + n.tok.2.size + totL n.kids : Nat) : Int) = ((e + totN n : Nat) : Int) := by rw [totN_eq]; congr 1; omega
        rw [hee] at sE
        have HZ := Lib.hid (show _ ∧ _ ∧ _ ∧ _ ∧ _ ∧ _ ∧ _ from ⟨hst, hlf, hsto, hnS, hnE, hnA, hee⟩)
        have hd0 : decide (((n.kids.length : Nat) : Int) < ((n.kids.length : Nat) : Int)) = false := by simp
        have hrl2 : (l.length : Int) < ((l ++ [(e, 0)] ++ spansL (e + n.tok.2.size) n.kids).length : Int) := by exact_mod_cast hrl
        generalize hL : (l ++ [(e, 0)] ++ spansL (e + n.tok.2.size) n.kids).length = L at *
        clear hst hlf hsto hnS hnE hnA hee hig
        go_wp2_with fail
        go_end0
        obtain ⟨hst, hlf, hsto, hnS, hnE, hnA, hee⟩ := HZ.out
        have hgS : gz ≠ S := fun h => hnS (by rw [h]; rfl)
        have hgE : gz ≠ E := fun h => hnE (by rw [h]; rfl)
        have hgA : gz ≠ Ad := fun h => hnA (by rw [h]; rfl)
        rw [Int.natCast_add] at hsto
        have hll : (l ++ spansN e n).length = L := by rw [← hL, spansN_eq]; simp
        refine ⟨⟨_, rfl⟩, .slice (some ⟨gz, 0, none⟩) L cz, ⟨(block_other (Ne.symm hgS)).trans hst.sp, ?_, (block_other (Ne.symm hgA)).trans hst.ad, ?_⟩, ?_⟩
        · have := (block_other (v := .int .i64 ((e : Int) + (totN n : Int))) (j := l.length * 2 + 1) (Ne.symm hgE)).trans hst.en
          rw [hee] at this
          exact this
        · rw [hll, spansN_eq]
          have h1 := hsto.1
          rw [show l ++ [(e, 0)] ++ spansL (e + n.tok.2.size) n.kids = l ++ (e, 0) :: spansL (e + n.tok.2.size) n.kids by simp] at h1
          have h2 := spCells_set l (spansL (e + n.tok.2.size) n.kids) e 0 (e + totN n)
          rw [Int.natCast_add] at h2
          rw [h2] at h1
          exact h1
        · refine hlf.trans ⟨rfl, rfl, rfl, by simp [World.setCell], fun k hk h1 h2 h3 => block_other (fun h => h3 (by rw [h]; rfl)), fun g h => .inl h⟩
      | succ gk =>
        have hil : i < n.kids.length := by omega
        obtain ⟨kid, hkid⟩ : ∃ kid, n.kids[i]? = some kid := ⟨_, List.getElem?_eq_getElem hil⟩
        obtain ⟨_, hk, hwt, hm, hlen, htot, hcn, htn⟩ := HX.out
        obtain ⟨bb, oo, rfl, hnd⟩ := hk (Nat.lt_of_le_of_lt (Nat.zero_le _) hil)
        obtain ⟨Ak, ck, hbb, k0, k1, k2, k3, hkk⟩ := hnd.get hkid
        have hwx : Below wt.heap.size wt wr := hwt.trans ⟨hlf.os, hlf.tape, hlf.output, hlf.size, fun k hk => hlf.same k (by have := hwt.size; omega) (by omega) (by omega) (fun h => by have := (HX.out.1.row.lt k h).1; omega)⟩
        rw [← hwx.cell hbb] at k0 k1 k2 k3
        have aA := Lib.cell_of_heap hst.ad 0
        have hAl := (Array.getElem?_eq_some_iff.1 hst.ad).1
        have hAn : Ad ≠ wr.heap.size := Nat.ne_of_lt hAl
        have hcL := countL_get _ _ _ hkid
        have hlk : (l ++ [(e, 0)] ++ spansL (e + n.tok.2.size) (n.kids.take i)).length + countN kid ≤ 10000000 := by
          have h1 : countL (n.kids.take (i + 1)) ≤ countL n.kids := countL_take _ _
          rw [take_snoc0 hkid, countL_append] at h1
          simp only [List.length_append, List.length_cons, List.length_nil, spansL_length]
          have h2 : countL [kid] = countN kid := by simp [countL]
          omega
        have hte : e + n.tok.2.size + totL (n.kids.take i) + totN kid ≤ 1000000000000 := by
          have h1 := totL_le n.kids (i + 1)
          rw [totL_take hkid] at h1
          omega
        have hIH := HIH.out kid _ _ _ sv (wr.alloc (.cells (nodeCells kid Ak ck) 26)) (by omega) (hwx.alloc hwx.size _) ⟨Ak, ck, rfl, hkk⟩ (hst.alloc _) hlk hte
        have hd0 : decide (((i : Nat) : Int) < ((n.kids.length : Nat) : Int)) = true := decide_eq_true (by omega)
        have hi0 : (0 : Int) ≤ (i : Int) := by omega
        have hi1 : (i : Int) < (n.kids.length : Int) := by omega
        have hkl := len_countL n.kids
        have hwi : wrap64 ((i : Int) + 1) = (i : Int) + 1 := w64d' (show i < 10000000 by omega)
        clear hkl
        have HZ := Lib.hid (show _ ∧ _ ∧ _ ∧ _ from ⟨hlf, hig, hkid, hst⟩)
        have HI := Lib.hid hIH
        clear hlf hig hkid hst hIH hlk hte hcL hwx hk hwt hm hlen htot hcn htn hnd hbb hkk hil
        go_wp2_with (go_at_call 100; refine HI.out.mono ?_; rintro en w8 ⟨⟨r, rfl⟩, hq⟩; have HQ := Lib.hid hq; clear hq)
        go_roundg gk
        case measure => exact Nat.lt_succ_self _
        case rel =>
          obtain ⟨hlf, hig, hkid, hst⟩ := HZ.out
          obtain ⟨sv', hs', hl'⟩ := HQ.out
          refine ⟨i + 1, sv', congrArg (Value.int .i64) (hwi.trans (cast1 i)), arith1 hig, ?_, hlf.trans ((SpLeft.alloc _ _).trans hl')⟩
          rw [spansL_take hkid, totL_take hkid, ← List.append_assoc, ← Nat.add_assoc]
          exact hs'
end Go.Proofs.YtpjlgahbbmlngaaDoor

namespace Go.Proofs.YtpjlgahbbmlngaaDoor
set_option linter.unusedVariables false
set_option linter.unusedSimpArgs false
open Go Go.RowKit

set_option maxRecDepth 100000 in
set_option maxHeartbeats 2000000 in
theorem allSpans_any (n : Nd) (v : Value) (w : World) (hC : countN n ≤ 10000000) (hE : totN n ≤ 1000000000000) (hV : NodeV w v n) :
    Calls Tryd.prog 75 #[v] w fun e w' => ∃ sv, e = .returned sv ∧ w'.ownsRow w.heap.size 62 2 sv (spansN 0 n).length (spCells (spansN 0 n)) ∧ Below w.heap.size w w' := by
  have hV0 := hV
  obtain ⟨A, c, rfl, hk⟩ := hV
  obtain ⟨W0, hW0⟩ : ∃ W0, W0 = (((w.alloc (.cells (nodeCells n A c) 26)).alloc (.cells #[.slice none 0 0] 114)).alloc (.cells #[.int .i64 0] 3)).alloc (.cells #[.func (.func 100) #[] #[.pointer (some ⟨w.heap.size + 1, 0, none⟩), .pointer (some ⟨w.heap.size + 2, 0, none⟩), .pointer (some ⟨w.heap.size + 3, 0, none⟩)]] 132) := ⟨_, rfl⟩
  have hB0 : Below w.heap.size w W0 := by rw [hW0]; exact ((((Below.refl _ _).alloc (Nat.le_refl _) _).alloc (by simp) _).alloc (by simp; omega) _).alloc (by simp; omega) _
  have hs0 : W0.heap.size = w.heap.size + 4 := by rw [hW0]; simp
  have b1 : W0.heap[w.heap.size + 1]? = some (.cells #[.slice none 0 0] 114 (0, 0)) := by rw [hW0, alloc_old _ _ _ (by simp), alloc_old _ _ _ (by simp), alloc_at _ _ _ (by simp)]
  have b2 : W0.heap[w.heap.size + 2]? = some (.cells #[.int .i64 0] 3 (0, 0)) := by rw [hW0, alloc_old _ _ _ (by simp), alloc_at _ _ _ (by simp)]
  have b3 : W0.heap[w.heap.size + 3]? = some (.cells #[.func (.func 100) #[] #[.pointer (some ⟨w.heap.size + 1, 0, none⟩), .pointer (some ⟨w.heap.size + 2, 0, none⟩), .pointer (some ⟨w.heap.size + 3, 0, none⟩)]] 132 (0, 0)) := by rw [hW0, alloc_at _ _ _ (by simp)]
  have hst : SpSt (w.heap.size + 1) (w.heap.size + 1) (w.heap.size + 2) (w.heap.size + 3) [] 0 (.slice none 0 0) W0 := ⟨b1, b2, b3, World.ownsRow_nil _ _ _ _⟩
  have hc := spans1_any w (w.heap.size + 1) (w.heap.size + 1) (w.heap.size + 2) (w.heap.size + 3) (by omega) (by omega) (by omega) (by omega) (by omega) (by omega) (by omega) (countN n) n _ [] 0 _ W0 (Nat.le_refl _) hB0 hV0 hst (by simpa using hC) (by simpa using hE)
  have HX := Lib.hid (show _ ∧ _ ∧ _ from ⟨hB0, hs0, hW0⟩)
  have HC := Lib.hid hc
  clear hc hst b1 b2 b3 hB0 hs0 hV0 hk hC hE hW0
  go_enter Tryd.func75, Tryd.ntmps75
  go_wp2_with (go_at_call 100; fail)

  have hgo : ∀ (P : World → Prop), P W0 → P ((((w.alloc (.cells (nodeCells n A c) 26)).alloc (.cells #[.slice none 0 0] 114)).alloc (.cells #[.int .i64 0] 3)).alloc (.cells #[.func (.func 100) #[] #[.pointer (some ⟨w.heap.size + 1, 0, none⟩), .pointer (some ⟨w.heap.size + 2, 0, none⟩), .pointer (some ⟨w.heap.size + 3, 0, none⟩)]] 132)) := fun P h => by rw [← HX.out.2.2]; exact h
  refine hgo (fun W => Calls Tryd.prog 100 _ W _) ?_
  refine HC.out.mono ?_
  clear hgo
  rintro e w1 ⟨⟨r, rfl⟩, sv, hs1, hl1⟩
  have l1 := Lib.cell_of_heap hs1.sp 0
  obtain ⟨aS, cS, rfl⟩ := own_slice hs1.row
  have HS := Lib.hid (And.intro hs1 hl1)
  clear hs1 hl1
  dsimp only
  go_wp2_with fail
  go_ret
  obtain ⟨hs1, hl1⟩ := HS.out
  refine ⟨_, rfl, ?_, HX.out.1.trans ⟨hl1.os, hl1.tape, hl1.output, hl1.size, fun k hk => hl1.same k (by rw [HX.out.2.1]; omega) (by omega) (by omega) (by simp [Value.ownBlock])⟩⟩
  have := hs1.row
  simp only [List.nil_append] at this ⊢
  exact own_le this (by omega)
end Go.Proofs.YtpjlgahbbmlngaaDoor

namespace Go.Proofs.YtpjlgahbbmlngaaDoor
set_option linter.unusedVariables false
set_option linter.unusedSimpArgs false
open Go Go.RowKit

attribute [local go_sem] Oper.semAt_some

/-- what a round over leaves is handed -/
def EnL (O : Nat → Prop) (t : Tok) (W : World) (args : Array Value) : Prop := args = #[.agg #[.int .i64 t.1, .string t.2]]
theorem EnL.keep {n₀ : Nat} (O O' : Nat → Prop) (x : Tok) (W W' : World) (args : Array Value) (h : EnL O x W args) (_ : ∀ k, O k → O' k) (_ : ∀ k, O k → W'.heap[k]? = W.heap[k]?) (_ : Below n₀ W W') : EnL O' x W' args := h
theorem EnL.size (O : Nat → Prop) (x : Tok) (W : World) (args : Array Value) (h : EnL O x W args) : args.size = 1 := by
  rw [show args = _ from h]; rfl

theorem leaves_any (n : Nd) (A : Option Addr) (c : Nat) (w : World) : Calls Tryd.prog 57 #[.agg #[.int .i64 n.kind, .int .i64 n.tok.1, .string n.tok.2, .slice A n.kids.length c]] w fun e w' =>
    e = .returned (.func (.func 81) #[] #[.pointer (some ⟨w.heap.size, 0, none⟩)]) ∧ w' = w.alloc (.cells (nodeCells n A c) 26) := by
  go_enter Tryd.func57, Tryd.ntmps57
  go_wp2_with fail
  go_ret
  exact ⟨rfl, rfl⟩
theorem leaf_get {T x : Nd} {k : Nat} {p : List Nat} (h : (walkN [] T)[k]? = some (p, x)) (hk : x.kind = 1) : (leavesN T)[leafK T k]? = some x.tok := by
  obtain ⟨hlt, he⟩ := List.getElem?_eq_some_iff.1 h
  have h1 : walkN [] T = (walkN [] T).take k ++ (p, x) :: (walkN [] T).drop (k + 1) := by
    rw [← he, ← List.drop_eq_getElem_cons hlt, List.take_append_drop]
  rw [← leavesW_walkN [] T]
  unfold leafK
  rw [show leavesW (walkN [] T) = leavesW ((walkN [] T).take k) ++ leavesW ((p, x) :: (walkN [] T).drop (k + 1)) by rw [← leavesW_append, ← h1]]
  rw [List.getElem?_append_right (Nat.le_refl _), Nat.sub_self]
  simp [leavesW, leafOf, hk]
theorem leafK_all (T : Nd) : leafK T (walkN [] T).length = (leavesN T).length := by
  unfold leafK; rw [List.take_length, leavesW_walkN]
theorem leafK_mono (T : Nd) (k : Nat) : leafK T k ≤ (leavesN T).length := by
  unfold leafK
  rw [← leavesW_walkN [] T]
  conv => rhs; rw [← List.take_append_drop k (walkN [] T), leavesW_append, List.length_append]
  omega
theorem RoundIn.anyD {m m' : Nat} {P : Program} {l l' : Nat} {f : FuncId} {tmps : Array Value} {assign body : Code} {w : World} {R : Ending → World → Prop}
    (h : RoundIn Fence.wide m P l f tmps assign body w R) : RoundIn (Fence.wide.inRound l') m' P l f tmps assign body w R := ⟨h.1, fun c cs _ => h.2 c cs (fun d h => by cases h)⟩

set_option maxRecDepth 100000 in
set_option maxHeartbeats 2000000 in
theorem leaves1_gives (w0 : World) (T : Nd) (hC : sizeN T) (b : Nat) (A : Option Addr) (c : Nat) (w : World) (hw0 : Below w0.heap.size w0 w) (hb : b < w.heap.size)
    (c0 : w.cell? ⟨b, 0, none⟩ = some (.int .i64 T.kind)) (c1 : w.cell? ⟨b, 1, none⟩ = some (.int .i64 T.tok.1)) (c2 : w.cell? ⟨b, 2, none⟩ = some (.string T.tok.2)) (c3 : w.cell? ⟨b, 3, none⟩ = some (.slice A T.kids.length c)) (hk : KidsV w0 A T.kids) :
    Gives Fence.wide 8 Tryd.prog 81 #[.pointer (some ⟨b, 0, none⟩)] EnL w0.heap.size (leavesN T) w := by
  intro l J Jx W hW hJ hJx hY h0
  rw [← hW.cell hb] at c0 c1 c2 c3
  have hB0 := hw0.trans (hW.mono hw0.size)
  refine callsIn_of_wp_marks Tryd.func81 rfl trivial ?_ rfl
  simp only [Tryd.ntmps81, List.size_toArray, List.length_cons, List.length_nil, Nat.reduceAdd, Nat.reduceSub, Array.replicate_succ, Array.replicate_zero, List.push_toArray, List.append_toArray, List.nil_append, List.cons_append]
  refine wpIn_wide.2 ?_
  have HY := Lib.hid hY
  have HJ := Lib.hid (show _ ∧ _ ∧ _ from ⟨hJ, hJx, h0⟩)
  clear hY hJ hJx h0
  have hbW : b < W.heap.size := Nat.lt_of_lt_of_le hb hW.size
  have hne : b ≠ W.heap.size := Nat.ne_of_lt hbW
  go_wp2_with (go_at_call 62; refine (walk_any T A c _).mono ?_; rintro e w' ⟨rfl, rfl⟩)
  obtain ⟨W0, hW0⟩ : ∃ W0, W0 = (W.alloc (.cells #[.func (.yield l) #[] #[]] 112)).alloc (.cells (nodeCells T A c) 26) := ⟨_, rfl⟩
  have hBW : Below W.heap.size W W0 := by rw [hW0]; exact ((Below.refl _ _).alloc (Nat.le_refl _) _).alloc (by simp) _
  have hs0 : W0.heap.size = W.heap.size + 2 := by rw [hW0]; simp
  have hb1 : W0.heap[W.heap.size]? = some (.cells #[.func (.yield l) #[] #[]] 112 (0, 0)) := by rw [hW0, alloc_old _ _ _ (by simp), alloc_at _ _ _ rfl]
  have hb3 : W0.heap[W.heap.size + 1]? = some (.cells (nodeCells T A c) 26 (0, 0)) := by rw [hW0, alloc_at _ _ _ (by simp)]
  obtain ⟨c0', c1', c2', c3'⟩ := cells_of_block hb3
  have hn0 : w0.heap.size ≤ W.heap.size := hB0.size
  have hB1 : Below w0.heap.size w0 W0 := hB0.trans (hBW.mono hn0)
  refine (wpIn_wide (n := 8)).1 ?_
  have hgo : ∀ (Q : Exit → Act → World → Prop) (a : Act) (g : Operand) (ps : Array Tmp) (assign body : Code), (Code.rangeFunc g ps assign body).wpIn Fence.wide 8 Tryd.prog Q a W0 → (Code.rangeFunc g ps assign body).wpIn Fence.wide 8 Tryd.prog Q a ((W.alloc (.cells #[.func (.yield l) #[] #[]] 112)).alloc (.cells (nodeCells T A c) 26)) := fun _ _ _ _ _ _ h => by rw [← hW0]; exact h
  refine hgo _ _ _ _ _ _ ?_
  clear hgo hW0
  have hJ0 : J 0 (fun b => b = W.heap.size) W0 := HJ.out.1 0 _ _ W W0 HJ.out.2.2 (Turns.of_below hBW) (fun b h => .inr (by omega))
  refine wpIn_rangeT rfl (by decide) (gf := 84) (lb := #[.pointer (some ⟨W.heap.size + 1, 0, none⟩)]) rfl trivial (enters_of Tryd.func84 (by kernel_rfl) rfl)
    (walk1_gives w0 T hC (W.heap.size + 1) A c (8 - 1) (by decide) W0 hB1 (by omega) c0' c1' c2' c3' hk) (Below.refl _ _) hB1.size EnW.keep (fun O x W args h => EnW.size O x W args h)
    (fun k O V => J (leafK T k) (fun b => O b ∨ b = W.heap.size) V ∧ V.heap[W.heap.size]? = some (.cells #[.func (.yield l) #[] #[]] 112 (0, 0)) ∧ (∀ b, O b → W.heap.size + 2 ≤ b) ∧ W.heap.size + 2 ≤ V.heap.size)
    (fun cd k O V => (cd = .ret ∧ Jx (leafK T k) (fun b => O b ∨ b = W.heap.size) V) ∧ (∀ b, O b → W.heap.size + 2 ≤ b) ∧ W.heap.size + 2 ≤ V.heap.size)
    ?ab1 ?ab2 ⟨by rw [show leafK T 0 = 0 by simp [leafK, leavesW]]; exact HJ.out.1 0 _ _ W0 W0 hJ0 (Turns.refl _ _) (fun b h => h.elim (fun h' => h'.elim) .inl), hb1, fun b h => h.elim, by omega⟩ ?round ?done ?stop
  case ab1 =>
    rintro k O O' V V' ⟨h1, h2, h3, h4⟩ ht hg
    refine ⟨HJ.out.1 _ _ _ V V' h1 (ht.mono fun _ h => .inl h) (fun b hb => hb.elim (fun h => (hg b h).imp .inl id) (fun h => .inl (.inr h))), (ht.block _ (by omega) (fun h => by have := h3 _ h; omega)).trans h2, fun b hb => (hg b hb).elim (h3 b) (fun h => Nat.le_trans h4 h), Nat.le_trans h4 ht.size⟩
  case ab2 =>
    rintro cd k O O' V V' ⟨⟨rfl, h1⟩, h3, h4⟩ ht hg
    refine ⟨⟨rfl, HJ.out.2.1 _ _ _ V V' h1 (ht.mono fun _ h => .inl h) (fun b hb => hb.elim (fun h => (hg b h).imp .inl id) (fun h => .inl (.inr h)))⟩, fun b hb => (hg b hb).elim (h3 b) (fun h => Nat.le_trans h4 h), Nat.le_trans h4 ht.size⟩
  case round =>
    rintro l' k O ⟨p, x⟩ args V hO hn ⟨hj, hr1, hfar, hsz⟩ hx ⟨pv, Ak, ck, rfl, hkv, hpos, hpo⟩
    simp only at hpos hkv
    obtain ⟨a0, cp, rfl⟩ := own_slice hpos
    gi_wp2
    refine ⟨(Below.refl _ _).alloc (Nat.le_refl _) _, fun W2 hT2 hs2 hi2 he2 => ?_⟩
    have hbx : W2.heap[V.heap.size]? = some (.cells (nodeCells x Ak ck) 26 (0, 0)) := (hT2.block _ (by simp) (fun h => Nat.lt_irrefl _ (hO _ h))).trans (alloc_at _ _ _ rfl)
    obtain ⟨d0, d1, d2, d3⟩ := cells_of_block hbx
    obtain ⟨hj2, hq1, _, hsz2⟩ := hi2
    have hOs : ∀ b, O b → b < W2.heap.size := fun b hb => by have := hO b hb; rw [hs2]; simp; omega
    have l1 : W2.cell? ⟨W.heap.size, 0, none⟩ = some (.func (.yield l) #[] #[]) := Lib.cell_of_heap hq1 0
    by_cases hk1 : x.kind = 1
    · have hnx := leafK_yes hx hk1
      obtain ⟨fn, tmps, assign, body, hy1, hR⟩ := HY.out (leafK T k) _ W2 #[.agg #[.int .i64 x.tok.1, .string x.tok.2]] x.tok hj2 (fun b hb => hb.elim (hOs b) (fun h => by omega)) (leaf_get hx hk1) rfl
      have HX := Lib.hid (show _ ∧ _ ∧ _ ∧ _ ∧ _ ∧ _ from ⟨hnx, hfar, hq1, hsz2, hT2, hn⟩)
      clear hnx hfar hq1 hsz2 hT2 hs2 he2 hj hr1 hsz hpos hpo hkv hx hO hn hbx hj2 hOs hJ0 hB1 hb1 hb3 c0 c1 c2 c3 c0' c1' c2' c3' hBW hs0
      gi_wp2
      refine (RoundIn.anyD hR).mono ?_
      clear hy1 hR
      rintro e W3 (⟨rfl, hj3, hk3⟩ | ⟨rfl, hjx, hk3⟩)
      · dsimp only
        have HK := Lib.hid (And.intro hj3 hk3)
        clear hj3 hk3
        gi_wp2
        exact ⟨⟨HK.out.2.below, fun b hb => HK.out.2.own b (.inl hb)⟩, by rw [HX.out.1]; exact HK.out.1, (HK.out.2.own _ (.inr rfl)).trans HX.out.2.2.1, HX.out.2.1, Nat.le_trans HX.out.2.2.2.1 HK.out.2.below.size⟩
      · dsimp only
        have HK := Lib.hid (And.intro hjx hk3)
        clear hjx hk3
        gi_wp2
        exact ⟨⟨HK.out.2.below, fun b hb => HK.out.2.own b (.inl hb)⟩, ⟨rfl, by rw [HX.out.1]; exact HK.out.1⟩, HX.out.2.1, Nat.le_trans HX.out.2.2.2.1 HK.out.2.below.size⟩
    · have hnx := leafK_no hx hk1
      have hkb : (x.kind == 1) = false := by simpa using hk1
      have HX := Lib.hid (show _ ∧ _ ∧ _ ∧ _ ∧ _ from ⟨hnx, hfar, hq1, hsz2, hj2⟩)
      clear hnx hfar hq1 hsz2 hT2 hs2 he2 hj hr1 hsz hpos hpo hkv hx hO hn hbx hj2 hOs hJ0 hB1 hb1 hb3 c0 c1 c2 c3 c0' c1' c2' c3' hBW hs0
      gi_wp2
      refine ⟨fun f hf => (by cases hf), ?_⟩
      gi_wp2
      exact ⟨Keep.refl _ _ _, by rw [HX.out.1]; exact HX.out.2.2.2.2, HX.out.2.2.1, HX.out.2.1, HX.out.2.2.2.1⟩
  case done =>
    rintro D O V hD hOD ⟨hj, hr1, hfar, hsz⟩ hKD
    have hj2 := HJ.out.1 _ _ (fun b => O b ∨ b = W.heap.size) V (V.putObj D (.deferred none)) hj (Turns.putObj _ (.inl hOD)) (fun b hb => .inl hb)
    rw [leafK_all] at hj2
    have HJ2 := Lib.hid hj2
    clear hj hj2 hr1 hfar hsz hOD
    gi_wp2
    refine ⟨by simp, .inl ⟨_, _, rfl, run_takeDeferred hKD, ?_⟩⟩
    exact ⟨_, results_none rfl _ _ _, ⟨_, rfl⟩, .inl ⟨_, HJ2.out⟩⟩
  case stop =>
    rintro D O cd k V hD hOD hkl ⟨⟨rfl, hj⟩, hfar, hsz⟩ hKD
    have hj2 := HJ.out.2.1 _ _ (fun b => O b ∨ b = W.heap.size) V (V.putObj D (.deferred none)) hj (Turns.putObj _ (.inl hOD)) (fun b hb => .inl hb)
    have hlm := leafK_mono T k
    have HJ2 := Lib.hid hj2
    clear hj hj2 hfar hsz hOD
    gi_wp2
    refine ⟨by simp, .inl ⟨_, _, rfl, run_takeDeferred hKD, ?_⟩⟩
    exact ⟨_, results_none rfl _ _ _, ⟨_, rfl⟩, .inr ⟨_, _, hlm, HJ2.out⟩⟩
end Go.Proofs.YtpjlgahbbmlngaaDoor
