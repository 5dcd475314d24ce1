/-
  Trees: the specification's gather (it appends to a list of its own).; The texts of tokens, one after the other: one more.; The contract of the specification's Text of layer 3.; Trees: Width, and the specification's Text.; A text's first bytes (the specification's Short as a plain function).; Trees: the specification's cut as a plain function, and what is small of what it gives.
-/
import Derived.Test.YtpjlgahbbmlngaaDoorTreeLeavesp26
import Derived.Test.YtpjlgahbbmlngaaDoorTreeLeavesp11
import Derived.Test.YtpjlgahbbmlngaaDoorTreeLeavesp20
import Derived.Test.YtpjlgahbbmlngaaDoorTreeLeavesp5
import Derived.Deep.RegionHeld3
import Derived.OwnWalk
import Derived.Laws.IdiomStrings
import Derived.Laws.BytesArg
import Derived.Deep.MidRow
import Derived.Test.YtpjlgahbbmlngaaDoorTreeLeavesp23
import Derived.Test.YtpjlgahbbmlngaaDoorTreeLeavesp2
namespace Go.Proofs.YtpjlgahbbmlngaaDoor
set_option linter.unusedVariables false
set_option linter.unusedSimpArgs false
open Go Go.RowKit

-- the leaves as the specification gathers them: what a leaf's kids are does not matter
mutual
def gatN : Nd → List Tok
  | .mk k t l => if k = 1 then [t] else gatL l
def gatL : List Nd → List Tok
  | [] => []
  | n :: l => gatN n ++ gatL l
end
theorem gatL_append : ∀ a b : List Nd, gatL (a ++ b) = gatL a ++ gatL b
  | [], b => rfl
  | n :: a, b => by simp only [List.cons_append, gatL, gatL_append a b, List.append_assoc]
theorem gatL_next {l : List Nd} {k : Nat} {x : Nd} (h : l[k]? = some x) : gatL (l.take (k + 1)) = gatL (l.take k) ++ gatN x := by
  rw [take_snoc h, gatL_append]; simp [gatL]
mutual
theorem gatN_le : ∀ n : Nd, (gatN n).length ≤ countN n
  | .mk k t l => by
    have := gatL_le l
    simp only [gatN, countN]
    split
    · simp
    · omega
theorem gatL_le : ∀ l : List Nd, (gatL l).length ≤ countL l
  | [] => by simp [gatL]
  | n :: l => by
    have h1 := gatN_le n
    have h2 := gatL_le l
    simp only [gatL, countL, List.length_append]; omega
end
mutual
theorem gatN_eq : ∀ n : Nd, partsN n = true → gatN n = leavesN n
  | .mk k t l, h => by
    simp only [partsN, Bool.and_eq_true] at h
    have h2 := gatL_eq l h.2
    simp only [gatN, leavesN]
    by_cases hk : k = 1
    · subst hk
      have h1 := h.1
      rw [isPart_one, Bool.and_eq_true] at h1
      have : l = [] := by simpa using h1.1
      subst this
      simp [leavesL]
    · rw [if_neg hk, if_neg hk, h2]; rfl
theorem gatL_eq : ∀ l : List Nd, partsL l = true → gatL l = leavesL l
  | [], _ => rfl
  | n :: l, h => by
    simp only [partsL, Bool.and_eq_true] at h
    simp only [gatL, leavesL, gatN_eq n h.1, gatL_eq l h.2]
end
/-- a call that appends to a row: nothing else has turned -/
structure RowTo (a b : Value) (w w' : World) : Prop where
  os : w'.os = w.os
  tape : w'.tape = w.tape
  output : w'.output = w.output
  size : w.heap.size ≤ w'.heap.size
  same : ∀ k, k < w.heap.size → a.ownBlock ≠ some k → w'.heap[k]? = w.heap[k]?
  lies : ∀ g, b.ownBlock = some g → a.ownBlock = some g ∨ w.heap.size ≤ g
theorem RowTo.refl (a : Value) (w : World) : RowTo a a w w := ⟨rfl, rfl, rfl, Nat.le_refl _, fun _ _ _ => rfl, fun _ h => .inl h⟩
theorem RowTo.trans {a b c : Value} {x y z : World} (h : RowTo a b x y) (k : RowTo b c y z) : RowTo a c x z :=
  ⟨k.os.trans h.os, k.tape.trans h.tape, k.output.trans h.output, Nat.le_trans h.size k.size,
    fun i hi h3 => (k.same i (Nat.lt_of_lt_of_le hi h.size) (fun e => (h.lies i e).elim h3 (fun h' => by omega))).trans (h.same i hi h3),
    fun g hg => (k.lies g hg).elim (fun h' => h.lies g h') (fun h' => .inr (Nat.le_trans h.size h'))⟩
theorem RowTo.alloc {a : Value} (x : World) (o : Obj) : RowTo a a x (x.alloc o) := ⟨rfl, rfl, rfl, by simp, fun k hk _ => alloc_old _ _ _ hk, fun _ h => .inl h⟩
theorem RowTo.call {a : Value} {x y : World} (h : Below x.heap.size x y) : RowTo a a x y := ⟨h.os, h.tape, h.output, h.size, fun k hk _ => h.block k hk, fun _ h => .inl h⟩
theorem RowTo.grown {a : Value} {x y : World} {g n cap : Nat} (h : x.grownBy y a.ownBlock) (hl : a.ownBlock = some g ∨ g = x.heap.size) : RowTo a (.slice (some ⟨g, 0, none⟩) n cap) x y :=
  ⟨h.os, h.tape, h.output, h.size, fun k hk hn => h.block k hk (fun e => hn e.symm), fun g' e => by
    have e' : g = g' := by simpa [Value.ownBlock] using e
    subst e'
    rcases hl with h1 | h1
    · exact .inl h1
    · exact .inr (by omega)⟩
theorem RowTo.below {base : Nat} {a b : Value} {w w' : World} (h : RowTo a b w w') (hr : ∀ g, a.ownBlock = some g → base ≤ g) (hb : base ≤ w.heap.size) : Below base w w' :=
  ⟨h.os, h.tape, h.output, h.size, fun k hk => h.same k (by omega) (fun e => by have := hr k e; omega)⟩

set_option maxRecDepth 100000 in
set_option maxHeartbeats 2000000 in
theorem RGather_any (wt : World) (base : Nat) (hbt : wt.heap.size ≤ base) : ∀ (m : Nat) (n : Nd) (v : Value) (pre : List Tok) (sv : Value) (w : World), deepN n < m → Below wt.heap.size wt w → base ≤ w.heap.size → NodeV wt v n →
    w.ownsRow base 23 2 sv pre.length (tkCells pre) → pre.length + countN n ≤ 10000000 →
    Calls Tryd.prog 66 #[v, sv] w fun e w' => ∃ sv', e = .returned sv' ∧ w'.ownsRow base 23 2 sv' (pre ++ gatN n).length (tkCells (pre ++ gatN n)) ∧ RowTo sv sv' w w'
  | 0, n, v, pre, sv, w, h, _, _, _, _, _ => absurd h (Nat.not_lt_zero _)
  | m + 1, .mk kd (tk, tx) l, v, pre, sv, w, hm, hwt, hbw, hV, hrow, hlen => by
    have IH := RGather_any wt base hbt m
    have hV : ∃ A c, v = .agg #[.int .i64 kd, .int .i64 tk, .string tx, .slice A l.length c] ∧ KidsV wt A l := hV
    obtain ⟨A, c, rfl, hk⟩ := hV
    obtain ⟨w0, hw0⟩ : ∃ w0, w0 = w.alloc (.cells #[.int .i64 kd, .int .i64 tk, .string tx, .slice A l.length c] 26) := ⟨_, rfl⟩
    have hB0 : Below w.heap.size w w0 := by rw [hw0]; exact (Below.refl _ _).alloc (Nat.le_refl _) _
    have hR0 : RowTo sv sv w w0 := by rw [hw0]; exact RowTo.alloc _ _
    have hb0 : w0.heap[w.heap.size]? = some (.cells #[.int .i64 kd, .int .i64 tk, .string tx, .slice A l.length c] 26 (0, 0)) := by rw [hw0]; exact heap_alloc_new w _
    have hs0 : w0.heap.size = w.heap.size + 1 := by rw [hw0]; simp
    have hrow0 : w0.ownsRow base 23 2 sv pre.length (tkCells pre) := by rw [hw0]; exact hrow.alloc _
    have p0 : w0.cell? ⟨w.heap.size, 0, none⟩ = some (.int .i64 kd) := Lib.cell_of_heap hb0 0
    have p1 : w0.cell? ⟨w.heap.size, 1, none⟩ = some (.int .i64 tk) := Lib.cell_of_heap hb0 1
    have p2 : w0.cell? ⟨w.heap.size, 2, none⟩ = some (.string tx) := Lib.cell_of_heap hb0 2
    have p3 : w0.cell? ⟨w.heap.size, 3, none⟩ = some (.slice A l.length c) := Lib.cell_of_heap hb0 3
    have hnb : sv.ownBlock ≠ some w.heap.size := fun e => by have := (hrow.lt _ e).2; omega
    have hm : deepL l < m + 1 := hm
    have hn : pre.length + (1 + countL l) ≤ 10000000 := hlen
    have hlc := countL_len l
    have hl1 : l.length ≤ 10000000 := by omega
    have hW := Lib.hid hw0
    have HX := Lib.hid (show _ ∧ _ ∧ _ ∧ _ ∧ _ from ⟨hB0, hR0, hs0, hrow0, hk⟩)
    have HIH := Lib.hid IH
    have HN := Lib.hid (show _ ∧ _ from ⟨hm, hn⟩)
    have HT := Lib.hid (show _ ∧ _ from ⟨hwt, hrow⟩)
    clear IH hm hn hlen hk hrow0 hR0 hB0 hlc hwt hrow
    by_cases h1 : kd = 1
    · subst h1
      have hg : gatN (.mk 1 (tk, tx) l) = [(tk, tx)] := rfl
      rw [hg]
      clear hg hb0
      subst hw0
      obtain ⟨i0, hi0, hz0, hz1, hz2⟩ := info_parts infoTok
      have hnb1 : ((w.alloc (.cells #[.int .i64 1, .int .i64 tk, .string tx, .slice A l.length c] 26)).alloc (.cells #[.int .i64 tk, .string tx] 23)).heap[w.heap.size + 1]? = some (.cells #[.int .i64 tk, .string tx] 23 (0, 0)) := alloc_at _ _ _ (by simp)
      have hnews := World.news_of_block hnb1
      have h63 : pre.length + 1 ≤ maxLen := by have := HN.out.2; unfold maxLen; omega
      have hby : (pre.length + 1) * 24 ≤ 140737488355328 := by have := HN.out.2; omega
      have hbs2 : base ≤ ((w.alloc (.cells #[.int .i64 1, .int .i64 tk, .string tx, .slice A l.length c] 26)).alloc (.cells #[.int .i64 tk, .string tx] 23)).heap.size := by simp; omega
      go_enter Tryd.func66, Tryd.ntmps66
      go_wp2_with (at_builtin; refine wpList_append_lies _ rfl _ _ 34 rfl base 23 i0 _ 2 24 Tryd.underlying34 hi0 hz0 hz1 hz2 rfl (by decide) _ _ _ rfl (HX.out.2.2.2.1.alloc _) ⟨w.heap.size + 1, 0, none⟩ 1 1 [.int .i64 tk, .string tx] rfl rfl hnews (by intro u hu; simp at hu; rcases hu with rfl | rfl <;> rfl) (by decide) h63 hby hbs2 (w.heap.size + 2) (by simp) ?_)
      intro g cap w4 hown4 hgrow hat hlt
      have hR4 := (HX.out.2.1.trans (RowTo.alloc _ (.cells #[.int .i64 tk, .string tx] 23))).trans (RowTo.grown (n := pre.length + 1) (cap := cap) hgrow (hat.imp id (fun h => by simp; omega)))
      have hown5 : w4.ownsRow base 23 2 (.slice (some ⟨g, 0, none⟩) (pre.length + 1) cap) (pre ++ [((tk, tx) : Tok)]).length (tkCells (pre ++ [((tk, tx) : Tok)])) := by
        rw [show (pre ++ [((tk, tx) : Tok)]).length = pre.length + 1 by simp, tkCells_append]; exact hown4
      have H5 := Lib.hid (show _ ∧ _ from ⟨hown5, hR4⟩)
      clear hown4 hown5 hgrow hat hlt hR4
      go_wp2_with fail
      go_ret
      exact ⟨_, rfl, H5.out.1, H5.out.2⟩
    · have hg : gatN (.mk kd (tk, tx) l) = gatL l := if_neg h1
      rw [hg]
      have q1 : (kd == 1) = false := beq_false_of_ne h1
      clear hg hw0 hb0 p1 p2
      go_enter Tryd.func66, Tryd.ntmps66
      go_wp2_with fail
      rw [← hW.out]
      go_loopw [5, 6] (fun a0 i wr => ∃ (k : Nat) (a : Value), a = a0 ∧ k ≤ l.length ∧ i = .int .i64 k ∧ wr.ownsRow base 23 2 a (pre ++ gatL (l.take k)).length (tkCells (pre ++ gatL (l.take k))) ∧ RowTo sv a w0 wr) (fun _ i _ => l.length - (intOf i).toNat)
      case atStart => exact ⟨0, _, rfl, Nat.zero_le _, rfl, by simpa [gatL] using HX.out.2.2.2.1, RowTo.refl _ _⟩
      case round =>
        obtain ⟨k, a, rfl, hk, rfl, hrw, hR⟩ := hrel
        have q3 : wr.cell? ⟨w.heap.size, 3, none⟩ = some (.slice A l.length c) := (World.cell?_of_block (w := w0) (a := ⟨w.heap.size, 3, none⟩) (hR.same w.heap.size (by have := HX.out.2.2.1; omega) hnb)).trans p3
        by_cases hlt : k < l.length
        · have hk0 : (0 : Int) ≤ (k : Int) := by omega
          have hk1 : (k : Int) < (l.length : Int) := by omega
          have hx0 : l[k]? = some l[k] := List.getElem?_eq_getElem hlt
          have hBt : Below wt.heap.size wt wr := HT.out.1.trans ((HX.out.2.1.trans hR).below (fun g e => by have := (HT.out.2.lt g e).1; omega) (by omega))
          obtain ⟨b, o, rfl, n0⟩ := HX.out.2.2.2.2 (by omega)
          have n1 := n0.kept hBt
          obtain ⟨x, hx⟩ : ∃ x, x = l[k] := ⟨_, rfl⟩
          rw [← hx] at hx0
          obtain ⟨B1, d1, s1, x0, x1, x2, x3, xk⟩ := n1.get hx0
          obtain ⟨B2, d2, s2, y0, y1, y2, y3, yk⟩ := n0.get hx0
          have hsame : B2 = B1 ∧ d2 = d1 := by
            have := (hBt.cell (p := ⟨b, o + k * 4 + 3, none⟩) s2).symm.trans x3
            rw [y3] at this
            injection this with this
            injection this with h1 h2 h3
            exact ⟨h1, h3⟩
          obtain ⟨rfl, rfl⟩ := hsame
          have hcn := gatL_next hx0
          have hle := gatL_le (l.take k)
          have hxc := countL_next hx0
          have hxd := countL_cut l (k + 1)
          have hdx := deepL_at hx0
          have hcl := HIH.out x (.agg #[.int .i64 x.kind, .int .i64 x.tok.1, .string x.tok.2, .slice B2 x.kids.length d2]) (pre ++ gatL (l.take k)) a wr (by have := HN.out.1; omega) hBt (by have := HX.out.2.2.1; have := hR.size; omega) ⟨B2, d2, rfl, yk⟩ hrw (by have := HN.out.2; rw [List.length_append]; omega)
          rw [List.append_assoc, ← hcn] at hcl
          have HCl := Lib.hid hcl
          have HR := Lib.hid hR
          clear hx hx0 n0 n1 xk yk hcl hcn hle hxc hxd hdx hBt hrw hR y0 y1 y2 y3
          have e3 : IntKind.i64.wrap ((k : Int) + 1) = ((k + 1 : Nat) : Int) := by rw [IntWalk.i64_in _ (by omega)]; omega
          go_wp2_with fail
          refine HCl.out.mono ?_
          rintro e w2 ⟨sv', rfl, hrw2, hR2⟩
          have H2 := Lib.hid (show _ ∧ _ from ⟨hrw2, HR.out.trans hR2⟩)
          clear hrw2 hR2
          go_wp2_with fail
          exact ⟨⟨k + 1, _, rfl, by omega, by go_num, H2.out.1, H2.out.2⟩, by simp [intOf]; omega⟩
        · have hke : k = l.length := by omega
          subst hke
          rw [List.take_length] at hrw
          have H2 := Lib.hid (show _ ∧ _ from ⟨hrw, HX.out.2.1.trans hR⟩)
          clear hrw hR
          go_wp2_with fail
          go_ret
          exact ⟨_, rfl, H2.out.1, H2.out.2⟩

/-- the specification's Leaves -/
theorem RLeavesOf_any (n : Nd) (v : Value) (w : World) (hn : countN n ≤ 10000000) (hV : NodeV w v n) :
    Calls Tryd.prog 27 #[v] w fun e w' => ∃ v', e = .returned v' ∧ w'.ownsRow w.heap.size 23 2 v' (gatN n).length (tkCells (gatN n)) ∧ Below w.heap.size w w' := by
  have hG := fun W (hb : Below w.heap.size w W) => RGather_any w w.heap.size (Nat.le_refl _) (deepN n + 1) n v [] (.slice none 0 0) W (Nat.lt_succ_self _) hb hb.size hV (by simpa [tkCells] using World.ownsRow_nil W w.heap.size 23 2) (by simpa using hn)
  obtain ⟨A, c, rfl, hk⟩ := hV
  have HG := Lib.hid hG
  obtain ⟨w0, hw0⟩ : ∃ w0, w0 = w.alloc (.cells #[.int .i64 n.kind, .int .i64 n.tok.1, .string n.tok.2, .slice A n.kids.length c] 26) := ⟨_, rfl⟩
  have hB0 : Below w.heap.size w w0 := by rw [hw0]; exact (Below.refl _ _).alloc (Nat.le_refl _) _
  have hb0 : w0.heap[w.heap.size]? = some (.cells #[.int .i64 n.kind, .int .i64 n.tok.1, .string n.tok.2, .slice A n.kids.length c] 26 (0, 0)) := by rw [hw0]; exact heap_alloc_new w _
  have HB := Lib.hid (show _ ∧ _ from ⟨hw0, hB0⟩)
  have p0 : w0.cell? ⟨w.heap.size, 0, none⟩ = some (.int .i64 n.kind) := Lib.cell_of_heap hb0 0
  have p1 : w0.cell? ⟨w.heap.size, 1, none⟩ = some (.int .i64 n.tok.1) := Lib.cell_of_heap hb0 1
  have p2 : w0.cell? ⟨w.heap.size, 2, none⟩ = some (.string n.tok.2) := Lib.cell_of_heap hb0 2
  have p3 : w0.cell? ⟨w.heap.size, 3, none⟩ = some (.slice A n.kids.length c) := Lib.cell_of_heap hb0 3
  clear hG hk hb0 hw0 hB0
  go_enter Tryd.func27, Tryd.ntmps27
  go_wp2_with fail
  try rw [← HB.out.1]
  refine (HG.out w0 HB.out.2).mono ?_
  rintro e w2 ⟨sv', rfl, hr, hR⟩
  have H2 := Lib.hid (show _ ∧ _ from ⟨hr, HB.out.2.trans (hR.below (fun g e => by simp [Value.ownBlock] at e) HB.out.2.size)⟩)
  clear hr hR
  go_wp2_with fail
  go_ret
  exact ⟨_, rfl, by simpa using H2.out.1, H2.out.2⟩
end Go.Proofs.YtpjlgahbbmlngaaDoor

namespace Go.Proofs.YtpjlgahbbmlngaaDoor
set_option linter.unusedVariables false
set_option linter.unusedSimpArgs false
theorem catL_take {l : List Tok} {k : Nat} (h : k < l.length) : catL (l.take (k + 1)) = catL (l.take k) ++ byt l[k].2 := by
  rw [List.take_succ_eq_append_getElem h, catL_append]; simp [catL]
theorem catL_take_le (l : List Tok) (k : Nat) : (catL (l.take k)).length ≤ (catL l).length := by
  have := congrArg List.length (catL_append (l.take k) (l.drop k))
  rw [List.take_append_drop, List.length_append] at this
  omega
end Go.Proofs.YtpjlgahbbmlngaaDoor

namespace Go.Proofs.YtpjlgahbbmlngaaDoor
set_option linter.unusedVariables false
set_option linter.unusedSimpArgs false
open Go.RowKit

theorem ret_s {a b : ByteArray} (h : a = b) : Ending.returned (.string a) = .returned (.string b) := by rw [h]
/-- a row of bytes of the call's own reads as a string -/
theorem convert_own {w : World} {base n : Nat} {v : Value} {l : List UInt8} (h : w.ownsRow base 5 1 v n (Lib.byteCells l)) (hn : n = l.length) :
    (convert 90 9 v).run Tryd.prog w = .ok (.string (mkB l)) w := by
  subst hn
  rcases h.2 with ⟨h1, h2⟩ | ⟨g, cap, cur, h1, hb, hg, hn, hc, hs, ht⟩
  · have : l = [] := List.eq_nil_of_length_eq_zero h2
    subst this
    rw [h1]
    exact run_convert_bytes_nil (w := w) 90 5 Tryd.underlying90 Tryd.underlying5 0 0 9 Tryd.underlying9
  · rw [h1]
    refine run_convert_bytes_back w 90 9 5 ⟨g, 0, none⟩ cap l Tryd.underlying90 Tryd.underlying5 Tryd.underlying9 fun j hj => ?_
    have hcell : w.cell? ⟨g, j, none⟩ = (Lib.byteCells l)[j]? := by
      rw [← ht, List.getElem?_take_of_lt (by omega)]
      simp [World.cell?, hg]
    rw [Addr.add_mid, Nat.zero_add, hcell]
    simp [Lib.byteCells, hj]
theorem infoByteR : (Tryd.prog.info? 5).map (fun i => (i.zero, i.size, i.bytes)) = some (some (.int .u8 0), 1, 1) := by kernel_rfl
theorem byteCells_append (a b : List UInt8) : Lib.byteCells (a ++ b) = Lib.byteCells a ++ Lib.byteCells b := by simp [Lib.byteCells]

set_option maxRecDepth 100000 in
set_option maxHeartbeats 1000000 in
theorem RText_any (c : Nat) (A : Option Addr) (l : List Tok) (w : World) (hl : l.length ≤ 1000000000) (hcl : (catL l).length ≤ 1000000000) (hE : TksV w A l) :
    Calls Tryd.prog 64 #[.slice A l.length c] w fun e w' => e = .returned (.string (mkB (catL l))) ∧ Below w.heap.size w w' := by
  obtain ⟨i0, hi0, hz0, hz1, hz2⟩ := info_parts infoByteR
  have HE := Lib.hid hE
  have htl := catL_take_le l
  have HTL := Lib.hid htl
  clear hE htl
  go_enter Tryd.func64, Tryd.ntmps64
  go_wp2_with fail
  go_loopw [3, 4] (fun n i wr => ∃ (k m : Nat), k ≤ l.length ∧ i = .int .i64 k ∧ n = .int .i64 m ∧ m = (catL (l.take k)).length ∧ wr = w) (fun _ i _ => l.length - (intOf i).toNat)
  case atStart => exact ⟨0, 0, Nat.zero_le _, rfl, rfl, rfl, rfl⟩
  case round =>
    obtain ⟨k, m, hk, rfl, rfl, hm, hw⟩ := hrel
    obtain rfl := hw.symm
    have hk1 : (0 : Int) ≤ (k : Int) := by omega
    have hml := HTL.out k
    rw [← hm] at hml
    by_cases hlt : k < l.length
    · obtain ⟨b, off, rfl, hbb, m0, m1⟩ := HE.out.get hlt
      have hct := catL_take hlt
      have hct2 := congrArg List.length hct
      have htl2 := HTL.out (k + 1)
      rw [List.length_append, byt_length, ← hm] at hct2
      rw [hct2] at htl2
      obtain ⟨⟨kd, x⟩, hx⟩ : ∃ p, p = l[k] := ⟨_, rfl⟩
      rw [← hx] at m0 m1 hct2 htl2
      simp only at m0 m1 hct2 htl2
      have hk2 : (k : Int) < (l.length : Int) := by omega
      have sm : IntKind.i64.wrap ((m : Int) + (x.size : Int)) = ((m + x.size : Nat) : Int) := by rw [IntWalk.i64_in _ (by omega)]; omega
      have Hct := Lib.hid hct2
      clear hct hct2 hx hm
      go_wp2_with fail
      exact ⟨⟨k + 1, m + x.size, by omega, by go_num, by go_num, Hct.out.symm, by first | rfl | trivial⟩, by simp only [intOf]; omega⟩
    · have hke : k = l.length := by omega
      subst hke
      rw [List.take_length] at hm
      have hk2 : decide ((l.length : Int) < (l.length : Int)) = false := by simp
      have HM := Lib.hid hm
      have hm6 : m ≤ 1000000000 := by omega
      clear hm
      go_wp2_with (refine wpList_make_own _ rfl _ _ 90 rfl w.heap.size 5 i0 _ 1 Tryd.underlying90 hi0 hz0 hz1 .i64 .i64 _ m rfl rfl rfl ?c1 ?c2 ?c3 ?_)
      case c1 => first | omega | (rw [hz2]; omega)
      try (case c2 => first | omega | (unfold maxLen; omega))
      try (case c3 => exact Nat.le_refl _)
      intro w2 hown2 hgrow2
      have hB2 : Below w.heap.size w w2 := (Below.refl _ _).grown hgrow2 (Nat.le_refl _) (fun g hg => by simp at hg)
      have Hown2 := Lib.hid hown2
      have HB2 := Lib.hid hB2
      clear hown2 hB2 hgrow2
      go_wp2_with fail
      go_loopw [5, 6] (fun v i w3 => ∃ (k : Nat) (pre : List UInt8) (v0 : Value), v0 = v ∧ k ≤ l.length ∧ i = .int .i64 k ∧ pre = catL (l.take k) ∧ w3.ownsRow w.heap.size 5 1 v0 pre.length (Lib.byteCells pre) ∧ Below w.heap.size w w3) (fun _ i _ => l.length - (intOf i).toNat)
      case atStart => exact ⟨0, [], _, rfl, Nat.zero_le _, rfl, rfl, Hown2.out, HB2.out⟩
      case round =>
        obtain ⟨k, pre, v, rfl, hk, rfl, he, hown, hB⟩ := hrel
        have hk1 : (0 : Int) ≤ (k : Int) := by omega
        have hpl := HTL.out k
        rw [← he] at hpl
        by_cases hlt : k < l.length
        · obtain ⟨b, off, rfl, hbb, m0, m1⟩ := (HE.out.below hB).get hlt
          have hct := catL_take hlt
          have htl2 := HTL.out (k + 1)
          rw [hct, List.length_append, byt_length, ← he] at htl2
          rw [← he] at hct
          obtain ⟨⟨kd, x⟩, hx⟩ : ∃ p, p = l[k] := ⟨_, rfl⟩
          rw [← hx] at m0 m1 hct htl2
          simp only at m0 m1 hct htl2
          have hk3 : (k : Int) < (l.length : Int) := by omega
          have Hct := Lib.hid hct
          have hs3 := hB.size
          clear hct hx he
          go_wp2_with (at_builtin; (refine Lib.wpList_append_own_string _ rfl _ _ 90 9 rfl w.heap.size 5 i0 Tryd.underlying90 Tryd.underlying9 hi0 hz0 hz1 hz2 _ _ _ rfl hown x rfl ?d3 ?d4 ?d5 ?_))
          case d3 => unfold maxLen; omega
          case d4 => omega
          case d5 => omega
          intro v' w4 hown4 hgrow4 _
          have hB4 := hB.grown hgrow4 (by omega) (fun g hg => (hown.lt g hg).1)
          have hown5 : w4.ownsRow w.heap.size 5 1 v' (pre ++ byt x).length (Lib.byteCells (pre ++ byt x)) := by
            rw [byteCells_append, List.length_append, byt_length]; exact hown4
          have Hown5 := Lib.hid hown5
          have HB4 := Lib.hid hB4
          clear hown hown4 hown5 hgrow4 hB hB4
          go_wp2_with fail
          exact ⟨⟨k + 1, pre ++ byt x, _, rfl, by omega, by go_num, Hct.out.symm, Hown5.out, HB4.out⟩, by simp only [intOf]; omega⟩
        · have hke : k = l.length := by omega
          subst hke
          rw [List.take_length] at he
          have hk3 : decide ((l.length : Int) < (l.length : Int)) = false := by simp
          have hcv := convert_own hown rfl
          have Hr := Lib.hid he
          have HBf := Lib.hid hB
          clear he hown hB
          go_wp2_with fail
          go_ret
          exact ⟨ret_s (by rw [Hr.out]), HBf.out⟩
end Go.Proofs.YtpjlgahbbmlngaaDoor

namespace Go.Proofs.YtpjlgahbbmlngaaDoor
set_option linter.unusedVariables false
set_option linter.unusedSimpArgs false
open Go Go.RowKit

set_option maxRecDepth 100000 in
set_option maxHeartbeats 2000000 in
theorem Width_any (n : Nd) (v : Value) (w : World) (hC : sizeN n) (hS : sumS n) (hT : Tabs w) (hV : NodeV w v n) :
    Calls Tryd.prog 18 #[v] w fun e w' => e = .returned (if formedB n then .tuple #[.int .i64 (sumT (leavesN n) : Nat), .int .i64 0] else .tuple #[.int .i64 0, .int .i64 4]) ∧ Below w.heap.size w w' := by
  have hV0 := hV
  obtain ⟨A, c, rfl, hk⟩ := hV
  have hIF := IsFormed_any n _ (w.alloc (.cells (nodeCells n A c) 26)) hC (hT.below ((Below.refl _ _).alloc (Nat.le_refl _) _)) (hV0.alloc _)
  have hBa : Below w.heap.size w (w.alloc (.cells (nodeCells n A c) 26)) := (Below.refl _ _).alloc (Nat.le_refl _) _
  have HB := Lib.hid (show _ ∧ _ ∧ _ ∧ _ from ⟨hBa, hV0, hC, hS⟩)
  clear hBa hT hV0 hk hC hS
  cases hf : formedB n with
  | false =>
    rw [hf] at hIF
    clear hf
    have HIF := Lib.hid hIF
    clear hIF
    go_enter Tryd.func18, Tryd.ntmps18
    go_wp2_with (go_at_call 21; refine HIF.out.mono ?_; rintro e w1 ⟨rfl, hb1⟩)
    refine bodyPost_ret (by simp [results, Tryd.f18, go_sem]; try rfl) rfl ?_
    exact ⟨rfl, HB.out.1.trans (hb1.mono HB.out.1.size)⟩
  | true =>
    rw [hf] at hIF
    clear hf
    have HIF := Lib.hid hIF
    clear hIF
    go_enter Tryd.func18, Tryd.ntmps18
    go_wp2_with (first
      | (go_at_call 21; refine HIF.out.mono ?_; rintro e w1 ⟨rfl, hb1⟩; obtain ⟨e0, e1, e2, e3⟩ := cells_of_block (cells_later hb1))
      | (go_at_call 60; refine (width_any n _ w1 HB.out.2.2.1 HB.out.2.2.2 (HB.out.2.1.below (HB.out.1.trans (hb1.mono HB.out.1.size)))).mono ?_; rintro e w2 ⟨rfl, hb2⟩))
    refine bodyPost_ret (by simp [results, Tryd.f18, go_sem]; try rfl) rfl ?_
    have hB1 := HB.out.1.trans (hb1.mono HB.out.1.size)
    exact ⟨rfl, hB1.trans (hb2.mono hB1.size)⟩

theorem catL_sum : ∀ l : List Tok, (catL l).length = sumT l
  | [] => rfl
  | t :: l => by
    have := catL_sum l
    simp only [catL, List.flatMap_cons, List.length_append, sumT] at this ⊢
    rw [this, byt_length]
theorem textN_cat (n : Nd) : textN n = mkB (catL (leavesN n)) := rfl

set_option maxRecDepth 100000 in
set_option maxHeartbeats 2000000 in
theorem RTextOf_any (n : Nd) (v : Value) (w : World) (hn : countN n ≤ 10000000) (hs : sumT (gatN n) ≤ 1000000000) (hV : NodeV w v n) :
    Calls Tryd.prog 24 #[v] w fun e w' => e = .returned (.string (mkB (catL (gatN n)))) ∧ Below w.heap.size w w' := by
  have hV0 := hV
  obtain ⟨A, c, rfl, hk⟩ := hV
  have hB0 : Below w.heap.size w (w.alloc (.cells (nodeCells n A c) 26)) := (Below.refl _ _).alloc (Nat.le_refl _) _
  have hL := RLeavesOf_any n _ (w.alloc (.cells (nodeCells n A c) 26)) hn (hV0.below hB0)
  have hle := gatN_le n
  have HL := Lib.hid (show _ ∧ _ from ⟨hL, hB0⟩)
  have HN := Lib.hid (show (gatN n).length ≤ 1000000000 ∧ (catL (gatN n)).length ≤ 1000000000 from ⟨by omega, by rw [catL_sum]; exact hs⟩)
  clear hL hB0 hk hV0 hle hs hn
  generalize gatN n = T at *
  go_enter Tryd.func24, Tryd.ntmps24
  go_wp2_with (first
    | (go_at_call 27; refine HL.out.1.mono ?_; rintro e w1 ⟨sv, rfl, hr, hb1⟩; obtain ⟨A1, c1, rfl, hE, _⟩ := TksV.of_own hr)
    | (go_at_call 64; refine (RText_any c1 A1 T w1 HN.out.1 HN.out.2 hE).mono ?_; rintro e w2 ⟨rfl, hb2⟩))
  go_ret
  have hB1 := HL.out.2.trans (hb1.mono HL.out.2.size)
  exact ⟨rfl, hB1.trans (hb2.mono hB1.size)⟩

set_option maxRecDepth 100000 in
theorem tokens_any (c1 c2 : Nat) (A1 A2 : Option Addr) (l1 l2 : List Tok) (w : World) (hl : l1.length ≤ 100000) (hE1 : TksV w A1 l1) (hE2 : TksV w A2 l2) :
    Calls Tryd.prog 26 #[.slice A1 l1.length c1, .slice A2 l2.length c2] w fun e w' => e = .returned (.bool (decide (l1 = l2))) ∧ Below w.heap.size w w' := by
  have HS := Lib.hid (RSame_any c1 c2 A1 A2 l1 l2 w hl hE1 hE2)
  clear hl hE1 hE2
  generalize decide (l1 = l2) = q at HS ⊢
  go_enter Tryd.func26, Tryd.ntmps26
  go_wp2_with fail
  refine HS.out.mono ?_
  rintro e w1 ⟨rfl, hb1⟩
  go_wp2_with fail
  go_ret
  exact ⟨rfl, hb1⟩
end Go.Proofs.YtpjlgahbbmlngaaDoor

namespace Go.Proofs.YtpjlgahbbmlngaaDoor
set_option linter.unusedVariables false
set_option linter.unusedSimpArgs false
def shortT (t : ByteArray) : ByteArray := t.extract 0 (min t.size 20001)
theorem shortT_size (t : ByteArray) : (shortT t).size = min t.size 20001 := by unfold shortT; rw [ByteArray.size_extract]; omega
end Go.Proofs.YtpjlgahbbmlngaaDoor

namespace Go.Proofs.YtpjlgahbbmlngaaDoor
set_option linter.unusedVariables false
set_option linter.unusedSimpArgs false
open Go Go.RowKit

-- what an argument can be
mutual
def rawN : Nd → Prop
  | .mk _ t l => t.2.size ≤ maxLen ∧ l.length ≤ maxLen ∧ rawL l
def rawL : List Nd → Prop
  | [] => True
  | n :: l => rawN n ∧ rawL l
end
theorem rawL_of : ∀ {l : List Nd}, (∀ n ∈ l, rawN n) → rawL l
  | [], _ => trivial
  | n :: l, h => ⟨h n (.head _), rawL_of fun x hx => h x (.tail _ hx)⟩
theorem rawL_at : ∀ {l : List Nd} {k : Nat} {x : Nd}, rawL l → l[k]? = some x → rawN x
  | y :: l, 0, x, hs, h => by obtain rfl := Option.some.inj h; exact hs.1
  | y :: l, k + 1, x, hs, h => rawL_at (l := l) (k := k) hs.2 (by simpa using h)
-- a copy of at most 'left' leaves and nodes, and how many may still come
mutual
def cutN : Nd → Nat → Nat → Nd × Nat
  | .mk k t l, left, d => if d ≤ 1002 then (.mk k (t.1, shortT t.2) (cutL l (left - 1) (d + 1)).1, (cutL l (left - 1) (d + 1)).2) else (.mk k (t.1, shortT t.2) [], left - 1)
def cutL : List Nd → Nat → Nat → List Nd × Nat
  | [], r, _ => ([], r)
  | n :: l, r, d => if r = 0 then ([], 0) else ((cutN n r d).1 :: (cutL l (cutN n r d).2 d).1, (cutL l (cutN n r d).2 d).2)
end
def cutNd (n : Nd) : Nd := (cutN n 600 0).1
theorem cutL_zero : ∀ (l : List Nd) (d : Nat), cutL l 0 d = ([], 0)
  | [], _ => rfl
  | n :: l, d => by simp [cutL]
mutual
theorem cutN_count : ∀ (n : Nd) (left d : Nat), 1 ≤ left → countN (cutN n left d).1 + (cutN n left d).2 ≤ left
  | .mk k t l, left, d, h => by
    have := cutL_count l (left - 1) (d + 1)
    simp only [cutN]
    split
    · simp only [countN]; omega
    · simp only [countN, countL]; omega
theorem cutL_count : ∀ (l : List Nd) (r d : Nat), countL (cutL l r d).1 + (cutL l r d).2 ≤ r
  | [], r, d => by simp [cutL, countL]
  | n :: l, r, d => by
    simp only [cutL]
    split
    · simp [countL]
    · have h1 := cutN_count n r d (by omega)
      have h2 := cutL_count l (cutN n r d).2 d
      simp only [countL]; omega
end
theorem shortT_le (s : ByteArray) : (shortT s).size ≤ 20001 := by rw [shortT_size]; omega
-- no token of it is longer than a token's first bytes
mutual
def shN : Nd → Prop
  | .mk _ t l => t.2.size ≤ 20001 ∧ shL l
def shL : List Nd → Prop
  | [] => True
  | n :: l => shN n ∧ shL l
end
mutual
theorem cutN_sh : ∀ (n : Nd) (left d : Nat), shN (cutN n left d).1
  | .mk k t l, left, d => by
    simp only [cutN]
    split
    · exact ⟨shortT_le _, cutL_sh l _ _⟩
    · exact ⟨shortT_le _, trivial⟩
theorem cutL_sh : ∀ (l : List Nd) (r d : Nat), shL (cutL l r d).1
  | [], r, d => trivial
  | n :: l, r, d => by
    simp only [cutL]
    split
    · trivial
    · exact ⟨cutN_sh n r d, cutL_sh l _ d⟩
end
mutual
theorem shN_sm : ∀ {n : Nd}, shN n → smT n
  | .mk _ t l, h => ⟨by have := h.1; omega, shL_sm h.2⟩
theorem shL_sm : ∀ {l : List Nd}, shL l → smTL l
  | [], _ => trivial
  | n :: l, h => ⟨shN_sm h.1, shL_sm h.2⟩
end
mutual
theorem shN_sum : ∀ {n : Nd}, shN n → sumT (leavesN n) ≤ 20001 * countN n
  | .mk k t l, h => by
    have := shL_sum h.2
    have ht := h.1
    simp only [leavesN, countN]
    rw [sumT_append]
    split
    · simp only [sumT]; omega
    · simp only [sumT]; omega
theorem shL_sum : ∀ {l : List Nd}, shL l → sumT (leavesL l) ≤ 20001 * countL l
  | [], _ => by simp [leavesL, sumT]
  | n :: l, h => by
    have h1 := shN_sum h.1
    have h2 := shL_sum h.2
    simp only [leavesL, countL]
    rw [sumT_append]
    omega
end
mutual
theorem shN_sumF : ∀ {n : Nd}, shN n → sumF (fun t => t.2.size) n ≤ 20001 * countN n
  | .mk k t l, h => by
    have := shL_sumF h.2
    have ht := h.1
    simp only [sumF, countN]
    split <;> omega
theorem shL_sumF : ∀ {l : List Nd}, shL l → sumFL (fun t => t.2.size) l ≤ 20001 * countL l
  | [], _ => by simp [sumFL]
  | n :: l, h => by
    have h1 := shN_sumF h.1
    have h2 := shL_sumF h.2
    simp only [sumFL, countL]
    omega
end
mutual
theorem sumF_ones : ∀ (n : Nd), sumF (fun _ => 1) n ≤ countN n
  | .mk k t l => by
    have := sumFL_ones l
    simp only [sumF, countN]
    split <;> omega
theorem sumFL_ones : ∀ (l : List Nd), sumFL (fun _ => 1) l ≤ countL l
  | [] => by simp [sumFL]
  | n :: l => by
    have h1 := sumF_ones n
    have h2 := sumFL_ones l
    simp only [sumFL, countL]
    omega
end
end Go.Proofs.YtpjlgahbbmlngaaDoor
