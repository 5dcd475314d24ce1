/-
  Trees: clone makes memory none of whose blocks serves twice.
-/
import Derived.Test.YtpjlgahbbmlngaaDoorTreeOwnp1
namespace Go.Proofs.YtpjlgahbbmlngaaDoor
set_option linter.unusedVariables false
set_option linter.unusedSimpArgs false
open Go Go.RowKit

/-- a node as a value; S: its kids' blocks -/
def NodeU (S : Nat → Prop) (w : World) (v : Value) (n : Nd) : Prop := ∃ A c, v = .agg #[.int .i64 n.kind, .int .i64 n.tok.1, .string n.tok.2, .slice A n.kids.length c] ∧ n.kids.length ≤ c ∧ KidsU S w A n.kids
theorem nodeU_kids {S : Nat → Prop} {w : World} {n : Nd} {A : Option Addr} {c : Nat} (h : NodeU S w (.agg #[.int .i64 n.kind, .int .i64 n.tok.1, .string n.tok.2, .slice A n.kids.length c]) n) : KidsU S w A n.kids := by
  obtain ⟨A1, c1, e, _, hk⟩ := h
  obtain ⟨h1, _⟩ : A = A1 ∧ c = c1 := by simpa using e
  rw [h1]; exact hk
structure ClSt (b8 base : Nat) (kd tk : Int) (tx : ByteArray) (w2 : World) (ys : List Pn) (sv : Value) (wr : World) : Prop where
  c : CutSt b8 base kd tk tx w2 ys sv wr
  u : ∃ tag : Nat → Nat, ∀ (i : Nat) (y : Pn), ys[i]? = some y → KidsU (fun b => tag b = i + 1 ∧ base ≤ b ∧ b < wr.heap.size ∧ sv.ownBlock ≠ some b) wr y.2.1 y.1.kids
theorem ClSt.step {b8 base : Nat} {kd tk : Int} {tx : ByteArray} {w2 wr w5 w6 : World} {ys : List Pn} {sv : Value} {y : Pn} {g cap : Nat} (h : ClSt b8 base kd tk tx w2 ys sv wr) (hb8 : b8 < base) (hb5 : Below wr.heap.size wr w5)
    (hyc : y.1.kids.length ≤ y.2.2) (hz : KidsP (fun b => wr.heap.size ≤ b) w5 y.2.1 y.1.kids) (hu : KidsU (fun b => wr.heap.size ≤ b ∧ b < w5.heap.size) w5 y.2.1 y.1.kids) (hrow : w6.ownsRow base 26 4 (.slice (some ⟨g, 0, none⟩) (ys.length + 1) cap) (ys.length + 1) (pathCells ys ++ cells4 y)) (hgr : w5.grownBy w6 sv.ownBlock) (hat : sv.ownBlock = some g ∨ g = w5.heap.size) :
    ClSt b8 base kd tk tx w2 (ys ++ [y]) (.slice (some ⟨g, 0, none⟩) (ys.length + 1) cap) (w6.setCell ⟨b8, 3, none⟩ (.slice (some ⟨g, 0, none⟩) (ys.length + 1) cap)) := by
  refine ⟨h.c.step hb8 hb5 hyc hz hrow hgr hat, ?_⟩
  obtain ⟨tag, ht⟩ := h.u
  have hs5 := hb5.size
  have hs6 := hgr.size
  have hlt : ∀ k, sv.ownBlock = some k → base ≤ k ∧ k < wr.heap.size := fun k e => h.c.row.lt k e
  have hs7 : (w6.setCell ⟨b8, 3, none⟩ (.slice (some ⟨g, 0, none⟩) (ys.length + 1) cap)).heap.size = w6.heap.size := by simp [World.setCell]
  have key : ∀ b, b < w5.heap.size → b ≠ b8 → sv.ownBlock ≠ some b → (w6.setCell ⟨b8, 3, none⟩ (.slice (some ⟨g, 0, none⟩) (ys.length + 1) cap)).heap[b]? = w5.heap[b]? := fun b h1 h2 h3 =>
    (block_other h2).trans (hgr.block b h1 (fun e => h3 e.symm))
  have hsz := h.c.size
  have hno : ∀ b, sv.ownBlock ≠ some b → b < w5.heap.size → (Value.slice (some ⟨g, 0, none⟩) (ys.length + 1) cap).ownBlock ≠ some b := fun b h1 h2 e => by
    have e' : g = b := by simpa [Value.ownBlock] using e
    subst e'
    rcases hat with h | h
    · exact h1 h
    · omega
  refine ⟨fun b => if b < wr.heap.size then tag b else ys.length + 1, fun i z hz' => ?_⟩
  rcases Nat.lt_or_ge i ys.length with hi | hi
  · rw [List.getElem?_append_left hi] at hz'
    refine ((ht i z hz').kept (w' := w6.setCell ⟨b8, 3, none⟩ (.slice (some ⟨g, 0, none⟩) (ys.length + 1) cap)) (by rw [hs7]; omega) (fun b hp hb => (key b (by omega) (by omega) hp.2.2.2).trans (hb5.block b hb))).mono fun b hp => ⟨?_, hp.2.1, by rw [hs7]; omega, hno b hp.2.2.2 (by omega)⟩
    show (if b < wr.heap.size then tag b else ys.length + 1) = i + 1
    rw [if_pos hp.2.2.1]
    exact hp.1
  · have hi0 : i = ys.length := by
      have := (List.getElem?_eq_some_iff.1 hz').1
      simp at this; omega
    subst hi0
    rw [List.getElem?_append_right (Nat.le_refl _)] at hz'
    simp only [Nat.sub_self, List.getElem?_cons_zero, Option.some.injEq] at hz'
    subst hz'
    have hn : ∀ b, wr.heap.size ≤ b → sv.ownBlock ≠ some b := fun b hb e => by have := (hlt b e).2; omega
    refine (hu.kept (w' := w6.setCell ⟨b8, 3, none⟩ (.slice (some ⟨g, 0, none⟩) (ys.length + 1) cap)) (by rw [hs7]; omega) (fun b hp hb => key b hb (by omega) (hn b hp.1))).mono fun b hp => ⟨?_, by omega, by rw [hs7]; omega, hno b (hn b hp.1) hp.2⟩
    show (if b < wr.heap.size then tag b else ys.length + 1) = ys.length + 1
    have h1 := hp.1
    rw [if_neg (by omega)]
theorem ClSt.kids {b8 base : Nat} {kd tk : Int} {tx : ByteArray} {w2 wr w9 : World} {ys : List Pn} {sv : Value} {B : Nat} (h : ClSt b8 base kd tk tx w2 ys sv wr) (hs : wr.heap.size ≤ w9.heap.size) (hk : ∀ b, base ≤ b → b < wr.heap.size → w9.heap[b]? = wr.heap[b]?) (hB : B ≤ base) :
    NodeU (fun b => B ≤ b ∧ b < w9.heap.size) w9 (.agg #[.int .i64 kd, .int .i64 tk, .string tx, sv]) (.mk kd (tk, tx) (ys.map (·.1))) := by
  obtain ⟨tag, ht⟩ := h.u
  rcases h.c.row.2 with ⟨rfl, h0⟩ | ⟨g, cap, cur, rfl, hb, hg, hn, hc, hsz, htk⟩
  · have : ys = [] := List.eq_nil_of_length_eq_zero h0
    subst this
    exact ⟨none, 0, rfl, Nat.le_refl _, fun hl => by simp [Nd.kids] at hl⟩
  · have hgl := (Array.getElem?_eq_some_iff.1 hg).1
    refine ⟨some ⟨g, 0, none⟩, cap, by simp [Nd.kind, Nd.tok, Nd.kids], by simpa [Nd.kids] using hn, ?_⟩
    have hK : KidsU (fun b => base ≤ b ∧ b < wr.heap.size) wr (some ⟨g, 0, none⟩) (ys.map (·.1)) := fun _ => by
      refine ⟨g, 0, _, rfl, ⟨hb, hgl⟩, ?_, ?_, NdsU.of_cells ⟨_, _, hg⟩ (fun j x => tag x = j + 1 ∧ base ≤ x ∧ x < wr.heap.size ∧ (Value.slice (some ⟨g, 0, none⟩) ys.length cap).ownBlock ≠ some x) (fun i j x h1 h2 => by have := h1.1; have := h2.1; omega) ys 0 0 fun i y hy => ?_⟩
      · rintro ⟨j, _, hx⟩
        exact hx.2.2.2 rfl
      · rintro x ⟨j, _, hx⟩
        exact ⟨hx.2.1, hx.2.2.1⟩
      · obtain ⟨h1, h2, h3, h4⟩ := pathCells_get ys i y hy
        have hi : i < ys.length := (List.getElem?_eq_some_iff.1 hy).1
        have hcell : ∀ j, j < ys.length * 4 → wr.cell? ⟨g, j, none⟩ = (pathCells ys)[j]? := by
          intro j hj
          rw [← htk, List.getElem?_take_of_lt hj]
          simp [World.cell?, hg]
        simp only [Nat.zero_add]
        exact ⟨by rw [hcell _ (by omega)]; exact h1, by rw [hcell _ (by omega)]; exact h2, by rw [hcell _ (by omega)]; exact h3, by rw [hcell _ (by omega)]; exact h4, (h.c.kids i y hy).1, ht i y hy⟩
    exact (hK.kept hs (fun b hp hb => hk b hp.1 hb)).mono fun b hp => ⟨by omega, by omega⟩

set_option maxRecDepth 100000 in
set_option maxHeartbeats 2000000 in
theorem Clone_u : ∀ (m : Nat) (n : Nd) (v : Value) (w : World), deepN n < m → countN n ≤ 10000000 → NodeV w v n →
    Calls Tryd.prog 69 #[v] w fun e w' => ∃ v', e = .returned v' ∧ (NodeP (fun b => w.heap.size ≤ b) w' v' n ∧ NodeU (fun b => w.heap.size ≤ b ∧ b < w'.heap.size) w' v' n) ∧ Below w.heap.size w w'
  | 0, n, v, w, h, _, _ => absurd h (Nat.not_lt_zero _)
  | m + 1, .mk kd (tk, tx) l, v, w, hm, hn, hV => by
    have IH := Clone_u m
    have hV : ∃ A c, v = .agg #[.int .i64 kd, .int .i64 tk, .string tx, .slice A l.length c] ∧ KidsV w A l := hV
    obtain ⟨A, c, rfl, hk⟩ := hV
    obtain ⟨w0, hw0⟩ : ∃ w0, w0 = ((w.alloc (.cells #[.int .i64 kd, .int .i64 tk, .string tx, .slice A l.length c] 26)).alloc (.cells #[.int .i64 0, .int .i64 0, .string { data := #[] }, .slice none 0 0] 26)).alloc (.cells #[.int .i64 kd, .int .i64 tk, .string tx, .slice none 0 0] 26) := ⟨_, rfl⟩
    have hB0 : Below w.heap.size w w0 := by rw [hw0]; exact (((Below.refl _ _).alloc (Nat.le_refl _) _).alloc (by simp) _).alloc (by simp; omega) _
    have hs0 : w0.heap.size = w.heap.size + 3 := by rw [hw0]; simp
    have hb1 : w0.heap[w.heap.size + 1]? = some (.cells #[.int .i64 0, .int .i64 0, .string { data := #[] }, .slice none 0 0] 26 (0, 0)) := by rw [hw0, alloc_old _ _ _ (by simp)]; exact alloc_at _ _ _ (by simp)
    have hb2 : w0.heap[w.heap.size + 2]? = some (.cells #[.int .i64 kd, .int .i64 tk, .string tx, .slice none 0 0] 26 (0, 0)) := by rw [hw0]; exact alloc_at _ _ _ (by simp)
    have hst0 : ClSt (w.heap.size + 2) w0.heap.size kd tk tx w0 [] (.slice none 0 0) w0 := ⟨⟨hb2, by simpa [pathCells] using World.ownsRow_nil w0 w0.heap.size 26 4, fun i y h => by simp at h, Below.refl _ _, Nat.le_refl _⟩, fun _ => 0, fun i y h => by simp at h⟩
    have hm : deepL l < m + 1 := hm
    have hn : 1 + countL l ≤ 10000000 := hn
    have hlc := countL_len l
    have hl1 : l.length ≤ 10000000 := by omega
    obtain ⟨i0, hi0, hz0, hz1, hz2⟩ := info_parts infoNode
    have HW := Lib.hid hw0
    have HX := Lib.hid (show _ ∧ _ ∧ _ ∧ _ ∧ _ from ⟨hB0, hs0, hb1, hst0, hk⟩)
    have HIH := Lib.hid IH
    have HN := Lib.hid (show _ ∧ _ from ⟨hm, hn⟩)
    clear IH hm hn hlc hk hst0 hb1 hb2 hB0 hw0 hs0
    go_enter Tryd.func69, Tryd.ntmps69
    go_wp2_with fail
    rw [← HW.out]
    go_loopw [11] (fun i wr => ∃ (k : Nat) (ys : List Pn) (sv : Value), k ≤ l.length ∧ i = .int .i64 k ∧ ys.map (·.1) = l.take k ∧ ClSt (w.heap.size + 2) w0.heap.size kd tk tx w0 ys sv wr) (fun i _ => l.length - (intOf i).toNat)
    case atStart => exact ⟨0, [], _, Nat.zero_le _, rfl, by simp, HX.out.2.2.2.1⟩
    case round =>
      obtain ⟨k, ys, sv, hk, rfl, hys, hst⟩ := hrel
      have hlen : ys.length = k := by have := congrArg List.length hys; rw [List.length_map, List.length_take] at this; omega
      obtain ⟨aS, cS, rfl⟩ := own_slice hst.c.row
      have hs0 := HX.out.2.1
      have hsr := hst.c.size
      have hBwr : Below w.heap.size w wr := HX.out.1.trans (hst.c.below.mono (by omega))
      have e8 := hst.c.out
      have z0 : wr.cell? ⟨w.heap.size + 1 + 1, 0, none⟩ = some (.int .i64 kd) := Lib.cell_of_heap e8 0
      have z1 : wr.cell? ⟨w.heap.size + 1 + 1, 1, none⟩ = some (.int .i64 tk) := Lib.cell_of_heap e8 1
      have z2 : wr.cell? ⟨w.heap.size + 1 + 1, 2, none⟩ = some (.string tx) := Lib.cell_of_heap e8 2
      have z3 : wr.cell? ⟨w.heap.size + 1 + 1, 3, none⟩ = some (.slice aS ys.length cS) := Lib.cell_of_heap e8 3
      by_cases hlt : k < l.length
      · have hk0 : (0 : Int) ≤ (k : Int) := by omega
        have hk1 : (k : Int) < (l.length : Int) := by omega
        have hx0 : l[k]? = some l[k] := List.getElem?_eq_getElem hlt
        obtain ⟨b, o, rfl, n1⟩ := (HX.out.2.2.2.2.below hBwr) (by omega)
        obtain ⟨x, hx⟩ : ∃ x, x = l[k] := ⟨_, rfl⟩
        rw [← hx] at hx0
        obtain ⟨B1, d1, s1, x0, x1, x2, x3, xk⟩ := n1.get hx0
        have e3 : IntKind.i64.wrap ((k : Int) + 1) = ((k + 1 : Nat) : Int) := by rw [IntWalk.i64_in _ (by omega)]; omega
        have hdx := deepL_at hx0
        have hxc := countL_next hx0
        have hxd := countL_cut l (k + 1)
        have htk := take_snoc hx0
        obtain ⟨wr1, hwr1⟩ : ∃ wr1, wr1 = wr.alloc (.cells #[.int .i64 x.kind, .int .i64 x.tok.1, .string x.tok.2, .slice B1 x.kids.length d1] 26) := ⟨_, rfl⟩
        have hb1 : Below wr.heap.size wr wr1 := by rw [hwr1]; exact (Below.refl _ _).alloc (Nat.le_refl _) _
        have hs1' : wr1.heap.size = wr.heap.size + 1 := by rw [hwr1]; simp
        have h5 : wr1.heap[wr.heap.size]? = some (.cells #[.int .i64 x.kind, .int .i64 x.tok.1, .string x.tok.2, .slice B1 x.kids.length d1] 26 (0, 0)) := by rw [hwr1]; exact alloc_at _ _ _ rfl
        have t0 : wr1.cell? ⟨wr.heap.size, 0, none⟩ = some (.int .i64 x.kind) := Lib.cell_of_heap h5 0
        have t1 : wr1.cell? ⟨wr.heap.size, 1, none⟩ = some (.int .i64 x.tok.1) := Lib.cell_of_heap h5 1
        have t2 : wr1.cell? ⟨wr.heap.size, 2, none⟩ = some (.string x.tok.2) := Lib.cell_of_heap h5 2
        have t3 : wr1.cell? ⟨wr.heap.size, 3, none⟩ = some (.slice B1 x.kids.length d1) := Lib.cell_of_heap h5 3
        have t8 : wr1.cell? ⟨w.heap.size + 1 + 1, 3, none⟩ = some (.slice aS ys.length cS) := (hb1.cell (p := ⟨w.heap.size + 1 + 1, 3, none⟩) (show w.heap.size + 1 + 1 < wr.heap.size by omega)).trans z3
        have hcl : Calls Tryd.prog 69 #[.agg #[.int .i64 x.kind, .int .i64 x.tok.1, .string x.tok.2, .slice B1 x.kids.length d1]] wr1.drew fun e w' => ∃ v', e = .returned v' ∧ (NodeP (fun b => wr1.heap.size ≤ b) w' v' x ∧ NodeU (fun b => wr1.heap.size ≤ b ∧ b < w'.heap.size) w' v' x) ∧ Below wr1.heap.size wr1 w' :=
          (HIH.out x _ wr1.drew (by have := HN.out.1; omega) (by have := HN.out.2; omega) ⟨B1, d1, rfl, xk.below (hb1.drew)⟩).mono fun e w' ⟨v', h1, h2, h3⟩ => ⟨v', h1, h2, (Below.drew (Below.refl _ _)).trans h3⟩
        have HCl := Lib.hid hcl
        have HR := Lib.hid (show _ ∧ _ ∧ _ ∧ _ ∧ _ from ⟨hys, hst, hBwr, hb1, htk⟩)
        have HW1 := Lib.hid hwr1
        have h63 : ys.length + 1 ≤ maxLen := by unfold maxLen; omega
        have HLEN := Lib.hid hlen
        have hby : (ys.length + 1) * 56 ≤ 140737488355328 := by omega
        have hl8 : w.heap.size + 1 + 1 < wr1.heap.size := by omega
        have hl5 : wr.heap.size < wr1.heap.size := by omega
        clear hx hx0 n1 xk hcl hdx hxc hxd htk hst hys hBwr hb1 hwr1 h5 e8 s1 hlen
        go_wp2_with fail
        rw [← HW1.out]
        go_region_law
          ((first
            | (go_simp
               go_at_call 69
               with_reducible refine HCl.out.mono ?_
               rintro e w3 ⟨v', rfl, ⟨⟨A', c', rfl, hzc, hzk⟩, hzu⟩, hb3⟩
               have hzu := nodeU_kids hzu
               have g83 := (hb3.cell (p := ⟨w.heap.size + 1 + 1, 3, none⟩) hl8).trans t8
               have g50 := (hb3.cell (p := ⟨wr.heap.size, 0, none⟩) hl5).trans t0
               have g51 := (hb3.cell (p := ⟨wr.heap.size, 1, none⟩) hl5).trans t1
               have g52 := (hb3.cell (p := ⟨wr.heap.size, 2, none⟩) hl5).trans t2
               have g53 := (hb3.cell (p := ⟨wr.heap.size, 3, none⟩) hl5).trans t3
               have hl83 : w.heap.size + 1 + 1 < w3.heap.size := Nat.lt_of_lt_of_le hl8 hb3.size
               have hl53 : wr.heap.size < w3.heap.size := Nat.lt_of_lt_of_le hl5 hb3.size
               have hne8 : w.heap.size + 1 + 1 ≠ w3.heap.size := Nat.ne_of_lt hl83)
            | (refine step_append_lies _ (by rfl) _ _ _ (by rfl) w0.heap.size 26 i0 _ 4 56 Tryd.underlying24 hi0 hz0 hz1 hz2 rfl (by omega) (.slice aS ys.length cS) ys.length (pathCells ys) (by rfl) ((HR.out.2.1.c.row5 (HR.out.2.2.2.1.trans (hb3.mono (by rw [hs1']; omega)))).alloc _)
                ⟨w3.heap.size, 0, none⟩ 1 1 (cells4 (x, A', c')) (by rfl) (by rfl) (World.news_of_block (cs := #[.int .i64 x.kind, .int .i64 x.tok.1, .string x.tok.2, .slice A' x.kids.length c']) (t := 26) (fr := (0, 0)) (World.alloc_heap_new w3 _)) (by simp [cells4, Value.oneCell'])
                (by decide) h63 hby (by simp; have := hb3.size; omega) (w3.heap.size + 1) (by simp) ?_
               intro g9 cap9 W9 hown9 hgr9 hat9 hlt9
               have g9b : W9.heap[w.heap.size + 1 + 1]? = some (.cells #[.int .i64 kd, .int .i64 tk, .string tx, .slice aS ys.length cS] 26 (0, 0)) :=
                 (hgr9.block (w.heap.size + 1 + 1) (by simp; omega) (fun e => by have := (HR.out.2.1.c.row.lt _ e.symm).1; omega)).trans ((alloc_old _ _ _ hl83).trans ((hb3.block _ hl8).trans ((HR.out.2.2.2.1.block _ (by omega)).trans HR.out.2.1.c.out)))
               have k83 : W9.cell? ⟨w.heap.size + 1 + 1, 3, none⟩ = some (.slice aS ys.length cS) := Lib.cell_of_heap g9b 3
               have kf8 : W9.frozen? ⟨w.heap.size + 1 + 1, 3, none⟩ = false := frozen_block g9b
               have hn5 : some wr.heap.size ≠ (Value.slice aS ys.length cS).ownBlock := fun e => by have := (HR.out.2.1.c.row.lt _ e.symm).2; omega
               have k50 := (hgr9.cell_far ⟨wr.heap.size, 0, none⟩ (by simp; omega) hn5).trans ((cell_old hl53).trans g50)
               have k51 := (hgr9.cell_far ⟨wr.heap.size, 1, none⟩ (by simp; omega) hn5).trans ((cell_old hl53).trans g51)
               have k52 := (hgr9.cell_far ⟨wr.heap.size, 2, none⟩ (by simp; omega) hn5).trans ((cell_old hl53).trans g52)
               have k53 := (hgr9.cell_far ⟨wr.heap.size, 3, none⟩ (by simp; omega) hn5).trans ((cell_old hl53).trans g53))))
        all_goals
          have hB5 : Below wr.heap.size wr (w3.alloc (.cells #[.int .i64 x.kind, .int .i64 x.tok.1, .string x.tok.2, .slice A' x.kids.length c'] 26)) := (HR.out.2.2.2.1.trans (hb3.mono (by rw [hs1']; omega))).alloc (by have := hb3.size; omega) _
          have hstep := HR.out.2.1.step (y := (x, A', c')) (by have := HX.out.2.1; omega) hB5 hzc (hzk.kept (by simp) (fun b hp hb => alloc_old _ _ _ hb) (fun b hp _ => by rw [hs1'] at hp; omega)) ((hzu.kept (by simp) (fun b hp hb => alloc_old _ _ _ hb)).mono fun b hp => ⟨by have := hp.1; rw [hs1'] at this; omega, by have := hp.2; simp; omega⟩) hown9 hgr9 (hat9.imp id (fun h => by rw [h]; simp))
          have H9 := Lib.hid hstep
          clear hstep hB5 hown9 hgr9 hat9 hlt9 hzk hzu hzc hb3 k83 kf8 k50 k51 k52 k53 g9b hn5
          go_wp2_with fail
          exact ⟨⟨k + 1, ys ++ [(x, A', c')], _, by omega, by go_num, by rw [List.map_append, HR.out.1, HR.out.2.2.2.2]; rfl, H9.out⟩, by simp [intOf]; omega⟩
      · have hke : k = l.length := by omega
        rw [hke, List.take_length] at hys
        have t1 : ¬ (k : Int) < (l.length : Int) := by omega
        have t2 : decide ((k : Int) < (l.length : Int)) = false := decide_eq_false t1
        have t3 : decide (k < l.length) = false := decide_eq_false (by omega)
        have e1 := (hst.c.below.block (w.heap.size + 1) (by omega)).trans HX.out.2.2.1
        have r0 : wr.cell? ⟨w.heap.size + 1, 0, none⟩ = some (.int .i64 0) := Lib.cell_of_heap e1 0
        have r1 : wr.cell? ⟨w.heap.size + 1, 1, none⟩ = some (.int .i64 0) := Lib.cell_of_heap e1 1
        have r2 : wr.cell? ⟨w.heap.size + 1, 2, none⟩ = some (.string { data := #[] }) := Lib.cell_of_heap e1 2
        have r3 : wr.cell? ⟨w.heap.size + 1, 3, none⟩ = some (.slice none 0 0) := Lib.cell_of_heap e1 3
        have f0 : wr.frozen? ⟨w.heap.size + 1, 0, none⟩ = false := frozen_block e1
        have f1 : wr.frozen? ⟨w.heap.size + 1, 1, none⟩ = false := frozen_block e1
        have f2 : wr.frozen? ⟨w.heap.size + 1, 2, none⟩ = false := frozen_block e1
        have f3 : wr.frozen? ⟨w.heap.size + 1, 3, none⟩ = false := frozen_block e1
        have HS := Lib.hid (show _ ∧ _ ∧ _ ∧ _ from ⟨hst, hBwr, hys, hlen⟩)
        clear hst hBwr hys e8 hlen hke
        go_wp2_with fail
        have hz := set4 (v0 := .int .i64 kd) (v1 := .int .i64 tk) (v2 := .string tx) (v3 := .slice aS ys.length cS) e1
        have s0 := Lib.cell_of_heap hz 0
        have s1 := Lib.cell_of_heap hz 1
        have s2 := Lib.cell_of_heap hz 2
        have s3 := Lib.cell_of_heap hz 3
        refine bodyPost_ret (by simp [results, Tryd.f69, go_sem, s0, s1, s2, s3]; try rfl) rfl ?_
        rw [← HS.out.2.2.1]
        exact ⟨_, rfl, ⟨HS.out.1.c.node (B := w.heap.size) (by rw [size4]; exact Nat.le_refl _) (fun b h1 h2 => other4 (by omega)) (by omega), HS.out.1.kids (B := w.heap.size) (by rw [size4]; exact Nat.le_refl _) (fun b h1 h2 => other4 (by omega)) (by omega)⟩, below4 HS.out.2.1 (Nat.le_succ _)⟩
end Go.Proofs.YtpjlgahbbmlngaaDoor
