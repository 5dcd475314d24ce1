/-
  Trees: where alone two trees differ (changed).
-/
import Derived.Test.YtpjlgahbbmlngaaDoorTreeLeavesp34
import Derived.Deep.RegionHeld3
namespace Go.Proofs.YtpjlgahbbmlngaaDoor
set_option linter.unusedVariables false
set_option linter.unusedSimpArgs false
set_option linter.unnecessarySimpa false
open Go Go.RowKit

/-- the kids from one on: the position so far, and whether there is one -/
def chL (r : Nd → Nd → List Nat × Bool) : Nat → List Nd → List Nd → List Nat → Bool → List Nat × Bool
  | i, x :: l, y :: k, pos, d => if (r x y).2 = false then chL r (i + 1) l k pos d else if d = true then ([], true) else chL r (i + 1) l k (i :: (r x y).1) true
  | _, _, _, pos, d => (pos, d)
/-- where alone two trees differ, and whether they do -/
def chR : Nat → Nd → Nd → List Nat × Bool
  | 0, _, _ => ([], false)
  | m + 1, a, b => if alikeR a.kind b.kind a.tok b.tok a.kids.length b.kids.length = false then ([], true) else chL (chR m) 0 a.kids b.kids [] false
theorem chL_step {r : Nd → Nd → List Nat × Bool} {l k : List Nd} {i : Nat} {x y : Nd} {pos : List Nat} {d : Bool} (hx : l[i]? = some x) (hy : k[i]? = some y) :
    chL r i (l.drop i) (k.drop i) pos d = if (r x y).2 = false then chL r (i + 1) (l.drop (i + 1)) (k.drop (i + 1)) pos d else if d = true then ([], true) else chL r (i + 1) (l.drop (i + 1)) (k.drop (i + 1)) (i :: (r x y).1) true := by
  obtain ⟨h1, e1⟩ := List.getElem?_eq_some_iff.1 hx
  obtain ⟨h2, e2⟩ := List.getElem?_eq_some_iff.1 hy
  rw [List.drop_eq_getElem_cons h1, e1, List.drop_eq_getElem_cons h2, e2]
  rfl
theorem chL_end {r : Nd → Nd → List Nat × Bool} {l k : List Nd} {i : Nat} {pos : List Nat} {d : Bool} (h : l.length ≤ i) : chL r i (l.drop i) (k.drop i) pos d = (pos, d) := by
  rw [List.drop_eq_nil_of_le h]
  cases k.drop i <;> rfl
/-- no position is longer than a tree is deep -/
theorem chR_len : ∀ (m : Nat) (a b : Nd), (chR m a b).1.length ≤ m
  | 0, _, _ => Nat.le_refl _
  | m + 1, a, b => by
    have key : ∀ (l k : List Nd) (i : Nat) (pos : List Nat) (d : Bool), pos.length ≤ m + 1 → (chL (chR m) i l k pos d).1.length ≤ m + 1 := by
      intro l
      induction l with
      | nil => intro k i pos d h; cases k <;> exact h
      | cons x l ih =>
        intro k i pos d h
        cases k with
        | nil => exact h
        | cons y k =>
          simp only [chL]
          split
          · exact ih _ _ _ _ h
          · split
            · simp
            · exact ih _ _ _ _ (by have := chR_len m x y; simp only [List.length_cons]; omega)
    simp only [chR]
    split
    · simp
    · exact key _ _ _ _ _ (by simp)

set_option maxRecDepth 100000 in
set_option maxHeartbeats 2000000 in
theorem changed_any : ∀ (m : Nat) (a b : Nd) (va vb : Value) (w : World), m ≤ 100000 → deepN a < m → countN a ≤ 10000000 → NodeV w va a → NodeV w vb b →
    Calls Tryd.prog 70 #[va, vb] w fun e w' => ∃ v', e = .returned (.tuple #[v', .bool (chR m a b).2]) ∧ w'.ownsRow w.heap.size 3 1 v' (chR m a b).1.length (intCells (chR m a b).1) ∧ Below w.heap.size w w'
  | 0, a, b, va, vb, w, _, h, _, _, _ => absurd h (Nat.not_lt_zero _)
  | m + 1, a, b, va, vb, w, hm5, hm, hn, ha, hb => by
    have IH := changed_any m
    obtain ⟨A, c, rfl, hka⟩ := ha
    obtain ⟨B, d, rfl, hkb⟩ := hb
    obtain ⟨w0, hw0⟩ : ∃ w0, w0 = (w.alloc (.cells #[.int .i64 a.kind, .int .i64 a.tok.1, .string a.tok.2, .slice A a.kids.length c] 26)).alloc (.cells #[.int .i64 b.kind, .int .i64 b.tok.1, .string b.tok.2, .slice B b.kids.length d] 26) := ⟨_, rfl⟩
    have hB0 : Below w.heap.size w w0 := by rw [hw0]; exact ((Below.refl _ _).alloc (Nat.le_refl _) _).alloc (by simp) _
    have hs0 : w0.heap.size = w.heap.size + 2 := by rw [hw0]; simp
    have hb1 : w0.heap[w.heap.size]? = some (.cells (nodeCells a A c) 26 (0, 0)) := by rw [hw0, alloc_old _ _ _ (by simp)]; exact alloc_at _ _ _ rfl
    have hb2 : w0.heap[w.heap.size + 1]? = some (.cells (nodeCells b B d) 26 (0, 0)) := by rw [hw0]; exact alloc_at _ _ _ (by simp)
    obtain ⟨p0, p1, p2, p3⟩ := cells_of_block hb1
    obtain ⟨r0, r1, r2, r3⟩ := cells_of_block hb2
    have hal := isAlike_any a.kind b.kind a.tok.1 b.tok.1 a.tok.2 b.tok.2 A B a.kids.length c b.kids.length d w0
    have hd := kids_deep a
    have hc := kids_count a
    have hlk := len_countL a.kids
    have HAl := Lib.hid hal
    have HW := Lib.hid hw0
    have HX := Lib.hid (show _ ∧ _ ∧ _ ∧ _ ∧ _ ∧ _ from ⟨hB0, hs0, hb1, hb2, hka, hkb⟩)
    have HN := Lib.hid (show _ ∧ _ ∧ _ from ⟨hm, hn, hm5⟩)
    have HIH := Lib.hid IH
    have hsz1 : w.heap.size < w0.heap.size := by omega
    have hsz2 : w.heap.size + 1 < w0.heap.size := by omega
    clear hal hw0 hB0 hs0 hb1 hb2 hka hkb IH hm hn hm5
    go_enter Tryd.func70, Tryd.ntmps70
    go_wp2_with fail
    rw [← HW.out]
    refine HAl.out.mono ?_
    rintro e w1 ⟨rfl, hb1⟩
    have hB1 := HX.out.1.trans (hb1.mono HX.out.1.size)
    have hz1 := (hb1.block _ hsz1).trans HX.out.2.2.1
    have hz2 := (hb1.block _ hsz2).trans HX.out.2.2.2.1
    have hs1 := hb1.size
    have H1 := Lib.hid (show _ ∧ _ ∧ _ ∧ _ from ⟨hB1, hz1, hz2, hs1⟩)
    have hch : chR (m + 1) a b = if alikeR a.kind b.kind a.tok b.tok a.kids.length b.kids.length = false then ([], true) else chL (chR m) 0 a.kids b.kids [] false := rfl
    cases hq : alikeR a.kind b.kind (a.tok.1, a.tok.2) (b.tok.1, b.tok.2) a.kids.length b.kids.length with
    | false =>
      have HQ : Hid (chR (m + 1) a b = ([], true)) := Lib.hid (by rw [hch, if_pos hq])
      clear hch hq hb1 hB1 hz1 hz2 hs1 p0 p1 p2 p3 r0 r1 r2 r3
      go_wp2_with fail
      rw [HQ.out]
      refine bodyPost_ret (by simp [results, Tryd.f70, go_sem]; try rfl) rfl ?_
      exact ⟨_, rfl, by simpa [intCells] using World.ownsRow_nil w1 w.heap.size 3 1, H1.out.1⟩
    | true =>
      have HQ : Hid (chR (m + 1) a b = chL (chR m) 0 a.kids b.kids [] false) := Lib.hid (by rw [hch, if_neg (by rw [hq]; decide)])
      have hlen : a.kids.length = b.kids.length := by
        unfold alikeR at hq
        simp only [Bool.and_eq_true, decide_eq_true_eq] at hq
        exact hq.2.2
      have HLN := Lib.hid hlen
      obtain ⟨i0, hi0, hz0, hzz1, hzz2⟩ := info_parts infoInt
      obtain ⟨p0', p1', p2', p3'⟩ := cells_of_block H1.out.2.1
      clear hch hq hb1 hB1 hz1 hz2 hs1 p0 p1 p2 p3 r0 r1 r2 r3 hlen
      go_wp2_with fail
      go_loopw [4, 5, 16] (fun pos0 df i wr => ∃ (k : Nat) (ps : List Nat) (dd : Bool) (sv : Value), sv = pos0 ∧ k ≤ a.kids.length ∧ i = .int .i64 k ∧ df = .bool dd ∧ chL (chR m) 0 a.kids b.kids [] false = chL (chR m) k (a.kids.drop k) (b.kids.drop k) ps dd ∧ ps.length ≤ m + 1 ∧ wr.ownsRow w1.heap.size 3 1 sv ps.length (intCells ps) ∧ Below w1.heap.size w1 wr) (fun _ _ i _ => a.kids.length - (intOf i).toNat)
      case atStart => exact ⟨0, [], false, _, rfl, Nat.zero_le _, rfl, rfl, rfl, Nat.zero_le _, by simpa [intCells] using World.ownsRow_nil w1 w1.heap.size 3 1, Below.refl _ _⟩
      case round =>
        obtain ⟨k, ps, dd, sv, rfl, hk, rfl, rfl, hcl, hpl, hrow, hBr⟩ := hrel
        have hB1 := H1.out.1
        have hs1 := H1.out.2.2.2
        have hBw : Below w.heap.size w wr := hB1.trans (hBr.mono hB1.size)
        have hlk2 := HN.out.2.1
        have hsr := hBr.size
        have hla : w.heap.size < wr.heap.size := by omega
        have hlb : w.heap.size + 1 < wr.heap.size := by omega
        have hcc := kids_count a
        by_cases hlt : k < a.kids.length
        · have hlt2 : k < b.kids.length := by rw [← HLN.out]; exact hlt
          have hk0 : (0 : Int) ≤ (k : Int) := by omega
          have hk1 : (k : Int) < (a.kids.length : Int) := by omega
          have hk2 : (k : Int) < (b.kids.length : Int) := by omega
          have q1 := cells_of_block ((hBr.block _ (show w.heap.size < w1.heap.size by omega)).trans H1.out.2.1)
          have q2 := cells_of_block ((hBr.block _ (show w.heap.size + 1 < w1.heap.size by omega)).trans H1.out.2.2.1)
          have hx0 : a.kids[k]? = some a.kids[k] := List.getElem?_eq_getElem hlt
          have hy0 : b.kids[k]? = some b.kids[k] := List.getElem?_eq_getElem hlt2
          obtain ⟨b1, o1, rfl, n1⟩ := (HX.out.2.2.2.2.1.below hBw) (by omega)
          obtain ⟨b2, o2, rfl, n2⟩ := (HX.out.2.2.2.2.2.below hBw) (by omega)
          obtain ⟨x, hx⟩ : ∃ x, x = a.kids[k] := ⟨_, rfl⟩
          obtain ⟨y, hy⟩ : ∃ y, y = b.kids[k] := ⟨_, rfl⟩
          rw [← hx] at hx0
          rw [← hy] at hy0
          obtain ⟨C1, d1, s1, x0, x1, x2, x3, xk⟩ := n1.get hx0
          obtain ⟨C2, d2, s2, y0, y1, y2, y3, yk⟩ := n2.get hy0
          have hdx := deepL_at hx0
          have hdk := kids_deep a
          have hcx := countL_get _ _ _ hx0
          rw [chL_step hx0 hy0] at hcl
          have hql := chR_len m x y
          have hcall : Calls Tryd.prog 70 #[.agg #[.int .i64 x.kind, .int .i64 x.tok.1, .string x.tok.2, .slice C1 x.kids.length d1], .agg #[.int .i64 y.kind, .int .i64 y.tok.1, .string y.tok.2, .slice C2 y.kids.length d2]] wr.drew fun e w' => ∃ v', e = .returned (.tuple #[v', .bool (chR m x y).2]) ∧ w'.ownsRow wr.heap.size 3 1 v' (chR m x y).1.length (intCells (chR m x y).1) ∧ Below wr.heap.size wr w' :=
            (HIH.out x y _ _ wr.drew (by have := HN.out.2.2; omega) (by have := HN.out.1; omega) (by omega) ⟨C1, d1, rfl, xk.below (Below.refl _ _).drew⟩ ⟨C2, d2, rfl, yk.below (Below.refl _ _).drew⟩).mono fun e w' ⟨v', g1, g2, g3⟩ => ⟨v', g1, g2, (Below.drew (Below.refl _ _)).trans g3⟩
          obtain ⟨⟨qs, qd⟩, hqq⟩ : ∃ q, q = chR m x y := ⟨_, rfl⟩
          rw [← hqq] at hcl hcall hql
          simp only at hcl hcall hql
          have e3 : IntKind.i64.wrap ((k : Int) + 1) = ((k + 1 : Nat) : Int) := by rw [IntWalk.i64_in _ (by omega)]; omega
          have HCall := Lib.hid hcall
          obtain ⟨_, _, _, qa3⟩ := q1
          obtain ⟨_, _, _, qb3⟩ := q2
          have HR := Lib.hid (show _ ∧ _ ∧ _ from ⟨hcl, hrow, hBr⟩)
          clear hx hy hx0 hy0 n1 n2 xk yk hdx hdk hcx hcall hqq hcl hrow hBr hBw hB1
          go_wp2_with fail
          go_region_held3 (fun W => W.cell? ⟨w.heap.size, 3, none⟩ = some (.slice (some ⟨b1, o1, none⟩) a.kids.length c) ∧ W.cell? ⟨w.heap.size + 1, 3, none⟩ = some (.slice (some ⟨b2, o2, none⟩) b.kids.length d) ∧ W.cell? ⟨b1, o1 + k * 4, none⟩ = some (.int .i64 x.kind) ∧ W.cell? ⟨b1, o1 + k * 4 + 1, none⟩ = some (.int .i64 x.tok.1) ∧ W.cell? ⟨b1, o1 + k * 4 + 2, none⟩ = some (.string x.tok.2) ∧ W.cell? ⟨b1, o1 + k * 4 + 3, none⟩ = some (.slice C1 x.kids.length d1) ∧ W.cell? ⟨b2, o2 + k * 4, none⟩ = some (.int .i64 y.kind) ∧ W.cell? ⟨b2, o2 + k * 4 + 1, none⟩ = some (.int .i64 y.tok.1) ∧ W.cell? ⟨b2, o2 + k * 4 + 2, none⟩ = some (.string y.tok.2) ∧ W.cell? ⟨b2, o2 + k * 4 + 3, none⟩ = some (.slice C2 y.kids.length d2))
            (first
              | go_keep
              | (exact ⟨(hba.cell (p := ⟨w.heap.size, 3, none⟩) (show w.heap.size < wr.heap.size from hla)).trans qa3, (hba.cell (p := ⟨w.heap.size + 1, 3, none⟩) (show w.heap.size + 1 < wr.heap.size from hlb)).trans qb3, (hba.cell (p := ⟨b1, o1 + k * 4, none⟩) s1).trans x0, (hba.cell (p := ⟨b1, o1 + k * 4 + 1, none⟩) s1).trans x1, (hba.cell (p := ⟨b1, o1 + k * 4 + 2, none⟩) s1).trans x2, (hba.cell (p := ⟨b1, o1 + k * 4 + 3, none⟩) s1).trans x3, (hba.cell (p := ⟨b2, o2 + k * 4, none⟩) s2).trans y0, (hba.cell (p := ⟨b2, o2 + k * 4 + 1, none⟩) s2).trans y1, (hba.cell (p := ⟨b2, o2 + k * 4 + 2, none⟩) s2).trans y2, (hba.cell (p := ⟨b2, o2 + k * 4 + 3, none⟩) s2).trans y3⟩))
            ((first
              | (go_simp
                 go_at_call 70
                 with_reducible refine HCall.out.mono ?_
                 rintro e wA ⟨v', rfl, hrA, hba⟩)))
          have hBA : Below w1.heap.size w1 wA := HR.out.2.2.trans (hba.mono hsr)
          have hrowA : wA.ownsRow w1.heap.size 3 1 sv ps.length (intCells ps) := own_same HR.out.2.1 (fun g e => hba.block g (HR.out.2.1.lt g e).2)
          have hsA := hba.size
          have HA := Lib.hid (show _ ∧ _ ∧ _ ∧ _ from ⟨hBA, hrowA, hrA, hba⟩)
          have hqs : qs.length ≤ 100000 := by have := HN.out.2.2; omega
          cases qd with
          | false =>
            have hc2 := HR.out.1
            simp only [if_true] at hc2
            have HC2 := Lib.hid hc2
            clear hBA hrowA hrA hba hc2
            go_wp2_with fail
            refine ⟨?_, by simp [intOf]; omega⟩
            exact ⟨k + 1, ps, dd, _, rfl, by omega, by go_num, rfl, HC2.out, hpl, HA.out.2.1, HA.out.1⟩
          | true =>
            have hc2 := HR.out.1
            simp only [Bool.true_eq_false, if_false] at hc2
            cases dd with
            | true =>
              simp only [if_true] at hc2
              have HC2 := Lib.hid (HQ.out.trans hc2)
              clear hBA hrowA hrA hba hc2
              go_wp2_with fail
              rw [HC2.out]
              refine bodyPost_ret (by simp [results, Tryd.f70, go_sem]; try rfl) rfl ?_
              exact ⟨_, rfl, by simpa [intCells] using World.ownsRow_nil wA w.heap.size 3 1, H1.out.1.trans (HA.out.1.mono H1.out.1.size)⟩
            | false =>
              simp only [Bool.false_eq_true, if_false] at hc2
              have HC2 := Lib.hid hc2
              have hall := allocB wA (.cells #[.int .i64 (k : Nat)] 3)
              have hnb : (wA.alloc (.cells #[.int .i64 (k : Nat)] 3)).heap[wA.heap.size]? = some (.cells #[.int .i64 (k : Nat)] 3 (0, 0)) := alloc_at _ _ _ rfl
              have hrow1 : (wA.alloc (.cells #[.int .i64 (k : Nat)] 3)).ownsRow w1.heap.size 3 1 (.slice (some ⟨wA.heap.size, 0, none⟩) 1 1) 1 [.int .i64 (k : Nat)] :=
                ⟨rfl, .inr ⟨wA.heap.size, 1, #[.int .i64 (k : Nat)], rfl, by omega, hnb, Nat.le_refl _, by decide, rfl, rfl⟩⟩
              have hbs : w1.heap.size ≤ (wA.alloc (.cells #[.int .i64 (k : Nat)] 3)).heap.size := by simp; omega
              have hB1A := hBA.trans (hall.mono (show w1.heap.size ≤ wA.heap.size by omega))
              rcases hrA.2 with ⟨rfl, hq0⟩ | ⟨g', cap', cur, rfl, hgb, hgh, hgn, hgc, hgs, hgt⟩
              · have hq1 : qs = [] := List.eq_nil_of_length_eq_zero hq0
                have HB := Lib.hid (show _ ∧ _ ∧ _ from ⟨hrow1, hB1A, hq1⟩)
                clear hBA hrowA hrA hba hc2 hall hnb hrow1 hbs hB1A hq1
                go_wp2_with fail
                refine ⟨?_, by simp [intOf]; omega⟩
                exact ⟨k + 1, k :: qs, true, _, rfl, by omega, by go_num, rfl, HC2.out, by rw [HB.out.2.2]; simp, by rw [HB.out.2.2]; exact HB.out.1, HB.out.2.1⟩
              · have hnews : ∀ j u, (intCells qs)[j]? = some u → (wA.alloc (.cells #[.int .i64 (k : Nat)] 3)).cell? ((⟨g', 0, none⟩ : Addr).add j) = some u := fun j u hu => by
                  have hadd : (⟨g', 0, none⟩ : Addr).add j = ⟨g', j, none⟩ := by unfold Addr.add; by_cases h1 : j = 0 <;> simp [h1]
                  have hjl : j < (intCells qs).length := (List.getElem?_eq_some_iff.1 hu).1
                  rw [intCells_length] at hjl
                  have hgl : g' < wA.heap.size := (Array.getElem?_eq_some_iff.1 hgh).1
                  rw [hadd, World.cell?_of_block (w := wA) (a := ⟨g', j, none⟩) (alloc_old _ _ _ hgl)]
                  have e1 : wA.cell? ⟨g', j, none⟩ = cur.toList[j]? := by simp [World.cell?, hgh]
                  rw [e1, ← List.getElem?_take_of_lt (show j < qs.length * 1 by omega), hgt]
                  exact hu
                have h63 : 1 + qs.length ≤ maxLen := by unfold maxLen; omega
                have hby : (1 + qs.length) * 8 ≤ 140737488355328 := by omega
                have hnl : (intCells qs).length = qs.length * 1 := by rw [intCells_length]; omega
                have HB := Lib.hid (show _ ∧ _ from ⟨hB1A, hql⟩)
                clear hBA hrowA hrA hba hc2 hall hnb hB1A hgb hgh hgn hgc hgs hgt
                go_wp2_with (at_builtin; refine wpList_append_own _ rfl _ _ 51 rfl w1.heap.size 3 i0 _ 1 8 Tryd.underlying51 hi0 hz0 hzz1 hzz2 rfl (by decide) _ 1 [.int .i64 (k : Nat)] rfl hrow1 ⟨g', 0, none⟩ qs.length cap' (intCells qs) rfl hnl hnews (intCells_one qs) h63 hby hbs ?_)
                intro v6 w6 hown hgr _
                have hB6 : Below w1.heap.size w1 w6 := HB.out.1.grown hgr hbs (fun g e => (hrow1.lt g e).1)
                have hown6 : w6.ownsRow w1.heap.size 3 1 v6 (k :: qs).length (intCells (k :: qs)) := by
                  rw [show (k :: qs).length = 1 + qs.length by simp; omega]
                  exact hown
                have H6 := Lib.hid (show _ ∧ _ from ⟨hown6, hB6⟩)
                clear hown hgr hB6 hown6 hrow1 hnews
                go_wp2_with fail
                refine ⟨?_, by simp [intOf]; omega⟩
                exact ⟨k + 1, k :: qs, true, _, rfl, by omega, by go_num, rfl, HC2.out, by have := HB.out.2; simp only [List.length_cons]; omega, H6.out.1, H6.out.2⟩
        · have hke : k = a.kids.length := by omega
          rw [chL_end (by omega)] at hcl
          have HC2 := Lib.hid (HQ.out.trans hcl)
          have hrw := own_le hrow (show w.heap.size ≤ w1.heap.size by omega)
          have HE := Lib.hid (show _ ∧ _ from ⟨hrw, hBw⟩)
          have t1 : ¬ (k : Int) < (a.kids.length : Int) := by omega
          have t2 : decide ((k : Int) < (a.kids.length : Int)) = false := decide_eq_false t1
          clear hcl hrw hBw hrow hBr
          go_wp2_with fail
          rw [HC2.out]
          refine bodyPost_ret (by simp [results, Tryd.f70, go_sem]; try rfl) rfl ?_
          exact ⟨_, rfl, HE.out.1, HE.out.2⟩
end Go.Proofs.YtpjlgahbbmlngaaDoor
